/-
  Own texts put together: RcPlain, RcVals, RcOpen, WlOpen, IdBox. Own work.
-/
import Derived.Test.YtlegliimgjmphaaGreatG06
import Derived.Test.YtlegliimgjmphaaGreatG01
namespace Go.Proofs.YtlegliimgjmphaaGreat
section
open Go
structure RecP where
 kind : Nat
 n : Nat
 tx : TxN
 reg : Nat × Nat
 mem : Nat
 wr : List WrP
 mis : List Nat
 key : List Int
 item : ItP
def zeroR (kind : Nat) : RecP := ⟨kind, 0, (0, 0, 0), (0, 0), 0, [], [], [0, 0, 0, 0, 0, 0, 0, 0], zeroIt⟩
def fieldsR (kind : Nat) : List Nat :=
 if kind = 1 then [0] else if kind = 2 then [1, 2, 4] else if kind = 3 then [1] else if kind = 4 then [1] else if kind = 5 then [1, 3, 4, 5] else if kind = 6 then [1] else if kind = 7 then [6, 7] else []
theorem fieldsR_kind {kind : Nat} (h : fieldsR kind ≠ []) : kind = 1 ∨ kind = 2 ∨ kind = 3 ∨ kind = 4 ∨ kind = 5 ∨ kind = 6 ∨ kind = 7 := by
 have h2 : ¬ (kind ≠ 1 ∧ kind ≠ 2 ∧ kind ≠ 3 ∧ kind ≠ 4 ∧ kind ≠ 5 ∧ kind ≠ 6 ∧ kind ≠ 7) := fun ⟨a1, a2, a3, a4, a5, a6, a7⟩ => h (by unfold fieldsR; rw [if_neg a1, if_neg a2, if_neg a3, if_neg a4, if_neg a5, if_neg a6, if_neg a7])
 omega
theorem fieldsR_facts (kind : Nat) : (fieldsR kind).Nodup ∧ ∀ f ∈ fieldsR kind, f < 8 := by
 by_cases h : fieldsR kind = []
 ·rw [h]; exact ⟨List.nodup_nil, fun f hf => by cases hf⟩
 ·rcases fieldsR_kind h with rfl | rfl | rfl | rfl | rfl | rfl | rfl <;> exact ⟨by decide, by decide⟩
def encR (f : Nat) (m : RecP) : List Int :=
 match f with
 | 0 => (numC mxN).enc m.n
 | 1 => txC.enc m.tx
 | 2 => regC.enc m.reg
 | 3 => (numC 255).enc m.mem
 | 4 => wsC.enc m.wr
 | 5 => repEnc (numC 255) m.mis
 | 6 => keyC.enc m.key
 | _ => itC.enc m.item
def decR (f : Nat) (m : RecP) (r : RS) : RecP × RS :=
 match f with
 | 0 => ({ m with n := ((numC mxN).dec r).1 }, ((numC mxN).dec r).2)
 | 1 => ({ m with tx := (txC.dec r).1 }, (txC.dec r).2)
 | 2 => ({ m with reg := (regC.dec r).1 }, (regC.dec r).2)
 | 3 => ({ m with mem := ((numC 255).dec r).1 }, ((numC 255).dec r).2)
 | 4 => ({ m with wr := (wsC.dec r).1 }, (wsC.dec r).2)
 | 5 => ({ m with mis := (repDec (numC 255) m.wr.length r).1 }, (repDec (numC 255) m.wr.length r).2)
 | 6 => ({ m with key := (keyC.dec r).1 }, (keyC.dec r).2)
 | _ => ({ m with item := (itC.dec r).1 }, (itC.dec r).2)
def putR (f : Nat) (m a : RecP) : RecP :=
 match f with
 | 0 => { a with n := m.n }
 | 1 => { a with tx := m.tx }
 | 2 => { a with reg := m.reg }
 | 3 => { a with mem := m.mem }
 | 4 => { a with wr := m.wr }
 | 5 => { a with mis := m.mis }
 | 6 => { a with key := m.key }
 | _ => { a with item := m.item }
def okR (f : Nat) (m : RecP) : Prop :=
 match f with
 | 0 => m.n ≤ mxN
 | 1 => True ∧ m.tx.2.1 ≤ mxN ∧ m.tx.2.2 ≤ mxN
 | 2 => m.reg.1 ≤ mxN ∧ m.reg.2 ≤ mxN
 | 3 => m.mem ≤ 255
 | 4 => m.wr.length ≤ 16 ∧ ∀ x ∈ m.wr, wrOk x
 | 5 => m.mis.length = m.wr.length ∧ ∀ x ∈ m.mis, x ≤ 255
 | 6 => m.key.length = 8
 | _ => itOk m.item
def rngR (f : Nat) (m : RecP) : Prop :=
 match f with
 | 0 => m.n ≤ mxN
 | 1 => m.tx.1 < 256 ∧ m.tx.2.1 ≤ mxN ∧ m.tx.2.2 ≤ mxN
 | 2 => m.reg.1 ≤ mxN ∧ m.reg.2 ≤ mxN
 | 3 => m.mem ≤ 255
 | 4 => m.wr.length ≤ 16 ∧ ∀ x ∈ m.wr, wrRng x
 | 5 => ∀ x ∈ m.mis, x ≤ 255
 | 6 => m.key.length = 8 ∧ ∀ c ∈ m.key, 0 ≤ c ∧ c < 256
 | _ => itRng m.item
def eqR (f : Nat) (x y : RecP) : Prop :=
 match f with
 | 0 => x.n = y.n
 | 1 => x.tx = y.tx
 | 2 => x.reg = y.reg
 | 3 => x.mem = y.mem
 | 4 => x.wr = y.wr
 | 5 => x.mis = y.mis
 | 6 => x.key = y.key
 | _ => x.item = y.item
theorem byEight {P : Nat → Prop} {f : Nat} (hf : f < 8) (h0 : P 0) (h1 : P 1) (h2 : P 2) (h3 : P 3) (h4 : P 4) (h5 : P 5) (h6 : P 6) (h7 : P 7) : P f := by
 have : f = 0 ∨ f = 1 ∨ f = 2 ∨ f = 3 ∨ f = 4 ∨ f = 5 ∨ f = 6 ∨ f = 7 := by omega
 rcases this with rfl | rfl | rfl | rfl | rfl | rfl | rfl | rfl <;> assumption
theorem eqR_ext {x y : RecP} (hk : x.kind = y.kind) (h : ∀ f, f < 8 → eqR f x y) : x = y := by
 obtain ⟨a0, a1, a2, a3, a4, a5, a6, a7, a8⟩ := x
 obtain ⟨b0, b1, b2, b3, b4, b5, b6, b7, b8⟩ := y
 have e0 : a1 = b1 := h 0 (by decide)
 have e1 : a2 = b2 := h 1 (by decide)
 have e2 : a3 = b3 := h 2 (by decide)
 have e3 : a4 = b4 := h 3 (by decide)
 have e4 : a5 = b5 := h 4 (by decide)
 have e5 : a6 = b6 := h 5 (by decide)
 have e6 : a7 = b7 := h 6 (by decide)
 have e7 : a8 = b8 := h 7 (by decide)
 subst e0 e1 e2 e3 e4 e5 e6 e7
 have ek : a0 = b0 := hk
 rw [ek]
theorem eqR_enc {f : Nat} (hf : f < 8) {x y : RecP} (h : eqR f x y) : encR f x = encR f y := by
 revert h
 refine byEight (P := fun f => eqR f x y → encR f x = encR f y) hf ?_ ?_ ?_ ?_ ?_ ?_ ?_ ?_ <;> exact fun h => by simp only [eqR] at h; simp only [encR, h]
theorem eqR_rng {f : Nat} (hf : f < 8) {x y : RecP} (h : eqR f x y) : rngR f x ↔ rngR f y := by
 revert h
 refine byEight (P := fun f => eqR f x y → (rngR f x ↔ rngR f y)) hf ?_ ?_ ?_ ?_ ?_ ?_ ?_ ?_ <;> exact fun h => by simp only [eqR] at h; simp only [rngR, h]
theorem eqR_symm {f : Nat} (hf : f < 8) {x y : RecP} (h : eqR f x y) : eqR f y x := by
 revert h
 refine byEight (P := fun f => eqR f x y → eqR f y x) hf ?_ ?_ ?_ ?_ ?_ ?_ ?_ ?_ <;> exact fun h => Eq.symm h
theorem eqR_trans {f : Nat} (hf : f < 8) {x y z : RecP} (h : eqR f x y) (h' : eqR f y z) : eqR f x z := by
 revert h h'
 refine byEight (P := fun f => eqR f x y → eqR f y z → eqR f x z) hf ?_ ?_ ?_ ?_ ?_ ?_ ?_ ?_ <;> exact fun h h' => Eq.trans h h'
theorem eqR_refl {f : Nat} (hf : f < 8) (x : RecP) : eqR f x x := by
 refine byEight (P := fun f => eqR f x x) hf ?_ ?_ ?_ ?_ ?_ ?_ ?_ ?_ <;> exact rfl
theorem putR_same {f : Nat} (hf : f < 8) (m a : RecP) : eqR f (putR f m a) m := by
 refine byEight (P := fun f => eqR f (putR f m a) m) hf ?_ ?_ ?_ ?_ ?_ ?_ ?_ ?_ <;> exact rfl
theorem putR_other {f g : Nat} (hf : f < 8) (hg : g < 8) (h : g ≠ f) (m a : RecP) : eqR g (putR f m a) a := by
 revert h
 refine byEight (P := fun f => g ≠ f → eqR g (putR f m a) a) hf ?_ ?_ ?_ ?_ ?_ ?_ ?_ ?_ <;> refine byEight (P := fun g => g ≠ _ → eqR g (putR _ m a) a) hg ?_ ?_ ?_ ?_ ?_ ?_ ?_ ?_ <;> first | exact fun _ => rfl | exact fun h => absurd rfl h
theorem putR_kind (f : Nat) (m a : RecP) : (putR f m a).kind = a.kind := by unfold putR; split <;> rfl
theorem decR_other {f g : Nat} (hf : f < 8) (hg : g < 8) (h : g ≠ f) (a : RecP) (r : RS) : eqR g (decR f a r).1 a := by
 revert h
 refine byEight (P := fun f => g ≠ f → eqR g (decR f a r).1 a) hf ?_ ?_ ?_ ?_ ?_ ?_ ?_ ?_ <;> refine byEight (P := fun g => g ≠ _ → eqR g (decR _ a r).1 a) hg ?_ ?_ ?_ ?_ ?_ ?_ ?_ ?_ <;> first | exact fun _ => rfl | exact fun h => absurd rfl h
theorem decR_kind (f : Nat) (a : RecP) (r : RS) : (decR f a r).1.kind = a.kind := by unfold decR; split <;> rfl
theorem misC_good (n : Nat) : (repC (numC 255) n).Good (fun l => l.length = n ∧ ∀ x ∈ l, x ≤ 255) (fun l => l.length = n ∧ ∀ x ∈ l, x ≤ 255) := repC_good (numC_good 255 (by decide)) n
theorem decR_stays {f : Nat} (hf : f < 8) (a : RecP) {r : RS} (h : r.why ≠ 0) : (decR f a r).2 = r := by
 refine byEight (P := fun f => (decR f a r).2 = r) hf ((numC_good mxN (by decide)).stays r h) (txC_good.stays r h) (regC_good.stays r h) ((numC_good 255 (by decide)).stays r h) (wsC_good.stays r h) ((misC_good a.wr.length).stays r h) (keyC_good.stays r h) (itC_good.stays r h)
theorem decR_back {f : Nat} (hf : f < 8) (m a : RecP) (hok : okR f m) (h5 : f = 5 → a.wr = m.wr) (ys : List Int) (w e : Nat) : decR f a ⟨encR f m ++ ys, w, 0, e⟩ = (putR f m a, ⟨ys, w + (encR f m).length, 0, e⟩) := by
 revert hok h5
 refine byEight (P := fun f => okR f m → (f = 5 → a.wr = m.wr) → decR f a ⟨encR f m ++ ys, w, 0, e⟩ = (putR f m a, ⟨ys, w + (encR f m).length, 0, e⟩)) hf ?_ ?_ ?_ ?_ ?_ ?_ ?_ ?_
 ·exact fun h _ => by simp only [decR, encR, putR, (numC_good mxN (by decide)).back m.n h]
 ·exact fun h _ => by simp only [decR, encR, putR, txC_good.back m.tx h]
 ·exact fun h _ => by simp only [decR, encR, putR, regC_good.back m.reg h]
 ·exact fun h _ => by simp only [decR, encR, putR, (numC_good 255 (by decide)).back m.mem h]
 ·exact fun h _ => by simp only [decR, encR, putR, wsC_good.back m.wr h]
 ·intro h hw
  have hb := (misC_good a.wr.length).back m.mis ⟨by rw [hw rfl]; exact h.1, h.2⟩ ys w e
  have hb : repDec (numC 255) a.wr.length ⟨repEnc (numC 255) m.mis ++ ys, w, 0, e⟩ = (m.mis, ⟨ys, w + (repEnc (numC 255) m.mis).length, 0, e⟩) := hb
  simp only [decR, encR, putR, hb]
 ·exact fun h _ => by simp only [decR, encR, putR, keyC_good.back m.key h]
 ·exact fun h _ => by simp only [decR, encR, putR, itC_good.back m.item h]
theorem decR_one {f : Nat} (hf : f < 8) (a : RecP) (r : RS) (h : r.why = 0) (hx : ∀ c ∈ r.bs, 0 ≤ c ∧ c < 256) : ReadsTo r (decR f a r).2 (encR f (decR f a r).1) ∧ ((decR f a r).2.why = 0 → rngR f (decR f a r).1) := by
 have h5 := (misC_good a.wr.length).one r h hx
 refine byEight (P := fun f => ReadsTo r (decR f a r).2 (encR f (decR f a r).1) ∧ ((decR f a r).2.why = 0 → rngR f (decR f a r).1)) hf ((numC_good mxN (by decide)).one r h hx) (txC_good.one r h hx) (regC_good.one r h hx) ((numC_good 255 (by decide)).one r h hx) (wsC_good.one r h hx) ⟨h5.1, fun e => (h5.2 e).2⟩ (keyC_good.one r h hx) (itC_good.one r h hx)
def decRs : List Nat → RecP → RS → RecP × RS
 | [], m, r => (m, r)
 | f :: fs, m, r => decRs fs (decR f m r).1 (decR f m r).2
def putRs : List Nat → RecP → RecP → RecP
 | [], _, a => a
 | f :: fs, m, a => putRs fs m (putR f m a)
def encRs (fs : List Nat) (m : RecP) : List Int := fs.flatMap fun f => encR f m
theorem decRs_kind : ∀ (fs : List Nat) (a : RecP) (r : RS), (decRs fs a r).1.kind = a.kind
 | [], _, _ => rfl
 | f :: fs, a, r => by rw [decRs, decRs_kind fs, decR_kind]
theorem decRs_other {g : Nat} (hg : g < 8) : ∀ (fs : List Nat), (∀ f ∈ fs, f < 8) → g ∉ fs → ∀ (a : RecP) (r : RS), eqR g (decRs fs a r).1 a
 | [], _, _, a, _ => eqR_refl hg a
 | f :: fs, hl, hn, a, r => by
  have hf := hl f List.mem_cons_self
  have hne : g ≠ f := fun e => hn (by rw [e]; exact List.mem_cons_self)
  exact eqR_trans hg (decRs_other hg fs (fun x hx => hl x (List.mem_cons_of_mem _ hx)) (fun hx => hn (List.mem_cons_of_mem _ hx)) _ _) (decR_other hf hg hne a r)
theorem decRs_stays : ∀ (fs : List Nat), (∀ f ∈ fs, f < 8) → ∀ (a : RecP) (r : RS), r.why ≠ 0 → (decRs fs a r).2 = r
 | [], _, _, _, _ => rfl
 | f :: fs, hl, a, r, h => by
  rw [decRs, decR_stays (hl f List.mem_cons_self) a h]
  exact decRs_stays fs (fun x hx => hl x (List.mem_cons_of_mem _ hx)) _ r h
theorem decRs_app : ∀ (s t : List Nat) (a : RecP) (r : RS), decRs (s ++ t) a r = decRs t (decRs s a r).1 (decRs s a r).2
 | [], _, _, _ => rfl
 | f :: s, t, a, r => by rw [List.cons_append, decRs, decRs_app s t]; rfl
theorem putRs_app (m : RecP) : ∀ (s t : List Nat) (a : RecP), putRs (s ++ t) m a = putRs t m (putRs s m a)
 | [], _, _ => rfl
 | f :: s, t, a => by rw [List.cons_append, putRs, putRs_app m s t]; rfl
theorem decRs_back0 (m : RecP) : ∀ (fs : List Nat), (∀ f ∈ fs, f < 8) → (∀ f ∈ fs, okR f m) → 5 ∉ fs → ∀ (a : RecP) (ys : List Int) (w e : Nat), decRs fs a ⟨encRs fs m ++ ys, w, 0, e⟩ = (putRs fs m a, ⟨ys, w + (encRs fs m).length, 0, e⟩)
 | [], _, _, _, a, ys, w, e => by simp [decRs, putRs, encRs]
 | f :: fs, hl, hok, h5, a, ys, w, e => by
  have he : encRs (f :: fs) m = encR f m ++ encRs fs m := by simp [encRs]
  rw [decRs, he, List.append_assoc, decR_back (hl f List.mem_cons_self) m a (hok f List.mem_cons_self) (fun e => absurd (by rw [e]; exact List.mem_cons_self) h5)]
  simp only
  rw [decRs_back0 m fs (fun x hx => hl x (List.mem_cons_of_mem _ hx)) (fun x hx => hok x (List.mem_cons_of_mem _ hx)) (fun hx => h5 (List.mem_cons_of_mem _ hx))]
  simp only [putRs, List.length_append, Nat.add_assoc]
theorem decRs_back (m : RecP) (kind : Nat) (hok : ∀ f ∈ fieldsR kind, okR f m) (a : RecP) (ys : List Int) (w e : Nat) : decRs (fieldsR kind) a ⟨encRs (fieldsR kind) m ++ ys, w, 0, e⟩ = (putRs (fieldsR kind) m a, ⟨ys, w + (encRs (fieldsR kind) m).length, 0, e⟩) := by
 by_cases h5 : 5 ∈ fieldsR kind
 ·have hk : kind = 5 := by
   have hne : fieldsR kind ≠ [] := fun h => by rw [h] at h5; cases h5
   rcases fieldsR_kind hne with rfl | rfl | rfl | rfl | rfl | rfl | rfl <;> first | rfl | (exfalso; revert h5; decide)
  subst hk
  have hf : fieldsR 5 = [1, 3, 4] ++ [5] := rfl
  rw [hf] at hok ⊢
  have he : encRs ([1, 3, 4] ++ [5]) m = encRs [1, 3, 4] m ++ encR 5 m := by simp [encRs]
  rw [he, decRs_app, putRs_app, List.append_assoc, decRs_back0 m [1, 3, 4] (by decide) (fun f hf => hok f (List.mem_append.2 (.inl hf))) (by decide)]
  simp only [decRs, putRs]
  rw [decR_back (f := 5) (by decide) m (putR 4 m (putR 3 m (putR 1 m a))) (hok 5 (by simp)) (fun _ => rfl)]
  simp only [List.length_append, Nat.add_assoc]
 ·exact decRs_back0 m _ (fieldsR_facts kind).2 hok h5 a ys w e
theorem decRs_one : ∀ (fs : List Nat), fs.Nodup → (∀ f ∈ fs, f < 8) → ∀ (a : RecP) (r : RS), r.why = 0 → (∀ c ∈ r.bs, 0 ≤ c ∧ c < 256) → ReadsTo r (decRs fs a r).2 (encRs fs (decRs fs a r).1) ∧ ((decRs fs a r).2.why = 0 → ∀ f ∈ fs, rngR f (decRs fs a r).1)
 | [], _, _, a, r, h, _ => ⟨ReadsTo.nil h, fun _ f hf => by cases hf⟩
 | f :: fs, hnd, hl, a, r, h, hx => by
  rw [List.nodup_cons] at hnd
  have hf := hl f List.mem_cons_self
  have hl' : ∀ g ∈ fs, g < 8 := fun x hx => hl x (List.mem_cons_of_mem _ hx)
  obtain ⟨r1, g1⟩ := decR_one hf a r h hx
  have hsame : eqR f (decRs fs (decR f a r).1 (decR f a r).2).1 (decR f a r).1 := decRs_other hf fs hl' hnd.1 _ _
  have he : encRs (f :: fs) (decRs (f :: fs) a r).1 = encR f (decR f a r).1 ++ encRs fs (decRs fs (decR f a r).1 (decR f a r).2).1 := by
   show (f :: fs).flatMap _ = _
   rw [List.flatMap_cons, ← eqR_enc hf hsame]
   rfl
  rw [he]
  show ReadsTo r (decRs fs (decR f a r).1 (decR f a r).2).2 _ ∧ ((decRs fs (decR f a r).1 (decR f a r).2).2.why = 0 → ∀ g ∈ f :: fs, rngR g (decRs fs (decR f a r).1 (decR f a r).2).1)
  by_cases hw : (decR f a r).2.why = 0
  ·obtain ⟨r2, g2⟩ := decRs_one fs hnd.2 hl' (decR f a r).1 (decR f a r).2 hw (r1.bytes hx)
   refine ⟨r1.trans hw r2, fun hz g hg => ?_⟩
   rcases List.mem_cons.1 hg with rfl | hg
   ·exact (eqR_rng hf hsame).2 (g1 hw)
   ·exact g2 hz g hg
  ·have hs := decRs_stays fs hl' (decR f a r).1 (decR f a r).2 hw
   refine ⟨?_, fun hz => ?_⟩
   ·rw [hs]; exact r1.stuck hw
   ·rw [hs] at hz; exact absurd hz hw
theorem putRs_kind (m : RecP) : ∀ (fs : List Nat) (a : RecP), (putRs fs m a).kind = a.kind
 | [], _ => rfl
 | f :: fs, a => by rw [putRs, putRs_kind m fs, putR_kind]
theorem putRs_other (m : RecP) {g : Nat} (hg : g < 8) : ∀ (fs : List Nat), (∀ f ∈ fs, f < 8) → g ∉ fs → ∀ (a : RecP), eqR g (putRs fs m a) a
 | [], _, _, a => eqR_refl hg a
 | f :: fs, hl, hn, a => by
  have hf := hl f List.mem_cons_self
  have hne : g ≠ f := fun e => hn (by rw [e]; exact List.mem_cons_self)
  exact eqR_trans hg (putRs_other m hg fs (fun x hx => hl x (List.mem_cons_of_mem _ hx)) (fun hx => hn (List.mem_cons_of_mem _ hx)) _) (putR_other hf hg hne m a)
theorem putRs_same (m : RecP) {g : Nat} (hg : g < 8) : ∀ (fs : List Nat), (∀ f ∈ fs, f < 8) → g ∈ fs → ∀ (a : RecP), eqR g (putRs fs m a) m
 | [], _, hm, _ => by cases hm
 | f :: fs, hl, hm, a => by
  have hf := hl f List.mem_cons_self
  have hl' : ∀ x ∈ fs, x < 8 := fun x hx => hl x (List.mem_cons_of_mem _ hx)
  by_cases hin : g ∈ fs
  ·exact putRs_same m hg fs hl' hin _
  ·have e : g = f := by
    rcases List.mem_cons.1 hm with e | e
    ·exact e
    ·exact absurd e hin
   subst e
   exact eqR_trans hg (putRs_other m hg fs hl' hin _) (putR_same hg m a)
def mayRf (m : RecP) (f : Nat) : Bool :=
 match f with
 | 0 => decide (1 ≤ m.n) && decide (m.n ≤ mxN)
 | 1 => txMayB (txI m.tx)
 | 2 => regMayB ((m.reg.1 : Int), (m.reg.2 : Int))
 | 3 => decide (m.mem ≤ 255)
 | 4 => decide (1 ≤ m.wr.length) && wsMayB m.wr
 | 5 => decide (m.mis.length = m.wr.length) && m.mis.all (fun x => decide (x ≤ 255))
 | 6 => (nameF m.key).2
 | _ => itMayB m.item
def zeroRB (f : Nat) (m : RecP) : Bool :=
 match f with
 | 0 => m.n == 0
 | 1 => m.tx == (0, 0, 0)
 | 2 => m.reg == (0, 0)
 | 3 => m.mem == 0
 | 4 => m.wr.isEmpty
 | 5 => m.mis.isEmpty
 | 6 => m.key == [0, 0, 0, 0, 0, 0, 0, 0]
 | _ => m.item.ver == 0 && m.item.val == [] && m.item.cf.e == 0 && m.item.cf.r == 0 && m.item.cf.w == 0 && m.item.cf.vs == [0, 0, 0, 0, 0, 0, 0, 0]
theorem zeroRB_eq {f : Nat} (hf : f < 8) (m : RecP) (k : Nat) : zeroRB f m = true ↔ eqR f m (zeroR k) := by
 refine byEight (P := fun f => zeroRB f m = true ↔ eqR f m (zeroR k)) hf ?_ ?_ ?_ ?_ ?_ ?_ ?_ ?_
 ·simp [zeroRB, eqR, zeroR]
 ·simp [zeroRB, eqR, zeroR]
 ·simp [zeroRB, eqR, zeroR]
 ·simp [zeroRB, eqR, zeroR]
 ·simp [zeroRB, eqR, zeroR]
 ·simp [zeroRB, eqR, zeroR]
 ·simp [zeroRB, eqR, zeroR]
 ·obtain ⟨a0, a1, a2, a3, a4, a5, a6, a7, ⟨v, s, ⟨e, r, w, vs⟩⟩⟩ := m
  simp [zeroRB, eqR, zeroR, zeroIt, zeroCf, and_assoc]
def keptR (m : RecP) : Bool := (List.range 8).all fun g => (fieldsR m.kind).contains g || zeroRB g m
def mayR (m : RecP) : Bool := !(fieldsR m.kind).isEmpty && keptR m && (fieldsR m.kind).all (mayRf m)
theorem keptR_put {m : RecP} (h : keptR m = true) : putRs (fieldsR m.kind) m (zeroR m.kind) = m := by
 have hl := (fieldsR_facts m.kind).2
 refine eqR_ext (by rw [putRs_kind]; rfl) fun g hg => ?_
 by_cases hin : g ∈ fieldsR m.kind
 ·exact putRs_same m hg _ hl hin _
 ·unfold keptR at h
  rw [List.all_eq_true] at h
  have := h g (List.mem_range.2 hg)
  rw [Bool.or_eq_true] at this
  rcases this with e | e
  ·exact absurd (by simpa using e) hin
  ·exact eqR_trans hg (putRs_other m hg _ hl hin _) (eqR_symm hg ((zeroRB_eq hg m _).1 e))
structure RecOk (m : RecP) : Prop where
 kind : m.kind < 256
 n : m.n < 4294967296
 tx : m.tx.1 < 256 ∧ m.tx.2.1 < 4294967296 ∧ m.tx.2.2 < 4294967296
 reg : m.reg.1 < 4294967296 ∧ m.reg.2 < 4294967296
 mem : m.mem < 18446744073709551616
 wr : ∀ x ∈ m.wr, KeyOk x.key ∧ ItOk x.it
 mis : ∀ x ∈ m.mis, x < 18446744073709551616
 key : KeyOk m.key
 item : ItOk m.item
theorem mayR_ok {m : RecP} (h : RecOk m) {f : Nat} (hf : f < 8) (hm : mayRf m f = true) : okR f m := by
 revert hm
 refine byEight (P := fun f => mayRf m f = true → okR f m) hf ?_ ?_ ?_ ?_ ?_ ?_ ?_ ?_
 ·intro hm
  simp only [mayRf, Bool.and_eq_true, decide_eq_true_eq] at hm
  exact hm.2
 ·intro hm
  have h2 : txMayB (txI m.tx) = true := hm
  unfold txMayB countB txI at h2
  simp only [Bool.and_eq_true, decide_eq_true_eq] at h2
  exact ⟨trivial, by show m.tx.2.1 ≤ 2147483647; omega, by show m.tx.2.2 ≤ 2147483647; omega⟩
 ·intro hm
  simp only [mayRf, regMayB, countB, Bool.and_eq_true, decide_eq_true_eq] at hm
  exact ⟨by show m.reg.1 ≤ 2147483647; omega, by show m.reg.2 ≤ 2147483647; omega⟩
 ·intro hm
  show m.mem ≤ 255
  simpa [mayRf] using hm
 ·intro hm
  simp only [mayRf, wsMayB, Bool.and_eq_true, decide_eq_true_eq, List.all_eq_true] at hm
  exact ⟨hm.2.2, fun x hx => ⟨(h.wr x hx).1.l, it_ok (h.wr x hx).2 (hm.2.1.1 x hx).2⟩⟩
 ·intro hm
  simp only [mayRf, Bool.and_eq_true, decide_eq_true_eq, List.all_eq_true] at hm
  exact hm
 ·intro _; exact h.key.l
 ·intro hm; exact it_ok h.item hm
def encRec (m : RecP) : List Int := (m.kind : Int) :: encRs (fieldsR m.kind) m
def decRec (b : List Int) : RecP × Int × Nat :=
 let r1 := (byteS ⟨b, 0, 0, 0⟩).2
 let kind := (byteS ⟨b, 0, 0, 0⟩).1.toNat
 if fieldsR kind = [] ∧ r1.why = 0 then (zeroR 0, 3, 0)
 else
  let x := decRs (fieldsR kind) (zeroR kind) r1
  let r3 := endS x.2
  if r3.why ≠ 0 then (zeroR 0, r3.why, r3.fat) else if mayR x.1 then (x.1, 0, 0) else (zeroR 0, 3, 0)
theorem dec_encR {m : RecP} (hok : RecOk m) (h : mayR m = true) : decRec (encRec m) = (m, 0, 0) := by
 have h0 := h
 unfold mayR at h
 simp only [Bool.and_eq_true, List.all_eq_true] at h
 obtain ⟨⟨hne, hk⟩, hf⟩ := h
 have hne2 : fieldsR m.kind ≠ [] := fun e => by rw [e] at hne; simp at hne
 have hl := (fieldsR_facts m.kind).2
 have hb : byteS ⟨encRec m, 0, 0, 0⟩ = ((m.kind : Int), ⟨encRs (fieldsR m.kind) m, 1, 0, 0⟩) := by
  have := byte_back (m.kind : Int) (encRs (fieldsR m.kind) m) 0 0
  simpa [encRec] using this
 have hd := decRs_back m m.kind (fun f hfm => mayR_ok hok (hl f hfm) (hf f hfm)) (zeroR m.kind) [] 1 0
 rw [List.append_nil, keptR_put hk] at hd
 unfold decRec
 simp only [hb, Int.toNat_natCast]
 rw [if_neg (fun e => hne2 e.1), hd]
 simp [endS, h0]
theorem enc_decR {b : List Int} (hx : ∀ c ∈ b, 0 ≤ c ∧ c < 256) (h : (decRec b).2.1 = 0) : mayR (decRec b).1 = true ∧ encRec (decRec b).1 = b ∧ ∀ f ∈ fieldsR (decRec b).1.kind, rngR f (decRec b).1 := by
 unfold decRec at h ⊢
 simp only at h ⊢
 split at h
 ·simp at h
 rename_i hc
 rw [if_neg hc]
 split at h
 ·rename_i h3; exact absurd h h3
 rename_i h3
 rw [if_neg h3]
 split at h
 ·rename_i hmay
  rw [if_pos hmay]
  have hez := end_zero (Decidable.not_not.1 h3)
  obtain ⟨hw2, hbs⟩ := hez
  by_cases hw1 : (byteS ⟨b, 0, 0, 0⟩).2.why = 0
  ·obtain ⟨rb, gb⟩ := byteN_good.one ⟨b, 0, 0, 0⟩ rfl hx
   have hff := fieldsR_facts (byteS ⟨b, 0, 0, 0⟩).1.toNat
   obtain ⟨rd, gd⟩ := decRs_one _ hff.1 hff.2 (zeroR (byteS ⟨b, 0, 0, 0⟩).1.toNat) (byteS ⟨b, 0, 0, 0⟩).2 hw1 (rb.bytes hx)
   have hkind := decRs_kind (fieldsR (byteS ⟨b, 0, 0, 0⟩).1.toNat) (zeroR (byteS ⟨b, 0, 0, 0⟩).1.toNat) (byteS ⟨b, 0, 0, 0⟩).2
   have hkz : (zeroR (byteS ⟨b, 0, 0, 0⟩).1.toNat).kind = (byteS ⟨b, 0, 0, 0⟩).1.toNat := rfl
   rw [hkz] at hkind
   have ht := rb.trans hw1 rd
   refine ⟨hmay, ?_, ?_⟩
   ·rcases ht with ⟨_, e, _⟩ | ⟨hn, _⟩
    ·rw [hbs, List.append_nil] at e
     unfold encRec
     rw [hkind]
     exact e.symm
    ·exact absurd hw2 hn
   ·simp only
    rw [hkind]
    exact gd hw2
  ·have hb0 : b = [] := by
    cases b with
    | nil => rfl
    | cons c t => exact absurd (by simp [byteS, RS.go]) hw1
   subst hb0
   exfalso
   revert hmay
   simp [byteS, RS.fail, fieldsR, decRs, mayR, zeroR]
 ·simp at h
theorem dec_faultR {b : List Int} (hx : ∀ c ∈ b, 0 ≤ c ∧ c < 256) (h : (decRec b).2.1 ≠ 0) : (decRec b).1 = zeroR 0 ∧ (decRec b).2.2 ≤ b.length := by
 unfold decRec at h ⊢
 simp only at h ⊢
 split
 ·exact ⟨rfl, Nat.zero_le _⟩
 split
 ·rename_i h3
  refine ⟨rfl, ?_⟩
  obtain ⟨rb, gb⟩ := byteN_good.one ⟨b, 0, 0, 0⟩ rfl hx
  have hff := fieldsR_facts (byteS ⟨b, 0, 0, 0⟩).1.toNat
  have key : ∀ (r r' : RS) (ys : List Int), r.why = 0 → ReadsTo r r' ys → (endS r').fat ≤ r.went + r.bs.length ∨ (endS r').why = 0 := by
   intro r r' ys hr hh
   unfold endS
   rcases hh with ⟨g0, g1, g2, g3⟩ | ⟨g0, k, gk, g1, g2, g3⟩
   ·rw [if_neg (by simp [g0])]
    split
    ·exact .inr g0
    ·left
     show r'.went ≤ _
     rw [g2, g1, List.length_append]
     omega
   ·rw [if_pos g0]
    left
    omega
  by_cases hw1 : (byteS ⟨b, 0, 0, 0⟩).2.why = 0
  ·obtain ⟨rd, gd⟩ := decRs_one _ hff.1 hff.2 (zeroR (byteS ⟨b, 0, 0, 0⟩).1.toNat) (byteS ⟨b, 0, 0, 0⟩).2 hw1 (rb.bytes hx)
   rcases key ⟨b, 0, 0, 0⟩ _ _ rfl (rb.trans hw1 rd) with e | e
   ·simpa using e
   ·exact absurd e h3
  ·have hs := decRs_stays _ hff.2 (zeroR (byteS ⟨b, 0, 0, 0⟩).1.toNat) (byteS ⟨b, 0, 0, 0⟩).2 hw1
   rw [hs] at h3 ⊢
   rcases key ⟨b, 0, 0, 0⟩ _ _ rfl rb with e | e
   ·have e2 : (endS (byteS ⟨b, 0, 0, 0⟩).2).fat ≤ 0 + b.length := e
    show (endS (byteS ⟨b, 0, 0, 0⟩).2).fat ≤ b.length
    omega
   ·exact absurd e h3
 ·split
  ·rename_i h3 hmay
   exfalso
   revert h
   split
   ·rename_i hc; exact fun _ => absurd hc (by assumption)
   ·simp
  ·exact ⟨rfl, Nat.zero_le _⟩
theorem mis_len : ∀ (l : List Nat), (∀ x ∈ l, x ≤ 255) → (repEnc (numC 255) l).length ≤ l.length * 2
 | [], _ => by simp [repEnc]
 | x :: l, h => by
  have ih := mis_len l (fun y hy => h y (List.mem_cons_of_mem _ hy))
  have e : repEnc (numC 255) (x :: l) = shortS x ++ repEnc (numC 255) l := by show (x :: l).flatMap (numC 255).enc = _; rw [List.flatMap_cons]; rfl
  have l1 := byt_len (h x List.mem_cons_self)
  rw [e, List.length_append, List.length_cons, Nat.add_mul]
  omega
theorem encR_len {m : RecP} {f : Nat} (hf : f < 8) (h : okR f m) (h16 : m.wr.length ≤ 16) : (encR f m).length ≤ 1600 ∧ (f ≠ 4 → (encR f m).length ≤ 91) := by
 revert h
 refine byEight (P := fun f => okR f m → (encR f m).length ≤ 1600 ∧ (f ≠ 4 → (encR f m).length ≤ 91)) hf ?_ ?_ ?_ ?_ ?_ ?_ ?_ ?_
 ·intro h
  have l1 := num_len (n := m.n) h
  have e : (encR 0 m).length = (shortS m.n).length := rfl
  rw [e]
  exact ⟨by omega, fun _ => by omega⟩
 ·intro h
  have e : encR 1 m = [(m.tx.1 : Int)] ++ (shortS m.tx.2.1 ++ shortS m.tx.2.2) := rfl
  have l1 := num_len h.2.1
  have l2 := num_len h.2.2
  rw [e]
  simp only [List.length_append, List.length_cons, List.length_nil]
  exact ⟨by omega, fun _ => by omega⟩
 ·intro h
  have e : encR 2 m = shortS m.reg.1 ++ shortS m.reg.2 := rfl
  have l1 := num_len h.1
  have l2 := num_len h.2
  rw [e, List.length_append]
  exact ⟨by omega, fun _ => by omega⟩
 ·intro h
  have l1 := byt_len (n := m.mem) h
  have e : (encR 3 m).length = (shortS m.mem).length := rfl
  rw [e]
  exact ⟨by omega, fun _ => by omega⟩
 ·intro h
  have hl : m.wr.length ≤ 16 := h.1
  have := ws_len m.wr h.2
  have l1 := byt_len (n := m.wr.length) (by omega)
  have e : encR 4 m = shortS m.wr.length ++ repEnc wrC m.wr := rfl
  rw [e, List.length_append]
  exact ⟨by omega, fun h => absurd rfl h⟩
 ·intro h
  have := mis_len m.mis h.2
  have e : encR 5 m = repEnc (numC 255) m.mis := rfl
  have h1 := h.1
  rw [e]
  exact ⟨by omega, fun _ => by omega⟩
 ·intro h
  have h8 : m.key.length = 8 := h
  have e : (encR 6 m).length = m.key.length := rfl
  rw [e]
  exact ⟨by omega, fun _ => by omega⟩
 ·intro h
  have := it_len (i := m.item) h
  have e : (encR 7 m).length = (itC.enc m.item).length := rfl
  rw [e]
  exact ⟨by omega, fun _ => by omega⟩
theorem encRec_len {m : RecP} (hok : RecOk m) (h : mayR m = true) : (encRec m).length ≤ 4096 := by
 unfold mayR at h
 simp only [Bool.and_eq_true, List.all_eq_true] at h
 obtain ⟨⟨hne, hk⟩, hf⟩ := h
 have hne2 : fieldsR m.kind ≠ [] := fun e => by rw [e] at hne; simp at hne
 have hl := (fieldsR_facts m.kind).2
 have hall : ∀ f ∈ fieldsR m.kind, okR f m := fun f hfm => mayR_ok hok (hl f hfm) (hf f hfm)
 have h16 : m.wr.length ≤ 16 := by
  by_cases h4 : 4 ∈ fieldsR m.kind
  ·exact (hall 4 h4).1
  ·unfold keptR at hk
   rw [List.all_eq_true] at hk
   have := hk 4 (List.mem_range.2 (by decide))
   rw [Bool.or_eq_true] at this
   rcases this with e | e
   ·exact absurd (by simpa using e) h4
   ·have : m.wr = [] := (zeroRB_eq (f := 4) (by decide) m 0).1 e
    rw [this]
    decide
 have hlen : ∀ (fs : List Nat), (∀ f ∈ fs, f < 8 ∧ okR f m) → fs.Nodup → (encRs fs m).length ≤ fs.length * 91 + 1600 := by
  intro fs
  induction fs with
  | nil => intro _ _; simp [encRs]
  | cons f fs ih =>
   intro h hnd
   rw [List.nodup_cons] at hnd
   have hh := h f List.mem_cons_self
   have e : encRs (f :: fs) m = encR f m ++ encRs fs m := by simp [encRs]
   have l := encR_len hh.1 hh.2 h16
   rw [e, List.length_append, List.length_cons, Nat.add_mul]
   by_cases h4 : f = 4
   ·have hs : ∀ (gs : List Nat), (∀ g ∈ gs, (g < 8 ∧ okR g m) ∧ g ≠ 4) → (encRs gs m).length ≤ gs.length * 91 := by
     intro gs
     induction gs with
     | nil => intro _; simp [encRs]
     | cons g gs ih2 =>
      intro hg
      have hg0 := hg g List.mem_cons_self
      have e : encRs (g :: gs) m = encR g m ++ encRs gs m := by simp [encRs]
      have l := (encR_len hg0.1.1 hg0.1.2 h16).2 hg0.2
      have := ih2 (fun y hy => hg y (List.mem_cons_of_mem _ hy))
      rw [e, List.length_append, List.length_cons, Nat.add_mul]
      omega
    have := hs fs (fun g hg => ⟨h g (List.mem_cons_of_mem _ hg), fun e => hnd.1 (by rw [h4, ← e]; exact hg)⟩)
    have := l.1
    omega
   ·have := ih (fun y hy => h y (List.mem_cons_of_mem _ hy)) hnd.2
    have := l.2 h4
    omega
 have hl4 : (fieldsR m.kind).length ≤ 4 := by rcases fieldsR_kind hne2 with e | e | e | e | e | e | e <;> rw [e] <;> decide
 have := hlen _ (fun f hf2 => ⟨hl f hf2, hall f hf2⟩) (fieldsR_facts m.kind).1
 unfold encRec
 rw [List.length_cons]
 omega
end
section
open Go.RowKit Classical
abbrev recE (m : RecP) (p q : Value) : List Value := .int .u8 (m.kind : Int) :: .int .u32 (m.n : Int) :: (txE m.tx ++ (rgE m.reg ++ .int .u64 (m.mem : Int) :: p :: q :: (eightE m.key ++ itE m.item)))
abbrev recA (m : RecP) (p q : Value) : Array Value := (recE m p q).toArray
theorem infoRec : (Tryz.prog.info? 87).map (·.size) = some 31 := by kernel_rfl
theorem infoRRec : (Tryz.prog.info? 89).map (·.size) = some 31 := by kernel_rfl
theorem rec_one (m : RecP) (ao bo : Option Addr) (l c k d : Nat) : (recA m (.slice ao l c) (.slice bo k d)).all (·.oneCell') = true := by simp [Value.oneCell']
def misI (l : List Nat) : List Int := l.map (fun n : Nat => (n : Int))
theorem misI_len (l : List Nat) : (misI l).length = l.length := by unfold misI; rw [List.length_map]
theorem misI_inj {a b : List Nat} (h : misI a = misI b) : a = b := by
 unfold misI at h
 exact List.map_inj_right (fun x y e => by omega) |>.1 h
def RcLies (w : World) (v : Value) (m : RecP) : Prop := ∃ (ao bo : Option Addr) (cap dap : Nat), v = .agg (recA m (.slice ao m.wr.length cap) (.slice bo m.mis.length dap)) ∧ RSrc wrE w (.slice ao m.wr.length cap) m.wr ∧ Lies .u64 w (.slice bo m.mis.length dap) (misI m.mis)
theorem RcLies.below {w w' : World} {v : Value} {m : RecP} (h : RcLies w v m) (hB : Below w.heap.size w w') : RcLies w' v m := by
 obtain ⟨ao, bo, cap, dap, rfl, hs, hl⟩ := h
 exact ⟨ao, bo, cap, dap, rfl, hs.below hB, hl.below hB⟩
def RcNew (B : Nat) (w : World) (v : Value) (m : RecP) : Prop := ∃ (ao bo : Option Addr) (cap dap : Nat), v = .agg (recA m (.slice ao m.wr.length cap) (.slice bo m.mis.length dap)) ∧ RSrc wrE w (.slice ao m.wr.length cap) m.wr ∧ Lies .u64 w (.slice bo m.mis.length dap) (misI m.mis) ∧ (∀ g, (Value.slice ao m.wr.length cap).ownBlock = some g → B ≤ g) ∧ ∀ g, (Value.slice bo m.mis.length dap).ownBlock = some g → B ≤ g
theorem RcNew.lies {B : Nat} {w : World} {v : Value} {m : RecP} (h : RcNew B w v m) : RcLies w v m := by
 obtain ⟨ao, bo, cap, dap, e, hs, hl, _⟩ := h
 exact ⟨ao, bo, cap, dap, e, hs, hl⟩
end
section
open Go.ChangeShapes Go.WideShapes Go.ChangeAt Go.RowKit Go.Deep
theorem mU64 : Tryz.prog.cellsOf 77 = 1 := by kernel_rfl
theorem mU64s : Tryz.prog.cellsOf 79 = 1 := by kernel_rfl
theorem mRRec : Tryz.prog.cellsOf 89 = 31 := by kernel_rfl
abbrev u64E (n : Nat) : List Value := [.int .u64 (n : Int)]
theorem recU64 : Rec 79 77 1 u64E := ⟨Tryz.underlying79, rec_info (z := .int .u64 0) (K := 1) (B := 8) (by kernel_rfl) rfl (by decide), by decide, fun _ => rfl⟩
theorem lies_sets {w : World} {v : Value} {xs : List Nat} (h : RSrc u64E w v xs) : Lies .u64 w v (misI xs) := by
 by_cases hx : xs = []
 ·subst hx
  obtain ⟨ao, c, e, h1, h2, h3, _⟩ := h
  exact .inl ⟨rfl, ao, c, e, fun e0 => (h3 e0).2⟩
 ·obtain ⟨ao, c, rfl, h1, h2⟩ := h.shape
  obtain ⟨b, off, c2, e2, hb, hc⟩ := h.block hx
  cases e2
  refine .inr ⟨fun e => hx (by unfold misI at e; exact List.map_eq_nil_iff.1 e), b, off, c, by rw [misI_len], hb, by rw [misI_len]; exact h1, h2, fun t ht => ?_⟩
  rw [misI_len] at ht
  obtain ⟨_, b3, off3, e3, _, hcl⟩ := h.at (K := 1) (fun _ => rfl) ht
  cases e3
  have := hcl 0 (.int .u64 ((xs[t] : Nat) : Int)) rfl
  rw [Nat.mul_one, Nat.add_zero] at this
  rw [this]
  simp [misI, List.getD, ht]
section
variable {H : Type} {enc : TypeId × Value → H} {W : World} {fuel : Nat}
theorem sets_cell {cs : List Value} {x : DataW H × List MemPlace} (h : DataW.trod enc Tryz.prog W 0 (fun _ => true) true fuel 79 cs = some x) : ∃ p l, cs = [p] ∧ Lies .u64 W p (misI l) ∧ ∀ a ∈ l, a < 18446744073709551616 := by
 have hs : ∃ a l c, cs = [.slice a l c] := by
  rcases open_slice Tryz.underlying79 h with ⟨e, _⟩ | ⟨a, l, c, m, n, D, Pl, e, _⟩
  ·exact ⟨_, _, _, e⟩
  ·exact ⟨_, _, _, e⟩
 obtain ⟨a, l, c, rfl⟩ := hs
 obtain ⟨ws, h1, h2⟩ := recs_of_trod (a0 := a) (len := l) (cap := c) (d := x.1) (p := x.2) (ok := fun n : Nat => n < 18446744073709551616) recU64 mU64 (fun _ cs _ h => by
  obtain ⟨a0, e0, _, w0⟩ := DataW.trod_int Tryz.underlying77 h
  have b0 := bounds_u64 w0
  obtain ⟨n0, rfl⟩ := Int.eq_ofNat_of_zero_le b0.1
  exact ⟨n0, e0, by omega⟩) ⟨fuel, h⟩
 exact ⟨_, ws, rfl, lies_sets h1, h2⟩
set_option maxRecDepth 100000 in
theorem rrec_cells {cs : List Value} {x : DataW H × List MemPlace} (h : DataW.trod enc Tryz.prog W 0 (fun _ => true) true fuel 89 cs = some x) : ∃ (m : RecP) (p q : Value), cs = recE m p q ∧ RecOk m ∧ RSrc wrE W p m.wr ∧ Lies .u64 W q (misI m.mis) ∧ m.item.val.length ∈ x.1.weights Tryz.prog 89 ∧ ∀ a ∈ m.wr, a.it.val.length ≤ 9223372036854775807 := by
 obtain ⟨xs, n, _, rfl, hl, hlen, hf⟩ := DataW.trod_struct Tryz.underlying89 h
 rw [mRRec] at hl
 match xs, hlen with
 | [y0, y1, y2, y3, y4, y5, y6, y7, y8], _ =>
  have h0 : DataW.trod enc Tryz.prog W 0 (fun _ => true) true n 5 ((cs.drop 0).take (Tryz.prog.cellsOf 5)) = some y0 := hf 0 _ rfl
  rw [mU8] at h0
  have h1 : DataW.trod enc Tryz.prog W 0 (fun _ => true) true n 72 ((cs.drop 1).take (Tryz.prog.cellsOf 72)) = some y1 := hf 1 _ rfl
  rw [mU32] at h1
  have h2 : DataW.trod enc Tryz.prog W 0 (fun _ => true) true n 74 ((cs.drop 2).take (Tryz.prog.cellsOf 74)) = some y2 := hf 2 _ rfl
  rw [mTx] at h2
  have h3 : DataW.trod enc Tryz.prog W 0 (fun _ => true) true n 76 ((cs.drop 5).take (Tryz.prog.cellsOf 76)) = some y3 := hf 3 _ rfl
  rw [mReg] at h3
  have h4 : DataW.trod enc Tryz.prog W 0 (fun _ => true) true n 77 ((cs.drop 7).take (Tryz.prog.cellsOf 77)) = some y4 := hf 4 _ rfl
  rw [mU64] at h4
  have h5 : DataW.trod enc Tryz.prog W 0 (fun _ => true) true n 78 ((cs.drop 8).take (Tryz.prog.cellsOf 78)) = some y5 := hf 5 _ rfl
  rw [mWrites] at h5
  have h6 : DataW.trod enc Tryz.prog W 0 (fun _ => true) true n 79 ((cs.drop 9).take (Tryz.prog.cellsOf 79)) = some y6 := hf 6 _ rfl
  rw [mU64s] at h6
  have h7 : DataW.trod enc Tryz.prog W 0 (fun _ => true) true n 81 ((cs.drop 10).take (Tryz.prog.cellsOf 81)) = some y7 := hf 7 _ rfl
  rw [mKey] at h7
  have h8 : DataW.trod enc Tryz.prog W 0 (fun _ => true) true n 85 ((cs.drop 18).take (Tryz.prog.cellsOf 85)) = some y8 := hf 8 _ rfl
  rw [mItem] at h8
  obtain ⟨a0, e0, _, w0⟩ := DataW.trod_int Tryz.underlying5 h0
  have b0 := bounds_u8 w0
  obtain ⟨n0, rfl⟩ := Int.eq_ofNat_of_zero_le b0.1
  obtain ⟨a1, e1, _, w1⟩ := DataW.trod_int Tryz.underlying72 h1
  have b1 := bounds_u32 w1
  obtain ⟨n1, rfl⟩ := Int.eq_ofNat_of_zero_le b1.1
  obtain ⟨a2, e2, b2⟩ := tx_cells10 h2
  obtain ⟨a3, e3, b3⟩ := reg_cells10 h3
  obtain ⟨a4, e4, _, w4⟩ := DataW.trod_int Tryz.underlying77 h4
  have b4 := bounds_u64 w4
  obtain ⟨n4, rfl⟩ := Int.eq_ofNat_of_zero_le b4.1
  obtain ⟨p, ws, e5, b5, v5⟩ := writes_cell h5
  obtain ⟨q, ms, e6, b6, v6⟩ := sets_cell h6
  obtain ⟨a7, e7, b7⟩ := key_cells h7
  obtain ⟨a8, e8, ⟨b8, _⟩, wt8⟩ := item_cells h8
  have step : ∀ o k, cs.drop o = (cs.drop o).take k ++ cs.drop (o + k) := fun o k => by rw [← List.drop_drop, List.take_append_drop]
  have q0 : cs.drop 0 = [.int .u8 (n0 : Int)] ++ cs.drop 1 := by have q := step 0 1; rw [e0] at q; exact q
  have q1 : cs.drop 1 = [.int .u32 (n1 : Int)] ++ cs.drop 2 := by have q := step 1 1; rw [e1] at q; exact q
  have q2 : cs.drop 2 = txE a2 ++ cs.drop 5 := by have q := step 2 3; rw [e2] at q; exact q
  have q3 : cs.drop 5 = rgE a3 ++ cs.drop 7 := by have q := step 5 2; rw [e3] at q; exact q
  have q4 : cs.drop 7 = [.int .u64 (n4 : Int)] ++ cs.drop 8 := by have q := step 7 1; rw [e4] at q; exact q
  have q5 : cs.drop 8 = [p] ++ cs.drop 9 := by have q := step 8 1; rw [e5] at q; exact q
  have q6 : cs.drop 9 = [q] ++ cs.drop 10 := by have q := step 9 1; rw [e6] at q; exact q
  have q7 : cs.drop 10 = eightE a7 ++ cs.drop 18 := by have q := step 10 8; rw [e7] at q; exact q
  have q8 : cs.drop 18 = itE a8 ++ cs.drop 31 := by have q := step 18 13; rw [e8] at q; exact q
  have q9 : cs.drop 31 = [] := List.drop_eq_nil_of_le (by omega)
  refine ⟨⟨n0, n1, a2, a3, n4, ws, ms, a7, a8⟩, p, q, ?_, ⟨by simp only; omega, by simp only; omega, b2, b3, by simp only; omega, fun x hx => ⟨(v5 x hx).1, (v5 x hx).2.1⟩, v6, b7, b8⟩, b5, b6, ?_, fun a ha => (v5 a ha).2.2⟩
  ·show cs.drop 0 = _
   rw [q0, q1, q2, q3, q4, q5, q6, q7, q8, q9]
   rfl
  ·exact weights_agg10 Tryz.underlying89 (j := 8) (ft := 85) rfl rfl wt8
end
end
section
open Go.ChangeShapes Go.WideShapes Go.ChangeAt Go.RowKit Go.Deep
theorem mBytes : Tryz.prog.cellsOf 29 = 1 := by kernel_rfl
theorem mRRecs : Tryz.prog.cellsOf 41 = 1 := by kernel_rfl
theorem mInt12 : Tryz.prog.cellsOf 3 = 1 := by kernel_rfl
theorem mBool12 : Tryz.prog.cellsOf 4 = 1 := by kernel_rfl
theorem mWAct : Tryz.prog.cellsOf 46 = 6 := by kernel_rfl
abbrev u8E (n : Int) : List Value := [.int .u8 n]
theorem recU8 : Rec 29 5 1 u8E := ⟨Tryz.underlying29, rec_info (z := .int .u8 0) (K := 1) (B := 1) (by kernel_rfl) rfl (by decide), by decide, fun _ => rfl⟩
theorem lies_u8s {w : World} {v : Value} {xs : List Int} (h : RSrc u8E w v xs) : Lies .u8 w v xs := by
 by_cases hx : xs = []
 ·subst hx
  obtain ⟨ao, c, e, h1, h2, h3, _⟩ := h
  exact .inl ⟨rfl, ao, c, e, fun e0 => (h3 e0).2⟩
 ·obtain ⟨ao, c, rfl, h1, h2⟩ := h.shape
  obtain ⟨b, off, c2, e2, hb, hc⟩ := h.block hx
  cases e2
  refine .inr ⟨hx, b, off, c, rfl, hb, h1, h2, fun t ht => ?_⟩
  obtain ⟨_, b3, off3, e3, _, hcl⟩ := h.at (K := 1) (fun _ => rfl) ht
  cases e3
  have := hcl 0 (.int .u8 xs[t]) rfl
  rw [Nat.mul_one, Nat.add_zero] at this
  rw [this]
  simp [List.getD, ht]
theorem strOf_size12 (xs : List Int) : (strOfNums xs).size = xs.length := by simp [strOfNums, ByteArray.size]
structure RecV where
 m : RecP
 p : Value
 q : Value
abbrev recVE (a : RecV) : List Value := recE a.m a.p a.q
structure RvOk (W : World) (a : RecV) : Prop where
 ok : RecOk a.m
 src : RSrc wrE W a.p a.m.wr
 lie : Lies .u64 W a.q (misI a.m.mis)
 iv : a.m.item.val.length ≤ 9223372036854775807
 wv : ∀ x ∈ a.m.wr, x.it.val.length ≤ 9223372036854775807
theorem recRV : Rec 41 89 31 recVE := ⟨Tryz.underlying41, rec_info (z := .agg (recA (zeroR 0) (.slice none 0 0) (.slice none 0 0))) (K := 31) (B := 136) (by kernel_rfl) rfl (by decide), by decide, fun _ => rfl⟩
structure WAct where
 kind : Nat
 recs : List RecV
 fuse : Int
 keep : Int
 cut : Bool
 tail : List Int
 rv : Value
 tv : Value
abbrev wactE (a : WAct) : List Value := [.int .u8 (a.kind : Int), a.rv, .int .i64 a.fuse, .int .i64 a.keep, .bool a.cut, a.tv]
structure WaOk (W : World) (a : WAct) : Prop where
 kind : a.kind < 256
 src : RSrc recVE W a.rv a.recs
 ok : ∀ r ∈ a.recs, RvOk W r
 f : -9223372036854775808 ≤ a.fuse ∧ a.fuse ≤ 9223372036854775807
 k : -9223372036854775808 ≤ a.keep ∧ a.keep ≤ 9223372036854775807
 tl : Lies .u8 W a.tv a.tail
 by8 : ∀ c ∈ a.tail, 0 ≤ c ∧ c < 256
theorem recWA : Rec 22 46 6 wactE := ⟨Tryz.underlying22, rec_info (z := .agg #[.int .u8 0, .slice none 0 0, .int .i64 0, .int .i64 0, .bool false, .slice none 0 0]) (K := 6) (B := 80) (by kernel_rfl) rfl (by decide), by decide, fun _ => rfl⟩
section
variable {H : Type} {enc : TypeId × Value → H} {W : World} {fuel : Nat}
theorem bytes_cell {cs : List Value} {x : DataW H × List MemPlace} (h : DataW.trod enc Tryz.prog W 0 (fun _ => true) true fuel 29 cs = some x) : ∃ p l, cs = [p] ∧ Lies .u8 W p l ∧ ∀ a ∈ l, 0 ≤ a ∧ a < 256 := by
 have hs : ∃ a l c, cs = [.slice a l c] := by
  rcases open_slice Tryz.underlying29 h with ⟨e, _⟩ | ⟨a, l, c, m, n, D, Pl, e, _⟩
  ·exact ⟨_, _, _, e⟩
  ·exact ⟨_, _, _, e⟩
 obtain ⟨a, l, c, rfl⟩ := hs
 obtain ⟨ws, h1, h2⟩ := recs_of_trod (a0 := a) (len := l) (cap := c) (d := x.1) (p := x.2) (ok := fun n : Int => 0 ≤ n ∧ n < 256) recU8 mU8 (fun _ cs _ h => by
  obtain ⟨a0, e0, _, w0⟩ := DataW.trod_int Tryz.underlying5 h
  have b0 := bounds_u8 w0
  exact ⟨a0, e0, by omega⟩) ⟨fuel, h⟩
 exact ⟨_, ws, rfl, lies_u8s h1, h2⟩
set_option maxRecDepth 100000 in
theorem rrec_item {cs : List Value} {x : DataW H × List MemPlace} (h : DataW.trod enc Tryz.prog W 0 (fun _ => true) true fuel 89 cs = some x) {m : RecP} {p q : Value} (e : cs = recE m p q) : m.item.val.length ≤ 9223372036854775807 := by
 obtain ⟨xs, n, _, rfl, hl, hlen, hf⟩ := DataW.trod_struct Tryz.underlying89 h
 match xs, hlen with
 | [y0, y1, y2, y3, y4, y5, y6, y7, y8], _ =>
  have h8 : DataW.trod enc Tryz.prog W 0 (fun _ => true) true n 85 ((cs.drop 18).take (Tryz.prog.cellsOf 85)) = some y8 := hf 8 _ rfl
  rw [mItem] at h8
  obtain ⟨a8, e8, ⟨_, b8⟩, _⟩ := item_cells h8
  have e9 : itE a8 = itE m.item := by
   rw [← e8, e]
   rfl
  have h1 : Value.string (strOfNums a8.val) = Value.string (strOfNums m.item.val) := congrArg (fun l : List Value => l.getD 1 undef) e9
  injection h1 with h1
  have h2 := congrArg ByteArray.size h1
  rw [strOf_size12, strOf_size12] at h2
  omega
theorem rrecs_cell {cs : List Value} {x : DataW H × List MemPlace} (h : DataW.trod enc Tryz.prog W 0 (fun _ => true) true fuel 41 cs = some x) : ∃ p l, cs = [p] ∧ RSrc recVE W p l ∧ ∀ a ∈ l, RvOk W a := by
 have hs : ∃ a l c, cs = [.slice a l c] := by
  rcases open_slice Tryz.underlying41 h with ⟨e, _⟩ | ⟨a, l, c, m, n, D, Pl, e, _⟩
  ·exact ⟨_, _, _, e⟩
  ·exact ⟨_, _, _, e⟩
 obtain ⟨a, l, c, rfl⟩ := hs
 haveI : Inhabited RecV := ⟨⟨zeroR 0, .slice none 0 0, .slice none 0 0⟩⟩
 obtain ⟨ws, h1, h2⟩ := recs_of_trod (a0 := a) (len := l) (cap := c) (d := x.1) (p := x.2) (ok := RvOk W) recRV mRRec (fun _ cs x h => by
  obtain ⟨m, p, q, e, ok, b5, b6, _, v5⟩ := rrec_cells h
  exact ⟨⟨m, p, q⟩, e, ⟨ok, b5, b6, rrec_item h e, v5⟩⟩) ⟨fuel, h⟩
 exact ⟨_, ws, rfl, h1, h2⟩
set_option maxRecDepth 100000 in
theorem wact_cells {cs : List Value} {x : DataW H × List MemPlace} (h : DataW.trod enc Tryz.prog W 0 (fun _ => true) true fuel 46 cs = some x) : ∃ a : WAct, cs = wactE a ∧ WaOk W a := by
 obtain ⟨xs, n, _, rfl, hl, hlen, hf⟩ := DataW.trod_struct Tryz.underlying46 h
 rw [mWAct] at hl
 match cs, hl, xs, hlen with
 | [c0, c1, c2, c3, c4, c5], _, [y0, y1, y2, y3, y4, y5], _ =>
  have h0 : DataW.trod enc Tryz.prog W 0 (fun _ => true) true n 5 (([c0, c1, c2, c3, c4, c5].drop 0).take (Tryz.prog.cellsOf 5)) = some y0 := hf 0 _ rfl
  have h1 : DataW.trod enc Tryz.prog W 0 (fun _ => true) true n 41 (([c0, c1, c2, c3, c4, c5].drop 1).take (Tryz.prog.cellsOf 41)) = some y1 := hf 1 _ rfl
  have h2 : DataW.trod enc Tryz.prog W 0 (fun _ => true) true n 3 (([c0, c1, c2, c3, c4, c5].drop 2).take (Tryz.prog.cellsOf 3)) = some y2 := hf 2 _ rfl
  have h3 : DataW.trod enc Tryz.prog W 0 (fun _ => true) true n 3 (([c0, c1, c2, c3, c4, c5].drop 3).take (Tryz.prog.cellsOf 3)) = some y3 := hf 3 _ rfl
  have h4 : DataW.trod enc Tryz.prog W 0 (fun _ => true) true n 4 (([c0, c1, c2, c3, c4, c5].drop 4).take (Tryz.prog.cellsOf 4)) = some y4 := hf 4 _ rfl
  have h5 : DataW.trod enc Tryz.prog W 0 (fun _ => true) true n 29 (([c0, c1, c2, c3, c4, c5].drop 5).take (Tryz.prog.cellsOf 29)) = some y5 := hf 5 _ rfl
  rw [mU8] at h0
  rw [mRRecs] at h1
  rw [mInt12] at h2 h3
  rw [mBool12] at h4
  rw [mBytes] at h5
  obtain ⟨a0, e0, _, w0⟩ := DataW.trod_int Tryz.underlying5 h0
  obtain ⟨p1, l1, e1, s1, o1⟩ := rrecs_cell h1
  obtain ⟨a2, e2, _, w2⟩ := DataW.trod_int Tryz.underlying3 h2
  obtain ⟨a3, e3, _, w3⟩ := DataW.trod_int Tryz.underlying3 h3
  obtain ⟨a4, e4, _⟩ := DataW.trod_bool Tryz.underlying4 h4
  obtain ⟨p5, l5, e5, s5, o5⟩ := bytes_cell h5
  have b0 := bounds_u8 w0
  have b2 := bounds_i64 w2
  have b3 := bounds_i64 w3
  simp at e0 e1 e2 e3 e4 e5
  subst e0; subst e1; subst e2; subst e3; subst e4; subst e5
  obtain ⟨k, rfl⟩ := Int.eq_ofNat_of_zero_le b0.1
  exact ⟨⟨k, l1, a2, a3, a4, l5, c1, c5⟩, rfl, ⟨by simp only; omega, s1, o1, by simp only; omega, by simp only; omega, s5, o5⟩⟩
theorem wacts_of_trod {a0 : Option Addr} {len cap : Nat} {d : DataW H} {p : List MemPlace}
  (h : DataW.Trod enc Tryz.prog W 0 (fun _ => true) true 22 (.slice a0 len cap) d p) : ∃ fs, RSrc wactE W (.slice a0 len cap) fs ∧ ∀ f ∈ fs, WaOk W f :=
 haveI : Inhabited WAct := ⟨⟨0, [], 0, 0, false, [], .slice none 0 0, .slice none 0 0⟩⟩
 recs_of_trod (ok := WaOk W) recWA mWAct (fun _ _ _ h => wact_cells h) h
theorem rrecs_of_trod {a0 : Option Addr} {len cap : Nat} {d : DataW H} {p : List MemPlace}
  (h : DataW.Trod enc Tryz.prog W 0 (fun _ => true) true 41 (.slice a0 len cap) d p) : ∃ fs, RSrc recVE W (.slice a0 len cap) fs ∧ ∀ f ∈ fs, RvOk W f :=
 haveI : Inhabited RecV := ⟨⟨zeroR 0, .slice none 0 0, .slice none 0 0⟩⟩
 recs_of_trod (ok := RvOk W) recRV mRRec (fun _ cs x h => by
  obtain ⟨m, p, q, e, ok, b5, b6, _, v5⟩ := rrec_cells h
  exact ⟨⟨m, p, q⟩, e, ⟨ok, b5, b6, rrec_item h e, v5⟩⟩) h
end
end
section
open Go.RowKit
theorem Box.two {w : World} {p : Nat} {a b : Value} {t : TypeId} (h : Box w p #[a, b] t) : w.cell? ⟨p, 0, none⟩ = some a ∧ w.cell? ⟨p, 1, none⟩ = some b := ⟨h.cell 0 _ rfl, h.cell 1 _ rfl⟩
theorem Box.three {w : World} {p : Nat} {a b c : Value} {t : TypeId} (h : Box w p #[a, b, c] t) : w.cell? ⟨p, 0, none⟩ = some a ∧ w.cell? ⟨p, 1, none⟩ = some b ∧ w.cell? ⟨p, 2, none⟩ = some c := ⟨h.cell 0 _ rfl, h.cell 1 _ rfl, h.cell 2 _ rfl⟩
theorem Box.four {w : World} {p : Nat} {a b c d : Value} {t : TypeId} (h : Box w p #[a, b, c, d] t) : w.cell? ⟨p, 0, none⟩ = some a ∧ w.cell? ⟨p, 1, none⟩ = some b ∧ w.cell? ⟨p, 2, none⟩ = some c ∧ w.cell? ⟨p, 3, none⟩ = some d := ⟨h.cell 0 _ rfl, h.cell 1 _ rfl, h.cell 2 _ rfl, h.cell 3 _ rfl⟩
theorem Box.eight {w : World} {p : Nat} {a b c d e f g i : Value} {t : TypeId} (h : Box w p #[a, b, c, d, e, f, g, i] t) : w.cell? ⟨p, 0, none⟩ = some a ∧ w.cell? ⟨p, 1, none⟩ = some b ∧ w.cell? ⟨p, 2, none⟩ = some c ∧ w.cell? ⟨p, 3, none⟩ = some d ∧ w.cell? ⟨p, 4, none⟩ = some e ∧ w.cell? ⟨p, 5, none⟩ = some f ∧ w.cell? ⟨p, 6, none⟩ = some g ∧ w.cell? ⟨p, 7, none⟩ = some i :=
 ⟨h.cell 0 _ rfl, h.cell 1 _ rfl, h.cell 2 _ rfl, h.cell 3 _ rfl, h.cell 4 _ rfl, h.cell 5 _ rfl, h.cell 6 _ rfl, h.cell 7 _ rfl⟩
theorem Box.belowI {w w' : World} {p : Nat} {cs : Array Value} {t : TypeId} (h : Box w p cs t) (hB : Below w.heap.size w w') : Box w' p cs t := h.keep (KeepBut.of_below (fun _ => False) hB) id
theorem below_drewN {B n : Nat} {w w' : World} (h : Below B w w') : Below B w (w'.drewN n) := ⟨h.os, h.tape, h.output, h.size, h.block⟩
theorem lies_new (k : IntKind) (w : World) (xs : List Int) (t : TypeId) (hn : xs ≠ []) (hl : xs.length ≤ 1000000) : Lies k (w.alloc (.cells (xs.map (Value.int k)).toArray t)) (.slice (some ⟨w.heap.size, 0, none⟩) xs.length xs.length) xs := by
 refine .inr ⟨hn, w.heap.size, 0, xs.length, rfl, by simp, Nat.le_refl _, by unfold maxLen; omega, fun i hi => ?_⟩
 rw [Nat.zero_add]
 refine (box_new w _ t).cell i _ ?_
 simp [List.getD, hi]
end
end Go.Proofs.YtlegliimgjmphaaGreat
