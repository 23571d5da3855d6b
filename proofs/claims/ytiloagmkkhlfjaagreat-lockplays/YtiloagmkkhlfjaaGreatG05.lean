/-
  Own texts put together: MgFacts, TbPlain, SgPlain, LkPlain. Own work.
-/
import Derived.Test.YtiloagmkkhlfjaaGreatG04
namespace Go.Proofs.YtiloagmkkhlfjaaGreat
section
open Go
def txI (t : TxN) : TxP := ((t.1 : Int), (t.2.1 : Int), (t.2.2 : Int))
structure ItOk (i : ItP) : Prop where
 v : i.ver < 4294967296
 s : ∀ c ∈ i.val, 0 ≤ c ∧ c < 256
 c : i.cf.Ok
structure gX (k : List Int) : Prop where
 l : k.length = 8
 b : ∀ c ∈ k, 0 ≤ c ∧ c < 256
end
section
open Go
def dnT (t : List WrP) (k : List Int) : List WrP := t.dropWhile fun x => decide (dW x.key k < 0)
def getT (t : List WrP) (k : List Int) : Option ItP := match dnT t k with
 | [] => none
 | x :: _ => if x.key = k then some x.it else none
structure TbOk (t : List WrP) : Prop where
 rise : t.Pairwise fun a b => dW a.key b.key < 0
 key : ∀ x ∈ t, x.key.length = 8
 few : t.length ≤ 64
end
section
open Go
def jZ (a b : TxN) : Int := dW [(a.1 : Int), (a.2.1 : Int), (a.2.2 : Int)] [(b.1 : Int), (b.2.1 : Int), (b.2.2 : Int)]
theorem txO_neg (a b : TxN) : jZ b a = - jZ a b := lexF_neg _ _
theorem fR (a b : TxN) : jZ a b = 0 ↔ a = b := by
 constructor
 ·intro h
  have h2 := (gK [(a.1 : Int), (a.2.1 : Int), (a.2.2 : Int)] [(b.1 : Int), (b.2.1 : Int), (b.2.2 : Int)] rfl).1 h
  simp only [List.cons.injEq, and_true] at h2
  obtain ⟨a1, a2, a3⟩ := a
  obtain ⟨b1, b2, b3⟩ := b
  simp only at h2
  have e1 : a1 = b1 := by omega
  have e2 : a2 = b2 := by omega
  have e3 : a3 = b3 := by omega
  rw [e1, e2, e3]
 ·intro h
  subst h
  exact (gK _ _ rfl).2 rfl
theorem txO_trans {a b c : TxN} (h1 : jZ a b < 0) (h2 : jZ b c < 0) : jZ a c < 0 := by
 have h := fW [(a.1 : Int), (a.2.1 : Int), (a.2.2 : Int)] [(b.1 : Int), (b.2.1 : Int), (b.2.2 : Int)] [(c.1 : Int), (c.2.1 : Int), (c.2.2 : Int)] rfl rfl (Int.le_of_lt h1) (Int.le_of_lt h2)
 rcases Int.lt_or_eq_of_le h with h | h
 ·exact h
 ·have e := (fR a c).1 h
  subst e
  have := txO_neg a b
  omega
end
section
structure aS (K : Type) where
 tx : TxN
 tm : Nat
 pr : Bool
 h : K → Nat
 w : K → Nat
structure cD (K : Type) where
 tx : TxN
 key : K
 mode : Nat
abbrev cI (a b : Nat) : Prop := a ≠ 0 ∧ b ≠ 0 ∧ (a = 2 ∨ b = 2)
theorem cI.symm {a b : Nat} (h : cI a b) : cI b a := ⟨h.2.1, h.1, h.2.2.symm⟩
theorem cI.grow {a b c : Nat} (h : cI a b) (hbc : b ≤ c) (hc : c ≤ 2) : cI a c := by
 obtain ⟨h1, h2, h3⟩ := h
 exact ⟨h1, by omega, by omega⟩
def agS (tm : Nat) (t : TxN) : StP := ((tm : Int), txI t)
section
variable {K : Type}
abbrev aS.ag (u : aS K) : StP := agS u.tm u.tx
theorem txI_inj0 {t u : TxN} (h : txI t = txI u) : t = u := by
 obtain ⟨a, b, c⟩ := t
 obtain ⟨d, e, f⟩ := u
 simp only [txI, Prod.mk.injEq] at h
 have h1 : a = d := by omega
 have h2 : b = e := by omega
 have h3 : c = f := by omega
 rw [h1, h2, h3]
theorem gC (a b : StP) : fO b a = - fO a b := lexF_neg _ _
theorem stsF_trans {a b c : StP} (h1 : fO a b < 0) (h2 : fO b c < 0) : fO a c < 0 := by
 have h := fW (stL a) (stL b) (stL c) rfl rfl (Int.le_of_lt h1) (Int.le_of_lt h2)
 rcases Int.lt_or_eq_of_le h with h | h
 ·exact h
 ·have e := (stsF_zero a c).1 h
  subst e
  have := gC a b
  omega
theorem stsF_self (a : StP) : fO a a = 0 := (stsF_zero a a).2 rfl
abbrev Old (u v : aS K) : Prop := fO u.ag v.ag < 0
theorem Old.trans {u v x : aS K} (h1 : Old u v) (h2 : Old v x) : Old u x := stsF_trans h1 h2
theorem Old.asymm {u v : aS K} (h1 : Old u v) : ¬ Old v u := fun h2 => by
 unfold Old at *
 have := gC u.ag v.ag
 omega
theorem f5 {u v : aS K} (h : u.tx ≠ v.tx) : Old u v ∨ Old v u := by
 unfold Old
 have h1 := gC u.ag v.ag
 by_cases h2 : fO u.ag v.ag = 0
 ·have := (stsF_zero _ _).1 h2
  simp only [agS, Prod.mk.injEq] at this
  exact absurd (txI_inj0 this.2) h
 ·omega
def zeroU : aS K := ⟨(0, 0, 0), 0, false, fun _ => 0, fun _ => 0⟩
def cM (l : List (aS K)) (t : TxN) : Option (aS K) := l.find? fun x => decide (x.tx = t)
def aT (l : List (aS K)) (t : TxN) : aS K := (cM l t).getD zeroU
def bG (l : List (aS K)) (t : TxN) (f : aS K → aS K) : List (aS K) := l.map fun u => if u.tx = t then f u else u
def cN (l : List (aS K)) (t : TxN) : List (aS K) := l.filter fun u => decide (u.tx ≠ t)
def dH (l : List (aS K)) (x : aS K) : List (aS K) := l.takeWhile (fun y => decide (jZ y.tx x.tx < 0)) ++ x :: l.dropWhile (fun y => decide (jZ y.tx x.tx < 0))
def sortU (l : List (aS K)) : List (aS K) := l.mergeSort fun x y => !decide (Old y x)
def cS (l : List (aS K)) (k : K) : List TxN := (sortU (l.filter fun u => decide (u.w k ≠ 0))).map (·.tx)
abbrev NF (l : List (aS K)) (u : aS K) (k : K) : Prop := ∃ v ∈ l, v.tx ≠ u.tx ∧ (cI (u.w k) (v.h k) ∨ (Old v u ∧ cI (u.w k) (v.w k)))
def dX (l : List (aS K)) (t : TxN) (k : K) : List TxN := (sortU (l.filter fun y => decide (y.pr = false ∧ Old (aT l t) y ∧ cI ((aT l t).w k) (y.h k)))).map (·.tx)
def cY (l : List (aS K)) (ts : List TxN) : List (aS K) := l.filter fun u => decide (u.tx ∉ ts)
def cZ (l : List (aS K)) (t : TxN) (tm : Nat) : List (aS K) := if (cM l t).isSome then l else dH l ⟨t, tm, false, fun _ => 0, fun _ => 0⟩
def cK (u : aS K) : aS K := { u with pr := true, h := fun k => if u.h k = 1 then 0 else u.h k }
structure dD (l : List (aS K)) : Prop where
 rise : l.Pairwise fun a b => jZ a.tx b.tx < 0
 few : l.length ≤ 64
 oks : ∀ u ∈ l, (u.tx.1 < 256 ∧ u.tx.2.1 < 4294967296 ∧ u.tx.2.2 < 4294967296) ∧ u.tm < 4294967296 ∧ (∀ k, u.h k ≤ 2) ∧ ∀ k, u.w k ≤ 2
structure LkM (l : List (aS K)) : Prop where
 tog : ∀ u ∈ l, ∀ v ∈ l, u.tx ≠ v.tx → ∀ k, ¬ cI (u.h k) (v.h k)
 held : ∀ u ∈ l, ∀ k, u.w k ≠ 0 → u.h k < u.w k
 prep : ∀ u ∈ l, u.pr = true → ∀ k, u.w k = 0 ∧ u.h k ≠ 1
 ages : ∀ u ∈ l, ∀ v ∈ l, ∀ k, u.tx ≠ v.tx → cI (u.w k) (v.h k) → v.pr = true ∨ Old v u
def eZ (l : List (aS K)) (k : K) : Prop := ∀ u ∈ l, u.w k ≠ 0 → NF l u k
structure LkI (l : List (aS K)) : Prop where
 b : dD l
 m : LkM l
 w : ∀ k, eZ l k
theorem lkb_nil : dD ([] : List (aS K)) := ⟨List.Pairwise.nil, Nat.zero_le _, fun _ h => by cases h⟩
theorem lki_nil : LkI ([] : List (aS K)) := ⟨lkb_nil, ⟨(fun _ h => by cases h), (fun _ h => by cases h), (fun _ h => by cases h), fun _ h => by cases h⟩, fun _ _ h => by cases h⟩
theorem eR {l : List (aS K)} {t : TxN} : cM l t = none ↔ ∀ x ∈ l, x.tx ≠ t := by
 unfold cM
 rw [List.find?_eq_none]
 simp
theorem cR : ∀ {l : List (aS K)} (_ : l.Pairwise fun a b => jZ a.tx b.tx < 0) {x y : aS K}, x ∈ l → y ∈ l → x.tx = y.tx → x = y
 | [], _, _, _, h, _, _ => by cases h
 | z :: l, hp, x, y, hx, hy, e => by
  obtain ⟨h1, h2⟩ := List.pairwise_cons.1 hp
  rcases List.mem_cons.1 hx with e1 | hx'
  ·rcases List.mem_cons.1 hy with e2 | hy'
   ·rw [e1, e2]
   ·have := h1 y hy'
    rw [← e, e1, (fR _ _).2 rfl] at this
    omega
  ·rcases List.mem_cons.1 hy with e2 | hy'
   ·have := h1 x hx'
    rw [e, e2, (fR _ _).2 rfl] at this
    omega
   ·exact cR h2 hx' hy' e
theorem bT {l : List (aS K)} (h : dD l) {t : TxN} {x : aS K} : cM l t = some x ↔ x ∈ l ∧ x.tx = t := by
 constructor
 ·intro hf
  have h1 := List.find?_some hf
  exact ⟨List.mem_of_find?_eq_some hf, by simpa using h1⟩
 ·rintro ⟨hx, rfl⟩
  cases hf : cM l x.tx with
  | none => exact absurd rfl (eR.1 hf x hx)
  | some y =>
   have h1 : y.tx = x.tx := by have := List.find?_some hf; simpa using this
   rw [cR h.rise (List.mem_of_find?_eq_some hf) hx h1]
theorem bH {l : List (aS K)} (h : dD l) {x : aS K} (hx : x ∈ l) : aT l x.tx = x := by
 unfold aT
 rw [(bT h).2 ⟨hx, rfl⟩]
 rfl
theorem dA {l : List (aS K)} {t : TxN} (h : cM l t = none) : aT l t = zeroU := by
 unfold aT
 rw [h]
 rfl
theorem dE {l : List (aS K)} {t : TxN} {f : aS K → aS K} {y : aS K} : y ∈ bG l t f ↔ ∃ u ∈ l, y = if u.tx = t then f u else u := by
 unfold bG
 rw [List.mem_map]
 constructor
 ·rintro ⟨u, hu, rfl⟩; exact ⟨u, hu, rfl⟩
 ·rintro ⟨u, hu, rfl⟩; exact ⟨u, hu, rfl⟩
theorem bU (l : List (aS K)) (x y : aS K) : y ∈ dH l x ↔ y = x ∨ y ∈ l := by
 unfold dH
 have e : y ∈ l ↔ y ∈ l.takeWhile (fun y => decide (jZ y.tx x.tx < 0)) ∨ y ∈ l.dropWhile (fun y => decide (jZ y.tx x.tx < 0)) := by rw [← List.mem_append, List.takeWhile_append_dropWhile]
 rw [e, List.mem_append, List.mem_cons]
 constructor
 ·rintro (h | h | h)
  ·exact .inr (.inl h)
  ·exact .inl h
  ·exact .inr (.inr h)
 ·rintro (h | h | h)
  ·exact .inr (.inl h)
  ·exact .inl h
  ·exact .inr (.inr h)
theorem insU_perm (l : List (aS K)) (x : aS K) : (dH l x).Perm (x :: l) := by
 unfold dH
 refine (List.perm_middle).trans (List.Perm.cons x ?_)
 rw [List.takeWhile_append_dropWhile]
theorem insU_rise {l : List (aS K)} (h : l.Pairwise fun a b => jZ a.tx b.tx < 0) {x : aS K} (hn : cM l x.tx = none) : (dH l x).Pairwise fun a b => jZ a.tx b.tx < 0 := by
 have hne := eR.1 hn
 unfold dH
 have hup : ∀ y ∈ l.takeWhile (fun y => decide (jZ y.tx x.tx < 0)), jZ y.tx x.tx < 0 := fun y hy => by
  have := List.all_eq_true.1 (List.all_takeWhile (p := fun y : aS K => decide (jZ y.tx x.tx < 0)) (l := l)) y hy
  simpa using this
 have hspl : (l.takeWhile (fun y => decide (jZ y.tx x.tx < 0)) ++ l.dropWhile (fun y => decide (jZ y.tx x.tx < 0))).Pairwise fun a b => jZ a.tx b.tx < 0 := by rw [List.takeWhile_append_dropWhile]; exact h
 obtain ⟨h1, h2, h3⟩ := List.pairwise_append.1 hspl
 have hdn : ∀ y ∈ l.dropWhile (fun y => decide (jZ y.tx x.tx < 0)), jZ x.tx y.tx < 0 := by
  have hin : ∀ y ∈ l.dropWhile (fun y => decide (jZ y.tx x.tx < 0)), y ∈ l := fun y hy => (List.dropWhile_suffix _).subset hy
  cases hd : l.dropWhile (fun y => decide (jZ y.tx x.tx < 0)) with
  | nil => intro y hy; cases hy
  | cons z r =>
   have hz : ¬ jZ z.tx x.tx < 0 := by
    have := List.head?_dropWhile_not (fun y : aS K => decide (jZ y.tx x.tx < 0)) l
    rw [hd] at this
    simpa using this
   rw [hd] at h2 hin
   have hzx : jZ x.tx z.tx < 0 := by
    have e1 := txO_neg z.tx x.tx
    have e2 : jZ z.tx x.tx ≠ 0 := fun e => hne z (hin z List.mem_cons_self) ((fR _ _).1 e)
    omega
   intro y hy
   rcases List.mem_cons.1 hy with rfl | hy
   ·exact hzx
   ·exact txO_trans hzx ((List.pairwise_cons.1 h2).1 y hy)
 refine List.pairwise_append.2 ⟨h1, List.pairwise_cons.2 ⟨hdn, h2⟩, fun a ha b hb => ?_⟩
 rcases List.mem_cons.1 hb with rfl | hb
 ·exact hup a ha
 ·exact h3 a ha b hb
theorem insU_b {l : List (aS K)} (h : dD l) {x : aS K} (hn : cM l x.tx = none) (hf : l.length < 64) (hx : (x.tx.1 < 256 ∧ x.tx.2.1 < 4294967296 ∧ x.tx.2.2 < 4294967296) ∧ x.tm < 4294967296 ∧ (∀ k, x.h k ≤ 2) ∧ ∀ k, x.w k ≤ 2) : dD (dH l x) :=
 ⟨insU_rise h.rise hn, by rw [(insU_perm l x).length_eq, List.length_cons]; omega, fun u hu => by
  rcases (bU l x u).1 hu with rfl | hu
  ·exact hx
  ·exact h.oks u hu⟩
theorem eS {l : List (aS K)} (h : dD l) (p : aS K → Bool) : dD (l.filter p) :=
 ⟨h.rise.filter p, Nat.le_trans (List.length_filter_le _ _) h.few, fun u hu => h.oks u (List.mem_filter.1 hu).1⟩
theorem i9 {l : List (aS K)} (h : dD l) (t : TxN) (f : aS K → aS K) (hf : ∀ u ∈ l, (f u).tx = u.tx ∧ (f u).tm = u.tm ∧ (∀ k, (f u).h k ≤ 2) ∧ ∀ k, (f u).w k ≤ 2) : dD (bG l t f) := by
 refine ⟨?_, by unfold bG; rw [List.length_map]; exact h.few, fun y hy => ?_⟩
 ·unfold bG
  rw [List.pairwise_map]
  refine h.rise.imp_of_mem fun {a b} ha hb hab => ?_
  have e1 : (if a.tx = t then f a else a).tx = a.tx := by split; exact (hf a ha).1; rfl
  have e2 : (if b.tx = t then f b else b).tx = b.tx := by split; exact (hf b hb).1; rfl
  rw [e1, e2]
  exact hab
 ·obtain ⟨u, hu, rfl⟩ := dE.1 hy
  have h0 := h.oks u hu
  have h1 := hf u hu
  split
  ·exact ⟨by rw [h1.1]; exact h0.1, by rw [h1.2.1]; exact h0.2.1, h1.2.2⟩
  ·exact h0
theorem iV (l : List (aS K)) (u : aS K) : u ∈ sortU l ↔ u ∈ l := (List.mergeSort_perm l _).mem_iff
theorem sortU_old {l : List (aS K)} (hd : l.Pairwise fun a b => a.tx ≠ b.tx) : (sortU l).Pairwise Old := by
 have h1 : (sortU l).Pairwise fun a b => !decide (Old b a) := List.pairwise_mergeSort (le := fun x y : aS K => !decide (Old y x)) (fun a b c h1 h2 => by
   simp only [Bool.not_eq_true', decide_eq_false_iff_not] at h1 h2 ⊢
   unfold Old at *
   intro h3
   have e1 := gC a.ag b.ag
   have e2 := gC b.ag c.ag
   have h4 := fW (stL a.ag) (stL b.ag) (stL c.ag) rfl rfl (by unfold fO at *; omega) (by unfold fO at *; omega)
   have e3 := gC a.ag c.ag
   unfold fO at *
   omega) (fun a b => by
   simp only [Bool.or_eq_true, Bool.not_eq_true', decide_eq_false_iff_not]
   by_cases h : Old b a
   ·exact .inr h.asymm
   ·exact .inl h) l
 have h2 : (sortU l).Pairwise fun a b => a.tx ≠ b.tx := (List.mergeSort_perm l _).symm.pairwise hd (fun {a b} h e => h e.symm)
 refine (h1.and h2).imp fun {a b} h => ?_
 have h3 : ¬ Old b a := by simpa using h.1
 exact (f5 h.2).resolve_right h3
theorem rise_ne {l : List (aS K)} (h : dD l) : l.Pairwise fun a b => a.tx ≠ b.tx := h.rise.imp fun {a b} h e => by rw [e, (fR _ _).2 rfl] at h; omega
theorem fC {l : List (aS K)} {k : K} {t : TxN} : t ∈ cS l k ↔ ∃ u ∈ l, u.w k ≠ 0 ∧ u.tx = t := by
 unfold cS
 rw [List.mem_map]
 constructor
 ·rintro ⟨u, hu, rfl⟩
  have := List.mem_filter.1 ((iV _ u).1 hu)
  exact ⟨u, this.1, by simpa using this.2, rfl⟩
 ·rintro ⟨u, hu, hw, rfl⟩
  exact ⟨u, (iV _ u).2 (List.mem_filter.2 ⟨hu, by simpa using hw⟩), rfl⟩
abbrev dI (l : List (aS K)) (a b : TxN) : Prop := Old (aT l a) (aT l b)
theorem iP {l : List (aS K)} (h : dD l) (p : aS K → Bool) : ((sortU (l.filter p)).map (·.tx)).Pairwise (dI l) := by
 rw [List.pairwise_map]
 refine (sortU_old (rise_ne (eS h p))).imp_of_mem fun {a b} ha hb hab => ?_
 have ha' := (List.mem_filter.1 ((iV _ a).1 ha)).1
 have hb' := (List.mem_filter.1 ((iV _ b).1 hb)).1
 unfold dI
 rw [bH h ha', bH h hb']
 exact hab
theorem j8 {l : List (aS K)} (h : dD l) (k : K) : (cS l k).Pairwise (dI l) := iP h _
theorem jA {l : List (aS K)} {t : TxN} {k : K} {x : TxN} : x ∈ dX l t k ↔ ∃ y ∈ l, (y.pr = false ∧ Old (aT l t) y ∧ cI ((aT l t).w k) (y.h k)) ∧ y.tx = x := by
 unfold dX
 rw [List.mem_map]
 constructor
 ·rintro ⟨u, hu, rfl⟩
  have := List.mem_filter.1 ((iV _ u).1 hu)
  exact ⟨u, this.1, by simpa using this.2, rfl⟩
 ·rintro ⟨u, hu, hw, rfl⟩
  exact ⟨u, (iV _ u).2 (List.mem_filter.2 ⟨hu, by simpa using hw⟩), rfl⟩
theorem iQ {l : List (aS K)} {a b : List TxN} (h1 : a.Pairwise (dI l)) (h2 : b.Pairwise (dI l)) (hm : ∀ t, t ∈ a ↔ t ∈ b) : a = b := by
 have nd : ∀ {c : List TxN}, c.Pairwise (dI l) → c.Nodup := fun h => h.imp fun {x y} hxy e => by subst e; exact hxy.asymm hxy
 exact List.Perm.eq_of_pairwise (le := dI l) (fun x y _ _ h3 h4 => absurd h4 h3.asymm) h1 h2 ((List.perm_ext_iff_of_nodup (nd h1) (nd h2)).2 hm)
end
section
variable {K : Type} [DecidableEq K]
def iL (k : K) (u : aS K) : aS K := { u with h := fun k' => if k' = k then max (u.h k) (u.w k) else u.h k', w := fun k' => if k' = k then 0 else u.w k' }
def cJ (l : List (aS K)) (t : TxN) (k : K) : List (aS K) := if NF l (aT l t) k then l else bG l t (iL k)
def fN (l : List (aS K)) (t : TxN) (k : K) : List (cD K) := if NF l (aT l t) k then [] else [⟨t, k, max ((aT l t).h k) ((aT l t).w k)⟩]
def j9 (k : K) : List (aS K) → List TxN → List (aS K)
 | l, [] => l
 | l, t :: q => j9 k (cJ l t k) q
def onQG (k : K) : List (aS K) → List TxN → List (cD K)
 | _, [] => []
 | l, t :: q => fN l t k ++ onQG k (cJ l t k) q
def onS1 (l : List (aS K)) (k : K) : List (aS K) := j9 k l (cS l k)
def onG1 (l : List (aS K)) (k : K) : List (cD K) := onQG k l (cS l k)
def gA : List (aS K) → List K → List (aS K)
 | l, [] => l
 | l, k :: ks => gA (onS1 l k) ks
def fX : List (aS K) → List K → List (cD K)
 | _, [] => []
 | l, k :: ks => onG1 l k ++ fX (onS1 l k) ks
def bF (k : K) (m : Nat) (u : aS K) : aS K := { u with w := fun k' => if k' = k then max (u.w k) m else u.w k' }
def eM (t : TxN) (ks : List K) : aS K := ⟨t, 0, true, fun k => if k ∈ ks then 2 else 0, fun _ => 0⟩
theorem grU_ok {l : List (aS K)} (h : dD l) (k : K) : ∀ u ∈ l, (iL k u).tx = u.tx ∧ (iL k u).tm = u.tm ∧ (∀ k', (iL k u).h k' ≤ 2) ∧ ∀ k', (iL k u).w k' ≤ 2 := fun u hu => by
 have h0 := h.oks u hu
 refine ⟨rfl, rfl, fun k' => ?_, fun k' => ?_⟩
 ·show (if k' = k then max (u.h k) (u.w k) else u.h k') ≤ 2
  have := h0.2.2.1 k
  have := h0.2.2.2 k
  have := h0.2.2.1 k'
  split <;> omega
 ·show (if k' = k then 0 else u.w k') ≤ 2
  have := h0.2.2.2 k'
  split <;> omega
theorem step_b {l : List (aS K)} (h : dD l) (t : TxN) (k : K) : dD (cJ l t k) := by
 unfold cJ
 split
 ·exact h
 ·exact i9 h t _ (grU_ok h k)
theorem onQ_b (k : K) : ∀ (q : List TxN) {l : List (aS K)} (_ : dD l), dD (j9 k l q)
 | [], _, h => h
 | t :: q, _, h => onQ_b k q (step_b h t k)
theorem onA_b : ∀ (ks : List K) {l : List (aS K)} (_ : dD l), dD (gA l ks)
 | [], _, h => h
 | _ :: ks, _, h => onA_b ks (onQ_b _ _ h)
end
end
end Go.Proofs.YtiloagmkkhlfjaaGreat
