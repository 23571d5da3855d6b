/-
  Own texts put together: LkPlain, LkMore. Own work.
-/
import Derived.Test.YtddflccjmigloaaGreatG06
namespace Go.Proofs.YtddflccjmigloaaGreat
section
/-- A user: its name, its stamp's time, whether it is prepared, in which modes it holds and waits. -/
structure UsP (K : Type) where
  tx : TxN
  tm : Nat
  pr : Bool
  h : K → Nat
  w : K → Nat
/-- A lock that was granted. -/
structure GtP (K : Type) where
  tx : TxN
  key : K
  mode : Nat
/-- Two users' locks in these modes do not go together. -/
abbrev Apart (a b : Nat) : Prop := a ≠ 0 ∧ b ≠ 0 ∧ (a = 2 ∨ b = 2)
theorem Apart.symm {a b : Nat} (h : Apart a b) : Apart b a := ⟨h.2.1, h.1, h.2.2.symm⟩
theorem Apart.grow {a b c : Nat} (h : Apart a b) (hbc : b ≤ c) (hc : c ≤ 2) : Apart a c := by
  obtain ⟨h1, h2, h3⟩ := h
  exact ⟨h1, by omega, by omega⟩
def agS (tm : Nat) (t : TxN) : StP := ((tm : Int), txI t)
section
variable {K : Type}
abbrev UsP.ag (u : UsP K) : StP := agS u.tm u.tx
theorem txI_inj0 {t u : TxN} (h : txI t = txI u) : t = u := by
  obtain ⟨a, b, c⟩ := t
  obtain ⟨d, e, f⟩ := u
  simp only [txI, Prod.mk.injEq] at h
  have h1 : a = d := by omega
  have h2 : b = e := by omega
  have h3 : c = f := by omega
  rw [h1, h2, h3]
theorem stsF_neg (a b : StP) : stsF b a = - stsF a b := lexF_neg _ _
theorem stsF_trans {a b c : StP} (h1 : stsF a b < 0) (h2 : stsF b c < 0) : stsF a c < 0 := by
  have h := lexF_trans (stL a) (stL b) (stL c) rfl rfl (Int.le_of_lt h1) (Int.le_of_lt h2)
  rcases Int.lt_or_eq_of_le h with h | h
  · exact h
  · have e := (stsF_zero a c).1 h
    subst e
    have := stsF_neg a b
    omega
theorem stsF_self (a : StP) : stsF a a = 0 := (stsF_zero a a).2 rfl
/-- Older. -/
abbrev Old (u v : UsP K) : Prop := stsF u.ag v.ag < 0
theorem Old.trans {u v x : UsP K} (h1 : Old u v) (h2 : Old v x) : Old u x := stsF_trans h1 h2
theorem Old.asymm {u v : UsP K} (h1 : Old u v) : ¬ Old v u := fun h2 => by
  unfold Old at *
  have := stsF_neg u.ag v.ag
  omega
theorem old_total {u v : UsP K} (h : u.tx ≠ v.tx) : Old u v ∨ Old v u := by
  unfold Old
  have h1 := stsF_neg u.ag v.ag
  by_cases h2 : stsF u.ag v.ag = 0
  · have := (stsF_zero _ _).1 h2
    simp only [agS, Prod.mk.injEq] at this
    exact absurd (txI_inj0 this.2) h
  · omega
def zeroU : UsP K := ⟨(0, 0, 0), 0, false, fun _ => 0, fun _ => 0⟩
def usL (l : List (UsP K)) (t : TxN) : Option (UsP K) := l.find? fun x => decide (x.tx = t)
def getU (l : List (UsP K)) (t : TxN) : UsP K := (usL l t).getD zeroU
def updU (l : List (UsP K)) (t : TxN) (f : UsP K → UsP K) : List (UsP K) := l.map fun u => if u.tx = t then f u else u
def dropU (l : List (UsP K)) (t : TxN) : List (UsP K) := l.filter fun u => decide (u.tx ≠ t)
def insU (l : List (UsP K)) (x : UsP K) : List (UsP K) := l.takeWhile (fun y => decide (txO y.tx x.tx < 0)) ++ x :: l.dropWhile (fun y => decide (txO y.tx x.tx < 0))
/-- By their age, the older ones first. -/
def sortU (l : List (UsP K)) : List (UsP K) := l.mergeSort fun x y => !decide (Old y x)
def queU (l : List (UsP K)) (k : K) : List TxN := (sortU (l.filter fun u => decide (u.w k ≠ 0))).map (·.tx)
/-- Something is in the way of a user's wait. -/
abbrev NF (l : List (UsP K)) (u : UsP K) (k : K) : Prop := ∃ v ∈ l, v.tx ≠ u.tx ∧ (Apart (u.w k) (v.h k) ∨ (Old v u ∧ Apart (u.w k) (v.w k)))
/-- Whom a wait wounds, the older ones first. -/
def wndU (l : List (UsP K)) (t : TxN) (k : K) : List TxN := (sortU (l.filter fun y => decide (y.pr = false ∧ Old (getU l t) y ∧ Apart ((getU l t).w k) (y.h k)))).map (·.tx)
def lessU (l : List (UsP K)) (ts : List TxN) : List (UsP K) := l.filter fun u => decide (u.tx ∉ ts)
/-- What an Ask has ahead of the wounding. -/
def askU (l : List (UsP K)) (t : TxN) (tm : Nat) : List (UsP K) := if (usL l t).isSome then l else insU l ⟨t, tm, false, fun _ => 0, fun _ => 0⟩
def prepU (u : UsP K) : UsP K := { u with pr := true, h := fun k => if u.h k = 1 then 0 else u.h k }
/-- They rise, they are not too many, their numbers fit. -/
structure LkB (l : List (UsP K)) : Prop where
  rise : l.Pairwise fun a b => txO a.tx b.tx < 0
  few : l.length ≤ 64
  oks : ∀ u ∈ l, (u.tx.1 < 256 ∧ u.tx.2.1 < 4294967296 ∧ u.tx.2.2 < 4294967296) ∧ u.tm < 4294967296 ∧ (∀ k, u.h k ≤ 2) ∧ ∀ k, u.w k ≤ 2
/-- What holds at every moment. -/
structure LkM (l : List (UsP K)) : Prop where
  tog : ∀ u ∈ l, ∀ v ∈ l, u.tx ≠ v.tx → ∀ k, ¬ Apart (u.h k) (v.h k)
  held : ∀ u ∈ l, ∀ k, u.w k ≠ 0 → u.h k < u.w k
  prep : ∀ u ∈ l, u.pr = true → ∀ k, u.w k = 0 ∧ u.h k ≠ 1
  ages : ∀ u ∈ l, ∀ v ∈ l, ∀ k, u.tx ≠ v.tx → Apart (u.w k) (v.h k) → v.pr = true ∨ Old v u
/-- No wait of this key could be granted. -/
def WaitAt (l : List (UsP K)) (k : K) : Prop := ∀ u ∈ l, u.w k ≠ 0 → NF l u k
structure LkI (l : List (UsP K)) : Prop where
  b : LkB l
  m : LkM l
  w : ∀ k, WaitAt l k
theorem lkb_nil : LkB ([] : List (UsP K)) := ⟨List.Pairwise.nil, Nat.zero_le _, fun _ h => by cases h⟩
theorem lki_nil : LkI ([] : List (UsP K)) := ⟨lkb_nil, ⟨(fun _ h => by cases h), (fun _ h => by cases h), (fun _ h => by cases h), fun _ h => by cases h⟩, fun _ _ h => by cases h⟩
theorem usL_none {l : List (UsP K)} {t : TxN} : usL l t = none ↔ ∀ x ∈ l, x.tx ≠ t := by
  unfold usL
  rw [List.find?_eq_none]
  simp
theorem rise_eq : ∀ {l : List (UsP K)} (_ : l.Pairwise fun a b => txO a.tx b.tx < 0) {x y : UsP K}, x ∈ l → y ∈ l → x.tx = y.tx → x = y
  | [], _, _, _, h, _, _ => by cases h
  | z :: l, hp, x, y, hx, hy, e => by
    obtain ⟨h1, h2⟩ := List.pairwise_cons.1 hp
    rcases List.mem_cons.1 hx with e1 | hx'
    · rcases List.mem_cons.1 hy with e2 | hy'
      · rw [e1, e2]
      · have := h1 y hy'
        rw [← e, e1, (txO_zero _ _).2 rfl] at this
        omega
    · rcases List.mem_cons.1 hy with e2 | hy'
      · have := h1 x hx'
        rw [e, e2, (txO_zero _ _).2 rfl] at this
        omega
      · exact rise_eq h2 hx' hy' e
theorem usL_some {l : List (UsP K)} (h : LkB l) {t : TxN} {x : UsP K} : usL l t = some x ↔ x ∈ l ∧ x.tx = t := by
  constructor
  · intro hf
    have h1 := List.find?_some hf
    exact ⟨List.mem_of_find?_eq_some hf, by simpa using h1⟩
  · rintro ⟨hx, rfl⟩
    cases hf : usL l x.tx with
    | none => exact absurd rfl (usL_none.1 hf x hx)
    | some y =>
      have h1 : y.tx = x.tx := by have := List.find?_some hf; simpa using this
      rw [rise_eq h.rise (List.mem_of_find?_eq_some hf) hx h1]
theorem getU_of {l : List (UsP K)} (h : LkB l) {x : UsP K} (hx : x ∈ l) : getU l x.tx = x := by
  unfold getU
  rw [(usL_some h).2 ⟨hx, rfl⟩]
  rfl
theorem getU_none {l : List (UsP K)} {t : TxN} (h : usL l t = none) : getU l t = zeroU := by
  unfold getU
  rw [h]
  rfl
theorem updU_mem {l : List (UsP K)} {t : TxN} {f : UsP K → UsP K} {y : UsP K} : y ∈ updU l t f ↔ ∃ u ∈ l, y = if u.tx = t then f u else u := by
  unfold updU
  rw [List.mem_map]
  constructor
  · rintro ⟨u, hu, rfl⟩; exact ⟨u, hu, rfl⟩
  · rintro ⟨u, hu, rfl⟩; exact ⟨u, hu, rfl⟩
theorem insU_mem (l : List (UsP K)) (x y : UsP K) : y ∈ insU l x ↔ y = x ∨ y ∈ l := by
  unfold insU
  have e : y ∈ l ↔ y ∈ l.takeWhile (fun y => decide (txO y.tx x.tx < 0)) ∨ y ∈ l.dropWhile (fun y => decide (txO y.tx x.tx < 0)) := by rw [← List.mem_append, List.takeWhile_append_dropWhile]
  rw [e, List.mem_append, List.mem_cons]
  constructor
  · rintro (h | h | h)
    · exact .inr (.inl h)
    · exact .inl h
    · exact .inr (.inr h)
  · rintro (h | h | h)
    · exact .inr (.inl h)
    · exact .inl h
    · exact .inr (.inr h)
theorem insU_perm (l : List (UsP K)) (x : UsP K) : (insU l x).Perm (x :: l) := by
  unfold insU
  refine (List.perm_middle).trans (List.Perm.cons x ?_)
  rw [List.takeWhile_append_dropWhile]
theorem insU_rise {l : List (UsP K)} (h : l.Pairwise fun a b => txO a.tx b.tx < 0) {x : UsP K} (hn : usL l x.tx = none) : (insU l x).Pairwise fun a b => txO a.tx b.tx < 0 := by
  have hne := usL_none.1 hn
  unfold insU
  have hup : ∀ y ∈ l.takeWhile (fun y => decide (txO y.tx x.tx < 0)), txO y.tx x.tx < 0 := fun y hy => by
    have := List.all_eq_true.1 (List.all_takeWhile (p := fun y : UsP K => decide (txO y.tx x.tx < 0)) (l := l)) y hy
    simpa using this
  have hspl : (l.takeWhile (fun y => decide (txO y.tx x.tx < 0)) ++ l.dropWhile (fun y => decide (txO y.tx x.tx < 0))).Pairwise fun a b => txO a.tx b.tx < 0 := by rw [List.takeWhile_append_dropWhile]; exact h
  obtain ⟨h1, h2, h3⟩ := List.pairwise_append.1 hspl
  have hdn : ∀ y ∈ l.dropWhile (fun y => decide (txO y.tx x.tx < 0)), txO x.tx y.tx < 0 := by
    have hin : ∀ y ∈ l.dropWhile (fun y => decide (txO y.tx x.tx < 0)), y ∈ l := fun y hy => (List.dropWhile_suffix _).subset hy
    cases hd : l.dropWhile (fun y => decide (txO y.tx x.tx < 0)) with
    | nil => intro y hy; cases hy
    | cons z r =>
      have hz : ¬ txO z.tx x.tx < 0 := by
        have := List.head?_dropWhile_not (fun y : UsP K => decide (txO y.tx x.tx < 0)) l
        rw [hd] at this
        simpa using this
      rw [hd] at h2 hin
      have hzx : txO x.tx z.tx < 0 := by
        have e1 := txO_neg z.tx x.tx
        have e2 : txO z.tx x.tx ≠ 0 := fun e => hne z (hin z List.mem_cons_self) ((txO_zero _ _).1 e)
        omega
      intro y hy
      rcases List.mem_cons.1 hy with rfl | hy
      · exact hzx
      · exact txO_trans hzx ((List.pairwise_cons.1 h2).1 y hy)
  refine List.pairwise_append.2 ⟨h1, List.pairwise_cons.2 ⟨hdn, h2⟩, fun a ha b hb => ?_⟩
  rcases List.mem_cons.1 hb with rfl | hb
  · exact hup a ha
  · exact h3 a ha b hb
theorem insU_b {l : List (UsP K)} (h : LkB l) {x : UsP K} (hn : usL l x.tx = none) (hf : l.length < 64) (hx : (x.tx.1 < 256 ∧ x.tx.2.1 < 4294967296 ∧ x.tx.2.2 < 4294967296) ∧ x.tm < 4294967296 ∧ (∀ k, x.h k ≤ 2) ∧ ∀ k, x.w k ≤ 2) : LkB (insU l x) :=
  ⟨insU_rise h.rise hn, by rw [(insU_perm l x).length_eq, List.length_cons]; omega, fun u hu => by
    rcases (insU_mem l x u).1 hu with rfl | hu
    · exact hx
    · exact h.oks u hu⟩
theorem filter_b {l : List (UsP K)} (h : LkB l) (p : UsP K → Bool) : LkB (l.filter p) :=
  ⟨h.rise.filter p, Nat.le_trans (List.length_filter_le _ _) h.few, fun u hu => h.oks u (List.mem_filter.1 hu).1⟩
theorem updU_b {l : List (UsP K)} (h : LkB l) (t : TxN) (f : UsP K → UsP K) (hf : ∀ u ∈ l, (f u).tx = u.tx ∧ (f u).tm = u.tm ∧ (∀ k, (f u).h k ≤ 2) ∧ ∀ k, (f u).w k ≤ 2) : LkB (updU l t f) := by
  refine ⟨?_, by unfold updU; rw [List.length_map]; exact h.few, fun y hy => ?_⟩
  · unfold updU
    rw [List.pairwise_map]
    refine h.rise.imp_of_mem fun {a b} ha hb hab => ?_
    have e1 : (if a.tx = t then f a else a).tx = a.tx := by split; exact (hf a ha).1; rfl
    have e2 : (if b.tx = t then f b else b).tx = b.tx := by split; exact (hf b hb).1; rfl
    rw [e1, e2]
    exact hab
  · obtain ⟨u, hu, rfl⟩ := updU_mem.1 hy
    have h0 := h.oks u hu
    have h1 := hf u hu
    split
    · exact ⟨by rw [h1.1]; exact h0.1, by rw [h1.2.1]; exact h0.2.1, h1.2.2⟩
    · exact h0
/-- The sorted ones. -/
theorem sortU_mem (l : List (UsP K)) (u : UsP K) : u ∈ sortU l ↔ u ∈ l := (List.mergeSort_perm l _).mem_iff
theorem sortU_old {l : List (UsP K)} (hd : l.Pairwise fun a b => a.tx ≠ b.tx) : (sortU l).Pairwise Old := by
  have h1 : (sortU l).Pairwise fun a b => !decide (Old b a) := List.pairwise_mergeSort (le := fun x y : UsP K => !decide (Old y x)) (fun a b c h1 h2 => by
      simp only [Bool.not_eq_true', decide_eq_false_iff_not] at h1 h2 ⊢
      unfold Old at *
      intro h3
      have e1 := stsF_neg a.ag b.ag
      have e2 := stsF_neg b.ag c.ag
      have h4 := lexF_trans (stL a.ag) (stL b.ag) (stL c.ag) rfl rfl (by unfold stsF at *; omega) (by unfold stsF at *; omega)
      have e3 := stsF_neg a.ag c.ag
      unfold stsF at *
      omega) (fun a b => by
      simp only [Bool.or_eq_true, Bool.not_eq_true', decide_eq_false_iff_not]
      by_cases h : Old b a
      · exact .inr h.asymm
      · exact .inl h) l
  have h2 : (sortU l).Pairwise fun a b => a.tx ≠ b.tx := (List.mergeSort_perm l _).symm.pairwise hd (fun {a b} h e => h e.symm)
  refine (h1.and h2).imp fun {a b} h => ?_
  have h3 : ¬ Old b a := by simpa using h.1
  exact (old_total h.2).resolve_right h3
theorem rise_ne {l : List (UsP K)} (h : LkB l) : l.Pairwise fun a b => a.tx ≠ b.tx := h.rise.imp fun {a b} h e => by rw [e, (txO_zero _ _).2 rfl] at h; omega
theorem queU_mem {l : List (UsP K)} {k : K} {t : TxN} : t ∈ queU l k ↔ ∃ u ∈ l, u.w k ≠ 0 ∧ u.tx = t := by
  unfold queU
  rw [List.mem_map]
  constructor
  · rintro ⟨u, hu, rfl⟩
    have := List.mem_filter.1 ((sortU_mem _ u).1 hu)
    exact ⟨u, this.1, by simpa using this.2, rfl⟩
  · rintro ⟨u, hu, hw, rfl⟩
    exact ⟨u, (sortU_mem _ u).2 (List.mem_filter.2 ⟨hu, by simpa using hw⟩), rfl⟩
/-- Names by their users' ages. -/
abbrev OldN (l : List (UsP K)) (a b : TxN) : Prop := Old (getU l a) (getU l b)
theorem sorted_names {l : List (UsP K)} (h : LkB l) (p : UsP K → Bool) : ((sortU (l.filter p)).map (·.tx)).Pairwise (OldN l) := by
  rw [List.pairwise_map]
  refine (sortU_old (rise_ne (filter_b h p))).imp_of_mem fun {a b} ha hb hab => ?_
  have ha' := (List.mem_filter.1 ((sortU_mem _ a).1 ha)).1
  have hb' := (List.mem_filter.1 ((sortU_mem _ b).1 hb)).1
  unfold OldN
  rw [getU_of h ha', getU_of h hb']
  exact hab
theorem queU_old {l : List (UsP K)} (h : LkB l) (k : K) : (queU l k).Pairwise (OldN l) := sorted_names h _
theorem wndU_mem {l : List (UsP K)} {t : TxN} {k : K} {x : TxN} : x ∈ wndU l t k ↔ ∃ y ∈ l, (y.pr = false ∧ Old (getU l t) y ∧ Apart ((getU l t).w k) (y.h k)) ∧ y.tx = x := by
  unfold wndU
  rw [List.mem_map]
  constructor
  · rintro ⟨u, hu, rfl⟩
    have := List.mem_filter.1 ((sortU_mem _ u).1 hu)
    exact ⟨u, this.1, by simpa using this.2, rfl⟩
  · rintro ⟨u, hu, hw, rfl⟩
    exact ⟨u, (sortU_mem _ u).2 (List.mem_filter.2 ⟨hu, by simpa using hw⟩), rfl⟩
/-- One list of names by age. -/
theorem names_unique {l : List (UsP K)} {a b : List TxN} (h1 : a.Pairwise (OldN l)) (h2 : b.Pairwise (OldN l)) (hm : ∀ t, t ∈ a ↔ t ∈ b) : a = b := by
  have nd : ∀ {c : List TxN}, c.Pairwise (OldN l) → c.Nodup := fun h => h.imp fun {x y} hxy e => by subst e; exact hxy.asymm hxy
  exact List.Perm.eq_of_pairwise (le := OldN l) (fun x y _ _ h3 h4 => absurd h4 h3.asymm) h1 h2 ((List.perm_ext_iff_of_nodup (nd h1) (nd h2)).2 hm)
end
section
variable {K : Type} [DecidableEq K]
def grU (k : K) (u : UsP K) : UsP K := { u with h := fun k' => if k' = k then max (u.h k) (u.w k) else u.h k', w := fun k' => if k' = k then 0 else u.w k' }
/-- To go on with one wait, with those of one key, with many keys. -/
def stepS (l : List (UsP K)) (t : TxN) (k : K) : List (UsP K) := if NF l (getU l t) k then l else updU l t (grU k)
def stepG (l : List (UsP K)) (t : TxN) (k : K) : List (GtP K) := if NF l (getU l t) k then [] else [⟨t, k, max ((getU l t).h k) ((getU l t).w k)⟩]
def onQS (k : K) : List (UsP K) → List TxN → List (UsP K)
  | l, [] => l
  | l, t :: q => onQS k (stepS l t k) q
def onQG (k : K) : List (UsP K) → List TxN → List (GtP K)
  | _, [] => []
  | l, t :: q => stepG l t k ++ onQG k (stepS l t k) q
def onS1 (l : List (UsP K)) (k : K) : List (UsP K) := onQS k l (queU l k)
def onG1 (l : List (UsP K)) (k : K) : List (GtP K) := onQG k l (queU l k)
def onAS : List (UsP K) → List K → List (UsP K)
  | l, [] => l
  | l, k :: ks => onAS (onS1 l k) ks
def onAG : List (UsP K) → List K → List (GtP K)
  | _, [] => []
  | l, k :: ks => onG1 l k ++ onAG (onS1 l k) ks
def waitU (k : K) (m : Nat) (u : UsP K) : UsP K := { u with w := fun k' => if k' = k then max (u.w k) m else u.w k' }
def restU (t : TxN) (ks : List K) : UsP K := ⟨t, 0, true, fun k => if k ∈ ks then 2 else 0, fun _ => 0⟩
theorem grU_ok {l : List (UsP K)} (h : LkB l) (k : K) : ∀ u ∈ l, (grU k u).tx = u.tx ∧ (grU k u).tm = u.tm ∧ (∀ k', (grU k u).h k' ≤ 2) ∧ ∀ k', (grU k u).w k' ≤ 2 := fun u hu => by
  have h0 := h.oks u hu
  refine ⟨rfl, rfl, fun k' => ?_, fun k' => ?_⟩
  · show (if k' = k then max (u.h k) (u.w k) else u.h k') ≤ 2
    have := h0.2.2.1 k
    have := h0.2.2.2 k
    have := h0.2.2.1 k'
    split <;> omega
  · show (if k' = k then 0 else u.w k') ≤ 2
    have := h0.2.2.2 k'
    split <;> omega
theorem step_b {l : List (UsP K)} (h : LkB l) (t : TxN) (k : K) : LkB (stepS l t k) := by
  unfold stepS
  split
  · exact h
  · exact updU_b h t _ (grU_ok h k)
theorem onQ_b (k : K) : ∀ (q : List TxN) {l : List (UsP K)} (_ : LkB l), LkB (onQS k l q)
  | [], _, h => h
  | t :: q, _, h => onQ_b k q (step_b h t k)
theorem onA_b : ∀ (ks : List K) {l : List (UsP K)} (_ : LkB l), LkB (onAS l ks)
  | [], _, h => h
  | _ :: ks, _, h => onA_b ks (onQ_b _ _ h)
end
end
section
section
variable {K : Type}
/-- Behind a part of the users went. -/
theorem filter_m {l : List (UsP K)} (hm : LkM l) (p : UsP K → Bool) : LkM (l.filter p) :=
  ⟨fun u hu v hv => hm.tog u (List.mem_filter.1 hu).1 v (List.mem_filter.1 hv).1, fun u hu => hm.held u (List.mem_filter.1 hu).1, fun u hu => hm.prep u (List.mem_filter.1 hu).1, fun u hu v hv => hm.ages u (List.mem_filter.1 hu).1 v (List.mem_filter.1 hv).1⟩
theorem filter_w {l : List (UsP K)} {k : K} (hw : WaitAt l k) (p : UsP K → Bool) (hp : ∀ v ∈ l, p v = false → v.h k = 0 ∧ v.w k = 0) : WaitAt (l.filter p) k := fun u hu h0 => by
  obtain ⟨v, hv, e, ha⟩ := hw u (List.mem_filter.1 hu).1 h0
  refine ⟨v, List.mem_filter.2 ⟨hv, ?_⟩, e, ha⟩
  cases hc : p v with
  | true => rfl
  | false =>
    obtain ⟨h1, h2⟩ := hp v hv hc
    rcases ha with ha | ⟨_, ha⟩
    · exact absurd h1 ha.2.1
    · exact absurd h2 ha.2.1
/-- Somebody holds what somebody waits for. -/
theorem queU_head {l : List (UsP K)} (h : LkI l) {k : K} {t : TxN} {q : List TxN} (hq : queU l k = t :: q) : ∃ u ∈ l, u.tx = t ∧ u.w k ≠ 0 ∧ ∃ v ∈ l, v.tx ≠ t ∧ Apart (u.w k) (v.h k) := by
  obtain ⟨u, hu, hw, e⟩ := queU_mem.1 (by rw [hq]; exact List.mem_cons_self : t ∈ queU l k)
  obtain ⟨v, hv, en, ha⟩ := h.w k u hu hw
  refine ⟨u, hu, e, hw, ?_⟩
  rcases ha with ha | ⟨ho, ha⟩
  · exact ⟨v, hv, by rw [← e]; exact en, ha⟩
  · have hvq : v.tx ∈ queU l k := queU_mem.2 ⟨v, hv, ha.2.1, rfl⟩
    have hp := queU_old h.b k
    rw [hq] at hvq hp
    rcases List.mem_cons.1 hvq with e2 | hvq
    · exact absurd (e2.trans e.symm) en
    · have := (List.pairwise_cons.1 hp).1 _ hvq
      unfold OldN at this
      rw [← e, getU_of h.b hu, getU_of h.b hv] at this
      exact absurd ho this.asymm
theorem wait_held {l : List (UsP K)} (h : LkI l) {k : K} {u : UsP K} (hu : u ∈ l) (hw : u.w k ≠ 0) : ∃ v ∈ l, v.h k ≠ 0 := by
  have hm : u.tx ∈ queU l k := queU_mem.2 ⟨u, hu, hw, rfl⟩
  cases hq : queU l k with
  | nil => rw [hq] at hm; cases hm
  | cons t q =>
    obtain ⟨_, _, _, _, v, hv, _, ha⟩ := queU_head h hq
    exact ⟨v, hv, ha.2.1⟩
/-- A new user. -/
theorem new_ok {l : List (UsP K)} (h : LkI l) {t : TxN} {tm : Nat} (hn : usL l t = none) (ht : t.1 < 256 ∧ t.2.1 < 4294967296 ∧ t.2.2 < 4294967296) (htm : tm < 4294967296) (hf : l.length < 64) : LkI (insU l (⟨t, tm, false, fun _ => 0, fun _ => 0⟩ : UsP K)) := by
  refine ⟨insU_b h.b (x := (⟨t, tm, false, fun _ => 0, fun _ => 0⟩ : UsP K)) hn hf ⟨ht, htm, fun k => by show 0 ≤ 2; decide, fun k => by show 0 ≤ 2; decide⟩, ⟨fun u hu v hv e k => ?_, fun u hu k hw => ?_, fun u hu hp k => ?_, fun u hu v hv k e ha => ?_⟩, fun k u hu h0 => ?_⟩
  · rcases (insU_mem l _ u).1 hu with rfl | hu
    · exact fun ha => ha.1 rfl
    · rcases (insU_mem l _ v).1 hv with rfl | hv
      · exact fun ha => ha.2.1 rfl
      · exact h.m.tog u hu v hv e k
  · rcases (insU_mem l _ u).1 hu with rfl | hu
    · exact absurd rfl hw
    · exact h.m.held u hu k hw
  · rcases (insU_mem l _ u).1 hu with rfl | hu
    · cases hp
    · exact h.m.prep u hu hp k
  · rcases (insU_mem l _ v).1 hv with rfl | hv
    · exact absurd rfl ha.2.1
    · rcases (insU_mem l _ u).1 hu with rfl | hu
      · exact absurd rfl ha.1
      · exact h.m.ages u hu v hv k e ha
  · rcases (insU_mem l _ u).1 hu with rfl | hu
    · exact absurd rfl h0
    · obtain ⟨v, hv, r⟩ := h.w k u hu h0
      exact ⟨v, (insU_mem l _ v).2 (.inr hv), r⟩
end
section
variable {K : Type} [DecidableEq K]
/-- What one granted wait leaves of another user. -/
theorem step_mem {l : List (UsP K)} (h : LkB l) {x : UsP K} (hx : x ∈ l) {k : K} (hf : ¬ NF l x k) {v : UsP K} : v ∈ stepS l x.tx k ↔ (v ∈ l ∧ v.tx ≠ x.tx) ∨ v = grU k x := by
  unfold stepS
  rw [getU_of h hx, if_neg hf, updU_mem]
  constructor
  · rintro ⟨u, hu, rfl⟩
    by_cases e : u.tx = x.tx
    · rw [if_pos e, rise_eq h.rise hu hx e]
      exact .inr rfl
    · rw [if_neg e]
      exact .inl ⟨hu, e⟩
  · rintro (⟨hv, e⟩ | rfl)
    · exact ⟨v, hv, by rw [if_neg e]⟩
    · exact ⟨x, hx, by rw [if_pos rfl]⟩
theorem step_stay {l : List (UsP K)} (h : LkB l) {x : UsP K} (hx : x ∈ l) {k : K} (hf : NF l x k) : stepS l x.tx k = l := by
  unfold stepS
  rw [getU_of h hx, if_pos hf]
theorem gr_h {k : K} {x : UsP K} : (grU k x).h k = max (x.h k) (x.w k) := by show (if k = k then _ else _) = _; rw [if_pos rfl]
theorem gr_w {k : K} {x : UsP K} : (grU k x).w k = 0 := by show (if k = k then _ else _) = _; rw [if_pos rfl]
theorem gr_h' {k k' : K} {x : UsP K} (e : k' ≠ k) : (grU k x).h k' = x.h k' := by show (if k' = k then _ else _) = _; rw [if_neg e]
theorem gr_w' {k k' : K} {x : UsP K} (e : k' ≠ k) : (grU k x).w k' = x.w k' := by show (if k' = k then _ else _) = _; rw [if_neg e]
theorem step_m {l : List (UsP K)} (h : LkB l) (hm : LkM l) {x : UsP K} (hx : x ∈ l) {k : K} (hw : x.w k ≠ 0) : LkM (stepS l x.tx k) := by
  by_cases hf : NF l x k
  · rw [step_stay h hx hf]; exact hm
  have hh := hm.held x hx k hw
  have hmax : max (x.h k) (x.w k) = x.w k := by omega
  have hno : ∀ v ∈ l, v.tx ≠ x.tx → ¬ Apart (x.w k) (v.h k) := fun v hv e ha => hf ⟨v, hv, e, .inl ha⟩
  have hno2 : ∀ v ∈ l, v.tx ≠ x.tx → Old v x → ¬ Apart (x.w k) (v.w k) := fun v hv e ho ha => hf ⟨v, hv, e, .inr ⟨ho, ha⟩⟩
  refine ⟨fun u hu v hv e k' => ?_, fun u hu k' hw' => ?_, fun u hu hp k' => ?_, fun u hu v hv k' e ha => ?_⟩
  · rcases (step_mem h hx hf).1 hu with ⟨hu1, eu⟩ | rfl
    · rcases (step_mem h hx hf).1 hv with ⟨hv1, ev⟩ | rfl
      · exact hm.tog u hu1 v hv1 e k'
      · by_cases ek : k' = k
        · subst ek
          rw [gr_h, hmax]
          exact fun ha => hno u hu1 eu ha.symm
        · rw [gr_h' ek]
          exact hm.tog u hu1 x hx eu k'
    · rcases (step_mem h hx hf).1 hv with ⟨hv1, ev⟩ | rfl
      · by_cases ek : k' = k
        · subst ek
          rw [gr_h, hmax]
          exact hno v hv1 ev
        · rw [gr_h' ek]
          exact hm.tog x hx v hv1 e k'
      · exact absurd rfl e
  · rcases (step_mem h hx hf).1 hu with ⟨hu1, eu⟩ | rfl
    · exact hm.held u hu1 k' hw'
    · by_cases ek : k' = k
      · subst ek
        exact absurd gr_w hw'
      · rw [gr_w' ek] at hw' ⊢
        rw [gr_h' ek]
        exact hm.held x hx k' hw'
  · rcases (step_mem h hx hf).1 hu with ⟨hu1, eu⟩ | rfl
    · exact hm.prep u hu1 hp k'
    · exact absurd (hm.prep x hx hp k).1 hw
  · rcases (step_mem h hx hf).1 hu with ⟨hu1, eu⟩ | rfl
    · rcases (step_mem h hx hf).1 hv with ⟨hv1, ev⟩ | rfl
      · exact hm.ages u hu1 v hv1 k' e ha
      · by_cases ek : k' = k
        · subst ek
          rw [gr_h, hmax] at ha
          rcases old_total (u := x) (v := u) (fun e2 => eu e2.symm) with ho | ho
          · exact .inr ho
          · exact absurd ha.symm (hno2 u hu1 eu ho)
        · rw [gr_h' ek] at ha
          exact hm.ages u hu1 x hx k' eu ha
    · rcases (step_mem h hx hf).1 hv with ⟨hv1, ev⟩ | rfl
      · by_cases ek : k' = k
        · subst ek
          rw [gr_w] at ha
          exact absurd rfl ha.1
        · rw [gr_w' ek] at ha
          exact hm.ages x hx v hv1 k' e ha
      · exact absurd rfl e
/-- Another key's waits stay. -/
theorem step_other {l : List (UsP K)} (h : LkB l) {x : UsP K} (hx : x ∈ l) {k k' : K} (ek : k' ≠ k) : WaitAt (stepS l x.tx k) k' ↔ WaitAt l k' := by
  by_cases hf : NF l x k
  · rw [step_stay h hx hf]
  have up : ∀ v ∈ l, ∃ v' ∈ stepS l x.tx k, v'.tx = v.tx ∧ v'.tm = v.tm ∧ v'.h k' = v.h k' ∧ v'.w k' = v.w k' := fun v hv => by
    by_cases e : v.tx = x.tx
    · have := rise_eq h.rise hv hx e
      subst this
      exact ⟨grU k v, (step_mem h hx hf).2 (.inr rfl), rfl, rfl, gr_h' ek, gr_w' ek⟩
    · exact ⟨v, (step_mem h hx hf).2 (.inl ⟨hv, e⟩), rfl, rfl, rfl, rfl⟩
  have dn : ∀ v' ∈ stepS l x.tx k, ∃ v ∈ l, v'.tx = v.tx ∧ v'.tm = v.tm ∧ v'.h k' = v.h k' ∧ v'.w k' = v.w k' := fun v' hv => by
    rcases (step_mem h hx hf).1 hv with ⟨hv, e⟩ | rfl
    · exact ⟨v', hv, rfl, rfl, rfl, rfl⟩
    · exact ⟨x, hx, rfl, rfl, gr_h' ek, gr_w' ek⟩
  constructor
  · intro hw u hu hu0
    obtain ⟨u', hu', e1, e2, e3, e4⟩ := up u hu
    obtain ⟨v', hv', f1, f2⟩ := hw u' hu' (by rw [e4]; exact hu0)
    obtain ⟨v, hv, g1, g2, g3, g4⟩ := dn v' hv'
    refine ⟨v, hv, by rw [← g1, ← e1]; exact f1, ?_⟩
    rw [e4, g3, g4] at f2
    refine f2.imp id fun ⟨h1, h2⟩ => ⟨?_, h2⟩
    unfold Old UsP.ag at h1 ⊢
    rw [← e1, ← e2, ← g1, ← g2]
    exact h1
  · intro hw u' hu' hu0
    obtain ⟨u, hu, e1, e2, e3, e4⟩ := dn u' hu'
    obtain ⟨v, hv, f1, f2⟩ := hw u hu (by rw [← e4]; exact hu0)
    obtain ⟨v', hv', g1, g2, g3, g4⟩ := up v hv
    refine ⟨v', hv', by rw [g1, e1]; exact f1, ?_⟩
    rw [e4, g3, g4]
    refine f2.imp id fun ⟨h1, h2⟩ => ⟨?_, h2⟩
    unfold Old UsP.ag at h1 ⊢
    rw [e1, e2, g1, g2]
    exact h1
theorem step_get {l : List (UsP K)} (h : LkB l) {x : UsP K} (hx : x ∈ l) (k : K) {u : UsP K} (hu : u ∈ l) (e : u.tx ≠ x.tx) : u ∈ stepS l x.tx k := by
  by_cases hf : NF l x k
  · rw [step_stay h hx hf]; exact hu
  · exact (step_mem h hx hf).2 (.inl ⟨hu, e⟩)
/-- Along a queue: those that were looked at and wait still could not be granted. -/
theorem onQ_ok (k : K) : ∀ (q : List TxN) {l : List (UsP K)} (_ : LkB l) (_ : LkM l) (_ : ∀ t ∈ q, ∃ u ∈ l, u.tx = t ∧ u.w k ≠ 0) (_ : q.Pairwise (OldN l))
    (_ : ∀ u ∈ l, u.w k ≠ 0 → u.tx ∉ q → NF l u k ∧ ∀ t ∈ q, OldN l u.tx t),
    LkM (onQS k l q) ∧ WaitAt (onQS k l q) k ∧ ∀ k', k' ≠ k → (WaitAt (onQS k l q) k' ↔ WaitAt l k')
  | [], l, h, hm, _, _, hd => ⟨hm, fun u hu hw => (hd u hu hw (by simp)).1, fun _ _ => Iff.rfl⟩
  | t :: q, l, h, hm, hq, hp, hd => by
    obtain ⟨x, hx, rfl, hw⟩ := hq t List.mem_cons_self
    obtain ⟨hp1, hp2⟩ := List.pairwise_cons.1 hp
    have hb' := step_b h x.tx k
    have hm' := step_m h hm hx hw
    have hne : ∀ t ∈ q, t ≠ x.tx := fun t ht e => by
      have := hp1 t ht
      rw [e] at this
      exact this.asymm this
    have hin : ∀ t ∈ q, ∃ u ∈ l, u.tx = t ∧ u.w k ≠ 0 := fun t ht => hq t (List.mem_cons_of_mem _ ht)
    have hin' : ∀ t ∈ q, ∃ u ∈ stepS l x.tx k, u.tx = t ∧ u.w k ≠ 0 := fun t ht => by
      obtain ⟨u, hu, e, hw'⟩ := hin t ht
      exact ⟨u, step_get h hx k hu (by rw [e]; exact hne t ht), e, hw'⟩
    -- ages stay
    have hag : ∀ u ∈ l, (getU (stepS l x.tx k) u.tx).ag = u.ag := fun u hu => by
      by_cases hf : NF l x k
      · rw [step_stay h hx hf, getU_of h hu]
      · by_cases e : u.tx = x.tx
        · have := rise_eq h.rise hu hx e
          subst this
          have := getU_of hb' ((step_mem h hu hf).2 (.inr rfl))
          have e2 : (grU k u).tx = u.tx := rfl
          rw [e2] at this
          rw [this]
          rfl
        · rw [getU_of hb' ((step_mem h hx hf).2 (.inl ⟨hu, e⟩))]
    have hagg : ∀ t t', (∃ u ∈ l, u.tx = t) → (∃ u ∈ l, u.tx = t') → OldN l t t' → OldN (stepS l x.tx k) t t' := fun t t' ⟨u, hu, e⟩ ⟨v, hv, e'⟩ ho => by
      subst e e'
      unfold OldN Old at ho ⊢
      rw [hag u hu, hag v hv]
      rw [getU_of h hu, getU_of h hv] at ho
      exact ho
    have res := onQ_ok k q hb' hm' hin' (hp2.imp_of_mem fun {a b} ha hb hab => hagg a b (by obtain ⟨u, hu, e, _⟩ := hin a ha; exact ⟨u, hu, e⟩) (by obtain ⟨u, hu, e, _⟩ := hin b hb; exact ⟨u, hu, e⟩) hab) (fun u hu hwu hnq => by
      by_cases hf : NF l x k
      · rw [step_stay h hx hf] at hu ⊢
        by_cases e : u.tx = x.tx
        · have := rise_eq h.rise hu hx e
          subst this
          exact ⟨hf, fun t ht => hp1 t ht⟩
        · obtain ⟨h1, h2⟩ := hd u hu hwu (fun hi => (List.mem_cons.1 hi).elim e hnq)
          exact ⟨h1, fun t ht => h2 t (List.mem_cons_of_mem _ ht)⟩
      · rcases (step_mem h hx hf).1 hu with ⟨hu0, e⟩ | rfl
        · obtain ⟨⟨v, hv, hvn, hv2⟩, h2⟩ := hd u hu0 hwu (fun hi => (List.mem_cons.1 hi).elim e hnq)
          have hux := h2 x.tx List.mem_cons_self
          unfold OldN at hux
          rw [getU_of h hu0, getU_of h hx] at hux
          refine ⟨?_, fun t ht => hagg _ _ ⟨u, hu0, rfl⟩ (by obtain ⟨u', hu', e', _⟩ := hin t ht; exact ⟨u', hu', e'⟩) (h2 t (List.mem_cons_of_mem _ ht))⟩
          by_cases ev : v.tx = x.tx
          · have := rise_eq h.rise hv hx ev
            subst this
            rcases hv2 with ha | ⟨ho, _⟩
            · refine ⟨grU k v, (step_mem h hv hf).2 (.inr rfl), hvn, .inl ?_⟩
              rw [gr_h]
              have h0 := h.oks v hv
              have := h0.2.2.1 k
              have := h0.2.2.2 k
              exact ha.grow (by omega) (by omega)
            · exact absurd ho hux.asymm
          · exact ⟨v, (step_mem h hx hf).2 (.inl ⟨hv, ev⟩), hvn, hv2⟩
        · exact absurd gr_w hwu)
    refine ⟨res.1, res.2.1, fun k' ek => (res.2.2 k' ek).trans (step_other h hx ek)⟩
theorem on1_ok {l : List (UsP K)} (h : LkB l) (hm : LkM l) (k : K) : LkM (onS1 l k) ∧ WaitAt (onS1 l k) k ∧ ∀ k', k' ≠ k → (WaitAt (onS1 l k) k' ↔ WaitAt l k') :=
  onQ_ok k (queU l k) h hm (fun t ht => by obtain ⟨u, hu, hw, e⟩ := queU_mem.1 ht; exact ⟨u, hu, e, hw⟩) (queU_old h k) (fun u hu hw hn => absurd (queU_mem.2 ⟨u, hu, hw, rfl⟩) hn)
theorem onA_ok : ∀ (ks : List K) {l : List (UsP K)} (_ : LkB l) (_ : LkM l) (_ : ∀ k, k ∉ ks → WaitAt l k), LkI (onAS l ks)
  | [], l, h, hm, hw => ⟨h, hm, fun k => hw k (by simp)⟩
  | k :: ks, l, h, hm, hw => by
    have h1 := on1_ok h hm k
    refine onA_ok ks (onQ_b _ _ h) h1.1 (fun k' hk => ?_)
    by_cases e : k' = k
    · rw [e]; exact h1.2.1
    · exact (h1.2.2 k' e).2 (hw k' (fun hi => (List.mem_cons.1 hi).elim e hk))
/-- Let go of a user. -/
theorem drop_ok {l : List (UsP K)} (h : LkI l) (t : TxN) (ks : List K) (hks : ∀ k, k ∉ ks → (getU l t).h k = 0 ∧ (getU l t).w k = 0) : LkI (onAS (dropU l t) ks) :=
  onA_ok ks (filter_b h.b _) (filter_m h.m _) (fun k hk => filter_w (h.w k) _ (fun v hv hp => by
    have e : v.tx = t := by simpa using hp
    have := hks k hk
    rw [← e, getU_of h.b hv] at this
    exact this))
/-- Prepared. -/
theorem prep_ok {l : List (UsP K)} (h : LkI l) {x : UsP K} (hx : x ∈ l) (hw : ∀ k, x.w k = 0) (ks : List K) (hks : ∀ k, k ∉ ks → x.h k ≠ 1) : LkI (onAS (updU l x.tx prepU) ks) := by
  have hmem : ∀ {v}, v ∈ updU l x.tx prepU ↔ (v ∈ l ∧ v.tx ≠ x.tx) ∨ v = prepU x := fun {v} => by
    rw [updU_mem]
    constructor
    · rintro ⟨u, hu, rfl⟩
      by_cases e : u.tx = x.tx
      · rw [if_pos e, rise_eq h.b.rise hu hx e]; exact .inr rfl
      · rw [if_neg e]; exact .inl ⟨hu, e⟩
    · rintro (⟨hv, e⟩ | rfl)
      · exact ⟨v, hv, by rw [if_neg e]⟩
      · exact ⟨x, hx, by rw [if_pos rfl]⟩
  have hh : ∀ k, (prepU x).h k = if x.h k = 1 then 0 else x.h k := fun k => rfl
  have hsub : ∀ {a : Nat} {k}, Apart a ((prepU x).h k) → Apart a (x.h k) := fun {a k} ha => by
    rw [hh] at ha
    by_cases e : x.h k = 1
    · rw [if_pos e] at ha; exact absurd rfl ha.2.1
    · rw [if_neg e] at ha; exact ha
  refine onA_ok ks ?_ ⟨fun u hu v hv e k => ?_, fun u hu k hw' => ?_, fun u hu hp k => ?_, fun u hu v hv k e ha => ?_⟩ (fun k hk u hu h0 => ?_)
  · refine updU_b h.b _ _ (fun u hu => ⟨rfl, rfl, fun k => ?_, (h.b.oks u hu).2.2.2⟩)
    show (if u.h k = 1 then 0 else u.h k) ≤ 2
    have := (h.b.oks u hu).2.2.1 k
    split <;> omega
  · rcases hmem.1 hu with ⟨hu, eu⟩ | rfl
    · rcases hmem.1 hv with ⟨hv, ev⟩ | rfl
      · exact h.m.tog u hu v hv e k
      · exact fun ha => h.m.tog u hu x hx eu k (hsub ha)
    · rcases hmem.1 hv with ⟨hv, ev⟩ | rfl
      · exact fun ha => h.m.tog v hv x hx ev k (hsub ha.symm)
      · exact absurd rfl e
  · rcases hmem.1 hu with ⟨hu, eu⟩ | rfl
    · exact h.m.held u hu k hw'
    · exact absurd (hw k) hw'
  · rcases hmem.1 hu with ⟨hu, eu⟩ | rfl
    · exact h.m.prep u hu hp k
    · refine ⟨hw k, ?_⟩
      rw [hh]
      split <;> omega
  · rcases hmem.1 hu with ⟨hu, eu⟩ | rfl
    · rcases hmem.1 hv with ⟨hv, ev⟩ | rfl
      · exact h.m.ages u hu v hv k e ha
      · exact .inl rfl
    · exact absurd (hw k) ha.1
  · rcases hmem.1 hu with ⟨hu, eu⟩ | rfl
    · obtain ⟨v, hv, e, ha⟩ := h.w k u hu h0
      by_cases ev : v.tx = x.tx
      · have := rise_eq h.b.rise hv hx ev
        subst this
        refine ⟨prepU v, hmem.2 (.inr rfl), e, ?_⟩
        have e1 : (prepU v).h k = v.h k := by rw [hh, if_neg (hks k hk)]
        rw [e1]
        exact ha
      · exact ⟨v, hmem.2 (.inl ⟨hv, ev⟩), e, ha⟩
    · exact absurd (hw k) h0
/-- Restored. -/
theorem rest_ok {l : List (UsP K)} (h : LkI l) {t : TxN} (hn : usL l t = none) (ht : t.1 < 256 ∧ t.2.1 < 4294967296 ∧ t.2.2 < 4294967296) (hf : l.length < 64) (ks : List K) (hks : ∀ k ∈ ks, ∀ u ∈ l, u.h k = 0) : LkI (insU l (restU t ks)) := by
  have hne := usL_none.1 hn
  have hr : ∀ k, (restU t ks).h k = if k ∈ ks then 2 else 0 := fun k => rfl
  have hnw : ∀ k ∈ ks, ∀ u ∈ l, u.w k = 0 := fun k hk u hu => by
    by_cases h0 : u.w k = 0
    · exact h0
    · obtain ⟨v, hv, h1⟩ := wait_held h hu h0
      exact absurd (hks k hk v hv) h1
  refine ⟨insU_b h.b (x := restU t ks) hn hf ⟨ht, by show 0 < 4294967296; decide, fun k => by rw [hr]; split <;> omega, fun k => by show 0 ≤ 2; decide⟩, ⟨fun u hu v hv e k => ?_, fun u hu k hw => ?_, fun u hu hp k => ?_, fun u hu v hv k e ha => ?_⟩, fun k u hu h0 => ?_⟩
  · rcases (insU_mem l _ u).1 hu with rfl | hu
    · rcases (insU_mem l _ v).1 hv with rfl | hv
      · exact absurd rfl e
      · rw [hr]
        by_cases hk : k ∈ ks
        · rw [hks k hk v hv]; exact fun ha => ha.2.1 rfl
        · rw [if_neg hk]; exact fun ha => ha.1 rfl
    · rcases (insU_mem l _ v).1 hv with rfl | hv
      · rw [hr]
        by_cases hk : k ∈ ks
        · rw [hks k hk u hu]; exact fun ha => ha.1 rfl
        · rw [if_neg hk]; exact fun ha => ha.2.1 rfl
      · exact h.m.tog u hu v hv e k
  · rcases (insU_mem l _ u).1 hu with rfl | hu
    · exact absurd rfl hw
    · exact h.m.held u hu k hw
  · rcases (insU_mem l _ u).1 hu with rfl | hu
    · refine ⟨rfl, ?_⟩
      rw [hr]
      split <;> omega
    · exact h.m.prep u hu hp k
  · rcases (insU_mem l _ v).1 hv with rfl | hv
    · exact .inl rfl
    · rcases (insU_mem l _ u).1 hu with rfl | hu
      · exact absurd rfl ha.1
      · exact h.m.ages u hu v hv k e ha
  · rcases (insU_mem l _ u).1 hu with rfl | hu
    · exact absurd rfl h0
    · obtain ⟨v, hv, r⟩ := h.w k u hu h0
      exact ⟨v, (insU_mem l _ v).2 (.inr hv), r⟩
/-- An Ask's wait, the wounding, and to go on. -/
theorem wound_ok {l : List (UsP K)} (h : LkI l) {x : UsP K} (hx : x ∈ l) (hp : x.pr = false) {k : K} {m : Nat} (hm0 : x.h k < m) (hm2 : m ≤ 2) (ks : List K)
    (hks : ∀ k', k' ∉ ks → k' ≠ k ∧ ∀ y ∈ updU l x.tx (waitU k m), y.tx ∈ wndU (updU l x.tx (waitU k m)) x.tx k → y.h k' = 0 ∧ y.w k' = 0) :
    LkI (onAS (lessU (updU l x.tx (waitU k m)) (wndU (updU l x.tx (waitU k m)) x.tx k)) ks) := by
  have hb2 : LkB (updU l x.tx (waitU k m)) := updU_b h.b _ _ (fun u hu => ⟨rfl, rfl, (h.b.oks u hu).2.2.1, fun k' => by
    show (if k' = k then max (u.w k) m else u.w k') ≤ 2
    have := (h.b.oks u hu).2.2.2 k
    have := (h.b.oks u hu).2.2.2 k'
    split <;> omega⟩)
  have hmem : ∀ {v}, v ∈ updU l x.tx (waitU k m) ↔ (v ∈ l ∧ v.tx ≠ x.tx) ∨ v = waitU k m x := fun {v} => by
    rw [updU_mem]
    constructor
    · rintro ⟨u, hu, rfl⟩
      by_cases e : u.tx = x.tx
      · rw [if_pos e, rise_eq h.b.rise hu hx e]; exact .inr rfl
      · rw [if_neg e]; exact .inl ⟨hu, e⟩
    · rintro (⟨hv, e⟩ | rfl)
      · exact ⟨v, hv, by rw [if_neg e]⟩
      · exact ⟨x, hx, by rw [if_pos rfl]⟩
  have hgx : getU (updU l x.tx (waitU k m)) x.tx = waitU k m x := getU_of hb2 (hmem.2 (.inr rfl))
  have hwk : (waitU k m x).w k = max (x.w k) m := by show (if k = k then _ else _) = _; rw [if_pos rfl]
  have hwk' : ∀ {k'}, k' ≠ k → (waitU k m x).w k' = x.w k' := fun {k'} e => by show (if k' = k then _ else _) = _; rw [if_neg e]
  have hhx : ∀ k', (waitU k m x).h k' = x.h k' := fun _ => rfl
  have hlm : ∀ {v}, v ∈ lessU (updU l x.tx (waitU k m)) (wndU (updU l x.tx (waitU k m)) x.tx k) ↔ v ∈ updU l x.tx (waitU k m) ∧ v.tx ∉ wndU (updU l x.tx (waitU k m)) x.tx k := fun {v} => by
    unfold lessU
    rw [List.mem_filter]
    simp
  refine onA_ok ks (filter_b hb2 _) ⟨fun u hu v hv e k' => ?_, fun u hu k' hw' => ?_, fun u hu hpr k' => ?_, fun u hu v hv k' e ha => ?_⟩ (fun k' hk' => ?_)
  · rcases hmem.1 (hlm.1 hu).1 with ⟨hu, eu⟩ | rfl
    · rcases hmem.1 (hlm.1 hv).1 with ⟨hv, ev⟩ | rfl
      · exact h.m.tog u hu v hv e k'
      · exact h.m.tog u hu x hx eu k'
    · rcases hmem.1 (hlm.1 hv).1 with ⟨hv, ev⟩ | rfl
      · exact h.m.tog x hx v hv e k'
      · exact absurd rfl e
  · rcases hmem.1 (hlm.1 hu).1 with ⟨hu, eu⟩ | rfl
    · exact h.m.held u hu k' hw'
    · by_cases e : k' = k
      · subst e
        rw [hwk, hhx]
        omega
      · rw [hwk' e] at hw' ⊢
        exact h.m.held x hx k' hw'
  · rcases hmem.1 (hlm.1 hu).1 with ⟨hu, eu⟩ | rfl
    · exact h.m.prep u hu hpr k'
    · have hp' : x.pr = true := hpr
      rw [hp] at hp'
      cases hp'
  · rcases hmem.1 (hlm.1 hu).1 with ⟨hu0, eu⟩ | rfl
    · rcases hmem.1 (hlm.1 hv).1 with ⟨hv, ev⟩ | rfl
      · exact h.m.ages u hu0 v hv k' e ha
      · exact h.m.ages u hu0 x hx k' eu ha
    · rcases hmem.1 (hlm.1 hv).1 with ⟨hv0, ev⟩ | rfl
      · by_cases ek : k' = k
        · subst ek
          have hnw := (hlm.1 hv).2
          cases hpv : v.pr with
          | true => exact .inl rfl
          | false =>
            refine .inr ?_
            rcases old_total (u := v) (v := waitU k' m x) ev with ho | ho
            · exact ho
            · exact absurd (wndU_mem.2 ⟨v, (hlm.1 hv).1, ⟨hpv, by rw [hgx]; exact ho, by rw [hgx]; exact ha⟩, rfl⟩) hnw
        · rw [hwk' ek] at ha
          exact h.m.ages x hx v hv0 k' (fun e2 => ev e2.symm) ha
      · exact absurd rfl e
  · obtain ⟨ek, hgone⟩ := hks k' hk'
    refine filter_w ?_ _ (fun v hv hp => hgone v hv (by simpa using hp))
    intro u hu h0
    rcases hmem.1 hu with ⟨hu, eu⟩ | rfl
    · obtain ⟨v, hv, e, ha⟩ := h.w k' u hu h0
      by_cases ev : v.tx = x.tx
      · have := rise_eq h.b.rise hv hx ev
        subst this
        refine ⟨waitU k m v, hmem.2 (.inr rfl), e, ?_⟩
        rw [hwk' ek]
        exact ha
      · exact ⟨v, hmem.2 (.inl ⟨hv, ev⟩), e, ha⟩
    · rw [hwk' ek] at h0
      obtain ⟨v, hv, e, ha⟩ := h.w k' x hx h0
      refine ⟨v, hmem.2 (.inl ⟨hv, e⟩), e, ?_⟩
      rw [hwk' ek]
      exact ha
end
end
end Go.Proofs.YtddflccjmigloaaGreat
