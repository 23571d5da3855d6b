/-
  A clock's timers by slots: of no program. Own work.
-/
import Derived.Test.YtgjdlclkibiffaaCkPlain
namespace Go.Proofs.Ytgjdlclkibiffaa

/-- The slot of a timer; the timers of a slot. -/
def slotN (t : TmP) : Nat := t.2.toNat % 64
def Ck.slot (c : Ck) (i : Nat) : List TmP := c.l.filter (fun t => decide (slotN t = i))
abbrev Srt (l : List TmP) : Prop := l.Pairwise (fun a b => aheadB a b = true)
theorem slot_sub (c : Ck) (i : Nat) : (c.slot i).Sublist c.l := List.filter_sublist
theorem slot_sorted {c : Ck} (h : c.Ok) (i : Nat) : Srt (c.slot i) := h.sorted.sublist (slot_sub c i)
theorem slot_len {c : Ck} (h : c.Ok) (i : Nat) : (c.slot i).length ≤ 1024 := Nat.le_trans (slot_sub c i).length_le h.few
theorem mem_slot (c : Ck) (i : Nat) (t : TmP) : t ∈ c.slot i ↔ t ∈ c.l ∧ slotN t = i := by unfold Ck.slot; rw [List.mem_filter]; simp
theorem ahead_asymm {a b : TmP} (h : aheadB a b = true) : aheadB b a = false := by
  cases hq : aheadB b a with
  | false => rfl
  | true => have := ahead_trans h hq; rw [ahead_irrefl] at this; cases this
theorem ahead_ne {a b : TmP} (h : aheadB a b = true) : a ≠ b := fun e => by rw [e, ahead_irrefl] at h; cases h
/-- What is true of the first ones alone. -/
theorem tw_filter {p : TmP → Bool} : ∀ {l : List TmP}, Srt l → (∀ a ∈ l, ∀ b ∈ l, aheadB a b = true → p b = true → p a = true) → l.takeWhile p = l.filter p ∧ l.dropWhile p = l.filter (fun x => !p x)
  | [], _, _ => ⟨rfl, rfl⟩
  | a :: l, hs, hp => by
    have hs2 := List.pairwise_cons.1 hs
    obtain ⟨i1, i2⟩ := tw_filter (p := p) hs2.2 (fun x hx y hy => hp x (List.mem_cons_of_mem _ hx) y (List.mem_cons_of_mem _ hy))
    rw [List.takeWhile_cons, List.dropWhile_cons, List.filter_cons, List.filter_cons]
    cases ha : p a with
    | true => simp [i1, i2]
    | false =>
      have hno : ∀ b ∈ l, p b = false := fun b hb => by
        cases hq : p b with
        | false => rfl
        | true => have := hp a List.mem_cons_self b (List.mem_cons_of_mem _ hb) (hs2.1 b hb) hq; rw [ha] at this; cases this
      refine ⟨?_, ?_⟩
      · simp only [Bool.false_eq_true, if_false]
        exact (List.filter_eq_nil_iff.2 (fun b hb => by rw [hno b hb]; decide)).symm
      · simp only [Bool.not_false, if_true, Bool.false_eq_true, if_false]
        rw [List.filter_eq_self.2 (fun b hb => by rw [hno b hb]; rfl)]
theorem ahead_filter {l : List TmP} (hs : Srt l) (t : TmP) : l.takeWhile (fun x => aheadB x t) = l.filter (fun x => aheadB x t) ∧ l.dropWhile (fun x => aheadB x t) = l.filter (fun x => !aheadB x t) := tw_filter hs (fun _ _ _ _ h1 h2 => ahead_trans h1 h2)
theorem ins_filter {l : List TmP} (hs : Srt l) (t : TmP) (p : TmP → Bool) : (insT t l).filter p = if p t then insT t (l.filter p) else l.filter p := by
  have h1 := ahead_filter hs t
  have h2 := ahead_filter (hs.sublist (List.filter_sublist (p := p))) t
  unfold insT
  rw [h1.1, h1.2, h2.1, h2.2, List.filter_append, List.filter_cons]
  have c1 : ∀ q : TmP → Bool, (l.filter q).filter p = (l.filter p).filter q := fun q => by
    rw [List.filter_filter, List.filter_filter]
    congr 1
    funext x
    rw [Bool.and_comm]
  rw [c1, c1]
  split
  · rfl
  · have := List.takeWhile_append_dropWhile (p := fun x => aheadB x t) (l := l.filter p)
    rw [h2.1, h2.2] at this
    exact this
theorem slot_set {c : Ck} (h : c.Ok) {n : NmP} {after : Int} (hA : setA c n after = 0) (i : Nat) : (setD c n after).slot i = if slotN (n, (c.now : Int) + after) = i then insT (n, (c.now : Int) + after) ((stopD c n).slot i) else (stopD c n).slot i := by
  unfold setD
  rw [if_pos hA]
  unfold Ck.slot
  show (insT _ _).filter _ = _
  rw [ins_filter (stopD_ok h n).sorted]
  by_cases e : slotN (n, (c.now : Int) + after) = i
  · simp [e]
  · simp [e]
theorem slot_stop (c : Ck) (n : NmP) (i : Nat) : (stopD c n).slot i = (c.slot i).filter (fun t => decide (t.1 ≠ n)) := by
  unfold Ck.slot stopD
  simp only
  rw [List.filter_filter, List.filter_filter]
  congr 1
  funext x
  rw [Bool.and_comm]
/-- One of a sorted row is taken out. -/
theorem take_out {t : TmP} : ∀ {l : List TmP}, Srt l → t ∈ l → l.takeWhile (fun x => aheadB x t) ++ (l.dropWhile (fun x => aheadB x t)).drop 1 = l.filter (fun x => decide (x ≠ t)) ∧ (l.takeWhile (fun x => aheadB x t)).length < l.length
  | [], _, h => by cases h
  | a :: l, hs, h => by
    have hs2 := List.pairwise_cons.1 hs
    rw [List.takeWhile_cons, List.dropWhile_cons, List.filter_cons]
    by_cases e : a = t
    · subst e
      rw [ahead_irrefl]
      simp only [Bool.false_eq_true, if_false, ne_eq, not_true_eq_false, decide_false, List.nil_append, List.drop_succ_cons, List.drop_zero]
      refine ⟨?_, by simp⟩
      exact (List.filter_eq_self.2 (fun b hb => by simpa using (ahead_ne (hs2.1 b hb)).symm)).symm
    · have hm : t ∈ l := by
        rcases List.mem_cons.1 h with h | h
        · exact absurd h.symm e
        · exact h
      obtain ⟨i1, i2⟩ := take_out hs2.2 hm
      rw [hs2.1 t hm]
      simp only [if_true, ne_eq, e, not_false_eq_true, decide_true, List.cons_append, i1, List.length_cons]
      exact ⟨trivial, by omega⟩
theorem stop_same {c : Ck} (h : c.Ok) {n : NmP} {x : Int} (hx : (n, x) ∈ c.l) : (stopD c n).slot (slotN (n, x)) = (c.slot (slotN (n, x))).filter (fun t => decide (t ≠ (n, x))) := by
  rw [slot_stop]
  apply List.filter_congr
  intro t ht
  have ht2 := ((mem_slot _ _ _).1 ht).1
  by_cases e : t.1 = n
  · have := one_name h ht2 hx e
    simp [this]
  · have e2 : t ≠ (n, x) := fun e3 => e (by rw [e3])
    simp [e, e2]
theorem stop_other {c : Ck} (h : c.Ok) {n : NmP} {x : Int} (hx : (n, x) ∈ c.l) {i : Nat} (hi : i ≠ slotN (n, x)) : (stopD c n).slot i = c.slot i := by
  rw [slot_stop]
  refine List.filter_eq_self.2 (fun t ht => ?_)
  obtain ⟨h1, h2⟩ := (mem_slot _ _ _).1 ht
  have : t.1 ≠ n := fun e => by
    have := one_name h h1 hx e
    rw [this] at h2
    exact hi h2.symm
  simpa using this
theorem stop_gone {c : Ck} {n : NmP} (hh : c.has n = false) : stopD c n = c := by
  unfold stopD
  have : c.l.filter (fun t => decide (t.1 ≠ n)) = c.l := by
    refine List.filter_eq_self.2 (fun t ht => ?_)
    unfold Ck.has at hh
    rw [List.any_eq_false] at hh
    have := hh t ht
    simpa using this
  rw [this]
/-- What rings stands in one slot. -/
theorem ring_filter {c : Ck} {l : List TmP} (hs : Srt l) (hat : ∀ t ∈ l, (c.now : Int) < t.2) : l.takeWhile (ringB c) = l.filter (ringB c) ∧ l.dropWhile (ringB c) = l.filter (fun x => !ringB c x) := by
  refine tw_filter hs (fun a ha b hb h1 h2 => ?_)
  have := ahead_time h1
  have h3 : b.2 = (c.now : Int) + 1 := by simpa [ringB] using h2
  have := hat a ha
  unfold ringB
  simp
  omega
theorem slot_ring {c : Ck} {t : TmP} (hr : ringB c t = true) : slotN t = (c.now + 1) % 64 := by
  have : t.2 = (c.now : Int) + 1 := by simpa [ringB] using hr
  unfold slotN
  rw [this]
  omega
theorem tick_same {c : Ck} (h : c.Ok) (hn : c.now < 2147483647) : (tickD c).slot ((c.now + 1) % 64) = (c.slot ((c.now + 1) % 64)).dropWhile (ringB c) ∧ (c.slot ((c.now + 1) % 64)).takeWhile (ringB c) = c.l.takeWhile (ringB c) := by
  have hat : ∀ t ∈ c.l, (c.now : Int) < t.2 := fun t ht => (h.at' t ht).1
  have r1 := ring_filter h.sorted hat
  have r2 := ring_filter (slot_sorted h ((c.now + 1) % 64)) (fun t ht => hat t ((slot_sub c _).subset ht))
  rw [r2.1, r2.2, r1.1]
  unfold tickD
  rw [if_neg (by omega)]
  unfold Ck.slot
  refine ⟨?_, ?_⟩
  · show (c.l.dropWhile (ringB c)).filter _ = _
    rw [r1.2, List.filter_filter, List.filter_filter]
    congr 1
    funext x
    rw [Bool.and_comm]
  · rw [List.filter_filter]
    refine List.filter_congr (fun t _ => ?_)
    cases hr : ringB c t with
    | false => rfl
    | true => simp [slot_ring hr]
theorem tick_other {c : Ck} (h : c.Ok) (hn : c.now < 2147483647) {i : Nat} (hi : i ≠ (c.now + 1) % 64) : (tickD c).slot i = c.slot i := by
  have hat : ∀ t ∈ c.l, (c.now : Int) < t.2 := fun t ht => (h.at' t ht).1
  have r1 := ring_filter h.sorted hat
  unfold tickD
  rw [if_neg (by omega)]
  unfold Ck.slot
  show (c.l.dropWhile (ringB c)).filter _ = _
  rw [r1.2, List.filter_filter]
  refine List.filter_congr (fun t _ => ?_)
  cases hr : ringB c t with
  | false => simp
  | true =>
    have := slot_ring hr
    simp
    omega
/-- Those that are left behind the first k of a slot were let go. -/
def Ck.less (c : Ck) (xs : List TmP) : List TmP := c.l.filter (fun t => decide (t ∉ xs))
theorem less_nil (c : Ck) : c.less [] = c.l := by unfold Ck.less; exact List.filter_eq_self.2 (fun t _ => by simp)
theorem less_step {c : Ck} (h : c.Ok) {xs : List TmP} {x : TmP} (hx : x ∈ c.l) : (c.less xs).filter (fun t => decide (t.1 ≠ x.1)) = c.less (xs ++ [x]) := by
  unfold Ck.less
  rw [List.filter_filter]
  refine List.filter_congr (fun t ht => ?_)
  have e : t.1 = x.1 ↔ t = x := ⟨fun e => one_name h ht hx e, fun e => by rw [e]⟩
  rw [Bool.eq_iff_iff]
  simp only [Bool.and_eq_true, decide_eq_true_eq, List.mem_append, List.mem_singleton, ne_eq, not_or, e]
  exact And.comm
theorem less_ring {c : Ck} (h : c.Ok) (hn : c.now < 2147483647) : c.less (c.l.takeWhile (ringB c)) = (tickD c).l := by
  have hat : ∀ t ∈ c.l, (c.now : Int) < t.2 := fun t ht => (h.at' t ht).1
  have r1 := ring_filter h.sorted hat
  unfold tickD
  rw [if_neg (by omega)]
  show _ = c.l.dropWhile (ringB c)
  rw [r1.1, r1.2]
  unfold Ck.less
  refine List.filter_congr (fun t ht => ?_)
  rw [Bool.eq_iff_iff]
  simp [List.mem_filter, ht]
/-- The first of the slots below i. -/
def Ck.firstO (c : Ck) (i : Nat) : Option TmP := (c.l.filter (fun t => decide (slotN t < i))).head?
def Ck.firstF (c : Ck) (i : Nat) : TmP := (c.firstO i).getD (nilN, 0)
theorem first_zero (c : Ck) : c.firstF 0 = (nilN, 0) := by
  unfold Ck.firstF Ck.firstO
  rw [List.filter_eq_nil_iff.2 (fun t _ => by simp)]
  rfl
theorem first_all (c : Ck) : c.firstF 64 = (c.nextN, c.nextT) := by
  unfold Ck.firstF Ck.firstO
  rw [List.filter_eq_self.2 (fun t _ => by unfold slotN; simp; omega)]
  unfold Ck.nextN Ck.nextT
  cases c.l <;> rfl
theorem head_or {p q : TmP → Bool} (hpq : ∀ t, p t = true → q t = false) : ∀ {l : List TmP}, Srt l → (l.filter (fun t => p t || q t)).head? = match (l.filter p).head?, (l.filter q).head? with | none, y => y | some x, none => some x | some x, some y => if aheadB y x then some y else some x
  | [], _ => rfl
  | a :: l, hs => by
    have hs2 := List.pairwise_cons.1 hs
    have ih := head_or hpq hs2.2
    rw [List.filter_cons, List.filter_cons, List.filter_cons]
    cases hp : p a with
    | true =>
      have hq := hpq a hp
      rw [hq]
      simp only [Bool.true_or, if_true, List.head?_cons, Bool.false_eq_true, if_false]
      cases hh : (l.filter q).head? with
      | none => rfl
      | some y =>
        have hy : y ∈ l := (List.mem_filter.1 (List.mem_of_head? hh)).1
        simp [ahead_asymm (hs2.1 y hy)]
    | false =>
      cases hq : q a with
      | true =>
        simp only [Bool.or_true, if_true, List.head?_cons, Bool.false_eq_true, if_false]
        cases hh : (l.filter p).head? with
        | none => rfl
        | some x =>
          have hx : x ∈ l := (List.mem_filter.1 (List.mem_of_head? hh)).1
          simp [hs2.1 x hx]
      | false =>
        simp only [Bool.or_false, Bool.false_eq_true, if_false]
        exact ih
theorem first_step {c : Ck} (h : c.Ok) (i : Nat) : c.firstO (i + 1) = match c.firstO i, (c.slot i).head? with | none, y => y | some x, none => some x | some x, some y => if aheadB y x then some y else some x := by
  unfold Ck.firstO Ck.slot
  rw [← head_or (p := fun t => decide (slotN t < i)) (q := fun t => decide (slotN t = i)) (fun t ht => by simp at ht ⊢; omega) h.sorted]
  congr 1
  refine List.filter_congr (fun t _ => ?_)
  rw [Bool.eq_iff_iff]
  simp
  omega
theorem firstO_mem {c : Ck} {i : Nat} {t : TmP} (h : c.firstO i = some t) : t ∈ c.l := (List.mem_filter.1 (List.mem_of_head? h)).1
theorem first_time {c : Ck} (h : c.Ok) (i : Nat) : (c.firstF i).2 = 0 ↔ c.firstO i = none := by
  unfold Ck.firstF
  cases hf : c.firstO i with
  | none => simp
  | some t =>
    have := (h.at' t (firstO_mem hf)).1
    simp
    omega
end Go.Proofs.Ytgjdlclkibiffaa
