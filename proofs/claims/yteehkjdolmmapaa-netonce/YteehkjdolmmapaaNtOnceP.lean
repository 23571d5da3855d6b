/-
  For NetOnce: wires of one byte each; which were sent, which doubled, how often each was taken. Of no program. Own work.
-/
import Derived.Test.YteehkjdolmmapaaNtOrdP
namespace Go.Proofs.Yteehkjdolmmapaa
open Go

/-- How many wires hold this byte alone. -/
def cntB (l : List Wr) (y : Nat) : Nat := l.countP fun x => decide (x.b = [(y : Int)])
/-- A row of numbers with one of them put otherwise. -/
def updB (f : Nat → Bool) (y : Nat) : Nat → Bool := fun z => if z = y then true else f z
def updT (f : Nat → Nat) (y : Nat) : Nat → Nat := fun z => if z = y then f y + 1 else f z
/-- Behind k acts: each wire on its way holds one byte that was sent; one that was not doubled is there or was taken at most once. -/
structure Onc (n : Nt) (k : Nat) (S Db : Nat → Bool) (T : Nat → Nat) : Prop where
  one : ∀ x ∈ n.l, ∃ y : Nat, y < k ∧ x.b = [(y : Int)] ∧ S y = true
  cnt : ∀ y, Db y = false → T y + cntB n.l y ≤ 1
  zero : ∀ y, k ≤ y → T y = 0
  bnd : ∀ y, T y ≤ k
section
variable {n : Nt} {k : Nat} {S Db : Nat → Bool} {T : Nat → Nat}
theorem onc_new (room : Nat) : Onc (newN room) 0 (fun _ => false) (fun _ => false) (fun _ => 0) :=
  ⟨fun x hx => (by cases hx), fun y _ => (by simp [newN, cntB]), fun _ _ => rfl, fun _ => Nat.le_refl _⟩
theorem Onc.sub (h : Onc n k S Db T) {n' : Nt} (h1 : ∀ x ∈ n'.l, x ∈ n.l) (h2 : ∀ y, cntB n'.l y ≤ cntB n.l y) : Onc n' (k + 1) S Db T :=
  ⟨fun x hx => (by obtain ⟨y, a, b⟩ := h.one x (h1 x hx); exact ⟨y, by omega, b⟩), fun y hy => (by have := h.cnt y hy; have := h2 y; omega), fun y hy => h.zero y (by omega), fun y => Nat.le_succ_of_le (h.bnd y)⟩
theorem Onc.next (h : Onc n k S Db T) : Onc n (k + 1) S Db T := h.sub (fun _ hx => hx) (fun _ => Nat.le_refl _)
theorem Onc.dbl (h : Onc n k S Db T) (y : Nat) : Onc n k S (updB Db y) T :=
  ⟨h.one, fun z hz => h.cnt z (by unfold updB at hz; split at hz; · cases hz
                                  · exact hz), h.zero, h.bnd⟩
theorem cntB_app (l : List Wr) (x : Wr) (y : Nat) : cntB (l ++ [x]) y = cntB l y + if x.b = [(y : Int)] then 1 else 0 := by
  unfold cntB
  rw [List.countP_append, List.countP_singleton]
  simp
theorem cntB_erase (l : List Wr) {j : Nat} (hj : j < l.length) (y : Nat) : cntB l y = cntB (l.eraseIdx j) y + if l[j].b = [(y : Int)] then 1 else 0 := by
  unfold cntB
  induction l generalizing j with
  | nil => cases hj
  | cons x l ih =>
    cases j with
    | zero => simp [List.countP_cons]
    | succ j =>
      have := ih (j := j) (by simpa using hj)
      simp only [List.eraseIdx_cons_succ, List.countP_cons, List.getElem_cons_succ]
      omega
theorem Onc.none (h : Onc n k S Db T) : cntB n.l k = 0 := by
  unfold cntB
  rw [List.countP_eq_zero]
  intro x hx
  obtain ⟨y, hy, e, _⟩ := h.one x hx
  simp only [decide_eq_true_eq]
  intro e2
  have := one_inj (e.symm.trans e2)
  omega
theorem onc_send (h : Onc n k S Db T) {x : Wr} (hx : x.b = [(k : Int)]) (h0 : senA n x = 0) : Onc (senD n x) (k + 1) (updB S k) Db T := by
  unfold senA at h0
  unfold senD
  split at h0
  · cases h0
  rename_i h1
  split at h0
  · cases h0
  rename_i h2
  split at h0
  · cases h0
  rename_i h3
  rw [if_neg h1, if_neg h2, if_neg h3]
  refine ⟨fun z hz => ?_, fun y hy => ?_, fun y hy => h.zero y (by omega), fun y => Nat.le_succ_of_le (h.bnd y)⟩
  · rcases List.mem_append.1 hz with hz | hz
    · obtain ⟨y, a, b, c⟩ := h.one z hz
      exact ⟨y, by omega, b, by unfold updB; split <;> first | rfl | exact c⟩
    · obtain rfl : z = x := by simpa using hz
      exact ⟨k, by omega, hx, by simp [updB]⟩
  · show T y + cntB (n.l ++ [x]) y ≤ 1
    rw [cntB_app, hx]
    have h4 := h.cnt y hy
    split
    · rename_i e
      obtain rfl := one_inj e
      rw [h.none, h.zero k (Nat.le_refl _)]
      omega
    · omega
theorem onc_sendNo (h : Onc n k S Db T) {x : Wr} (h0 : senA n x ≠ 0) : Onc (senD n x) (k + 1) S Db T := by
  have : (senD n x).l = n.l := by
    unfold senA at h0
    unfold senD
    repeat' split
    all_goals first
      | rfl
      | (exfalso; apply h0; simp [*])
  exact h.sub (fun y hy => this ▸ hy) (fun y => by rw [this]; exact Nat.le_refl _)
theorem Onc.at (h : Onc n k S Db T) {i : Int} (hi : n.inN i = true) : ∃ y : Nat, y < k ∧ (n.nth i).b = [(y : Int)] ∧ S y = true := h.one _ (nth_mem hi)
theorem nth_get {i : Int} (hi : n.inN i = true) : ∃ hj : i.toNat < n.l.length, n.nth i = n.l[i.toNat] := by
  obtain ⟨k, rfl, hk⟩ := inN_nat hi
  refine ⟨by simpa using hk, ?_⟩
  unfold Nt.nth
  rw [if_pos hi]
  simp [List.getD, hk]
theorem onc_take (h : Onc n k S Db T) {i : Int} (hi : n.inN i = true) {y : Nat} (hy : (n.nth i).b = [(y : Int)]) : Onc (takD n i) (k + 1) S Db (updT T y) ∧ (Db y = false → T y = 0) := by
  obtain ⟨hj, hg⟩ := nth_get hi
  have hyk : y < k := by
    obtain ⟨z, hz, e, _⟩ := h.at hi
    have := one_inj (hy.symm.trans e)
    omega
  have hc := cntB_erase n.l hj
  rw [← hg, hy] at hc
  unfold takD
  rw [if_pos hi]
  refine ⟨⟨fun z hz => ?_, fun z hz => ?_, fun z hz => ?_, fun z => ?_⟩, fun hd => ?_⟩
  · obtain ⟨u, a, b⟩ := h.one z (List.mem_of_mem_eraseIdx hz)
    exact ⟨u, by omega, b⟩
  · show updT T y z + cntB (n.l.eraseIdx i.toNat) z ≤ 1
    have h4 := h.cnt z hz
    have h5 := hc z
    unfold updT
    split
    · rename_i e
      subst e
      rw [if_pos rfl] at h5
      omega
    · omega
  · unfold updT
    rw [if_neg (by omega)]
    exact h.zero z (by omega)
  · have := h.bnd z
    have := h.bnd y
    unfold updT
    split <;> omega
  · have h4 := h.cnt y hd
    have h5 := hc y
    rw [if_pos rfl] at h5
    omega
theorem onc_takeNo (h : Onc n k S Db T) {i : Int} (hi : n.inN i = false) : Onc (takD n i) (k + 1) S Db T := by
  unfold takD
  rw [hi]
  exact h.next
theorem onc_drop (h : Onc n k S Db T) (i : Int) : Onc (droD n i) (k + 1) S Db T := by
  unfold droD
  cases hi : n.inN i
  · exact h.next
  · obtain ⟨hj, hg⟩ := nth_get hi
    refine h.sub (fun x hx => List.mem_of_mem_eraseIdx hx) (fun y => ?_)
    have := cntB_erase n.l hj y
    show cntB (n.l.eraseIdx i.toNat) y ≤ _
    omega
theorem onc_late (h : Onc n k S Db T) (i : Int) : Onc (latD n i) (k + 1) S Db T := by
  unfold latD
  cases hi : n.inN i
  · exact h.next
  · obtain ⟨hj, hg⟩ := nth_get hi
    refine h.sub (fun x hx => ?_) (fun y => ?_)
    · rcases List.mem_append.1 hx with hx | hx
      · exact List.mem_of_mem_eraseIdx hx
      · obtain rfl : x = n.nth i := by simpa using hx
        exact nth_mem hi
    · have := cntB_erase n.l hj y
      show cntB (n.l.eraseIdx i.toNat ++ [n.nth i]) y ≤ _
      rw [cntB_app, hg]
      omega
/-- The wire that is doubled was marked ahead of it. -/
theorem onc_twice (h : Onc n k S Db T) {i : Int} (hi : n.inN i = true) {y : Nat} (hy : (n.nth i).b = [(y : Int)]) : Onc (twiD n i) (k + 1) S (updB Db y) T := by
  have h1 := h.dbl y
  unfold twiD
  rw [if_pos hi]
  split
  · exact h1.next
  · refine ⟨fun x hx => ?_, fun z hz => ?_, fun z hz => h.zero z (by omega), fun z => Nat.le_succ_of_le (h.bnd z)⟩
    · have hm : x ∈ n.l := by
        rcases List.mem_append.1 hx with hx | hx
        · exact hx
        · obtain rfl : x = n.nth i := by simpa using hx
          exact nth_mem hi
      obtain ⟨u, a, b⟩ := h.one x hm
      exact ⟨u, by omega, b⟩
    · have h4 := h1.cnt z hz
      show T z + cntB (n.l ++ [n.nth i]) z ≤ 1
      rw [cntB_app, hy, if_neg]
      · exact h4
      · intro e
        obtain rfl := one_inj e
        simp [updB] at hz
theorem onc_twiceNo (h : Onc n k S Db T) {i : Int} (hi : n.inN i = false) : Onc (twiD n i) (k + 1) S Db T := by
  unfold twiD
  rw [hi]
  exact h.next
end
end Go.Proofs.Yteehkjdolmmapaa
