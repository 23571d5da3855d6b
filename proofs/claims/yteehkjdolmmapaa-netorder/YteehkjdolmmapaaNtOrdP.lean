/-
  For NetOrder: wires of one byte each, in their order; what one call leaves of them. Of no program. Own work.
-/
import Derived.Test.YteehkjdolmmapaaNtCount
namespace Go.Proofs.Yteehkjdolmmapaa
open Go

def oneW (j : Nat) : Wr := ⟨0, 0, [(j : Int)]⟩
def ordL (k : Nat) : List Wr := (List.range k).map oneW
def ordN (k : Nat) : Nt := ⟨40, ordL k, 0⟩
theorem ordL_len (k : Nat) : (ordL k).length = k := by simp [ordL]
theorem ordL_get {k i : Nat} (h : i < k) : (ordL k).getD i nilW = oneW i := by simp [ordL, List.getD, h]
theorem ordL_succ (k : Nat) : ordL k ++ [oneW k] = ordL (k + 1) := by simp [ordL, List.range_succ]
theorem ord_send {k : Nat} (h : k < 40) : senA (ordN k) (oneW k) = 0 ∧ senD (ordN k) (oneW k) = ordN (k + 1) := by
  have h1 : ¬ (8 ≤ (oneW k).fr ∨ 8 ≤ (oneW k).to) := by simp [oneW]
  have h2 : ¬ 4096 < (oneW k).b.length := by simp [oneW]
  have h3 : ¬ (ordN k).room ≤ (ordN k).l.length := by simp [ordN, ordL_len]; omega
  unfold senA senD
  rw [if_neg h1, if_neg h2, if_neg h3, if_neg h1, if_neg h2, if_neg h3]
  refine ⟨rfl, ?_⟩
  simp [ordN, ordL_succ]
theorem oneW_ok {k : Nat} (h : k < 256) : (oneW k).Ok := ⟨by simp [oneW], by simp [oneW], by simp [oneW]; omega⟩
/-- In each of the first k places stands one byte; those that are not j rise; behind them, if r is not 0, one byte, too. -/
structure Rising (l : List Wr) (k j r : Nat) : Prop where
  one : ∀ i, i < l.length → i < k → ∃ v : Nat, (l.getD i nilW).b = [(v : Int)] ∧ v < 256
  rest : r ≠ 0 → ∀ i, i < l.length → (l.getD i nilW).b.length = 1
  up : ∀ i1 i2 v1 v2 : Nat, i1 < i2 → i2 < l.length → i2 < k → (l.getD i1 nilW).b = [(v1 : Int)] → (l.getD i2 nilW).b = [(v2 : Int)] → v1 ≠ j → v2 ≠ j → v1 < v2
theorem getD_app {l : List Wr} {x : List Wr} {i : Nat} (h : i < l.length) : (l ++ x).getD i nilW = l.getD i nilW := by
  simp [List.getD, List.getElem?_append_left h]
theorem one_inj {v w : Nat} (h : [(v : Int)] = [(w : Int)]) : v = w := by
  have h2 : (v : Int) = (w : Int) := by simpa using h
  omega
theorem rising_same {k j r : Nat} (x : List Wr) (hk : k ≤ 256) (hx : r ≠ 0 → ∀ y ∈ x, y.b.length = 1) : Rising (ordL k ++ x) k j r := by
  refine ⟨fun i _ h2 => ⟨i, ?_, by omega⟩, fun hr i h1 => ?_, fun i1 i2 v1 v2 h1 h2 h3 h4 h5 _ _ => ?_⟩
  · rw [getD_app (by rw [ordL_len]; exact h2), ordL_get h2]; rfl
  · by_cases hi : i < k
    · rw [getD_app (by rw [ordL_len]; exact hi), ordL_get hi]; rfl
    · have hm : (ordL k ++ x).getD i nilW ∈ x := by
        have hge : (ordL k).length ≤ i := by rw [ordL_len]; omega
        rw [List.length_append, ordL_len] at h1
        have hlt : i - (ordL k).length < x.length := by rw [ordL_len]; omega
        simp [List.getD, List.getElem?_append_right hge, hlt]
      exact hx hr _ hm
  · rw [getD_app (by rw [ordL_len]; omega), ordL_get (by omega)] at h4
    rw [getD_app (by rw [ordL_len]; exact h3), ordL_get h3] at h5
    have e1 := one_inj h4
    have e2 := one_inj h5
    omega
theorem ordL_erase {k j i : Nat} (hj : j < k) (h : i + 1 < k) : ((ordL k).eraseIdx j).getD i nilW = oneW (if i < j then i else i + 1) := by
  have hlen : ((ordL k).eraseIdx j).length = k - 1 := by rw [List.length_eraseIdx_of_lt (by rw [ordL_len]; exact hj), ordL_len]
  have hi : i < ((ordL k).eraseIdx j).length := by omega
  simp only [List.getD, List.getElem?_eraseIdx]
  split
  · rename_i h1
    have : i < k := by omega
    simp [ordL, this]
  · rename_i h1
    simp [ordL, h]
theorem rising_less {k j r : Nat} (x : List Wr) (hk : k ≤ 255) (hj : j < k) (hx : x = [] ∨ x = [oneW j]) : Rising ((ordL k).eraseIdx j ++ x) k j r := by
  have hlen : ((ordL k).eraseIdx j).length = k - 1 := by rw [List.length_eraseIdx_of_lt (by rw [ordL_len]; exact hj), ordL_len]
  have hget : ∀ i, i < ((ordL k).eraseIdx j ++ x).length → (i + 1 < k ∧ ((ordL k).eraseIdx j ++ x).getD i nilW = oneW (if i < j then i else i + 1)) ∨ (i + 1 = k ∧ ((ordL k).eraseIdx j ++ x).getD i nilW = oneW j) := by
    intro i h
    rw [List.length_append, hlen] at h
    by_cases hi : i + 1 < k
    · left
      exact ⟨hi, by rw [getD_app (by omega)]; exact ordL_erase hj hi⟩
    · right
      rcases hx with rfl | rfl
      · simp at h; omega
      · simp at h
        have e : i = k - 1 := by omega
        refine ⟨by omega, ?_⟩
        simp [List.getD, hlen, e]
  refine ⟨fun i h1 _ => ?_, fun _ i h1 => ?_, fun i1 i2 v1 v2 h1 h2 h3 h4 h5 n1 n2 => ?_⟩
  · rcases hget i h1 with ⟨ha, e⟩ | ⟨ha, e⟩
    · rw [e]; exact ⟨_, rfl, by split <;> omega⟩
    · rw [e]; exact ⟨j, rfl, by omega⟩
  · rcases hget i h1 with ⟨_, e⟩ | ⟨_, e⟩ <;> rw [e] <;> rfl
  · rcases hget i2 h2 with ⟨ha, e⟩ | ⟨ha, e⟩
    · rcases hget i1 (by omega) with ⟨hb, e'⟩ | ⟨hb, e'⟩
      · rw [e] at h5
        rw [e'] at h4
        have e1 := one_inj h4
        have e2 := one_inj h5
        split at e1 <;> split at e2 <;> omega
      · omega
    · rw [e] at h5
      have e2 := one_inj h5
      exact absurd e2.symm n2
theorem ord_inN {k j : Nat} (h : j < k) : (ordN k).inN (j : Int) = true := by
  unfold Nt.inN
  simp [ordN, ordL_len, h]
theorem ord_nth {k j : Nat} (h : j < k) : (ordN k).nth (j : Int) = oneW j := by
  unfold Nt.nth
  rw [ord_inN h, if_pos rfl, Int.toNat_natCast]
  exact ordL_get h
/-- What any call with the place j leaves. -/
theorem ord_act {k j : Nat} (hk : k ≤ 30) (hj : j < k) (a : NAct) (hi : a.i = (j : Int)) : Rising (nctD (ordN k) a).l k j (a.kind % 6) := by
  have hr : a.kind % 6 < 6 := Nat.mod_lt _ (by decide)
  have hn := ord_nth hj
  have hin := ord_inN hj
  have same : ∀ r, Rising (ordN k).l k j r := fun r => by
    have := rising_same (k := k) (j := j) (r := r) [] (by omega) (by simp)
    simpa [ordN] using this
  unfold nctD
  split
  · rename_i h1
    rw [h1, hi]
    unfold takD
    rw [hin, if_pos rfl, Int.toNat_natCast]
    have := rising_less (k := k) (j := j) (r := 1) [] (by omega) hj (.inl rfl)
    simpa [ordN] using this
  split
  · exact same _
  split
  · rename_i h3
    rw [h3, hi]
    unfold droD
    rw [hin, if_pos rfl, Int.toNat_natCast]
    have := rising_less (k := k) (j := j) (r := 3) [] (by omega) hj (.inl rfl)
    simpa [ordN] using this
  split
  · rename_i h4
    rw [h4, hi]
    unfold twiD
    rw [hin, if_pos rfl, hn]
    split
    · exact same _
    · exact rising_same (k := k) (j := j) (r := 4) [oneW j] (by omega) (by intro _ y hy; simp at hy; subst hy; rfl)
  split
  · rename_i h5
    rw [h5, hi]
    unfold latD
    rw [hin, if_pos rfl, hn, Int.toNat_natCast]
    exact rising_less (k := k) (j := j) (r := 5) [oneW j] (by omega) hj (.inr rfl)
  · have h0 : a.kind % 6 = 0 := by omega
    rw [h0]
    unfold senD
    split
    · exact same _
    split
    · exact same _
    split
    · exact same _
    · exact rising_same (k := k) (j := j) (r := 0) [a.wire] (by omega) (fun h => absurd rfl h)
end Go.Proofs.Yteehkjdolmmapaa
