/-
  For NetCounts: what came, what went, what found no room. Of no program. Own work.
-/
import Derived.Test.YteehkjdolmmapaaNtPlain
namespace Go.Proofs.Yteehkjdolmmapaa
open Go

/-- How many came, went, found no room. -/
structure Cnt (n : Nt) (c w f : Nat) : Prop where
  len : n.l.length + w = c
  lost : n.lost ≤ w + f
theorem sen_len {n : Nt} {x : Wr} (h : senA n x = 0) : (senD n x).l.length = n.l.length + 1 ∧ (senD n x).lost = n.lost := by
  unfold senA at h
  unfold senD
  split at h
  · simp at h
  split at h
  · simp at h
  split at h
  · simp at h
  · rename_i h1 h2 h3
    rw [if_neg h1, if_neg h2, if_neg h3]
    simp
theorem sen_full {n : Nt} {x : Wr} (hok : n.Ok) (h : senA n x = 9) : (senD n x).l.length = n.room ∧ (senD n x).l.length = n.l.length ∧ (senD n x).lost = n.lost + 1 := by
  have hf := hok.full
  unfold senA at h
  unfold senD
  split at h
  · simp at h
  split at h
  · simp at h
  split at h
  · rename_i h1 h2 h3
    rw [if_neg h1, if_neg h2, if_pos h3]
    exact ⟨by simp; omega, rfl, rfl⟩
  · simp at h
theorem sen_other {n : Nt} {x : Wr} (h0 : senA n x ≠ 0) (h9 : senA n x ≠ 9) : senD n x = n := by
  unfold senA at h0 h9
  unfold senD
  split
  · rfl
  split
  · rfl
  · rename_i h1 h2
    rw [if_neg h1, if_neg h2] at h0 h9
    split at h0
    · rename_i h3; rw [if_pos h3] at h9; exact absurd rfl h9
    · exact absurd rfl h0
theorem twi_len {n : Nt} {i : Int} (h : twiA n i = 0) : (twiD n i).l.length = n.l.length + 1 ∧ (twiD n i).lost = n.lost := by
  unfold twiA at h
  unfold twiD
  split at h
  · rename_i h1
    split at h
    · simp at h
    · rename_i h2
      rw [if_pos h1, if_neg h2]
      simp
  · simp at h
theorem twi_full {n : Nt} {i : Int} (hok : n.Ok) (h : twiA n i = 9) : twiD n i = n ∧ n.l.length = n.room := by
  have hf := hok.full
  unfold twiA at h
  unfold twiD
  split at h
  · rename_i h1
    split at h
    · rename_i h2
      rw [if_pos h1, if_pos h2]
      exact ⟨rfl, by omega⟩
    · simp at h
  · simp at h
theorem twi_other {n : Nt} {i : Int} (h0 : twiA n i ≠ 0) : twiD n i = n := by
  unfold twiA at h0
  unfold twiD
  split
  · rename_i h1
    rw [if_pos h1] at h0
    split
    · rfl
    · rename_i h2; rw [if_neg h2] at h0; exact absurd rfl h0
  · rfl
theorem at_some {n : Nt} {i : Int} (h : atA n i = 0) : n.inN i = true := by
  unfold atA at h
  cases hi : n.inN i
  · rw [hi] at h; simp at h
  · rfl
theorem at_none {n : Nt} {i : Int} (h : atA n i ≠ 0) : n.inN i = false ∧ atA n i = 6 := by
  unfold atA at h ⊢
  cases hi : n.inN i
  · exact ⟨rfl, rfl⟩
  · rw [hi] at h; exact absurd rfl h
theorem at_nine (n : Nt) (i : Int) : atA n i ≠ 9 := by
  unfold atA
  split <;> decide
theorem erase_len {n : Nt} {i : Int} (h : n.inN i = true) : (n.l.eraseIdx i.toNat).length + 1 = n.l.length := by
  obtain ⟨k, rfl, hk⟩ := inN_nat h
  rw [Int.toNat_natCast, List.length_eraseIdx_of_lt hk]
  omega
theorem lat_len (n : Nt) (i : Int) : (latD n i).l.length = n.l.length ∧ (latD n i).lost = n.lost := by
  unfold latD
  cases hi : n.inN i
  · exact ⟨rfl, rfl⟩
  · have := erase_len hi
    simp
    omega
/-- By kinds: 0 Send, 1 Take, 2 At, 3 Drop, 4 Twice, 5 Late. -/
theorem cnt_sen {n : Nt} {c w f : Nat} {x : Wr} (h : Cnt n c w f) (hA : senA n x = 0) : Cnt (senD n x) (c + 1) w f := by
  have := sen_len hA; have := h.len; have := h.lost
  exact ⟨by omega, by omega⟩
theorem cnt_sen_full {n : Nt} {c w f : Nat} {x : Wr} (hok : n.Ok) (h : Cnt n c w f) (hA : senA n x = 9) : Cnt (senD n x) c w (f + 1) := by
  have := sen_full hok hA; have := h.len; have := h.lost
  exact ⟨by omega, by omega⟩
theorem cnt_twi {n : Nt} {c w f : Nat} {i : Int} (h : Cnt n c w f) (hA : twiA n i = 0) : Cnt (twiD n i) (c + 1) w f := by
  have := twi_len hA; have := h.len; have := h.lost
  exact ⟨by omega, by omega⟩
theorem cnt_tak {n : Nt} {c w f : Nat} {i : Int} (h : Cnt n c w f) (hA : atA n i = 0) : Cnt (takD n i) c (w + 1) f := by
  have hi := at_some hA
  have := erase_len hi; have := h.len; have := h.lost
  unfold takD
  rw [hi]
  exact ⟨by simp; omega, by simp; omega⟩
theorem cnt_dro {n : Nt} {c w f : Nat} {i : Int} (h : Cnt n c w f) (hA : atA n i = 0) : Cnt (droD n i) c (w + 1) f := by
  have hi := at_some hA
  have := erase_len hi; have := h.len; have := h.lost
  unfold droD
  rw [hi]
  exact ⟨by simp; omega, by simp; omega⟩
theorem tak_none {n : Nt} {i : Int} (h : atA n i ≠ 0) : takD n i = n := by unfold takD; rw [(at_none h).1]; rfl
theorem dro_none {n : Nt} {i : Int} (h : atA n i ≠ 0) : droD n i = n := by unfold droD; rw [(at_none h).1]; rfl
theorem cnt_lat {n : Nt} {c w f : Nat} (h : Cnt n c w f) (i : Int) : Cnt (latD n i) c w f := by
  have := lat_len n i; have := h.len; have := h.lost
  exact ⟨by omega, by omega⟩
end Go.Proofs.Yteehkjdolmmapaa
