/-
  The reader's methods Num, Byte, Bool, Text, Key (package code), by the plain functions; and of a nil reader. Own work.
-/
import Derived.Test.YtnljibmdcknmeabDoorCFieldKey
namespace Go.Proofs.YtnljibmdcknmeabDoor
open Go.RowKit

theorem num_field (most : Nat) (r : RS) : numS most r = fieldS 0 (numR most) r := by
  unfold numS fieldS numR
  by_cases h0 : r.why ≠ 0
  · rw [if_pos h0, if_pos h0]
  · rw [if_neg h0, if_neg h0]
    by_cases h1 : (longS r.bs).2.2 ≠ 0
    · rw [if_pos h1, if_pos h1, if_pos h1]
    · rw [if_neg h1, if_neg h1]
      by_cases h2 : (most : Int) < (longS r.bs).1
      · simp [h2]
      · simp [h2]
theorem byte_field (r : RS) : byteS r = fieldS 0 byteR r := by
  unfold byteS fieldS byteR
  by_cases h0 : r.why ≠ 0
  · rw [if_pos h0, if_pos h0]
  · rw [if_neg h0, if_neg h0]
    by_cases h1 : r.bs = []
    · simp [h1]
    · simp [h1]
theorem bool_field (r : RS) : boolS r = fieldS false boolR r := by
  unfold boolS fieldS boolR
  by_cases h0 : r.why ≠ 0
  · rw [if_pos h0, if_pos h0]
  · rw [if_neg h0, if_neg h0]
    by_cases h1 : r.bs = []
    · simp [h1]
    · rw [if_neg h1, if_neg h1]
      by_cases h2 : 1 < r.bs.getD 0 0
      · simp only [if_pos h2]; simp
      · simp only [if_neg h2]; simp
theorem key_field (r : RS) : keyS r = fieldS (List.replicate 8 0) keyR r := by
  unfold keyS fieldS keyR
  by_cases h0 : r.why ≠ 0
  · rw [if_pos h0, if_pos h0]
  · rw [if_neg h0, if_neg h0]
    by_cases h1 : r.bs.length < 8
    · simp [h1]
    · simp [h1]
theorem text_field (most : Int) (r : RS) (hx : ∀ c ∈ r.bs, 0 ≤ c ∧ c < 256) : textS most r = fieldS [] (textR most) r := by
  unfold textS fieldS textR numR
  by_cases h0 : r.why ≠ 0
  · rw [if_pos h0, if_pos h0]
  · rw [if_neg h0, if_neg h0]
    rcases long_cases' r.bs hx with ⟨e, hl, he⟩ | ⟨N, s, hl, h1, hs, hN, _⟩
    · simp [hl, he]
    · rw [hl]
      simp only
      have hm : (0 ≤ most ∧ most < (N : Int)) ↔ ((mostU most : Nat) : Int) < (N : Int) := by
        unfold mostU
        split <;> omega
      rw [if_neg (by simp)]
      by_cases h2 : 0 ≤ most ∧ most < (N : Int)
      · rw [if_pos h2]
        have h3 := hm.1 h2
        simp [h3]
      · rw [if_neg h2]
        have h3 : ¬ ((mostU most : Nat) : Int) < (N : Int) := fun h => h2 (hm.2 h)
        by_cases h4 : (r.bs.length : Int) - (s : Int) < (N : Int)
        · simp [h3, h4]
        · simp only [if_neg h3, if_neg h4]
          simp [h4]
          congr 1
theorem num_sized (most : Nat) (bs : List Int) (hx : ∀ c ∈ bs, 0 ≤ c ∧ c < 256) : Sized (numR most) bs := by
  intro h
  rcases numR_cases most bs hx with ⟨e, h1, h2⟩ | ⟨N, s, h1, _, h3, _⟩
  · rw [h1] at h; exact absurd h h2
  · rw [h1]; exact ⟨s, rfl, h3⟩
theorem byte_sized (bs : List Int) : Sized byteR bs := by
  intro h
  unfold byteR at h ⊢
  by_cases h1 : bs = []
  · rw [if_pos h1] at h; simp at h
  · rw [if_neg h1]; exact ⟨1, rfl, List.length_pos_iff.2 h1⟩
theorem bool_sized (bs : List Int) : Sized boolR bs := by
  intro h
  unfold boolR at h ⊢
  by_cases h1 : bs = []
  · rw [if_pos h1] at h; simp at h
  · rw [if_neg h1] at h ⊢
    by_cases h2 : 1 < bs.getD 0 0
    · rw [if_pos h2] at h; simp at h
    · rw [if_neg h2]; exact ⟨1, rfl, List.length_pos_iff.2 h1⟩
theorem key_sized (bs : List Int) : Sized keyR bs := by
  intro h
  unfold keyR at h ⊢
  by_cases h1 : bs.length < 8
  · rw [if_pos h1] at h; simp at h
  · rw [if_neg h1]; exact ⟨8, rfl, by omega⟩
theorem text_sized (most : Int) (bs : List Int) (hx : ∀ c ∈ bs, 0 ≤ c ∧ c < 256) : Sized (textR most) bs := by
  intro h
  unfold textR at h ⊢
  rcases numR_cases (mostU most) bs hx with ⟨e, h1, h2⟩ | ⟨N, s, h1, _, h3, _⟩
  · rw [h1] at h; simp only at h; rw [if_pos h2] at h; exact absurd h h2
  · rw [h1] at h ⊢
    simp only at h ⊢
    rw [if_neg (by simp)] at h ⊢
    by_cases h2 : (bs.length : Int) - (s : Int) < (N : Int)
    · rw [if_pos h2] at h; simp at h
    · rw [if_neg h2]; exact ⟨s + N, by simp, by omega⟩

theorem crnum_any (p : Nat) (vb : Value) (all : List Int) (r : RS) (w : World) (h : CR w p vb all r) (most : Nat) :
    Calls Tryd.prog 32 #[.pointer (some ⟨p, 0, none⟩), .int .u64 most] w fun e w' => e = .returned (.int .u64 (numS most r).1) ∧ CR w' p vb all (numS most r).2 ∧ KeepBut (fun k => k = p) w w' := by
  have hmf := make_fn
  have C := hide (field_num p vb all r w h most (num_sized most r.bs h.byte'))
  rw [← num_field] at C
  clear h
  go_enter Tryd.func32, Tryd.ntmps32
  go_wp2_with (go_at_call 42; refine C.out.mono ?_; rintro e w1 ⟨rfl, h1, hk⟩; have H1 := hide h1; have HK := hide hk; clear h1 hk)
  go_ret
  exact ⟨rfl, H1.out, HK.out⟩
theorem crbyte_any (p : Nat) (vb : Value) (all : List Int) (r : RS) (w : World) (h : CR w p vb all r) :
    Calls Tryd.prog 33 #[.pointer (some ⟨p, 0, none⟩)] w fun e w' => e = .returned (.int .u8 (byteS r).1) ∧ CR w' p vb all (byteS r).2 ∧ KeepBut (fun k => k = p) w w' := by
  have hmf := make_fn
  have C := hide (field_byte p vb all r w h (byte_sized r.bs))
  rw [← byte_field] at C
  clear h
  go_enter Tryd.func33, Tryd.ntmps33
  go_wp2_with (go_at_call 44; refine C.out.mono ?_; rintro e w1 ⟨rfl, h1, hk⟩; have H1 := hide h1; have HK := hide hk; clear h1 hk)
  go_ret
  exact ⟨rfl, H1.out, HK.out⟩
theorem keyS_length (r : RS) : (keyS r).1.length = 8 := by
  unfold keyS
  split
  · simp
  · split
    · simp
    · simp; omega
/-! A nil reader. -/
theorem crnum_nil (w : World) (most : Int) : Calls Tryd.prog 32 #[.pointer none, .int .u64 most] w fun e w' => e = .returned (.int .u64 0) ∧ Below w.heap.size w w' := by
  have hmf := make_fn
  go_enter Tryd.func32, Tryd.ntmps32
  go_wp2_with (go_at_call 42; refine (field_num_nil w _).mono ?_; rintro e w1 ⟨rfl, h1⟩; have H1 := hide h1; clear h1)
  go_ret
  exact ⟨rfl, H1.out⟩
theorem crbyte_nil (w : World) : Calls Tryd.prog 33 #[.pointer none] w fun e w' => e = .returned (.int .u8 0) ∧ Below w.heap.size w w' := by
  have hmf := make_fn
  go_enter Tryd.func33, Tryd.ntmps33
  go_wp2_with (go_at_call 44; refine (field_byte_nil w _).mono ?_; rintro e w1 ⟨rfl, h1⟩; have H1 := hide h1; clear h1)
  go_ret
  exact ⟨rfl, H1.out⟩
end Go.Proofs.YtnljibmdcknmeabDoor
