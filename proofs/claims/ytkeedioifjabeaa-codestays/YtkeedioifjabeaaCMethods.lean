/-
  The reader's methods Num, Byte, Bool, Text, Key (package code), by the plain functions; and of a nil reader. Own work.
-/
import Derived.Test.YtkeedioifjabeaaCFieldKey
namespace Go.Proofs.Ytkeedioifjabeaa
open Go.RowKit

theorem num_field (most : Nat) (r : RS) : numS most r = fieldS 0 (numR most) r := by
  unfold numS fieldS numR
  by_cases h0 : r.why ≠ 0
  · rw [if_pos h0, if_pos h0]
  · rw [if_neg h0, if_neg h0]
    by_cases h1 : (longS r.bs).2.2 ≠ 0
    · rw [if_pos h1, if_pos h1, if_pos h1]
    · rw [if_neg h1, if_neg h1]
      by_cases h2 : (most : Int) < (longS r.bs).1
      · simp [h2]
      · simp [h2]
theorem byte_field (r : RS) : byteS r = fieldS 0 byteR r := by
  unfold byteS fieldS byteR
  by_cases h0 : r.why ≠ 0
  · rw [if_pos h0, if_pos h0]
  · rw [if_neg h0, if_neg h0]
    by_cases h1 : r.bs = []
    · simp [h1]
    · simp [h1]
theorem bool_field (r : RS) : boolS r = fieldS false boolR r := by
  unfold boolS fieldS boolR
  by_cases h0 : r.why ≠ 0
  · rw [if_pos h0, if_pos h0]
  · rw [if_neg h0, if_neg h0]
    by_cases h1 : r.bs = []
    · simp [h1]
    · rw [if_neg h1, if_neg h1]
      by_cases h2 : 1 < r.bs.getD 0 0
      · simp only [if_pos h2]; simp
      · simp only [if_neg h2]; simp
theorem key_field (r : RS) : keyS r = fieldS (List.replicate 8 0) keyR r := by
  unfold keyS fieldS keyR
  by_cases h0 : r.why ≠ 0
  · rw [if_pos h0, if_pos h0]
  · rw [if_neg h0, if_neg h0]
    by_cases h1 : r.bs.length < 8
    · simp [h1]
    · simp [h1]
theorem text_field (most : Int) (r : RS) (hx : ∀ c ∈ r.bs, 0 ≤ c ∧ c < 256) : textS most r = fieldS [] (textR most) r := by
  unfold textS fieldS textR numR
  by_cases h0 : r.why ≠ 0
  · rw [if_pos h0, if_pos h0]
  · rw [if_neg h0, if_neg h0]
    rcases long_cases' r.bs hx with ⟨e, hl, he⟩ | ⟨N, s, hl, h1, hs, hN, _⟩
    · simp [hl, he]
    · rw [hl]
      simp only
      have hm : (0 ≤ most ∧ most < (N : Int)) ↔ ((mostU most : Nat) : Int) < (N : Int) := by
        unfold mostU
        split <;> omega
      rw [if_neg (by simp)]
      by_cases h2 : 0 ≤ most ∧ most < (N : Int)
      · rw [if_pos h2]
        have h3 := hm.1 h2
        simp [h3]
      · rw [if_neg h2]
        have h3 : ¬ ((mostU most : Nat) : Int) < (N : Int) := fun h => h2 (hm.2 h)
        by_cases h4 : (r.bs.length : Int) - (s : Int) < (N : Int)
        · simp [h3, h4]
        · simp only [if_neg h3, if_neg h4]
          simp [h4]
          congr 1
theorem num_sized (most : Nat) (bs : List Int) (hx : ∀ c ∈ bs, 0 ≤ c ∧ c < 256) : Sized (numR most) bs := by
  intro h
  rcases numR_cases most bs hx with ⟨e, h1, h2⟩ | ⟨N, s, h1, _, h3, _⟩
  · rw [h1] at h; exact absurd h h2
  · rw [h1]; exact ⟨s, rfl, h3⟩
theorem byte_sized (bs : List Int) : Sized byteR bs := by
  intro h
  unfold byteR at h ⊢
  by_cases h1 : bs = []
  · rw [if_pos h1] at h; simp at h
  · rw [if_neg h1]; exact ⟨1, rfl, List.length_pos_iff.2 h1⟩
theorem bool_sized (bs : List Int) : Sized boolR bs := by
  intro h
  unfold boolR at h ⊢
  by_cases h1 : bs = []
  · rw [if_pos h1] at h; simp at h
  · rw [if_neg h1] at h ⊢
    by_cases h2 : 1 < bs.getD 0 0
    · rw [if_pos h2] at h; simp at h
    · rw [if_neg h2]; exact ⟨1, rfl, List.length_pos_iff.2 h1⟩
theorem key_sized (bs : List Int) : Sized keyR bs := by
  intro h
  unfold keyR at h ⊢
  by_cases h1 : bs.length < 8
  · rw [if_pos h1] at h; simp at h
  · rw [if_neg h1]; exact ⟨8, rfl, by omega⟩
theorem text_sized (most : Int) (bs : List Int) (hx : ∀ c ∈ bs, 0 ≤ c ∧ c < 256) : Sized (textR most) bs := by
  intro h
  unfold textR at h ⊢
  rcases numR_cases (mostU most) bs hx with ⟨e, h1, h2⟩ | ⟨N, s, h1, _, h3, _⟩
  · rw [h1] at h; simp only at h; rw [if_pos h2] at h; exact absurd h h2
  · rw [h1] at h ⊢
    simp only at h ⊢
    rw [if_neg (by simp)] at h ⊢
    by_cases h2 : (bs.length : Int) - (s : Int) < (N : Int)
    · rw [if_pos h2] at h; simp at h
    · rw [if_neg h2]; exact ⟨s + N, by simp, by omega⟩

theorem crnum_any (p : Nat) (vb : Value) (all : List Int) (r : RS) (w : World) (h : CR w p vb all r) (most : Nat) :
    Calls Try.prog 15 #[.pointer (some ⟨p, 0, none⟩), .int .u64 most] w fun e w' => e = .returned (.int .u64 (numS most r).1) ∧ CR w' p vb all (numS most r).2 ∧ KeepBut (fun k => k = p) w w' := by
  have hmf := make_fn
  have C := hide (field_num p vb all r w h most (num_sized most r.bs h.byte'))
  rw [← num_field] at C
  clear h
  go_enter Try.func15, Try.ntmps15
  go_wp2_with (go_at_call 37; refine C.out.mono ?_; rintro e w1 ⟨rfl, h1, hk⟩; have H1 := hide h1; have HK := hide hk; clear h1 hk)
  go_ret
  exact ⟨rfl, H1.out, HK.out⟩
theorem crbyte_any (p : Nat) (vb : Value) (all : List Int) (r : RS) (w : World) (h : CR w p vb all r) :
    Calls Try.prog 16 #[.pointer (some ⟨p, 0, none⟩)] w fun e w' => e = .returned (.int .u8 (byteS r).1) ∧ CR w' p vb all (byteS r).2 ∧ KeepBut (fun k => k = p) w w' := by
  have hmf := make_fn
  have C := hide (field_byte p vb all r w h (byte_sized r.bs))
  rw [← byte_field] at C
  clear h
  go_enter Try.func16, Try.ntmps16
  go_wp2_with (go_at_call 39; refine C.out.mono ?_; rintro e w1 ⟨rfl, h1, hk⟩; have H1 := hide h1; have HK := hide hk; clear h1 hk)
  go_ret
  exact ⟨rfl, H1.out, HK.out⟩
theorem crbool_any (p : Nat) (vb : Value) (all : List Int) (r : RS) (w : World) (h : CR w p vb all r) :
    Calls Try.prog 17 #[.pointer (some ⟨p, 0, none⟩)] w fun e w' => e = .returned (.bool (boolS r).1) ∧ CR w' p vb all (boolS r).2 ∧ KeepBut (fun k => k = p) w w' := by
  have hmf := make_fn
  have C := hide (field_bool p vb all r w h (bool_sized r.bs))
  rw [← bool_field] at C
  clear h
  go_enter Try.func17, Try.ntmps17
  go_wp2_with (go_at_call 41; refine C.out.mono ?_; rintro e w1 ⟨rfl, h1, hk⟩; have H1 := hide h1; have HK := hide hk; clear h1 hk)
  go_ret
  exact ⟨rfl, H1.out, HK.out⟩
theorem crtext_any (p : Nat) (vb : Value) (all : List Int) (r : RS) (w : World) (h : CR w p vb all r) (most : Int) (hlo : -9223372036854775808 ≤ most) (hhi : most ≤ 9223372036854775807) :
    Calls Try.prog 18 #[.pointer (some ⟨p, 0, none⟩), .int .i64 most] w fun e w' => e = .returned (.string (strOfNums (textS most r).1)) ∧ CR w' p vb all (textS most r).2 ∧ KeepBut (fun k => k = p) w w' := by
  have hmf := make_fn
  have C := hide (field_text p vb all r w h most (text_sized most r.bs h.byte') hlo hhi)
  rw [← text_field most r h.byte'] at C
  clear h
  go_enter Try.func18, Try.ntmps18
  go_wp2_with (go_at_call 43; refine C.out.mono ?_; rintro e w1 ⟨rfl, h1, hk⟩; have H1 := hide h1; have HK := hide hk; clear h1 hk)
  go_ret
  exact ⟨rfl, H1.out, HK.out⟩
theorem keyS_length (r : RS) : (keyS r).1.length = 8 := by
  unfold keyS
  split
  · simp
  · split
    · simp
    · simp; omega
set_option maxRecDepth 100000 in
set_option maxHeartbeats 1600000 in
theorem crkey_any (p : Nat) (vb : Value) (all : List Int) (r : RS) (w : World) (h : CR w p vb all r) :
    Calls Try.prog 19 #[.pointer (some ⟨p, 0, none⟩)] w fun e w' => e = .returned (.agg ((keyS r).1.map (Value.int .u8)).toArray) ∧ CR w' p vb all (keyS r).2 ∧ KeepBut (fun k => k = p) w w' := by
  have hmf := make_fn
  have hB0 := (Below.refl w.heap.size w).alloc (Nat.le_refl _) (.cells #[.int .u8 0, .int .u8 0, .int .u8 0, .int .u8 0, .int .u8 0, .int .u8 0, .int .u8 0, .int .u8 0] 45)
  have C := hide (field_key p vb all r _ (h.below hB0) (key_sized r.bs))
  rw [← key_field] at C
  have HB0 := hide hB0
  have HBT := hide (box_new w #[.int .u8 0, .int .u8 0, .int .u8 0, .int .u8 0, .int .u8 0, .int .u8 0, .int .u8 0, .int .u8 0] 45)
  have hplt := h.box.lt
  have HVN : Hid (∀ g, vb.ownBlock = some g → ¬ g = w.heap.size) := hide (fun g hg e => Nat.lt_irrefl _ (owns_lt h.own (e ▸ hg)))
  have HI := hide ((zero_of_info infoKey).2)
  clear h hB0
  obtain ⟨c0, c1, c2, c3, c4, c5, c6, c7, hV⟩ := eight _ (keyS_length r)
  rw [hV] at C ⊢
  simp only [List.map_cons, List.map_nil] at C ⊢
  clear hV
  go_enter Try.func19, Try.ntmps19
  go_wp2_with fail
  refine C.out.mono ?_
  rintro e w1 ⟨rfl, h1, hk⟩
  have H1 := hide h1
  have HK := hide ((KeepBut.of_below (fun k => k = p) HB0.out).trans hk (fun _ _ h => h))
  have HBT1 := hide (HBT.out.keep hk (by omega))
  clear h1 hk C
  go_wp2_with (refine wp_store_box rfl rfl _ _ rfl _ rfl rfl HBT1.out rfl HI.out (by simp [Value.oneCell']) ?_; intro w3 hb3 hk3; have HB3 := hide hb3; have HK3 := hide hk3; clear hb3 hk3)
  exact bodyPost_ret (v := .agg #[.int .u8 c0, .int .u8 c1, .int .u8 c2, .int .u8 c3, .int .u8 c4, .int .u8 c5, .int .u8 c6, .int .u8 c7]) (results_box Try.results19 _ _ w.heap.size rfl HB3.out Try.underlying45 rfl HI.out) rfl ⟨rfl, H1.out.keep HK3.out (by omega) HVN.out, HK.out.trans HK3.out (fun k hk e => absurd hk (by omega))⟩

/-! A nil reader. -/
theorem crnum_nil (w : World) (most : Int) : Calls Try.prog 15 #[.pointer none, .int .u64 most] w fun e w' => e = .returned (.int .u64 0) ∧ Below w.heap.size w w' := by
  have hmf := make_fn
  go_enter Try.func15, Try.ntmps15
  go_wp2_with (go_at_call 37; refine (field_num_nil w _).mono ?_; rintro e w1 ⟨rfl, h1⟩; have H1 := hide h1; clear h1)
  go_ret
  exact ⟨rfl, H1.out⟩
theorem crbyte_nil (w : World) : Calls Try.prog 16 #[.pointer none] w fun e w' => e = .returned (.int .u8 0) ∧ Below w.heap.size w w' := by
  have hmf := make_fn
  go_enter Try.func16, Try.ntmps16
  go_wp2_with (go_at_call 39; refine (field_byte_nil w _).mono ?_; rintro e w1 ⟨rfl, h1⟩; have H1 := hide h1; clear h1)
  go_ret
  exact ⟨rfl, H1.out⟩
theorem crbool_nil (w : World) : Calls Try.prog 17 #[.pointer none] w fun e w' => e = .returned (.bool false) ∧ Below w.heap.size w w' := by
  have hmf := make_fn
  go_enter Try.func17, Try.ntmps17
  go_wp2_with (go_at_call 41; refine (field_bool_nil w _).mono ?_; rintro e w1 ⟨rfl, h1⟩; have H1 := hide h1; clear h1)
  go_ret
  exact ⟨rfl, H1.out⟩
theorem crtext_nil (w : World) (most : Int) : Calls Try.prog 18 #[.pointer none, .int .i64 most] w fun e w' => e = .returned (.string ⟨#[]⟩) ∧ Below w.heap.size w w' := by
  have hmf := make_fn
  go_enter Try.func18, Try.ntmps18
  go_wp2_with (go_at_call 43; refine (field_text_nil w _).mono ?_; rintro e w1 ⟨rfl, h1⟩; have H1 := hide h1; clear h1)
  go_ret
  exact ⟨rfl, H1.out⟩
set_option maxRecDepth 100000 in
set_option maxHeartbeats 1600000 in
theorem field_key_nil (w : World) (rd : Value) : Calls Try.prog 45 #[.pointer none, rd] w fun e w' => e = .returned (.agg #[.int .u8 0, .int .u8 0, .int .u8 0, .int .u8 0, .int .u8 0, .int .u8 0, .int .u8 0, .int .u8 0]) ∧ Below w.heap.size w w' := by
  have hfl := fld_why
  have hB0 := (((Below.refl w.heap.size w).alloc (Nat.le_refl _) (.cells #[.int .u8 0, .int .u8 0, .int .u8 0, .int .u8 0, .int .u8 0, .int .u8 0, .int .u8 0, .int .u8 0] 45)).alloc (by simp) (.cells #[.int .u8 0, .int .u8 0, .int .u8 0, .int .u8 0, .int .u8 0, .int .u8 0, .int .u8 0, .int .u8 0] 45))
  have HB0 := hide hB0
  have C := hide (fault_nil ((w.alloc (.cells #[.int .u8 0, .int .u8 0, .int .u8 0, .int .u8 0, .int .u8 0, .int .u8 0, .int .u8 0, .int .u8 0] 45)).alloc (.cells #[.int .u8 0, .int .u8 0, .int .u8 0, .int .u8 0, .int .u8 0, .int .u8 0, .int .u8 0, .int .u8 0] 45)))
  have HI := hide ((zero_of_info infoKey).2)
  have hb2 := hide (boxes_two w #[.int .u8 0, .int .u8 0, .int .u8 0, .int .u8 0, .int .u8 0, .int .u8 0, .int .u8 0, .int .u8 0] #[.int .u8 0, .int .u8 0, .int .u8 0, .int .u8 0, .int .u8 0, .int .u8 0, .int .u8 0, .int .u8 0] 45 45)
  clear hB0
  go_enter Try.func45, Try.ntmps45
  go_wp2_with fail
  refine C.out.mono ?_
  rintro e w1 ⟨rfl, hB⟩
  have HB := hide (HB0.out.trans (hB.mono HB0.out.size))
  have HBT := hide (hb2.out.1.keep (KeepBut.of_below (fun _ => False) hB) (fun h => h))
  have HBN := hide (hb2.out.2.keep (KeepBut.of_below (fun _ => False) hB) (fun h => h))
  clear hB C hb2
  go_wp2_with (first
    | (refine wp_load_box rfl _ rfl _ rfl HBN.out Try.underlying45 rfl HI.out ?_)
    | (refine wp_store_box rfl rfl _ _ rfl _ rfl rfl HBT.out rfl HI.out (by simp [Value.oneCell']) ?_; intro w3 hb3 hk3; have HB3 := hide hb3; have HK3 := hide hk3; clear hb3 hk3))
  exact bodyPost_ret (v := .agg #[.int .u8 0, .int .u8 0, .int .u8 0, .int .u8 0, .int .u8 0, .int .u8 0, .int .u8 0, .int .u8 0]) (results_box Try.results45 _ _ w.heap.size rfl HB3.out Try.underlying45 rfl HI.out) rfl ⟨rfl, HB.out.trans (HK3.out.below HB.out.size (fun k hk => by omega))⟩
set_option maxRecDepth 100000 in
set_option maxHeartbeats 1600000 in
theorem crkey_nil (w : World) : Calls Try.prog 19 #[.pointer none] w fun e w' => e = .returned (.agg #[.int .u8 0, .int .u8 0, .int .u8 0, .int .u8 0, .int .u8 0, .int .u8 0, .int .u8 0, .int .u8 0]) ∧ Below w.heap.size w w' := by
  have hmf := make_fn
  have hB0 := (Below.refl w.heap.size w).alloc (Nat.le_refl _) (.cells #[.int .u8 0, .int .u8 0, .int .u8 0, .int .u8 0, .int .u8 0, .int .u8 0, .int .u8 0, .int .u8 0] 45)
  have HB0 := hide hB0
  have HBT := hide (box_new w #[.int .u8 0, .int .u8 0, .int .u8 0, .int .u8 0, .int .u8 0, .int .u8 0, .int .u8 0, .int .u8 0] 45)
  have HI := hide ((zero_of_info infoKey).2)
  clear hB0
  go_enter Try.func19, Try.ntmps19
  go_wp2_with fail
  refine (field_key_nil _ _).mono ?_
  rintro e w1 ⟨rfl, hB⟩
  have HB := hide (HB0.out.trans (hB.mono HB0.out.size))
  have HBT1 := hide (HBT.out.keep (KeepBut.of_below (fun _ => False) hB) (fun h => h))
  clear hB
  go_wp2_with (refine wp_store_box rfl rfl _ _ rfl _ rfl rfl HBT1.out rfl HI.out (by simp [Value.oneCell']) ?_; intro w3 hb3 hk3; have HB3 := hide hb3; have HK3 := hide hk3; clear hb3 hk3)
  exact bodyPost_ret (v := .agg #[.int .u8 0, .int .u8 0, .int .u8 0, .int .u8 0, .int .u8 0, .int .u8 0, .int .u8 0, .int .u8 0]) (results_box Try.results19 _ _ w.heap.size rfl HB3.out Try.underlying45 rfl HI.out) rfl ⟨rfl, HB.out.trans (HK3.out.below HB.out.size (fun k hk => by omega))⟩
end Go.Proofs.Ytkeedioifjabeaa
