/-
  Own texts put together: CMethods, IdUnless, IdCode, IdCode2, VtQuo. Own work.
-/
import Derived.Test.YtlegliimgjmphaaGreatG19
import Derived.Test.YtlegliimgjmphaaGreatG07
import Derived.Test.YtlegliimgjmphaaGreatG05
import Derived.Test.YtlegliimgjmphaaGreatG04
import Derived.WalkMore
import Derived.Deep.LoopGhost
namespace Go.Proofs.YtlegliimgjmphaaGreat
section
open Go.RowKit
theorem num_field (most : Nat) (r : RS) : numS most r = fieldS 0 (numR most) r := by
 unfold numS fieldS numR
 by_cases h0 : r.why ≠ 0
 ·rw [if_pos h0, if_pos h0]
 ·rw [if_neg h0, if_neg h0]
  by_cases h1 : (longS r.bs).2.2 ≠ 0
  ·rw [if_pos h1, if_pos h1, if_pos h1]
  ·rw [if_neg h1, if_neg h1]
   by_cases h2 : (most : Int) < (longS r.bs).1
   ·simp [h2]
   ·simp [h2]
theorem byte_field (r : RS) : byteS r = fieldS 0 byteR r := by
 unfold byteS fieldS byteR
 by_cases h0 : r.why ≠ 0
 ·rw [if_pos h0, if_pos h0]
 ·rw [if_neg h0, if_neg h0]
  by_cases h1 : r.bs = []
  ·simp [h1]
  ·simp [h1]
theorem key_field (r : RS) : keyS r = fieldS (List.replicate 8 0) keyR r := by
 unfold keyS fieldS keyR
 by_cases h0 : r.why ≠ 0
 ·rw [if_pos h0, if_pos h0]
 ·rw [if_neg h0, if_neg h0]
  by_cases h1 : r.bs.length < 8
  ·simp [h1]
  ·simp [h1]
theorem text_field (most : Int) (r : RS) (hx : ∀ c ∈ r.bs, 0 ≤ c ∧ c < 256) : textS most r = fieldS [] (textR most) r := by
 unfold textS fieldS textR numR
 by_cases h0 : r.why ≠ 0
 ·rw [if_pos h0, if_pos h0]
 ·rw [if_neg h0, if_neg h0]
  rcases long_cases' r.bs hx with ⟨e, hl, he⟩ | ⟨N, s, hl, h1, hs, hN, _⟩
  ·simp [hl, he]
  ·rw [hl]
   simp only
   have hm : (0 ≤ most ∧ most < (N : Int)) ↔ ((mostU most : Nat) : Int) < (N : Int) := by
    unfold mostU
    split <;> omega
   rw [if_neg (by simp)]
   by_cases h2 : 0 ≤ most ∧ most < (N : Int)
   ·rw [if_pos h2]
    have h3 := hm.1 h2
    simp [h3]
   ·rw [if_neg h2]
    have h3 : ¬ ((mostU most : Nat) : Int) < (N : Int) := fun h => h2 (hm.2 h)
    by_cases h4 : (r.bs.length : Int) - (s : Int) < (N : Int)
    ·simp [h3, h4]
    ·simp only [if_neg h3, if_neg h4]
     simp [h4]
     congr 1
theorem num_sized (most : Nat) (bs : List Int) (hx : ∀ c ∈ bs, 0 ≤ c ∧ c < 256) : Sized (numR most) bs := by
 intro h
 rcases numR_cases most bs hx with ⟨e, h1, h2⟩ | ⟨N, s, h1, _, h3, _⟩
 ·rw [h1] at h; exact absurd h h2
 ·rw [h1]; exact ⟨s, rfl, h3⟩
theorem byte_sized (bs : List Int) : Sized byteR bs := by
 intro h
 unfold byteR at h ⊢
 by_cases h1 : bs = []
 ·rw [if_pos h1] at h; simp at h
 ·rw [if_neg h1]; exact ⟨1, rfl, List.length_pos_iff.2 h1⟩
theorem key_sized (bs : List Int) : Sized keyR bs := by
 intro h
 unfold keyR at h ⊢
 by_cases h1 : bs.length < 8
 ·rw [if_pos h1] at h; simp at h
 ·rw [if_neg h1]; exact ⟨8, rfl, by omega⟩
theorem text_sized (most : Int) (bs : List Int) (hx : ∀ c ∈ bs, 0 ≤ c ∧ c < 256) : Sized (textR most) bs := by
 intro h
 unfold textR at h ⊢
 rcases numR_cases (mostU most) bs hx with ⟨e, h1, h2⟩ | ⟨N, s, h1, _, h3, _⟩
 ·rw [h1] at h; simp only at h; rw [if_pos h2] at h; exact absurd h h2
 ·rw [h1] at h ⊢
  simp only at h ⊢
  rw [if_neg (by simp)] at h ⊢
  by_cases h2 : (bs.length : Int) - (s : Int) < (N : Int)
  ·rw [if_pos h2] at h; simp at h
  ·rw [if_neg h2]; exact ⟨s + N, by simp, by omega⟩
theorem crnum_any (p : Nat) (vb : Value) (all : List Int) (r : RS) (w : World) (h : CR w p vb all r) (most : Nat) :
  Calls Tryz.prog 169 #[.pointer (some ⟨p, 0, none⟩), .int .u64 most] w fun e w' => e = .returned (.int .u64 (numS most r).1) ∧ CR w' p vb all (numS most r).2 ∧ KeepBut (fun k => k = p) w w' := by
 have hmf := make_fn
 have C := hide (field_num p vb all r w h most (num_sized most r.bs h.byte'))
 rw [← num_field] at C
 clear h
 go_enter Tryz.func169, Tryz.ntmps169
 go_wp2_with (go_at_call 231; refine C.out.mono ?_; rintro e w1 ⟨rfl, h1, hk⟩; have H1 := hide h1; have HK := hide hk; clear h1 hk)
 go_ret
 exact ⟨rfl, H1.out, HK.out⟩
theorem crbyte_any (p : Nat) (vb : Value) (all : List Int) (r : RS) (w : World) (h : CR w p vb all r) :
  Calls Tryz.prog 91 #[.pointer (some ⟨p, 0, none⟩)] w fun e w' => e = .returned (.int .u8 (byteS r).1) ∧ CR w' p vb all (byteS r).2 ∧ KeepBut (fun k => k = p) w w' := by
 have hmf := make_fn
 have C := hide (field_byte p vb all r w h (byte_sized r.bs))
 rw [← byte_field] at C
 clear h
 go_enter Tryz.func91, Tryz.ntmps91
 go_wp2_with (go_at_call 148; refine C.out.mono ?_; rintro e w1 ⟨rfl, h1, hk⟩; have H1 := hide h1; have HK := hide hk; clear h1 hk)
 go_ret
 exact ⟨rfl, H1.out, HK.out⟩
theorem crtext_any (p : Nat) (vb : Value) (all : List Int) (r : RS) (w : World) (h : CR w p vb all r) (most : Int) (hlo : -9223372036854775808 ≤ most) (hhi : most ≤ 9223372036854775807) :
  Calls Tryz.prog 217 #[.pointer (some ⟨p, 0, none⟩), .int .i64 most] w fun e w' => e = .returned (.string (strOfNums (textS most r).1)) ∧ CR w' p vb all (textS most r).2 ∧ KeepBut (fun k => k = p) w w' := by
 have hmf := make_fn
 have C := hide (field_text p vb all r w h most (text_sized most r.bs h.byte') hlo hhi)
 rw [← text_field most r h.byte'] at C
 clear h
 go_enter Tryz.func217, Tryz.ntmps217
 go_wp2_with (go_at_call 241; refine C.out.mono ?_; rintro e w1 ⟨rfl, h1, hk⟩; have H1 := hide h1; have HK := hide hk; clear h1 hk)
 go_ret
 exact ⟨rfl, H1.out, HK.out⟩
theorem keyS_length (r : RS) : (keyS r).1.length = 8 := by
 unfold keyS
 split
 ·simp
 ·split
  ·simp
  ·simp; omega
set_option maxRecDepth 100000 in
set_option maxHeartbeats 1600000 in
theorem crkey_any (p : Nat) (vb : Value) (all : List Int) (r : RS) (w : World) (h : CR w p vb all r) :
  Calls Tryz.prog 133 #[.pointer (some ⟨p, 0, none⟩)] w fun e w' => e = .returned (.agg ((keyS r).1.map (Value.int .u8)).toArray) ∧ CR w' p vb all (keyS r).2 ∧ KeepBut (fun k => k = p) w w' := by
 have hmf := make_fn
 have hB0 := (Below.refl w.heap.size w).alloc (Nat.le_refl _) (.cells #[.int .u8 0, .int .u8 0, .int .u8 0, .int .u8 0, .int .u8 0, .int .u8 0, .int .u8 0, .int .u8 0] 81)
 have C := hide (field_key p vb all r _ (h.below hB0) (key_sized r.bs))
 rw [← key_field] at C
 have HB0 := hide hB0
 have HBT := hide (box_new w #[.int .u8 0, .int .u8 0, .int .u8 0, .int .u8 0, .int .u8 0, .int .u8 0, .int .u8 0, .int .u8 0] 81)
 have hplt := h.box.lt
 have HVN : Hid (∀ g, vb.ownBlock = some g → ¬ g = w.heap.size) := hide (fun g hg e => Nat.lt_irrefl _ (owns_lt h.own (e ▸ hg)))
 have HI := hide ((zero_of_info infoKey).2)
 clear h hB0
 obtain ⟨c0, c1, c2, c3, c4, c5, c6, c7, hV⟩ := eight _ (keyS_length r)
 rw [hV] at C ⊢
 simp only [List.map_cons, List.map_nil] at C ⊢
 clear hV
 go_enter Tryz.func133, Tryz.ntmps133
 go_wp2_with fail
 refine C.out.mono ?_
 rintro e w1 ⟨rfl, h1, hk⟩
 have H1 := hide h1
 have HK := hide ((KeepBut.of_below (fun k => k = p) HB0.out).trans hk (fun _ _ h => h))
 have HBT1 := hide (HBT.out.keep hk (by omega))
 clear h1 hk C
 go_wp2_with (refine wp_store_box rfl rfl _ _ rfl _ rfl rfl HBT1.out rfl HI.out (by simp [Value.oneCell']) ?_; intro w3 hb3 hk3; have HB3 := hide hb3; have HK3 := hide hk3; clear hb3 hk3)
 exact bodyPost_ret (v := .agg #[.int .u8 c0, .int .u8 c1, .int .u8 c2, .int .u8 c3, .int .u8 c4, .int .u8 c5, .int .u8 c6, .int .u8 c7]) (results_box Tryz.results133 _ _ w.heap.size rfl HB3.out Tryz.underlying81 rfl HI.out) rfl ⟨rfl, H1.out.keep HK3.out (by omega) HVN.out, HK.out.trans HK3.out (fun k hk e => absurd hk (by omega))⟩
end
section
open Go.RowKit
theorem infoUreg : (Tryz.prog.info? 76).map (·.size) = some 2 := by kernel_rfl
set_option maxRecDepth 100000 in
set_option maxHeartbeats 800000 in
theorem unless_reg (p : Nat) (vb : Value) (all : List Int) (r : RS) (x0 x1 : Int) (w : World) (h : CR w p vb all r) :
  Calls Tryz.prog 182 #[.pointer (some ⟨p, 0, none⟩), .agg #[.int .u32 x0, .int .u32 x1]] w fun e w' => e = .returned (if r.why ≠ 0 then .agg #[.int .u32 0, .int .u32 0] else .agg #[.int .u32 x0, .int .u32 x1]) ∧ Below w.heap.size w w' := by
 have hB0 := ((Below.refl w.heap.size w).alloc (Nat.le_refl _) (.cells #[.int .u32 x0, .int .u32 x1] 76)).alloc (by simp) (.cells #[.int .u32 0, .int .u32 0] 76)
 have CF := hide (fault_any p vb all r _ (h.below hB0))
 have HV0 : Hid (Box ((w.alloc (.cells #[.int .u32 x0, .int .u32 x1] 76)).alloc (.cells #[.int .u32 0, .int .u32 0] 76)) w.heap.size #[.int .u32 x0, .int .u32 x1] 76) := hide ((box_new w _ _).belowI ((Below.refl _ _).alloc (Nat.le_refl _) _))
 have HR0 : Hid (Box ((w.alloc (.cells #[.int .u32 x0, .int .u32 x1] 76)).alloc (.cells #[.int .u32 0, .int .u32 0] 76)) (w.heap.size + 1) #[.int .u32 0, .int .u32 0] 76) := hide (by
  have := box_new (w.alloc (.cells #[.int .u32 x0, .int .u32 x1] 76)) #[.int .u32 0, .int .u32 0] 76
  rw [World.size_alloc] at this
  exact this)
 have HB0 := hide hB0
 have hfw := fun a b w => fld_why a b w
 have HI := hide infoUreg
 clear h hB0
 by_cases hw : r.why ≠ 0
 ·rw [if_pos hw]
  have hw' : (r.why != 0) = true := bne_iff_ne.2 hw
  generalize r.why = wy at *
  clear hw
  go_enter Tryz.func182, Tryz.ntmps182
  go_wp2_with fail
  refine CF.out.mono ?_
  rintro e w1 ⟨rfl, hB1⟩
  have HB1 := hide (HB0.out.trans (hB1.mono HB0.out.size))
  have hb2 := (Below.refl w1.heap.size w1).alloc (Nat.le_refl _) (.cells #[.int .u32 0, .int .u32 0] 76)
  have HR2 := hide ((HR0.out.belowI hB1).belowI hb2)
  have HB2 := hide (HB1.out.trans (hb2.mono HB1.out.size))
  clear hB1 hb2
  go_wp2_with (refine wp_store_box (cs' := #[.int .u32 0, .int .u32 0]) rfl rfl _ _ rfl _ rfl rfl HR2.out rfl HI.out (by simp [Value.oneCell']) ?_; intro w3 hb3 hk3; have HB3 := hide hb3; have HK3 := hide hk3; clear hb3 hk3)
  exact bodyPost_ret (v := .agg #[.int .u32 0, .int .u32 0]) (results_box Tryz.results182 _ _ (w.heap.size + 1) rfl HB3.out Tryz.underlying76 rfl HI.out) rfl ⟨rfl, HB2.out.trans (HK3.out.below HB2.out.size (fun k hk => by omega))⟩
 ·rw [if_neg hw]
  have hw' : (r.why != 0) = false := by simpa using hw
  generalize r.why = wy at *
  clear hw
  go_enter Tryz.func182, Tryz.ntmps182
  go_wp2_with fail
  refine CF.out.mono ?_
  rintro e w1 ⟨rfl, hB1⟩
  have HB1 := hide (HB0.out.trans (hB1.mono HB0.out.size))
  have HR1 := hide (HR0.out.belowI hB1)
  obtain ⟨y0, y1⟩ := (HV0.out.belowI hB1).two
  have hvl := (HV0.out.belowI hB1).lt
  clear hB1
  go_wp2_with (refine wp_store_box (cs' := #[.int .u32 x0, .int .u32 x1]) rfl rfl _ _ rfl _ rfl rfl HR1.out rfl HI.out (by simp [Value.oneCell']) ?_; intro w3 hb3 hk3; have HB3 := hide hb3; have HK3 := hide hk3; clear hb3 hk3)
  exact bodyPost_ret (v := .agg #[.int .u32 x0, .int .u32 x1]) (results_box Tryz.results182 _ _ (w.heap.size + 1) rfl HB3.out Tryz.underlying76 rfl HI.out) rfl ⟨rfl, HB1.out.trans (HK3.out.below HB1.out.size (fun k hk => by omega))⟩
theorem infoUtx : (Tryz.prog.info? 74).map (·.size) = some 3 := by kernel_rfl
set_option maxRecDepth 100000 in
set_option maxHeartbeats 800000 in
theorem unless_tx (p : Nat) (vb : Value) (all : List Int) (r : RS) (x0 x1 x2 : Int) (w : World) (h : CR w p vb all r) :
  Calls Tryz.prog 177 #[.pointer (some ⟨p, 0, none⟩), .agg #[.int .u8 x0, .int .u32 x1, .int .u32 x2]] w fun e w' => e = .returned (if r.why ≠ 0 then .agg #[.int .u8 0, .int .u32 0, .int .u32 0] else .agg #[.int .u8 x0, .int .u32 x1, .int .u32 x2]) ∧ Below w.heap.size w w' := by
 have hB0 := ((Below.refl w.heap.size w).alloc (Nat.le_refl _) (.cells #[.int .u8 x0, .int .u32 x1, .int .u32 x2] 74)).alloc (by simp) (.cells #[.int .u8 0, .int .u32 0, .int .u32 0] 74)
 have CF := hide (fault_any p vb all r _ (h.below hB0))
 have HV0 : Hid (Box ((w.alloc (.cells #[.int .u8 x0, .int .u32 x1, .int .u32 x2] 74)).alloc (.cells #[.int .u8 0, .int .u32 0, .int .u32 0] 74)) w.heap.size #[.int .u8 x0, .int .u32 x1, .int .u32 x2] 74) := hide ((box_new w _ _).belowI ((Below.refl _ _).alloc (Nat.le_refl _) _))
 have HR0 : Hid (Box ((w.alloc (.cells #[.int .u8 x0, .int .u32 x1, .int .u32 x2] 74)).alloc (.cells #[.int .u8 0, .int .u32 0, .int .u32 0] 74)) (w.heap.size + 1) #[.int .u8 0, .int .u32 0, .int .u32 0] 74) := hide (by
  have := box_new (w.alloc (.cells #[.int .u8 x0, .int .u32 x1, .int .u32 x2] 74)) #[.int .u8 0, .int .u32 0, .int .u32 0] 74
  rw [World.size_alloc] at this
  exact this)
 have HB0 := hide hB0
 have hfw := fun a b w => fld_why a b w
 have HI := hide infoUtx
 clear h hB0
 by_cases hw : r.why ≠ 0
 ·rw [if_pos hw]
  have hw' : (r.why != 0) = true := bne_iff_ne.2 hw
  generalize r.why = wy at *
  clear hw
  go_enter Tryz.func177, Tryz.ntmps177
  go_wp2_with fail
  refine CF.out.mono ?_
  rintro e w1 ⟨rfl, hB1⟩
  have HB1 := hide (HB0.out.trans (hB1.mono HB0.out.size))
  have hb2 := (Below.refl w1.heap.size w1).alloc (Nat.le_refl _) (.cells #[.int .u8 0, .int .u32 0, .int .u32 0] 74)
  have HR2 := hide ((HR0.out.belowI hB1).belowI hb2)
  have HB2 := hide (HB1.out.trans (hb2.mono HB1.out.size))
  clear hB1 hb2
  go_wp2_with (refine wp_store_box (cs' := #[.int .u8 0, .int .u32 0, .int .u32 0]) rfl rfl _ _ rfl _ rfl rfl HR2.out rfl HI.out (by simp [Value.oneCell']) ?_; intro w3 hb3 hk3; have HB3 := hide hb3; have HK3 := hide hk3; clear hb3 hk3)
  exact bodyPost_ret (v := .agg #[.int .u8 0, .int .u32 0, .int .u32 0]) (results_box Tryz.results177 _ _ (w.heap.size + 1) rfl HB3.out Tryz.underlying74 rfl HI.out) rfl ⟨rfl, HB2.out.trans (HK3.out.below HB2.out.size (fun k hk => by omega))⟩
 ·rw [if_neg hw]
  have hw' : (r.why != 0) = false := by simpa using hw
  generalize r.why = wy at *
  clear hw
  go_enter Tryz.func177, Tryz.ntmps177
  go_wp2_with fail
  refine CF.out.mono ?_
  rintro e w1 ⟨rfl, hB1⟩
  have HB1 := hide (HB0.out.trans (hB1.mono HB0.out.size))
  have HR1 := hide (HR0.out.belowI hB1)
  obtain ⟨y0, y1, y2⟩ := (HV0.out.belowI hB1).three
  have hvl := (HV0.out.belowI hB1).lt
  clear hB1
  go_wp2_with (refine wp_store_box (cs' := #[.int .u8 x0, .int .u32 x1, .int .u32 x2]) rfl rfl _ _ rfl _ rfl rfl HR1.out rfl HI.out (by simp [Value.oneCell']) ?_; intro w3 hb3 hk3; have HB3 := hide hb3; have HK3 := hide hk3; clear hb3 hk3)
  exact bodyPost_ret (v := .agg #[.int .u8 x0, .int .u32 x1, .int .u32 x2]) (results_box Tryz.results177 _ _ (w.heap.size + 1) rfl HB3.out Tryz.underlying74 rfl HI.out) rfl ⟨rfl, HB1.out.trans (HK3.out.below HB1.out.size (fun k hk => by omega))⟩
end
section
open Go.RowKit
theorem wrap64_u32 (n : Nat) (h : n < 4294967296) : IntKind.u64.wrap (n : Int) = (n : Int) := by rw [IntKind.wrap_u64]; omega
theorem putnum_any (p : Nat) (v : Value) (xs : List Int) (n : Nat) (w : World) (h : CW w p v xs) (hr : roomFor xs.length) (hn : n < 4294967296) :
  Calls Tryz.prog 175 #[.pointer (some ⟨p, 0, none⟩), .int .u32 n] w fun e w' => e = .returned (.tuple #[]) ∧ ∃ v', CWrote w w' p v v' (xs ++ shortS n) := by
 have C := hide (cwnum_any p v xs n w h hr (by omega))
 have hcv := wrap64_u32 n hn
 clear h hr
 go_enter Tryz.func175, Tryz.ntmps175
 go_wp2_with (go_at_call 126; refine C.out.mono ?_; rintro e w1 ⟨rfl, v1, h1⟩; have H1 := hide h1; clear h1)
 go_end0
 exact ⟨rfl, v1, H1.out⟩
def txB (a : Int) (b c : Nat) : List Int := [a] ++ (shortS b ++ shortS c)
def regB (b c : Nat) : List Int := shortS b ++ shortS c
theorem short5 {n : Nat} (h : n < 4294967296) : (shortS n).length ≤ 5 := shortS_len 4 n (by omega)
set_option maxRecDepth 100000 in
theorem puttx_any (p : Nat) (v : Value) (xs : List Int) (a : Int) (b c : Nat) (w : World) (h : CW w p v xs) (hl : xs.length ≤ 1000000) (hb : b < 4294967296) (hc : c < 4294967296) :
  Calls Tryz.prog 118 #[.pointer (some ⟨p, 0, none⟩), .agg #[.int .u8 a, .int .u32 b, .int .u32 c]] w fun e w' => e = .returned (.tuple #[]) ∧ ∃ v', CWrote w w' p v v' (xs ++ txB a b c) := by
 have hB0 := (Below.refl w.heap.size w).alloc (Nat.le_refl _) (.cells #[.int .u8 a, .int .u32 b, .int .u32 c] 74)
 have HX0 := hide (box_new w #[.int .u8 a, .int .u32 b, .int .u32 c] 74)
 have hp := h.box.lt
 have HVL : Hid (∀ g, v.ownBlock = some g → g < w.heap.size) := hide (fun g hg => owns_lt h.own hg)
 have C1 := hide (cwbyte_any p v xs a _ (h.below hB0) (by unfold roomFor; omega))
 have hb5 := short5 hb
 have HB0 := hide hB0
 clear h hB0
 go_enter Tryz.func118, Tryz.ntmps118
 go_wp2_with fail
 refine C1.out.mono ?_
 rintro e w1 ⟨rfl, v1, h1⟩
 have hX1 := HX0.out.keep h1.keep (fun hS => by
  rcases hS with e | e
  ·omega
  ·have := HVL.out _ e; omega)
 obtain ⟨x0, x1, x2⟩ := hX1.three
 have hxl := hX1.lt
 have HV1 : Hid (∀ g, v1.ownBlock = some g → g ≠ w.heap.size) := hide (fun g hg e => by
  rcases h1.place with e2 | ⟨g2, e2, h2⟩
  ·have := HVL.out g (e2 ▸ hg); omega
  ·rw [e2] at hg; cases hg; simp at h2; omega)
 have C2 := hide (putnum_any p v1 _ b w1 h1.wr (by unfold roomFor; simp; omega) hb)
 have H1 := hide (CWrote.before HB0.out h1)
 have HX1 := hide hX1
 clear h1 hX1 C1
 go_wp2_with fail
 refine C2.out.mono ?_
 rintro e w2 ⟨rfl, v2, h2⟩
 have hX2 := HX1.out.keep h2.keep (fun hS => by
  rcases hS with e | e
  ·omega
  ·exact HV1.out _ e rfl)
 clear x0 x1 x2
 obtain ⟨x0, x1, x2⟩ := hX2.three
 have hxl2 := hX2.lt
 have C3 := hide (putnum_any p v2 _ c w2 h2.wr (by unfold roomFor; simp; omega) hc)
 have H2 := hide (CWrote.trans H1.out h2)
 clear h2 hX2 C2
 go_wp2_with fail
 refine C3.out.mono ?_
 rintro e w3 ⟨rfl, v3, h3⟩
 have h3' := CWrote.trans H2.out h3
 have HE : Hid (xs ++ [a] ++ shortS b ++ shortS c = xs ++ txB a b c) := hide (by unfold txB; simp)
 rw [HE.out] at h3'
 have H3 := hide h3'
 clear h3 h3'
 go_wp2_with fail
 go_end0
 exact ⟨rfl, v3, H3.out⟩
set_option maxRecDepth 100000 in
theorem putreg_any (p : Nat) (v : Value) (xs : List Int) (b c : Nat) (w : World) (h : CW w p v xs) (hl : xs.length ≤ 1000000) (hb : b < 4294967296) (hc : c < 4294967296) :
  Calls Tryz.prog 122 #[.pointer (some ⟨p, 0, none⟩), .agg #[.int .u32 b, .int .u32 c]] w fun e w' => e = .returned (.tuple #[]) ∧ ∃ v', CWrote w w' p v v' (xs ++ regB b c) := by
 have hB0 := (Below.refl w.heap.size w).alloc (Nat.le_refl _) (.cells #[.int .u32 b, .int .u32 c] 76)
 have HX0 := hide (box_new w #[.int .u32 b, .int .u32 c] 76)
 have hp := h.box.lt
 have HVL : Hid (∀ g, v.ownBlock = some g → g < w.heap.size) := hide (fun g hg => owns_lt h.own hg)
 have C1 := hide (putnum_any p v xs b _ (h.below hB0) (by unfold roomFor; omega) hb)
 have hb5 := short5 hb
 have HB0 := hide hB0
 clear h hB0
 go_enter Tryz.func122, Tryz.ntmps122
 go_wp2_with fail
 refine C1.out.mono ?_
 rintro e w1 ⟨rfl, v1, h1⟩
 have hX1 := HX0.out.keep h1.keep (fun hS => by
  rcases hS with e | e
  ·omega
  ·have := HVL.out _ e; omega)
 obtain ⟨x0, x1⟩ := hX1.two
 have hxl := hX1.lt
 have C2 := hide (putnum_any p v1 _ c w1 h1.wr (by unfold roomFor; simp; omega) hc)
 have H1 := hide (CWrote.before HB0.out h1)
 clear h1 hX1 C1
 go_wp2_with fail
 refine C2.out.mono ?_
 rintro e w2 ⟨rfl, v2, h2⟩
 have h2' := CWrote.trans H1.out h2
 have HE : Hid (xs ++ shortS b ++ shortS c = xs ++ regB b c) := hide (by unfold regB; simp)
 rw [HE.out] at h2'
 have H2 := hide h2'
 clear h2 h2'
 go_wp2_with fail
 go_end0
 exact ⟨rfl, v2, H2.out⟩
end
section
open Go.RowKit
theorem num_rng (m : Nat) (r : RS) (hx : ∀ c ∈ r.bs, 0 ≤ c ∧ c < 256) : ∃ n : Nat, (numS m r).1 = (n : Int) ∧ n ≤ m := by
 by_cases h0 : r.why ≠ 0
 ·rw [num_stays h0]; exact ⟨0, rfl, Nat.zero_le _⟩
 ·obtain ⟨n, h1, _⟩ := num_one m r (Classical.not_not.1 h0) hx
  refine ⟨n, h1, ?_⟩
  unfold numS at h1
  rw [if_neg h0] at h1
  split at h1
  ·have : (n : Int) = 0 := h1.symm
   omega
  ·split at h1
   ·have : (n : Int) = 0 := h1.symm
    omega
   ·rename_i h2
    have : (longS r.bs).1 = (n : Int) := h1
    omega
abbrev mxC : Nat := 2147483647
theorem getnum_any (p : Nat) (vb : Value) (all : List Int) (r : RS) (w : World) (h : CR w p vb all r) :
  Calls Tryz.prog 176 #[.pointer (some ⟨p, 0, none⟩)] w fun e w' => e = .returned (.int .u32 (numS mxC r).1) ∧ CR w' p vb all (numS mxC r).2 ∧ KeepBut (fun k => k = p) w w' := by
 have C := hide (crnum_any p vb all r w h mxC)
 obtain ⟨n, h1, h2⟩ := num_rng mxC r h.byte'
 have hcv : IntKind.u32.wrap (numS mxC r).1 = (numS mxC r).1 := by rw [h1, IntKind.wrap_u32]; simp only [mxC] at h2; omega
 generalize (numS mxC r).1 = x at *
 generalize (numS mxC r).2 = r2 at *
 clear h h1 h2
 go_enter Tryz.func176, Tryz.ntmps176
 go_wp2_with (go_at_call 169; refine C.out.mono ?_; rintro e w1 ⟨rfl, h1, hk⟩; have H1 := hide h1; have HK := hide hk; clear h1 hk)
 go_ret
 exact ⟨rfl, H1.out, HK.out⟩
def txR (r : RS) : RS := (numS mxC (numS mxC (byteS r).2).2).2
def txVal (r : RS) : TxP := if (txR r).why ≠ 0 then (0, 0, 0) else ((byteS r).1, (numS mxC (byteS r).2).1, (numS mxC (numS mxC (byteS r).2).2).1)
def regR (r : RS) : RS := (numS mxC (numS mxC r).2).2
def regVal (r : RS) : Int × Int := if (regR r).why ≠ 0 then (0, 0) else ((numS mxC r).1, (numS mxC (numS mxC r).2).1)
theorem KeepBut.one {p : Nat} {w w1 w2 : World} (h : KeepBut (fun k => k = p) w w1) (h' : KeepBut (fun k => k = p) w1 w2) : KeepBut (fun k => k = p) w w2 := h.trans h' (fun _ _ h => h)
theorem KeepBut.oneB {p : Nat} {w w1 w2 : World} (h : KeepBut (fun k => k = p) w w1) (h' : Below w1.heap.size w1 w2) : KeepBut (fun k => k = p) w w2 := h.trans (KeepBut.of_below (fun k => k = p) h') (fun _ _ h => h)
set_option maxRecDepth 100000 in
set_option maxHeartbeats 1600000 in
theorem gettx_any (p : Nat) (vb : Value) (all : List Int) (r : RS) (w : World) (h : CR w p vb all r) :
  Calls Tryz.prog 119 #[.pointer (some ⟨p, 0, none⟩)] w fun e w' => e = .returned (.agg #[.int .u8 (txVal r).1, .int .u32 (txVal r).2.1, .int .u32 (txVal r).2.2]) ∧ CR w' p vb all (txR r) ∧ KeepBut (fun k => k = p) w w' := by
 have hB0 := (Below.refl w.heap.size w).alloc (Nat.le_refl _) (.cells #[.int .u8 0, .int .u32 0, .int .u32 0] 74)
 have HR0 := hide (box_new w #[.int .u8 0, .int .u32 0, .int .u32 0] 74)
 have hp := h.box.lt
 have HK0 : Hid (KeepBut (fun k => k = p) w (w.alloc (.cells #[.int .u8 0, .int .u32 0, .int .u32 0] 74))) := hide (KeepBut.of_below _ hB0)
 have HC0 := hide (h.below hB0)
 have HI := hide infoUtx
 have HV : Hid (txVal r = if (txR r).why ≠ 0 then (0, 0, 0) else ((byteS r).1, (numS mxC (byteS r).2).1, (numS mxC (numS mxC (byteS r).2).2).1)) := hide rfl
 have HRR : Hid (txR r = (numS mxC (numS mxC (byteS r).2).2).2) := hide rfl
 have HVB : Hid (∀ g, vb.ownBlock = some g → g ≠ w.heap.size) := hide (fun g hg e => Nat.lt_irrefl _ (e ▸ owns_lt h.own hg))
 clear h hB0
 go_enter Tryz.func119, Tryz.ntmps119
 go_wp2_with fail
 refine (crbyte_any p vb all _ _ HC0.out).mono ?_
 rintro e w1 ⟨rfl, hc, hk⟩
 have HC1 := hide hc
 have HK1 := hide (HK0.out.one hk)
 have HR1 := hide (HR0.out.keep hk (by omega))
 clear hc hk HC0 HK0 HR0
 go_wp2_with fail
 refine (getnum_any p vb all _ _ HC1.out).mono ?_
 rintro e w2 ⟨rfl, hc, hk⟩
 have HC2 := hide hc
 have HK2 := hide (HK1.out.one hk)
 have HR2 := hide (HR1.out.keep hk (by omega))
 clear hc hk HC1 HK1 HR1
 go_wp2_with fail
 refine (getnum_any p vb all _ _ HC2.out).mono ?_
 rintro e w3 ⟨rfl, hc, hk⟩
 have HC3 := hide hc
 have HK3 := hide (HK2.out.one hk)
 have HR3 := hide (HR2.out.keep hk (by omega))
 clear hc hk HC2 HK2 HR2
 rw [← HRR.out] at HC3
 obtain ⟨x0, hx0⟩ : ∃ x, x = (byteS r).1 := ⟨_, rfl⟩
 rw [← hx0]
 have HX0 := hide hx0
 clear hx0
 obtain ⟨x1, hx1⟩ : ∃ x, x = (numS mxC ((byteS r).2)).1 := ⟨_, rfl⟩
 rw [← hx1]
 have HX1 := hide hx1
 clear hx1
 obtain ⟨x2, hx2⟩ : ∃ x, x = (numS mxC ((numS mxC ((byteS r).2)).2)).1 := ⟨_, rfl⟩
 rw [← hx2]
 have HX2 := hide hx2
 clear hx2
 have hbT := (Below.refl w3.heap.size w3).alloc (Nat.le_refl _) (.cells #[.int .u8 x0, .int .u32 x1, .int .u32 x2] 74)
 have HCT := hide (HC3.out.below hbT)
 have HKT := hide (HK3.out.oneB hbT)
 have HRT := hide (HR3.out.belowI hbT)
 have CU := hide (unless_tx p vb all _ x0 x1 x2 _ HCT.out)
 clear hbT
 go_wp2_with fail
 refine CU.out.mono ?_
 rintro e w8 ⟨rfl, hB8⟩
 have HC8 := hide (HCT.out.below hB8)
 have HK8 := hide (HKT.out.oneB hB8)
 have HR8 := hide (HRT.out.belowI hB8)
 clear hB8 CU HCT HKT HRT
 by_cases hw : (txR r).why ≠ 0
 ·rw [if_pos hw]
  have HF : Hid (txVal r = (0, 0, 0)) := hide (by rw [HV.out, if_pos hw])
  go_wp2_with (refine wp_store_box (cs' := #[.int .u8 0, .int .u32 0, .int .u32 0]) rfl rfl _ _ rfl _ rfl rfl HR8.out rfl HI.out (by simp [Value.oneCell']) ?_; intro w9 hb9 hk9; have HB9 := hide hb9; have HK9 := hide hk9; clear hb9 hk9)
  refine bodyPost_ret (v := .agg #[.int .u8 0, .int .u32 0, .int .u32 0]) (results_box Tryz.results119 _ _ w.heap.size rfl HB9.out Tryz.underlying74 rfl HI.out) rfl ⟨by rw [HF.out], ?_, ?_⟩
  ·exact HC8.out.keep HK9.out (by omega) (fun g hg e => HVB.out g hg e)
  ·refine ⟨HK9.out.os.trans HK8.out.os, HK9.out.tape.trans HK8.out.tape, HK9.out.output.trans HK8.out.output, Nat.le_trans HK8.out.size HK9.out.size, fun k hk hS => ?_⟩
   exact (HK9.out.block k (Nat.lt_of_lt_of_le hk HK8.out.size) (by omega)).trans (HK8.out.block k hk hS)
 ·rw [if_neg hw]
  have HF : Hid (txVal r = (x0, x1, x2)) := hide (by rw [HV.out, if_neg hw, HX0.out, HX1.out, HX2.out])
  go_wp2_with (refine wp_store_box (cs' := #[.int .u8 x0, .int .u32 x1, .int .u32 x2]) rfl rfl _ _ rfl _ rfl rfl HR8.out rfl HI.out (by simp [Value.oneCell']) ?_; intro w9 hb9 hk9; have HB9 := hide hb9; have HK9 := hide hk9; clear hb9 hk9)
  refine bodyPost_ret (v := .agg #[.int .u8 x0, .int .u32 x1, .int .u32 x2]) (results_box Tryz.results119 _ _ w.heap.size rfl HB9.out Tryz.underlying74 rfl HI.out) rfl ⟨by rw [HF.out], ?_, ?_⟩
  ·exact HC8.out.keep HK9.out (by omega) (fun g hg e => HVB.out g hg e)
  ·refine ⟨HK9.out.os.trans HK8.out.os, HK9.out.tape.trans HK8.out.tape, HK9.out.output.trans HK8.out.output, Nat.le_trans HK8.out.size HK9.out.size, fun k hk hS => ?_⟩
   exact (HK9.out.block k (Nat.lt_of_lt_of_le hk HK8.out.size) (by omega)).trans (HK8.out.block k hk hS)
set_option maxRecDepth 100000 in
set_option maxHeartbeats 1600000 in
theorem getreg_any (p : Nat) (vb : Value) (all : List Int) (r : RS) (w : World) (h : CR w p vb all r) :
  Calls Tryz.prog 123 #[.pointer (some ⟨p, 0, none⟩)] w fun e w' => e = .returned (.agg #[.int .u32 (regVal r).1, .int .u32 (regVal r).2]) ∧ CR w' p vb all (regR r) ∧ KeepBut (fun k => k = p) w w' := by
 have hB0 := (Below.refl w.heap.size w).alloc (Nat.le_refl _) (.cells #[.int .u32 0, .int .u32 0] 76)
 have HR0 := hide (box_new w #[.int .u32 0, .int .u32 0] 76)
 have hp := h.box.lt
 have HK0 : Hid (KeepBut (fun k => k = p) w (w.alloc (.cells #[.int .u32 0, .int .u32 0] 76))) := hide (KeepBut.of_below _ hB0)
 have HC0 := hide (h.below hB0)
 have HI := hide infoUreg
 have HV : Hid (regVal r = if (regR r).why ≠ 0 then (0, 0) else ((numS mxC r).1, (numS mxC (numS mxC r).2).1)) := hide rfl
 have HRR : Hid (regR r = (numS mxC (numS mxC r).2).2) := hide rfl
 have HVB : Hid (∀ g, vb.ownBlock = some g → g ≠ w.heap.size) := hide (fun g hg e => Nat.lt_irrefl _ (e ▸ owns_lt h.own hg))
 clear h hB0
 go_enter Tryz.func123, Tryz.ntmps123
 go_wp2_with fail
 refine (getnum_any p vb all _ _ HC0.out).mono ?_
 rintro e w1 ⟨rfl, hc, hk⟩
 have HC1 := hide hc
 have HK1 := hide (HK0.out.one hk)
 have HR1 := hide (HR0.out.keep hk (by omega))
 clear hc hk HC0 HK0 HR0
 go_wp2_with fail
 refine (getnum_any p vb all _ _ HC1.out).mono ?_
 rintro e w2 ⟨rfl, hc, hk⟩
 have HC2 := hide hc
 have HK2 := hide (HK1.out.one hk)
 have HR2 := hide (HR1.out.keep hk (by omega))
 clear hc hk HC1 HK1 HR1
 rw [← HRR.out] at HC2
 obtain ⟨x0, hx0⟩ : ∃ x, x = (numS mxC r).1 := ⟨_, rfl⟩
 rw [← hx0]
 have HX0 := hide hx0
 clear hx0
 obtain ⟨x1, hx1⟩ : ∃ x, x = (numS mxC ((numS mxC r).2)).1 := ⟨_, rfl⟩
 rw [← hx1]
 have HX1 := hide hx1
 clear hx1
 have hbT := (Below.refl w2.heap.size w2).alloc (Nat.le_refl _) (.cells #[.int .u32 x0, .int .u32 x1] 76)
 have HCT := hide (HC2.out.below hbT)
 have HKT := hide (HK2.out.oneB hbT)
 have HRT := hide (HR2.out.belowI hbT)
 have CU := hide (unless_reg p vb all _ x0 x1 _ HCT.out)
 clear hbT
 go_wp2_with fail
 refine CU.out.mono ?_
 rintro e w8 ⟨rfl, hB8⟩
 have HC8 := hide (HCT.out.below hB8)
 have HK8 := hide (HKT.out.oneB hB8)
 have HR8 := hide (HRT.out.belowI hB8)
 clear hB8 CU HCT HKT HRT
 by_cases hw : (regR r).why ≠ 0
 ·rw [if_pos hw]
  have HF : Hid (regVal r = (0, 0)) := hide (by rw [HV.out, if_pos hw])
  go_wp2_with (refine wp_store_box (cs' := #[.int .u32 0, .int .u32 0]) rfl rfl _ _ rfl _ rfl rfl HR8.out rfl HI.out (by simp [Value.oneCell']) ?_; intro w9 hb9 hk9; have HB9 := hide hb9; have HK9 := hide hk9; clear hb9 hk9)
  refine bodyPost_ret (v := .agg #[.int .u32 0, .int .u32 0]) (results_box Tryz.results123 _ _ w.heap.size rfl HB9.out Tryz.underlying76 rfl HI.out) rfl ⟨by rw [HF.out], ?_, ?_⟩
  ·exact HC8.out.keep HK9.out (by omega) (fun g hg e => HVB.out g hg e)
  ·refine ⟨HK9.out.os.trans HK8.out.os, HK9.out.tape.trans HK8.out.tape, HK9.out.output.trans HK8.out.output, Nat.le_trans HK8.out.size HK9.out.size, fun k hk hS => ?_⟩
   exact (HK9.out.block k (Nat.lt_of_lt_of_le hk HK8.out.size) (by omega)).trans (HK8.out.block k hk hS)
 ·rw [if_neg hw]
  have HF : Hid (regVal r = (x0, x1)) := hide (by rw [HV.out, if_neg hw, HX0.out, HX1.out])
  go_wp2_with (refine wp_store_box (cs' := #[.int .u32 x0, .int .u32 x1]) rfl rfl _ _ rfl _ rfl rfl HR8.out rfl HI.out (by simp [Value.oneCell']) ?_; intro w9 hb9 hk9; have HB9 := hide hb9; have HK9 := hide hk9; clear hb9 hk9)
  refine bodyPost_ret (v := .agg #[.int .u32 x0, .int .u32 x1]) (results_box Tryz.results123 _ _ w.heap.size rfl HB9.out Tryz.underlying76 rfl HI.out) rfl ⟨by rw [HF.out], ?_, ?_⟩
  ·exact HC8.out.keep HK9.out (by omega) (fun g hg e => HVB.out g hg e)
  ·refine ⟨HK9.out.os.trans HK8.out.os, HK9.out.tape.trans HK8.out.tape, HK9.out.output.trans HK8.out.output, Nat.le_trans HK8.out.size HK9.out.size, fun k hk hS => ?_⟩
   exact (HK9.out.block k (Nat.lt_of_lt_of_le hk HK8.out.size) (by omega)).trans (HK8.out.block k hk hS)
end
section
open Go.RowKit
theorem Lies.at {k : IntKind} {w : World} {v : Value} {xs : List Int} (h : Lies k w v xs) : ∃ (ao : Option Addr) (cap : Nat), v = .slice ao xs.length cap ∧ ∀ j, j < xs.length → ∃ b off, ao = some ⟨b, off, none⟩ ∧ ∀ i, i < xs.length → w.cell? ⟨b, off + i, none⟩ = some (.int k (xs.getD i 0)) := by
 rcases h with ⟨rfl, ao, cap, rfl, _⟩ | ⟨_, b, off, cap, rfl, _, _, _, hc⟩
 ·exact ⟨ao, cap, rfl, fun j hj => by simp at hj⟩
 ·exact ⟨_, cap, rfl, fun j _ => ⟨b, off, rfl, hc⟩⟩
end
end Go.Proofs.YtlegliimgjmphaaGreat
