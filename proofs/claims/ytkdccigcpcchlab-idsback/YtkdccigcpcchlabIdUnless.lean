/-
  The program's unlessFault, at each of its types. Own work.
-/
import Derived.Test.YtkdccigcpcchlabCMethods
import Derived.Test.YtkdccigcpcchlabIdBox
namespace Go.Proofs.Ytkdccigcpcchlab
open Go.RowKit

theorem infoUreg : (Try.prog.info? 37).map (·.size) = some 2 := by kernel_rfl
set_option maxRecDepth 100000 in
set_option maxHeartbeats 800000 in
theorem unless_reg (p : Nat) (vb : Value) (all : List Int) (r : RS) (x0 x1 : Int) (w : World) (h : CR w p vb all r) :
    Calls Try.prog 35 #[.pointer (some ⟨p, 0, none⟩), .agg #[.int .u32 x0, .int .u32 x1]] w fun e w' => e = .returned (if r.why ≠ 0 then .agg #[.int .u32 0, .int .u32 0] else .agg #[.int .u32 x0, .int .u32 x1]) ∧ Below w.heap.size w w' := by
  have hB0 := ((Below.refl w.heap.size w).alloc (Nat.le_refl _) (.cells #[.int .u32 x0, .int .u32 x1] 37)).alloc (by simp) (.cells #[.int .u32 0, .int .u32 0] 37)
  have CF := hide (fault_any p vb all r _ (h.below hB0))
  have HV0 : Hid (Box ((w.alloc (.cells #[.int .u32 x0, .int .u32 x1] 37)).alloc (.cells #[.int .u32 0, .int .u32 0] 37)) w.heap.size #[.int .u32 x0, .int .u32 x1] 37) := hide ((box_new w _ _).belowI ((Below.refl _ _).alloc (Nat.le_refl _) _))
  have HR0 : Hid (Box ((w.alloc (.cells #[.int .u32 x0, .int .u32 x1] 37)).alloc (.cells #[.int .u32 0, .int .u32 0] 37)) (w.heap.size + 1) #[.int .u32 0, .int .u32 0] 37) := hide (by
    have := box_new (w.alloc (.cells #[.int .u32 x0, .int .u32 x1] 37)) #[.int .u32 0, .int .u32 0] 37
    rw [World.size_alloc] at this
    exact this)
  have HB0 := hide hB0
  have hfw := fun a b w => fld_why a b w
  have HI := hide infoUreg
  clear h hB0
  by_cases hw : r.why ≠ 0
  · rw [if_pos hw]
    have hw' : (r.why != 0) = true := bne_iff_ne.2 hw
    generalize r.why = wy at *
    clear hw
    go_enter Try.func35, Try.ntmps35
    go_wp2_with fail
    refine CF.out.mono ?_
    rintro e w1 ⟨rfl, hB1⟩
    have HB1 := hide (HB0.out.trans (hB1.mono HB0.out.size))
    have hb2 := (Below.refl w1.heap.size w1).alloc (Nat.le_refl _) (.cells #[.int .u32 0, .int .u32 0] 37)
    have HR2 := hide ((HR0.out.belowI hB1).belowI hb2)
    have HB2 := hide (HB1.out.trans (hb2.mono HB1.out.size))
    clear hB1 hb2
    go_wp2_with (refine wp_store_box (cs' := #[.int .u32 0, .int .u32 0]) rfl rfl _ _ rfl _ rfl rfl HR2.out rfl HI.out (by simp [Value.oneCell']) ?_; intro w3 hb3 hk3; have HB3 := hide hb3; have HK3 := hide hk3; clear hb3 hk3)
    exact bodyPost_ret (v := .agg #[.int .u32 0, .int .u32 0]) (results_box Try.results35 _ _ (w.heap.size + 1) rfl HB3.out Try.underlying37 rfl HI.out) rfl ⟨rfl, HB2.out.trans (HK3.out.below HB2.out.size (fun k hk => by omega))⟩
  · rw [if_neg hw]
    have hw' : (r.why != 0) = false := by simpa using hw
    generalize r.why = wy at *
    clear hw
    go_enter Try.func35, Try.ntmps35
    go_wp2_with fail
    refine CF.out.mono ?_
    rintro e w1 ⟨rfl, hB1⟩
    have HB1 := hide (HB0.out.trans (hB1.mono HB0.out.size))
    have HR1 := hide (HR0.out.belowI hB1)
    obtain ⟨y0, y1⟩ := (HV0.out.belowI hB1).two
    have hvl := (HV0.out.belowI hB1).lt
    clear hB1
    go_wp2_with (refine wp_store_box (cs' := #[.int .u32 x0, .int .u32 x1]) rfl rfl _ _ rfl _ rfl rfl HR1.out rfl HI.out (by simp [Value.oneCell']) ?_; intro w3 hb3 hk3; have HB3 := hide hb3; have HK3 := hide hk3; clear hb3 hk3)
    exact bodyPost_ret (v := .agg #[.int .u32 x0, .int .u32 x1]) (results_box Try.results35 _ _ (w.heap.size + 1) rfl HB3.out Try.underlying37 rfl HI.out) rfl ⟨rfl, HB1.out.trans (HK3.out.below HB1.out.size (fun k hk => by omega))⟩

theorem infoUtx : (Try.prog.info? 24).map (·.size) = some 3 := by kernel_rfl
set_option maxRecDepth 100000 in
set_option maxHeartbeats 800000 in
theorem unless_tx (p : Nat) (vb : Value) (all : List Int) (r : RS) (x0 x1 x2 : Int) (w : World) (h : CR w p vb all r) :
    Calls Try.prog 47 #[.pointer (some ⟨p, 0, none⟩), .agg #[.int .u8 x0, .int .u32 x1, .int .u32 x2]] w fun e w' => e = .returned (if r.why ≠ 0 then .agg #[.int .u8 0, .int .u32 0, .int .u32 0] else .agg #[.int .u8 x0, .int .u32 x1, .int .u32 x2]) ∧ Below w.heap.size w w' := by
  have hB0 := ((Below.refl w.heap.size w).alloc (Nat.le_refl _) (.cells #[.int .u8 x0, .int .u32 x1, .int .u32 x2] 24)).alloc (by simp) (.cells #[.int .u8 0, .int .u32 0, .int .u32 0] 24)
  have CF := hide (fault_any p vb all r _ (h.below hB0))
  have HV0 : Hid (Box ((w.alloc (.cells #[.int .u8 x0, .int .u32 x1, .int .u32 x2] 24)).alloc (.cells #[.int .u8 0, .int .u32 0, .int .u32 0] 24)) w.heap.size #[.int .u8 x0, .int .u32 x1, .int .u32 x2] 24) := hide ((box_new w _ _).belowI ((Below.refl _ _).alloc (Nat.le_refl _) _))
  have HR0 : Hid (Box ((w.alloc (.cells #[.int .u8 x0, .int .u32 x1, .int .u32 x2] 24)).alloc (.cells #[.int .u8 0, .int .u32 0, .int .u32 0] 24)) (w.heap.size + 1) #[.int .u8 0, .int .u32 0, .int .u32 0] 24) := hide (by
    have := box_new (w.alloc (.cells #[.int .u8 x0, .int .u32 x1, .int .u32 x2] 24)) #[.int .u8 0, .int .u32 0, .int .u32 0] 24
    rw [World.size_alloc] at this
    exact this)
  have HB0 := hide hB0
  have hfw := fun a b w => fld_why a b w
  have HI := hide infoUtx
  clear h hB0
  by_cases hw : r.why ≠ 0
  · rw [if_pos hw]
    have hw' : (r.why != 0) = true := bne_iff_ne.2 hw
    generalize r.why = wy at *
    clear hw
    go_enter Try.func47, Try.ntmps47
    go_wp2_with fail
    refine CF.out.mono ?_
    rintro e w1 ⟨rfl, hB1⟩
    have HB1 := hide (HB0.out.trans (hB1.mono HB0.out.size))
    have hb2 := (Below.refl w1.heap.size w1).alloc (Nat.le_refl _) (.cells #[.int .u8 0, .int .u32 0, .int .u32 0] 24)
    have HR2 := hide ((HR0.out.belowI hB1).belowI hb2)
    have HB2 := hide (HB1.out.trans (hb2.mono HB1.out.size))
    clear hB1 hb2
    go_wp2_with (refine wp_store_box (cs' := #[.int .u8 0, .int .u32 0, .int .u32 0]) rfl rfl _ _ rfl _ rfl rfl HR2.out rfl HI.out (by simp [Value.oneCell']) ?_; intro w3 hb3 hk3; have HB3 := hide hb3; have HK3 := hide hk3; clear hb3 hk3)
    exact bodyPost_ret (v := .agg #[.int .u8 0, .int .u32 0, .int .u32 0]) (results_box Try.results47 _ _ (w.heap.size + 1) rfl HB3.out Try.underlying24 rfl HI.out) rfl ⟨rfl, HB2.out.trans (HK3.out.below HB2.out.size (fun k hk => by omega))⟩
  · rw [if_neg hw]
    have hw' : (r.why != 0) = false := by simpa using hw
    generalize r.why = wy at *
    clear hw
    go_enter Try.func47, Try.ntmps47
    go_wp2_with fail
    refine CF.out.mono ?_
    rintro e w1 ⟨rfl, hB1⟩
    have HB1 := hide (HB0.out.trans (hB1.mono HB0.out.size))
    have HR1 := hide (HR0.out.belowI hB1)
    obtain ⟨y0, y1, y2⟩ := (HV0.out.belowI hB1).three
    have hvl := (HV0.out.belowI hB1).lt
    clear hB1
    go_wp2_with (refine wp_store_box (cs' := #[.int .u8 x0, .int .u32 x1, .int .u32 x2]) rfl rfl _ _ rfl _ rfl rfl HR1.out rfl HI.out (by simp [Value.oneCell']) ?_; intro w3 hb3 hk3; have HB3 := hide hb3; have HK3 := hide hk3; clear hb3 hk3)
    exact bodyPost_ret (v := .agg #[.int .u8 x0, .int .u32 x1, .int .u32 x2]) (results_box Try.results47 _ _ (w.heap.size + 1) rfl HB3.out Try.underlying24 rfl HI.out) rfl ⟨rfl, HB1.out.trans (HK3.out.below HB1.out.size (fun k hk => by omega))⟩

theorem infoUstamp : (Try.prog.info? 26).map (·.size) = some 4 := by kernel_rfl
set_option maxRecDepth 100000 in
set_option maxHeartbeats 800000 in
theorem unless_stamp (p : Nat) (vb : Value) (all : List Int) (r : RS) (x0 x1 x2 x3 : Int) (w : World) (h : CR w p vb all r) :
    Calls Try.prog 34 #[.pointer (some ⟨p, 0, none⟩), .agg #[.int .u32 x0, .int .u8 x1, .int .u32 x2, .int .u32 x3]] w fun e w' => e = .returned (if r.why ≠ 0 then .agg #[.int .u32 0, .int .u8 0, .int .u32 0, .int .u32 0] else .agg #[.int .u32 x0, .int .u8 x1, .int .u32 x2, .int .u32 x3]) ∧ Below w.heap.size w w' := by
  have hB0 := ((Below.refl w.heap.size w).alloc (Nat.le_refl _) (.cells #[.int .u32 x0, .int .u8 x1, .int .u32 x2, .int .u32 x3] 26)).alloc (by simp) (.cells #[.int .u32 0, .int .u8 0, .int .u32 0, .int .u32 0] 26)
  have CF := hide (fault_any p vb all r _ (h.below hB0))
  have HV0 : Hid (Box ((w.alloc (.cells #[.int .u32 x0, .int .u8 x1, .int .u32 x2, .int .u32 x3] 26)).alloc (.cells #[.int .u32 0, .int .u8 0, .int .u32 0, .int .u32 0] 26)) w.heap.size #[.int .u32 x0, .int .u8 x1, .int .u32 x2, .int .u32 x3] 26) := hide ((box_new w _ _).belowI ((Below.refl _ _).alloc (Nat.le_refl _) _))
  have HR0 : Hid (Box ((w.alloc (.cells #[.int .u32 x0, .int .u8 x1, .int .u32 x2, .int .u32 x3] 26)).alloc (.cells #[.int .u32 0, .int .u8 0, .int .u32 0, .int .u32 0] 26)) (w.heap.size + 1) #[.int .u32 0, .int .u8 0, .int .u32 0, .int .u32 0] 26) := hide (by
    have := box_new (w.alloc (.cells #[.int .u32 x0, .int .u8 x1, .int .u32 x2, .int .u32 x3] 26)) #[.int .u32 0, .int .u8 0, .int .u32 0, .int .u32 0] 26
    rw [World.size_alloc] at this
    exact this)
  have HB0 := hide hB0
  have hfw := fun a b w => fld_why a b w
  have HI := hide infoUstamp
  clear h hB0
  by_cases hw : r.why ≠ 0
  · rw [if_pos hw]
    have hw' : (r.why != 0) = true := bne_iff_ne.2 hw
    generalize r.why = wy at *
    clear hw
    go_enter Try.func34, Try.ntmps34
    go_wp2_with fail
    refine CF.out.mono ?_
    rintro e w1 ⟨rfl, hB1⟩
    have HB1 := hide (HB0.out.trans (hB1.mono HB0.out.size))
    have hb2 := (Below.refl w1.heap.size w1).alloc (Nat.le_refl _) (.cells #[.int .u32 0, .int .u8 0, .int .u32 0, .int .u32 0] 26)
    have HR2 := hide ((HR0.out.belowI hB1).belowI hb2)
    have HB2 := hide (HB1.out.trans (hb2.mono HB1.out.size))
    clear hB1 hb2
    go_wp2_with (refine wp_store_box (cs' := #[.int .u32 0, .int .u8 0, .int .u32 0, .int .u32 0]) rfl rfl _ _ rfl _ rfl rfl HR2.out rfl HI.out (by simp [Value.oneCell']) ?_; intro w3 hb3 hk3; have HB3 := hide hb3; have HK3 := hide hk3; clear hb3 hk3)
    exact bodyPost_ret (v := .agg #[.int .u32 0, .int .u8 0, .int .u32 0, .int .u32 0]) (results_box Try.results34 _ _ (w.heap.size + 1) rfl HB3.out Try.underlying26 rfl HI.out) rfl ⟨rfl, HB2.out.trans (HK3.out.below HB2.out.size (fun k hk => by omega))⟩
  · rw [if_neg hw]
    have hw' : (r.why != 0) = false := by simpa using hw
    generalize r.why = wy at *
    clear hw
    go_enter Try.func34, Try.ntmps34
    go_wp2_with fail
    refine CF.out.mono ?_
    rintro e w1 ⟨rfl, hB1⟩
    have HB1 := hide (HB0.out.trans (hB1.mono HB0.out.size))
    have HR1 := hide (HR0.out.belowI hB1)
    obtain ⟨y0, y1, y2, y3⟩ := (HV0.out.belowI hB1).four
    have hvl := (HV0.out.belowI hB1).lt
    clear hB1
    go_wp2_with (refine wp_store_box (cs' := #[.int .u32 x0, .int .u8 x1, .int .u32 x2, .int .u32 x3]) rfl rfl _ _ rfl _ rfl rfl HR1.out rfl HI.out (by simp [Value.oneCell']) ?_; intro w3 hb3 hk3; have HB3 := hide hb3; have HK3 := hide hk3; clear hb3 hk3)
    exact bodyPost_ret (v := .agg #[.int .u32 x0, .int .u8 x1, .int .u32 x2, .int .u32 x3]) (results_box Try.results34 _ _ (w.heap.size + 1) rfl HB3.out Try.underlying26 rfl HI.out) rfl ⟨rfl, HB1.out.trans (HK3.out.below HB1.out.size (fun k hk => by omega))⟩

end Go.Proofs.Ytkdccigcpcchlab
