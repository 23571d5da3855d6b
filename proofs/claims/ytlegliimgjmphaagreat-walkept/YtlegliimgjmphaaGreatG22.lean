/-
  Own texts put together: VtCode. Own work.
-/
import Derived.Test.YtlegliimgjmphaaGreatG20
import Derived.Test.YtlegliimgjmphaaGreatG21
namespace Go.Proofs.YtlegliimgjmphaaGreat
section
open Go.RowKit
def putB (c : Cf) : List Int := shortS c.e ++ (shortS c.r ++ (shortS c.w ++ natI c.vs))
theorem put_step {w wr w' : World} {p B : Nat} {v vk v' : Value} {ys zs : List Int} {cs : Array Value} {t : TypeId} (h : CWrote w wr p v vk ys) (hX : Box wr B cs t) (hn : vk.ownBlock ≠ some B) (hp : B ≠ p) (h' : CWrote wr w' p vk v' zs) :
  CWrote w w' p v v' zs ∧ Box w' B cs t ∧ v'.ownBlock ≠ some B := by
 refine ⟨h.trans h', hX.keep h'.keep (fun hS => ?_), fun e => ?_⟩
 ·rcases hS with e | e
  ·exact hp e
  ·exact hn e
 ·rcases h'.place with e2 | ⟨g, e2, hg⟩
  ·exact hn (e2 ▸ e)
  ·rw [e2] at e
   cases e
   have := hX.lt
   omega
theorem natI_snoc (vs : List Nat) (k : Nat) (h : k < vs.length) : natI (vs.take (k + 1)) = natI (vs.take k) ++ [((vs.getD k 0 : Nat) : Int)] := by
 rw [take_snocN vs k h]
 simp [natI]
set_option maxRecDepth 100000 in
set_option maxHeartbeats 1600000 in
theorem put_any6 (p : Nat) (v : Value) (xs : List Int) (c : Cf) (w : World) (h : CW w p v xs) (hl : xs.length ≤ 1000000) (hok : c.Ok) :
  Calls Tryz.prog 215 #[.pointer (some ⟨p, 0, none⟩), .agg c.arr] w fun e w' => e = .returned (.tuple #[]) ∧ ∃ v', CWrote w w' p v v' (xs ++ putB c) := by
 have hsz := hok.size
 have HO := hide hok
 have hB0 := alloc_below w (.cells c.arr 83)
 have hp := h.box.lt
 have HX0 := hide (box_new w c.arr 83)
 have HW0 : Hid (CWrote w (w.alloc (.cells c.arr 83)) p v v xs) := hide ⟨h.below hB0, KeepBut.of_below _ hB0, .inl rfl⟩
 have HN0 : Hid (v.ownBlock ≠ some w.heap.size) := hide (fun e => Nat.lt_irrefl _ (owns_lt h.own e))
 have he := hok.e
 have hr := hok.r
 have hw := hok.w
 have ce : IntKind.u64.wrap (c.e : Int) = (c.e : Int) := by rw [IntKind.wrap_u64]; omega
 have cr : IntKind.u64.wrap (c.r : Int) = (c.r : Int) := by rw [IntKind.wrap_u64]; omega
 have cw : IntKind.u64.wrap (c.w : Int) = (c.w : Int) := by rw [IntKind.wrap_u64]; omega
 have l0 := shortS_len10 (show c.e < 18446744073709551616 by omega)
 have l1 := shortS_len10 (show c.r < 18446744073709551616 by omega)
 have l2 := shortS_len10 (show c.w < 18446744073709551616 by omega)
 have x0 := arr_e HX0.out
 clear h hB0 hok
 go_enter Tryz.func215, Tryz.ntmps215
 go_wp2_with fail
 refine (cwnum_any p v xs c.e _ HW0.out.wr (by unfold roomFor; omega) (by omega)).mono ?_
 rintro e w1 ⟨rfl, v1, h1⟩
 obtain ⟨hw1, hx1, hn1⟩ := put_step HW0.out HX0.out HN0.out (by omega) h1
 have HW1 := hide hw1
 have HX1 := hide hx1
 have HN1 := hide hn1
 have y0 := arr_r hx1
 have hxl1 := hx1.lt
 clear h1 hw1 hx1 hn1 HW0 HX0 HN0 x0
 go_wp2_with fail
 refine (cwnum_any p v1 _ c.r _ HW1.out.wr (by unfold roomFor; simp; omega) (by omega)).mono ?_
 rintro e w2 ⟨rfl, v2, h2⟩
 obtain ⟨hw2, hx2, hn2⟩ := put_step HW1.out HX1.out HN1.out (by omega) h2
 have HW2 := hide hw2
 have HX2 := hide hx2
 have HN2 := hide hn2
 have z0 := arr_w hx2
 have hxl2 := hx2.lt
 clear h2 hw2 hx2 hn2 HW1 HX1 HN1 y0
 go_wp2_with fail
 refine (cwnum_any p v2 _ c.w _ HW2.out.wr (by unfold roomFor; simp; omega) (by omega)).mono ?_
 rintro e w3 ⟨rfl, v3, h3⟩
 obtain ⟨hw3, hx3, hn3⟩ := put_step HW2.out HX2.out HN2.out (by omega) h3
 obtain ⟨ys, hys⟩ : ∃ ys, ys = xs ++ shortS c.e ++ shortS c.r ++ shortS c.w := ⟨_, rfl⟩
 have hyl : ys.length ≤ 1000030 := by rw [hys]; simp; omega
 rw [← hys] at hw3
 have HE : Hid (ys ++ natI c.vs = xs ++ putB c) := hide (by rw [hys]; unfold putB; simp)
 have HW3 := hide hw3
 have HX3 := hide hx3
 clear h3 hw3 hx3 hn3 HW2 HX2 HN2 z0 hys
 go_wp2_with (refine wp_load_votes rfl _ rfl _ rfl HO.out HX3.out ?_)
 go_loopg [23] 8 (fun g i wr => ∃ (k : Nat) (vk : Value), k + g = 8 ∧ i = .int .i64 k ∧ CWrote w wr p v vk (ys ++ natI (c.vs.take k)))
 case atStart => exact ⟨0, v3, by omega, rfl, by simpa [natI] using HW3.out⟩
 case round =>
  obtain ⟨k, vk, hk, rfl, hwk⟩ := hrel
  have HWk := hide hwk
  clear hwk
  cases gk with
  | zero =>
   obtain rfl : k = 8 := by omega
   have HF : Hid (CWrote w wr p v vk (xs ++ putB c)) := hide (by
    have := HWk.out
    rw [List.take_of_length_le (by rw [HO.out.l]; exact Nat.le_refl _), HE.out] at this
    exact this)
   clear HWk HE
   go_wp2
   go_end0
   exact ⟨rfl, vk, HF.out⟩
  | succ g =>
   have hkI : (k : Int) < 8 := by omega
   have hidx := index_votes c.vs k HO.out.l (by omega)
   have HSN := hide (natI_snoc c.vs k (by rw [HO.out.l]; omega))
   have hnl := natI_len (c.vs.take k)
   have htl : (c.vs.take k).length ≤ 8 := by rw [List.length_take, HO.out.l]; omega
   generalize c.vs.getD k 0 = x at *
   go_wp2_with fail
   refine (cwbyte_any p vk _ (x : Int) _ HWk.out.wr (by unfold roomFor; simp; omega)).mono ?_
   rintro e w5 ⟨rfl, v5, h5⟩
   have h6 := HWk.out.trans h5
   rw [List.append_assoc, ← HSN.out] at h6
   have HW6 := hide h6
   clear h5 h6 HWk HSN
   go_wp2_with fail
   go_roundg g
   case measure => omega
   case rel => exact ⟨k + 1, v5, by omega, by first | rfl | go_num, HW6.out⟩
theorem arr_set6 (e r w : Nat) (xs : List Nat) (k : Nat) (hk : k < 8) (hl : k < xs.length) : (mkTo e r w xs k).arr.setIfInBounds (3 + k) (.int .u8 ((xs.getD k 0 : Nat) : Int)) = (mkTo e r w xs (k + 1)).arr := by
 have h1 : (xs.take k ++ List.replicate (8 - k) 0).set k (xs.getD k 0) = xs.take (k + 1) ++ List.replicate (8 - (k + 1)) 0 := by
  have hlen : (xs.take k).length = k := by simp; omega
  rw [List.set_append_right _ _ (by omega), hlen, Nat.sub_self, show 8 - k = (8 - (k + 1)) + 1 by omega, List.replicate_succ, List.set_cons_zero, take_snocN xs k hl, List.append_assoc]
  rfl
 have h2 : (votL (xs.take k ++ List.replicate (8 - k) 0)).set k (.int .u8 ((xs.getD k 0 : Nat) : Int)) = votL (xs.take (k + 1) ++ List.replicate (8 - (k + 1)) 0) := by
  rw [← h1]
  unfold votL
  rw [List.map_set]
 unfold Cf.arr Cf.cells mkTo
 rw [show 3 + k = k + 1 + 1 + 1 by omega, List.setIfInBounds_toArray, List.set_cons_succ, List.set_cons_succ, List.set_cons_succ, h2]
theorem mkTo_all (e r w : Nat) (vs : List Nat) (hl : vs.length = 8) : mkTo e r w vs 8 = ⟨e, r, w, vs⟩ := by
 unfold mkTo
 rw [List.take_of_length_le (by omega)]
 simp
theorem KeepBut.one6 {p : Nat} {w w1 w2 : World} (h : KeepBut (fun k => k = p) w w1) (h' : KeepBut (fun k => k = p) w1 w2) : KeepBut (fun k => k = p) w w2 := h.trans h' (fun _ _ h => h)
theorem KeepBut.oneB6 {p : Nat} {w w1 w2 : World} (h : KeepBut (fun k => k = p) w w1) (h' : Below w1.heap.size w1 w2) : KeepBut (fun k => k = p) w w2 := h.trans (KeepBut.of_below (fun k => k = p) h') (fun _ _ h => h)
set_option maxRecDepth 100000 in
set_option maxHeartbeats 3200000 in
theorem get_gen (p : Nat) (vb : Value) (all : List Int) (r r1 r2 r3 : RS) (x0 x1 x2 : Nat) (vs : List Nat) (rs : Nat → RS) (w : World) (h : CR w p vb all r)
  (h1 : numS 2147483647 r = ((x0 : Int), r1)) (h2 : numS 255 r1 = ((x1 : Int), r2)) (h3 : numS 255 r2 = ((x2 : Int), r3)) (hrs : rs 0 = r3) (hst : ∀ k, k < 8 → byteS (rs k) = (((vs.getD k 0 : Nat) : Int), rs (k + 1)))
  (b0 : x0 < 4294967296) (b1 : x1 < 256) (b2 : x2 < 256) (hvl : vs.length = 8) (hvb : ∀ x ∈ vs, x < 256) :
  Calls Tryz.prog 218 #[.pointer (some ⟨p, 0, none⟩)] w fun e w' => e = .returned (.agg (if (rs 8).why ≠ 0 then zeroCv else (⟨x0, x1, x2, vs⟩ : Cf)).arr) ∧ CR w' p vb all (rs 8) ∧ KeepBut (fun k => k = p) w w' := by
 have hB0 := alloc_below w (.cells #[.int .u32 0, .int .u8 0, .int .u8 0, .int .u8 0, .int .u8 0, .int .u8 0, .int .u8 0, .int .u8 0, .int .u8 0, .int .u8 0, .int .u8 0] 83)
 have hp := h.box.lt
 have HVB : Hid (∀ g, vb.ownBlock = some g → g < w.heap.size) := hide (fun g hg => owns_lt h.own hg)
 have HC0 := hide (h.below hB0)
 have HK0 : Hid (KeepBut (fun k => k = p) w (w.alloc (.cells #[.int .u32 0, .int .u8 0, .int .u8 0, .int .u8 0, .int .u8 0, .int .u8 0, .int .u8 0, .int .u8 0, .int .u8 0, .int .u8 0, .int .u8 0] 83))) := hide (KeepBut.of_below _ hB0)
 have HR0 : Hid (Box (w.alloc (.cells #[.int .u32 0, .int .u8 0, .int .u8 0, .int .u8 0, .int .u8 0, .int .u8 0, .int .u8 0, .int .u8 0, .int .u8 0, .int .u8 0, .int .u8 0] 83)) w.heap.size zeroCv.arr 83) := hide (box_new w zeroCv.arr 83)
 have c0 : IntKind.u32.wrap (x0 : Int) = (x0 : Int) := by rw [IntKind.wrap_u32]; omega
 have c1 : IntKind.u8.wrap (x1 : Int) = (x1 : Int) := by rw [IntKind.wrap_u8]; omega
 have c2 : IntKind.u8.wrap (x2 : Int) = (x2 : Int) := by rw [IntKind.wrap_u8]; omega
 have H1 := hide h1
 have H2 := hide h2
 have H3 := hide h3
 have HRS := hide hrs
 have HST := hide hst
 have HVV := hide hvb
 have HAB : Hid (Value.agg #[.int .u32 ((x0 : Nat) : Int), .int .u8 ((x1 : Nat) : Int), .int .u8 ((x2 : Nat) : Int), .int .u8 0, .int .u8 0, .int .u8 0, .int .u8 0, .int .u8 0, .int .u8 0, .int .u8 0, .int .u8 0] = .agg (mkTo x0 x1 x2 vs 0).arr) := hide rfl
 have HKT := hide (fun k hk => mkTo_ok x0 x1 x2 vs k b0 b1 b2 hvb hk (show k ≤ vs.length by omega))
 have HAS := hide (fun k hk => arr_set6 x0 x1 x2 vs k hk (by omega))
 obtain ⟨cc, hcc⟩ : ∃ c : Cf, c = ⟨x0, x1, x2, vs⟩ := ⟨_, rfl⟩
 obtain ⟨r8, hr8⟩ : ∃ q, q = rs 8 := ⟨_, rfl⟩
 have HALL : Hid (mkTo x0 x1 x2 vs 8 = cc) := hide (by rw [hcc]; exact mkTo_all x0 x1 x2 vs hvl)
 rw [← hcc, ← hr8]
 have HR8 := hide hr8
 obtain ⟨oc, hoc⟩ : ∃ c : Cf, c = if r8.why ≠ 0 then zeroCv else cc := ⟨_, rfl⟩
 rw [← hoc]
 have HOC := hide hoc
 clear hcc hr8 hoc
 have hfw := fld_why
 clear h hB0 h1 h2 h3 hrs hst hvb
 go_enter Tryz.func218, Tryz.ntmps218
 go_wp2_with fail
 refine (crnum_any p vb all r _ HC0.out 2147483647).mono ?_
 rintro e w1 ⟨rfl, hc, hk⟩
 rw [H1.out] at hc ⊢
 have HC1 := hide hc
 have HK1 := hide (HK0.out.one6 hk)
 have HR1 := hide (HR0.out.keep hk (by omega))
 clear hc hk HC0 HK0 HR0
 go_wp2_with fail
 refine (crnum_any p vb all r1 _ HC1.out 255).mono ?_
 rintro e w2 ⟨rfl, hc, hk⟩
 rw [H2.out] at hc ⊢
 have HC2 := hide hc
 have HK2 := hide (HK1.out.one6 hk)
 have HR2 := hide (HR1.out.keep hk (by omega))
 clear hc hk HC1 HK1 HR1
 go_wp2_with fail
 refine (crnum_any p vb all r2 _ HC2.out 255).mono ?_
 rintro e w3 ⟨rfl, hc, hk⟩
 rw [H3.out] at hc ⊢
 have hs3 := (HK2.out.one6 hk).size
 have hb3 := alloc_below w3 (.cells #[.int .u32 0, .int .u8 0, .int .u8 0, .int .u8 0, .int .u8 0, .int .u8 0, .int .u8 0, .int .u8 0, .int .u8 0, .int .u8 0, .int .u8 0] 83)
 have HC3 : Hid (CR (w3.alloc (.cells #[.int .u32 0, .int .u8 0, .int .u8 0, .int .u8 0, .int .u8 0, .int .u8 0, .int .u8 0, .int .u8 0, .int .u8 0, .int .u8 0, .int .u8 0] 83)) p vb all (rs 0)) := hide (by rw [HRS.out]; exact hc.below hb3)
 have HK3 := hide ((HK2.out.one6 hk).oneB6 hb3)
 have hR3 := HR2.out.keep hk (by omega)
 have hl3 := hR3.lt
 have HR3 := hide (hR3.belowV hb3)
 have HX3 : Hid (Box (w3.alloc (.cells #[.int .u32 0, .int .u8 0, .int .u8 0, .int .u8 0, .int .u8 0, .int .u8 0, .int .u8 0, .int .u8 0, .int .u8 0, .int .u8 0, .int .u8 0] 83)) w3.heap.size zeroCv.arr 83) := hide (box_new w3 zeroCv.arr 83)
 clear hc hk HC2 HK2 HR2 hb3 hR3 H1 H2 H3 HRS
 go_wp2_with (refine wp_store_cfg rfl rfl _ _ rfl _ rfl zeroC_ok (HKT.out 0 (by omega)) HAB.out HX3.out ?_; intro w4 hb4 hk4; have HX4 := hide hb4; have HR4 := hide (HR3.out.keep hk4 (by omega)); have HC4 := hide (HC3.out.keep hk4 (by omega) (fun g hg => by have := HVB.out g hg; omega)); have HK4 : Hid (KeepBut (fun k => k = p) w w4) := hide (HK3.out.trans hk4 (fun k hk hS => by omega)); clear hb4 hk4 HX3 HR3 HC3 HK3)
 go_loopg [15] 8 (fun g i wr => ∃ k : Nat, k + g = 8 ∧ i = .int .i64 k ∧ CR wr p vb all (rs k) ∧ Box wr w3.heap.size (mkTo x0 x1 x2 vs k).arr 83 ∧ Box wr w.heap.size zeroCv.arr 83 ∧ KeepBut (fun k => k = p) w wr)
 case atStart => exact ⟨0, by omega, rfl, HC4.out, HX4.out, HR4.out, HK4.out⟩
 case round =>
  obtain ⟨k, hk, rfl, hC, hX, hR, hKK⟩ := hrel
  have HC := hide hC
  have HX := hide hX
  have HR := hide hR
  have HK := hide hKK
  clear hC hX hR hKK HX4 HR4 HC4 HK4
  cases gk with
  | zero =>
   obtain rfl : k = 8 := by omega
   rw [HALL.out] at HX
   have HKC : Hid cc.Ok := hide (by rw [← HALL.out]; exact HKT.out 8 (by omega))
   rw [← HR8.out] at HC
   go_wp2_with fail
   refine (fault_any p vb all r8 _ HC.out).mono ?_
   rintro e w6 ⟨rfl, hB6⟩
   have HC6 := hide (HC.out.below hB6)
   have HX6 := hide (HX.out.belowV hB6)
   have HR6 := hide (HR.out.belowV hB6)
   have HK6 := hide (HK.out.oneB6 hB6)
   clear hB6 HC HX HR HK
   by_cases hwy : r8.why = 0
   ·have HE : Hid (oc = cc) := hide (by rw [HOC.out, if_neg (fun h => h hwy)])
    have hn : (r8.why != 0) = false := by rw [hwy]; rfl
    clear HOC
    go_wp2_with (first
     | (refine wp_load_cfg rfl _ rfl _ rfl HKC.out HX6.out ?_)
     | (refine wp_store_cfg rfl rfl _ _ rfl _ rfl zeroC_ok HKC.out rfl HR6.out ?_; intro w7 hb7 hk7; have HR7 := hide hb7; have HC7 := hide (HC6.out.keep hk7 (by omega) (fun g hg => by have := HVB.out g hg; omega)); have HK7 : Hid (KeepBut (fun k => k = p) w w7) := hide (HK6.out.trans hk7 (fun k hk hS => by omega)); clear hb7 hk7 HR6))
    refine bodyPost_ret (v := .agg cc.arr) (results_box Tryz.results218 _ _ w.heap.size rfl HR7.out Tryz.underlying83 rfl (by rw [HKC.out.size]; exact infoCfg)) rfl ⟨by rw [HE.out], HC7.out, HK7.out⟩
   ·have HE : Hid (oc = zeroCv) := hide (by rw [HOC.out, if_pos hwy])
    have hn : (r8.why != 0) = true := by simp [hwy]
    clear HOC
    go_wp2_with (refine wp_store_cfg rfl rfl _ _ rfl _ rfl zeroC_ok zeroC_ok rfl HR6.out ?_; intro w7 hb7 hk7; have HR7 := hide hb7; have HC7 := hide (HC6.out.keep hk7 (by omega) (fun g hg => by have := HVB.out g hg; omega)); have HK7 : Hid (KeepBut (fun k => k = p) w w7) := hide (HK6.out.trans hk7 (fun k hk hS => by omega)); clear hb7 hk7 HR6)
    refine bodyPost_ret (v := .agg zeroCv.arr) (results_box Tryz.results218 _ _ w.heap.size rfl HR7.out Tryz.underlying83 rfl (by rw [zeroC_ok.size]; exact infoCfg)) rfl ⟨by rw [HE.out], HC7.out, HK7.out⟩
  | succ g =>
   have hkI : (k : Int) < 8 := by omega
   have HB8 := hide (HST.out k (by omega))
   have HS := hide (HAS.out k (by omega))
   have HOK := hide (HKT.out k (by omega))
   go_wp2_with fail
   refine (crbyte_any p vb all (rs k) _ HC.out).mono ?_
   rintro e w5 ⟨rfl, hc, hk5⟩
   rw [HB8.out] at hc ⊢
   have hX5 := HX.out.keep hk5 (by omega)
   have HX5 := hide hX5
   have HR5 := hide (HR.out.keep hk5 (by omega))
   have HC5 := hide hc
   have HK5 := hide (HK.out.one6 hk5)
   have hcell := box_at HOK.out hX5 k (by omega)
   have hfz := hX5.frozen (3 + k)
   have hl5 := hX5.lt
   clear hc hk5 hX5 HC HX HR HK HB8
   generalize (mkTo x0 x1 x2 vs k).vs.getD k 0 = old at *
   generalize vs.getD k 0 = x at *
   go_wp2_with fail
   go_roundg g
   case measure => omega
   case rel =>
    have hks : KeepBut (fun k => k = w3.heap.size) w5 (w5.setCell ⟨w3.heap.size, 3 + k, none⟩ (.int .u8 (x : Int))) := (KeepBut.refl (fun k => k = w3.heap.size) w5).setCell (p := ⟨w3.heap.size, 3 + k, none⟩) (.inl rfl) _
    refine ⟨k + 1, by omega, by first | rfl | go_num, HC5.out.keep hks (by omega) (fun g hg => by have := HVB.out g hg; omega), ?_, HR5.out.keep hks (by omega), HK5.out.trans hks (fun k hk hS => by omega)⟩
    have := HX5.out.set (i := 3 + k) (v := .int .u8 (x : Int))
    rw [HS.out] at this
    exact this
end
end Go.Proofs.YtlegliimgjmphaaGreat
