/-
  Two tables of the program and two of the reference, side by side. Own work.
-/
import Derived.Test.YtlngejmojpkdkaaG15
import Derived.Test.YtlngejmojpkdkaaG19
import Derived.Test.YtlngejmojpkdkaaG17
import Derived.Test.YtlngejmojpkdkaaG20
import Derived.Test.YtlngejmojpkdkaaGRefb
import Derived.Deep.LoopGhost
namespace Go.Proofs.Ytlngejmojpkdkaa
section
open Go.RowKit Classical

theorem en13_bv : ∀ args w, (callFunc 35 args).run Try.prog w = .ok (.enter 35 args) w := enters_of Try.func35 (by kernel_rfl) rfl
section
variable {ρ : Operand → Value} {w : World} {dst : Option Tmp} {ty : TypeId} {pos : String} {aft : Array Edge} {gd : Option (Nat × Bool)}
theorem yt_idxI (x y : Operand) {b off n c j : Nat} (hx : ρ x = .slice (some ⟨b, off, none⟩) n c) (hy : ρ y = .int .i64 ((j : Nat) : Int)) (h : j < n) : (execOp ρ ⟨dst, .indexAddr 47 x y, ty, pos, aft, gd⟩).run Try.prog w = .ok (.value (.pointer (some ⟨b, off + j * 13, none⟩))) w := by
  have h1 : (0 : Int) ≤ (j : Int) := by omega
  have h2 : (j : Int) < (n : Int) := by omega
  simp [go_sem, hx, hy, h1, h2]
theorem y_callv (f : FuncId) (c : Operand) (xs : Array Operand) (vs : Array Value) (tys : Array TypeId) (hf : ρ c = .func (.func f) #[] #[]) (hv : xs.map ρ = vs) (he : ∀ args w, (callFunc f args).run Try.prog w = .ok (.enter f args) w) : (execOp ρ ⟨dst, .call { callee := .value c, args := xs, argTypes := tys }, ty, pos, aft, gd⟩).run Try.prog w = .ok (.enter f vs) w := by
  subst hv
  simp [go_sem, hf, he]
end
theorem gtr_int13 (a : Int) (c : Bool) (w : World) (h : decide (a > 0) = c) : (binOp .gtr 3 (.int .i64 a) (.int .i64 0)).run Try.prog w = .ok (.bool c) w := by
  subst h
  simp [go_sem]
set_option maxRecDepth 100000 in
set_option maxHeartbeats 3200000 in
theorem maxFunc_any (v : Value) (x0 : ItP) (l : List ItP) (w : World) (hs : RSrc itE w v (x0 :: l)) (hl : (x0 :: l).length ≤ 100000) :
    Calls Try.prog 34 #[v, .func (.func 35) #[] #[]] w fun e w' => e = .returned (.agg (itA (newT l x0))) ∧ Below w.heap.size w w' := by
  obtain ⟨ao, cap, rfl, _, _⟩ := hs.shape
  have hA := alloc_below13 w (.cells (itA zeroIt) 36)
  have HXR := hide (box_new w (itA zeroIt) 36)
  have HB1 := hide hA
  obtain ⟨en0, b, off, e9, hb, hcl⟩ := (hs.below hA).at recIT.len (i := 0) (by simp)
  obtain rfl := e9
  have HR0 : Hid ((w.alloc (.cells (itA zeroIt) 36)).rangeAt b off (itE x0)) := hide (fun m v hv => by have h := hcl m v hv; simpa using h)
  obtain ⟨n, hn⟩ : ∃ n, n = (x0 :: l).length := ⟨_, rfl⟩
  have HN := hide hn
  have hn1 : 1 ≤ n ∧ n ≤ 100000 := by rw [hn] at *; simp at hl ⊢; omega
  have hn0 : ¬ ((n : Int) < 1) := by omega
  have hn2 : (0 : Int) < (n : Int) := by omega
  have HZ : Hid (Box ((w.alloc (.cells (itA zeroIt) 36)).alloc (.cells (itA zeroIt) 36)) (w.heap.size + 1) (itA zeroIt) 36) := hide (by have := box_new (w.alloc (.cells (itA zeroIt) 36)) (itA zeroIt) 36; simpa using this)
  have hZB := alloc_below13 (w.alloc (.cells (itA zeroIt) 36)) (.cells (itA zeroIt) 36)
  have HXR2 := hide (HXR.out.belowI hZB)
  have HB2 := hide (HB1.out.trans (hZB.mono HB1.out.size))
  have HSW := hide hs
  rw [← hn] at HSW ⊢
  clear hs hA hl hcl hb hn hZB HXR HB1 en0
  go_enter Try.func34, Try.ntmps34
  go_wp2_with (first | ((with_reducible show wpList _ _ _ (⟨_, .load 36 _, _, _, _, _⟩ :: _) _ _); refine wpList_load_mid rfl 36 _ rfl b off rfl (itE x0) _ HR0.out Try.underlying36 rfl infoIt13 ?_) | ((with_reducible show wpList _ _ _ (⟨none, .store _ _ _, _, _, _, _⟩ :: _) _ _); refine wp_store_box rfl rfl _ _ rfl (w.heap.size + 1) rfl (cs' := itA x0) rfl HZ.out rfl infoIt13 (itA_one13 _) ?_; intro w3 hb3 hk3; have HX3 := hide hb3; have HXR3 := hide (HXR2.out.keep hk3 (by omega)); have HB3 := hide (HB2.out.trans (hk3.below HB2.out.size (fun k hk => by omega))); clear hb3 hk3))
  clear HR0 HZ HXR2 HB2
  have HNL : Hid (n = l.length + 1) := hide (by rw [HN.out]; simp)
  obtain ⟨mb, hmb⟩ : ∃ mb, mb = w.heap.size + 1 := ⟨_, rfl⟩
  rw [← hmb] at HX3 ⊢
  have HMB := hide hmb
  clear hmb
  go_loopg [6] (n - 1) (fun g i wr => ∃ j : Nat, j + 1 + g = n ∧ i = .int .i64 ((j + 1 : Nat) : Int) ∧ Hid (Box wr mb (itA (newT (l.take j) x0)) 36) ∧ Hid (Box wr w.heap.size (itA zeroIt) 36) ∧ Hid (Below w.heap.size w wr))
  case atStart => exact ⟨0, by omega, rfl, HX3, HXR3, HB3⟩
  case round =>
    obtain ⟨j, hj, rfl, HX, HXR, HB⟩ := hrel
    cases gk with
    | zero =>
      have hjl : Hid (l.take j = l) := hide (List.take_of_length_le (by have := HNL.out; omega))
      rw [hjl.out] at HX
      have hz : ¬ (((j + 1 : Nat) : Int) < (n : Int)) := by omega
      go_wp2_with (first | ((with_reducible show wpList _ _ _ (⟨_, .load 36 _, _, _, _, _⟩ :: _) _ _); refine wp_load_box rfl _ rfl mb rfl HX.out Try.underlying36 rfl infoIt13 ?_) | ((with_reducible show wpList _ _ _ (⟨none, .store _ _ _, _, _, _, _⟩ :: _) _ _); refine wp_store_box rfl rfl _ _ rfl w.heap.size rfl (cs' := itA (newT l x0)) rfl HXR.out rfl infoIt13 (itA_one13 _) ?_; intro w4 hb4 hk4; have HR4 := hide hb4; have HB4 := hide (HB.out.trans (hk4.below HB.out.size (fun k hk => by omega))); clear hb4 hk4))
      refine bodyPost_ret (v := .agg (itA (newT l x0))) (results_box Try.results34 _ _ w.heap.size rfl HR4.out Try.underlying36 rfl infoIt13) rfl ⟨rfl, HB4.out⟩
    | succ g =>
      have hjl : j < l.length := by have := HNL.out; omega
      have hz : ((j + 1 : Nat) : Int) < (n : Int) := by omega
      have hjn : j + 1 < n := by omega
      have HNT := hide (newT_take x0 l hjl)
      obtain ⟨en, b2, off2, e9, hb2, hcl2⟩ := (HSW.out.below HB.out).at recIT.len (i := j + 1) (by simp; omega)
      cases e9
      have HRI : Hid (wr.rangeAt b (off + (j + 1) * 13) (itE (l[j]))) := hide (fun m v hv => hcl2 m v (by simpa using hv))
      generalize l[j] = x at *
      generalize newT (l.take j) x0 = best at *
      have HRW : Hid (∀ W, Below wr.heap.size wr W → W.rangeAt b (off + (j + 1) * 13) (itE x)) := hide (fun W hB m v hv => (hB.cell (p := ⟨b, off + (j + 1) * 13 + m, none⟩) hb2).trans (HRI.out m v hv))
      have HXM : Hid (∀ W, Below wr.heap.size wr W → Box W mb (itA best) 36) := hide (fun W hB => HX.out.belowI hB)
      clear hcl2 en
      go_wp2_with fail
      by_cases hv : best.ver < x.ver
      · have HGT : Hid (∀ W, (binOp .gtr 3 (.int .i64 (cmpF (x.ver : Int) (best.ver : Int))) (.int .i64 0)).run Try.prog W = .ok (.bool true) W) := hide (fun W => gtr_int13 _ _ W (by rcases cmpF_rng (x.ver : Int) (best.ver : Int) with ⟨e, h⟩ | ⟨e, h⟩ | ⟨e, h⟩ <;> first | omega | (rw [e]; rfl)))
        rw [if_pos hv] at HNT
        clear hv
        refine wp_region_vals (by kernel_rfl) [(20, .func (.func 35) #[] #[]), (21, .slice (some ⟨b, off, none⟩) n cap), (22, .int .i64 ((j + 1 : Nat) : Int)), (23, .pointer (some ⟨b, off + (j + 1) * 13, none⟩)), (24, .agg (itA x)), (25, .agg (itA best)), (26, .int .i64 (cmpF (x.ver : Int) (best.ver : Int))), (27, .bool true)] (by kernel_rfl) rfl ?_ ?_
        · intro i o hi A w1 hB hold hdeps
          have hlt : i < 8 := (Array.getElem?_eq_some_iff.1 hi).1
          have hc : i = 0 ∨ i = 1 ∨ i = 2 ∨ i = 3 ∨ i = 4 ∨ i = 5 ∨ i = 6 ∨ i = 7 := by omega
          clear hlt
          rcases hc with rfl | rfl | rfl | rfl | rfl | rfl | rfl | rfl
          · obtain rfl := Option.some.inj hi
            have s1 : A.tmps.getD 1 undef = .func (.func 35) #[] #[] := hold 1 (by kernel_rfl)
            exact r_pure hi rfl rfl (y_move _ s1)
          · obtain rfl := Option.some.inj hi
            have s0 : A.tmps.getD 0 undef = .slice (some ⟨b, off, none⟩) n cap := hold 0 (by kernel_rfl)
            exact r_pure hi rfl rfl (y_move _ s0)
          · obtain rfl := Option.some.inj hi
            have s6 : A.tmps.getD 6 undef = .int .i64 ((j + 1 : Nat) : Int) := hold 6 (by kernel_rfl)
            exact r_pure hi rfl rfl (y_move _ s6)
          · obtain rfl := Option.some.inj hi
            have s21 : A.tmps.getD 21 undef = .slice (some ⟨b, off, none⟩) n cap := dep_of hdeps 1 (by kernel_rfl)
            have s22 : A.tmps.getD 22 undef = .int .i64 ((j + 1 : Nat) : Int) := dep_of hdeps 2 (by kernel_rfl)
            exact r_pure hi rfl rfl (yt_idxI _ _ s21 s22 hjn)
          · obtain rfl := Option.some.inj hi
            have s23 : A.tmps.getD 23 undef = .pointer (some ⟨b, off + (j + 1) * 13, none⟩) := dep_of hdeps 3 (by kernel_rfl)
            exact r_pure hi rfl rfl (y_loadMid _ _ s23 (HRW.out w1 hB) Try.underlying36 rfl infoIt13)
          · obtain rfl := Option.some.inj hi
            have s5 : A.tmps.getD 5 undef = .pointer (some ⟨mb, 0, none⟩) := hold 5 (by kernel_rfl)
            exact r_pure hi rfl rfl (y_load _ _ s5 (HXM.out w1 hB) Try.underlying36 rfl infoIt13)
          · obtain rfl := Option.some.inj hi
            have s20 : A.tmps.getD 20 undef = .func (.func 35) #[] #[] := dep_of hdeps 0 (by kernel_rfl)
            have s24 : A.tmps.getD 24 undef = .agg (itA x) := dep_of hdeps 4 (by kernel_rfl)
            have s25 : A.tmps.getD 25 undef = .agg (itA best) := dep_of hdeps 5 (by kernel_rfl)
            exact r_enter hi rfl rfl (y_callv 35 _ _ #[.agg (itA x), .agg (itA best)] _ s20 (by simp only [List.map_toArray, List.map_cons, List.map_nil, show A.eval (.tmp 24) = .agg (itA x) from s24, show A.eval (.tmp 25) = .agg (itA best) from s25]; try rfl) en13_bv) (byVersion_any x best w1)
          · obtain rfl := Option.some.inj hi
            have s26 : A.tmps.getD 26 undef = .int .i64 (cmpF (x.ver : Int) (best.ver : Int)) := dep_of hdeps 6 (by kernel_rfl)
            exact r_pure hi rfl rfl (y_bin _ _ _ _ _ s26 rfl (HGT.out w1) (by kernel_rfl))
        · intro w5 hB5
          simp only [putAll, Act.put, List.setIfInBounds_toArray, List.set_cons_succ, List.set_cons_zero]
          have HX5 := hide (HXM.out w5 hB5)
          have HR5 := hide (HXR.out.belowI hB5)
          have HB5 := hide (HB.out.trans (hB5.mono HB.out.size))
          have HI5 := hide (HRW.out w5 hB5)
          clear hB5 HRW HXM HGT
          go_wp2_with (first | ((with_reducible show wpList _ _ _ (⟨_, .load 36 _, _, _, _, _⟩ :: _) _ _); refine wpList_load_mid rfl 36 _ rfl b (off + (j + 1) * 13) rfl (itE x) _ HI5.out Try.underlying36 rfl infoIt13 ?_) | ((with_reducible show wpList _ _ _ (⟨none, .store _ _ _, _, _, _, _⟩ :: _) _ _); refine wp_store_box rfl rfl _ _ rfl mb rfl (cs' := itA x) rfl HX5.out rfl infoIt13 (itA_one13 _) ?_; intro w6 hb4 hk4; have HX6 := hide hb4; have HR6 := hide (HR5.out.keep hk4 (by have := HMB.out; omega)); have HB6 := hide (HB5.out.trans (hk4.below HB5.out.size (fun k hk => by have := HMB.out; omega))); clear hb4 hk4))
          go_roundg g
          case measure => omega
          case rel => exact ⟨j + 1, by omega, by first | rfl | go_num, hide (by rw [HNT.out]; exact HX6.out), HR6, HB6⟩
      · have HGT : Hid (∀ W, (binOp .gtr 3 (.int .i64 (cmpF (x.ver : Int) (best.ver : Int))) (.int .i64 0)).run Try.prog W = .ok (.bool false) W) := hide (fun W => gtr_int13 _ _ W (by rcases cmpF_rng (x.ver : Int) (best.ver : Int) with ⟨e, h⟩ | ⟨e, h⟩ | ⟨e, h⟩ <;> first | omega | (rw [e]; rfl)))
        rw [if_neg hv] at HNT
        clear hv
        refine wp_region_vals (by kernel_rfl) [(20, .func (.func 35) #[] #[]), (21, .slice (some ⟨b, off, none⟩) n cap), (22, .int .i64 ((j + 1 : Nat) : Int)), (23, .pointer (some ⟨b, off + (j + 1) * 13, none⟩)), (24, .agg (itA x)), (25, .agg (itA best)), (26, .int .i64 (cmpF (x.ver : Int) (best.ver : Int))), (27, .bool false)] (by kernel_rfl) rfl ?_ ?_
        · intro i o hi A w1 hB hold hdeps
          have hlt : i < 8 := (Array.getElem?_eq_some_iff.1 hi).1
          have hc : i = 0 ∨ i = 1 ∨ i = 2 ∨ i = 3 ∨ i = 4 ∨ i = 5 ∨ i = 6 ∨ i = 7 := by omega
          clear hlt
          rcases hc with rfl | rfl | rfl | rfl | rfl | rfl | rfl | rfl
          · obtain rfl := Option.some.inj hi
            have s1 : A.tmps.getD 1 undef = .func (.func 35) #[] #[] := hold 1 (by kernel_rfl)
            exact r_pure hi rfl rfl (y_move _ s1)
          · obtain rfl := Option.some.inj hi
            have s0 : A.tmps.getD 0 undef = .slice (some ⟨b, off, none⟩) n cap := hold 0 (by kernel_rfl)
            exact r_pure hi rfl rfl (y_move _ s0)
          · obtain rfl := Option.some.inj hi
            have s6 : A.tmps.getD 6 undef = .int .i64 ((j + 1 : Nat) : Int) := hold 6 (by kernel_rfl)
            exact r_pure hi rfl rfl (y_move _ s6)
          · obtain rfl := Option.some.inj hi
            have s21 : A.tmps.getD 21 undef = .slice (some ⟨b, off, none⟩) n cap := dep_of hdeps 1 (by kernel_rfl)
            have s22 : A.tmps.getD 22 undef = .int .i64 ((j + 1 : Nat) : Int) := dep_of hdeps 2 (by kernel_rfl)
            exact r_pure hi rfl rfl (yt_idxI _ _ s21 s22 hjn)
          · obtain rfl := Option.some.inj hi
            have s23 : A.tmps.getD 23 undef = .pointer (some ⟨b, off + (j + 1) * 13, none⟩) := dep_of hdeps 3 (by kernel_rfl)
            exact r_pure hi rfl rfl (y_loadMid _ _ s23 (HRW.out w1 hB) Try.underlying36 rfl infoIt13)
          · obtain rfl := Option.some.inj hi
            have s5 : A.tmps.getD 5 undef = .pointer (some ⟨mb, 0, none⟩) := hold 5 (by kernel_rfl)
            exact r_pure hi rfl rfl (y_load _ _ s5 (HXM.out w1 hB) Try.underlying36 rfl infoIt13)
          · obtain rfl := Option.some.inj hi
            have s20 : A.tmps.getD 20 undef = .func (.func 35) #[] #[] := dep_of hdeps 0 (by kernel_rfl)
            have s24 : A.tmps.getD 24 undef = .agg (itA x) := dep_of hdeps 4 (by kernel_rfl)
            have s25 : A.tmps.getD 25 undef = .agg (itA best) := dep_of hdeps 5 (by kernel_rfl)
            exact r_enter hi rfl rfl (y_callv 35 _ _ #[.agg (itA x), .agg (itA best)] _ s20 (by simp only [List.map_toArray, List.map_cons, List.map_nil, show A.eval (.tmp 24) = .agg (itA x) from s24, show A.eval (.tmp 25) = .agg (itA best) from s25]; try rfl) en13_bv) (byVersion_any x best w1)
          · obtain rfl := Option.some.inj hi
            have s26 : A.tmps.getD 26 undef = .int .i64 (cmpF (x.ver : Int) (best.ver : Int)) := dep_of hdeps 6 (by kernel_rfl)
            exact r_pure hi rfl rfl (y_bin _ _ _ _ _ s26 rfl (HGT.out w1) (by kernel_rfl))
        · intro w5 hB5
          simp only [putAll, Act.put, List.setIfInBounds_toArray, List.set_cons_succ, List.set_cons_zero]
          have HX5 := hide (HXM.out w5 hB5)
          have HR5 := hide (HXR.out.belowI hB5)
          have HB5 := hide (HB.out.trans (hB5.mono HB.out.size))
          clear hB5 HRW HXM HGT
          go_wp2_with fail
          go_roundg g
          case measure => omega
          case rel => exact ⟨j + 1, by omega, by first | rfl | go_num, hide (by rw [HNT.out]; exact HX5.out), HR5, HB5⟩
set_option maxRecDepth 100000 in
set_option maxHeartbeats 1600000 in
theorem newest_any (v : Value) (is : List ItP) (w : World) (hs : RSrc itE w v is) (hl : is.length ≤ 100000) :
    Calls Try.prog 19 #[v] w fun e w' => e = .returned (.tuple #[.agg (itA ((nwT is).getD zeroIt)), .bool (nwT is).isSome]) ∧ Below w.heap.size w w' := by
  obtain ⟨ao, cap, rfl, _, _⟩ := hs.shape
  have hA := alloc_below13 w (.cells (itA zeroIt) 36)
  have HXR := hide (box_new w (itA zeroIt) 36)
  have HB1 := hide hA
  have hbz := build_it0
  cases is with
  | nil =>
    have HE : Hid (nwT [] = none) := rfl
    rw [HE.out]
    simp only [Option.isSome_none, Option.getD_none]
    clear hs hA hl HE
    go_enter Try.func19, Try.ntmps19
    go_wp2_with (refine wp_store_box rfl rfl _ _ rfl w.heap.size rfl (cs' := itA zeroIt) rfl HXR.out rfl infoIt13 (itA_one13 _) ?_; intro w4 hb4 hk4; have HR4 := hide hb4; have HB4 := hide (HB1.out.trans (hk4.below HB1.out.size (fun k hk => by omega))); clear hb4 hk4)
    refine bodyPost_ret (v := .tuple #[.agg (itA zeroIt), .bool false]) (results_box2 Try.results19 _ _ w.heap.size rfl rfl HR4.out Try.underlying36 rfl infoIt13) rfl ⟨rfl, HB4.out⟩
  | cons x0 l =>
    have HE : Hid (nwT (x0 :: l) = some (newT l x0)) := rfl
    rw [HE.out]
    simp only [Option.isSome_some, Option.getD_some]
    have C := hide (maxFunc_any _ x0 l _ (hs.below hA) hl)
    obtain ⟨n, hn⟩ : ∃ n, n = (x0 :: l).length := ⟨_, rfl⟩
    have hn1 : 1 ≤ n := by rw [hn]; simp
    rw [← hn] at C ⊢
    have hn0 : ((n : Int) == 0) = false := by simp; omega
    generalize newT l x0 = best at *
    clear hs hA hl hn HE
    go_enter Try.func19, Try.ntmps19
    go_wp2_with fail
    refine C.out.mono ?_
    rintro e w2 ⟨rfl, hB2⟩
    have HXR2 := hide (HXR.out.belowI hB2)
    have HB2 := hide (HB1.out.trans (hB2.mono HB1.out.size))
    clear hB2
    go_wp2_with (refine wp_store_box rfl rfl _ _ rfl w.heap.size rfl (cs' := itA best) rfl HXR2.out rfl infoIt13 (itA_one13 _) ?_; intro w4 hb4 hk4; have HR4 := hide hb4; have HB4 := hide (HB2.out.trans (hk4.below HB2.out.size (fun k hk => by omega))); clear hb4 hk4)
    refine bodyPost_ret (v := .tuple #[.agg (itA best), .bool true]) (results_box2 Try.results19 _ _ w.heap.size rfl rfl HR4.out Try.underlying36 rfl infoIt13) rfl ⟨rfl, HB4.out⟩
end
section
open Go.RowKit Go.Maps Classical

theorem merT_go {t : List WrP} {x : WrP} {l : List WrP} (h : insA t x.key x.it = 0 ∨ insA t x.key x.it = 13) : merT t (x :: l) = merT (insD t x.key x.it) l := by
  show (if insA t x.key x.it ≠ 0 ∧ insA t x.key x.it ≠ 13 then (insA t x.key x.it, t) else merT (insD t x.key x.it) l) = _
  rw [if_neg (fun h2 => h.elim h2.1 h2.2)]
theorem merT_stop {t : List WrP} {x : WrP} {l : List WrP} (h0 : insA t x.key x.it ≠ 0) (h1 : insA t x.key x.it ≠ 13) : merT t (x :: l) = (insA t x.key x.it, t) := by
  show (if insA t x.key x.it ≠ 0 ∧ insA t x.key x.it ≠ 13 then (insA t x.key x.it, t) else merT (insD t x.key x.it) l) = _
  rw [if_pos ⟨h0, h1⟩]
set_option maxRecDepth 100000 in
set_option maxHeartbeats 3200000 in
theorem ptMerge_any (q b q2 b2 : Nat) (t t2 : List WrP) (w : World) (h : PTb w q b t) (h2 : PTb w q2 b2 t2) :
    Calls Try.prog 21 #[.pointer (some ⟨q, 0, none⟩), .pointer (some ⟨q2, 0, none⟩)] w fun e w' => e = .returned (.int .i64 (merT t t2).1) ∧ PTb w' q b (merT t t2).2 ∧ KeepBut (fun j => j = b) w w' := by
  have C := hide (made_any q b w h.box)
  have CA := hide (ptAll_any q2 b2 t2 w h2)
  have H := hide h
  have H2O := hide h2.map.oks
  have hbl := h.map.lt
  have hfew := h2.map.ok.few
  obtain ⟨n, hn⟩ : ∃ n, n = t2.length := ⟨_, rfl⟩
  have HN := hide hn
  rw [← hn] at hfew
  obtain ⟨M, hM⟩ : ∃ M, M = merT t t2 := ⟨_, rfl⟩
  rw [← hM]
  have HM := hide hM
  clear h h2 hn hM
  go_enter Try.func21, Try.ntmps21
  go_wp2_with fail
  refine C.out.mono ?_
  rintro e w' ⟨rfl, hw1⟩
  subst hw1
  go_wp2_with fail
  refine CA.out.mono ?_
  rintro e w2 ⟨va, rfl, hva, hB2⟩
  have HS2 := hide (RSrc.of_own hva)
  have HVB : Hid (∀ g, va.ownBlock = some g → ¬ g = b) := hide (fun g e e2 => by have := (hva.lt g e).1; omega)
  obtain ⟨ao, cap, ea, _, _⟩ := HS2.out.shape
  rw [← HN.out] at ea
  subst ea
  have HP2 := hide (H.out.below hB2)
  have HK2 : Hid (KeepBut (fun j => j = b) w' w2) := hide (KeepBut.of_below _ hB2)
  clear hva hB2 C CA
  go_wp2_with fail
  go_loopg [14] n (fun g ix wr => ∃ (j : Nat) (tc : List WrP), j + g = n ∧ ix = .int .i64 (j : Int) ∧ Hid (PTb wr q b tc) ∧ Hid (M = merT tc (t2.drop j)) ∧ Hid (RSrc wrE wr (.slice ao n cap) t2) ∧ Hid (KeepBut (fun j => j = b) w' wr))
  case atStart => exact ⟨0, t, by omega, rfl, HP2, HM, HS2, HK2⟩
  case round =>
    obtain ⟨j, tc, hj, rfl, HP, HMJ, HS, HK⟩ := hrel
    cases gk with
    | zero =>
      obtain rfl : j = n := by omega
      have hz : ¬ ((j : Int) < (j : Int)) := by omega
      have HE : Hid (M = (0, tc)) := hide (by rw [HMJ.out, HN.out, List.drop_length]; rfl)
      go_wp2_with fail
      go_ret
      rw [HE.out]
      exact ⟨rfl, HP.out, HK.out⟩
    | succ g =>
      have hz : (j : Int) < (n : Int) := by omega
      have hjt : j < t2.length := by rw [← HN.out]; omega
      obtain ⟨en9, b9, o9, e9, hb9, hcl⟩ := HS.out.at recWR.len hjt
      obtain rfl := e9
      have HRG : Hid (wr.rangeAt b9 (o9 + j * 21) (wrE t2[j])) := hide (fun i u hu => hcl i u hu)
      have HDR := hide (List.drop_eq_getElem_cons hjt)
      have HXO := hide (H2O.out _ (List.getElem_mem hjt))
      generalize t2[j] = x at *
      rw [HDR.out] at HMJ
      have HZ := hide (box_new wr (wrA zeroWr) 38)
      have HZB := hide (alloc_below13 wr (.cells (wrA zeroWr) 38))
      clear en9 hb9 hcl hjt HDR
      go_wp2_with (first | ((with_reducible show wpList _ _ _ (⟨_, .load 38 _, _, _, _, _⟩ :: _) _ _); refine wpList_load_mid rfl 38 _ rfl b9 (o9 + j * 21) rfl (wrE x) _ HRG.out Try.underlying38 rfl infoWrite ?_) | ((with_reducible show wpList _ _ _ (⟨none, .store _ _ _, _, _, _, _⟩ :: _) _ _); refine wp_store_box rfl rfl _ _ rfl wr.heap.size rfl (cs' := wrA x) rfl HZ.out rfl infoWrite (wrA_one13 x) ?_; intro w4 hb4 hk4; have HX4 := hide hb4; have HB4 := hide (HZB.out.trans (hk4.below HZB.out.size (fun i hi => by omega))); have HK4 := hide (wr_key HX4.out); have HI4 := hide (wr_it HX4.out); clear hb4 hk4) | ((with_reducible show wpList _ _ _ (⟨_, .load 31 _, _, _, _, _⟩ :: _) _ _); refine wpList_load_mid rfl 31 _ rfl wr.heap.size 0 rfl (eightE x.key) _ HK4.out Try.underlying31 rfl infoKey13 ?_) | ((with_reducible show wpList _ _ _ (⟨_, .load 36 _, _, _, _, _⟩ :: _) _ _); refine wpList_load_mid rfl 36 _ rfl wr.heap.size 8 rfl (itE x.it) _ HI4.out Try.underlying36 rfl infoIt13 ?_))
      refine (ptIns_any q b tc x.key x.it w4 (HP.out.below HB4.out) HXO.out.1 HXO.out.2).mono ?_
      rintro e w5 ⟨rfl, hp5, hk5⟩
      have HP5 := hide hp5
      have HK5 : Hid (KeepBut (fun j => j = b) w' w5) := hide ((HK.out.trans (KeepBut.of_below _ HB4.out) (fun _ _ h => h)).trans hk5 (fun _ _ h => h))
      have HS5 := hide ((HS.out.below HB4.out).keep hk5 HVB.out)
      clear hp5 hk5 HX4 HK4 HI4 HRG HZ HZB HB4
      by_cases h0 : insA tc x.key x.it = 0
      · rw [merT_go (.inl h0)] at HMJ
        rw [h0]
        generalize insD tc x.key x.it = t' at *
        clear h0
        go_wp2_with fail
        go_roundg g
        case measure => omega
        case rel => exact ⟨j + 1, t', by omega, by first | rfl | go_num, HP5, HMJ, HS5, HK5⟩
      · by_cases h1 : insA tc x.key x.it = 13
        · rw [merT_go (.inr h1)] at HMJ
          rw [h1]
          generalize insD tc x.key x.it = t' at *
          clear h0 h1
          go_wp2_with fail
          go_roundg g
          case measure => omega
          case rel => exact ⟨j + 1, t', by omega, by first | rfl | go_num, HP5, HMJ, HS5, HK5⟩
        · rw [merT_stop h0 h1] at HMJ
          rw [ins_same h0] at HP5
          have d0 : ((insA tc x.key x.it) != 0) = true := by simpa using h0
          have d1 : ((insA tc x.key x.it) != 13) = true := by simpa using h1
          generalize insA tc x.key x.it = R at *
          go_wp2_with fail
          go_ret
          rw [HMJ.out]
          exact ⟨rfl, HP5.out, HK5.out⟩
set_option maxRecDepth 100000 in
theorem ptMergeNil_any (q b : Nat) (t : List WrP) (w : World) (h : PTb w q b t) :
    Calls Try.prog 21 #[.pointer (some ⟨q, 0, none⟩), .pointer none] w fun e w' => e = .returned (.int .i64 0) ∧ w' = w := by
  have C := hide (made_any q b w h.box)
  have CA := hide (nobAll (w := w) (.inl rfl))
  clear h
  go_enter Try.func21, Try.ntmps21
  go_wp2_with fail
  refine C.out.mono ?_
  rintro e w' ⟨rfl, hw1⟩
  subst hw1
  go_wp2_with fail
  refine CA.out.mono ?_
  rintro e w' ⟨rfl, hw1⟩
  subst hw1
  go_wp2_with fail
  refine wp_loop_rounds 1 ?_
  rw [rounds_succ]
  go_wp2_with fail
  go_ret
  exact ⟨rfl, rfl⟩
end
section
open Go.RowKit Classical

theorem en13_rins5 : ∀ args w, (callFunc 13 args).run Try.prog w = .ok (.enter 13 args) w := enters_of Try.func13 (by kernel_rfl) rfl
theorem yt_wit8 {ρ : Operand → Value} {w : World} {dst : Option Tmp} {ty : TypeId} {pos : String} {aft : Array Edge} {gd : Option (Nat × Bool)} (x : Operand) {p o : Nat} (hx : ρ x = .pointer (some ⟨p, o, none⟩)) : (execOp ρ ⟨dst, .fieldAddr 38 x 1, ty, pos, aft, gd⟩).run Try.prog w = .ok (.value (.pointer (some ⟨p, o + 8, none⟩))) w := by simp [go_sem, hx]
def RM4 (i : Nat) (w w' : World) : Prop := (i = 17) ∨ Below w.heap.size w w'
theorem RTid.after {w w1 w2 : World} {p : Nat} {vb vb1 : Value} {t2 : List WrP} (hk : KeepBut (fun k => k = p) w w1) (hu : vb1.ownBlock = vb.ownBlock ∨ ∀ g, vb1.ownBlock = some g → w.heap.size ≤ g) (h : RTid w1 w2 p vb1 t2) : RTid w w2 p vb t2 := by
  obtain ⟨vb', h1, hk2, hu2⟩ := h
  refine ⟨vb', h1, hk.trans hk2 (fun _ _ h => h), ?_⟩
  rcases hu2 with e | e
  · rw [e]; exact hu
  · exact .inr fun g hg => Nat.le_trans hk.size (e g hg)
def IM4 (p p2 b off n cap j : Nat) (x : WrP) (R : Int) : Nat → Value → World → Prop
  | 0, v, _ => v = .pointer (some ⟨p, 0, none⟩)
  | 1, v, _ => v = .pointer (some ⟨p2, 0, none⟩)
  | 2, v, _ => v = .pointer (some ⟨p2, 0, none⟩)
  | 3, v, _ => v = .pointer (some ⟨p2, 0, none⟩)
  | 4, v, _ => v = .slice (some ⟨b, off, none⟩) n cap
  | 5, v, _ => v = .int .i64 (j : Int)
  | 6, v, _ => v = .pointer (some ⟨b, off + j * 21, none⟩)
  | 7, v, _ => v = .pointer (some ⟨b, off + j * 21, none⟩)
  | 8, v, _ => v = .agg (eightA x.key)
  | 9, v, _ => v = .pointer (some ⟨p2, 0, none⟩)
  | 10, v, _ => v = .pointer (some ⟨p2, 0, none⟩)
  | 11, v, _ => v = .pointer (some ⟨p2, 0, none⟩)
  | 12, v, _ => v = .slice (some ⟨b, off, none⟩) n cap
  | 13, v, _ => v = .int .i64 (j : Int)
  | 14, v, _ => v = .pointer (some ⟨b, off + j * 21, none⟩)
  | 15, v, _ => v = .pointer (some ⟨b, off + j * 21 + 8, none⟩)
  | 16, v, _ => v = .agg (itA x.it)
  | 17, v, _ => v = .int .i64 R
  | 18, v, _ => v = .int .i64 R
  | _, _, _ => True
set_option maxRecDepth 100000 in
set_option maxHeartbeats 3200000 in
theorem rmer_any (p p2 : Nat) (vb vb2 : Value) (t t2 : List WrP) (w : World) (h : RTb w p vb t) (h2 : RTb w p2 vb2 t2) (hpp : ∀ k, usesT p2 vb2 k → ¬ k = p) (hlen : ∀ x ∈ t2, x.it.val.length ≤ 9223372036854775807) :
    Calls Try.prog 22 #[.pointer (some ⟨p, 0, none⟩), .pointer (some ⟨p2, 0, none⟩)] w fun e w' => e = .returned (.int .i64 (merT t t2).1) ∧ RTid w w' p vb (merT t t2).2 := by
  obtain ⟨ao, cap, hvb, _, _⟩ := h2.src.shape
  have hfew := h2.ok.few
  obtain ⟨n, hn⟩ : ∃ n, n = t2.length := ⟨_, rfl⟩
  have HN := hide hn
  rw [← hn] at hvb hfew
  subst hvb
  obtain ⟨M, hM⟩ : ∃ M, M = merT t t2 := ⟨_, rfl⟩
  rw [← hM]
  have HM := hide hM
  have H2 := hide h2
  have HPP := hide hpp
  have HLEN := hide hlen
  have HT0 : Hid (RTid w w p vb t) := hide (RTid.of_below h (Below.refl _ _))
  clear h h2 hn hM hpp hlen
  go_enter Try.func22, Try.ntmps22
  go_wp2_with fail
  go_loopg [5] n (fun g ix wr => ∃ (j : Nat) (tc : List WrP), j + g = n ∧ ix = .int .i64 (j : Int) ∧ Hid (RTid w wr p vb tc) ∧ Hid (M = merT tc (t2.drop j)))
  case atStart => exact ⟨0, t, by omega, rfl, HT0, HM⟩
  case round =>
    obtain ⟨j, tc, hj, rfl, HT, HMJ⟩ := hrel
    obtain ⟨vbc, hR, hkc, huc⟩ := HT.out
    have HR := hide hR
    have HKC := hide hkc
    have HUC := hide huc
    have HR2 := hide (H2.out.keep hkc HPP.out)
    have c2 : wr.cell? ⟨p2, 0, none⟩ = some (.slice ao n cap) := HR2.out.box.cell 0 _ rfl
    clear hR hkc huc
    cases gk with
    | zero =>
      obtain rfl : j = n := by omega
      have hz : ¬ ((j : Int) < (j : Int)) := by omega
      have HE : Hid (M = (0, tc)) := hide (by rw [HMJ.out, HN.out, List.drop_length]; rfl)
      go_wp2_with fail
      go_ret
      rw [HE.out]
      exact ⟨rfl, HT.out⟩
    | succ g =>
      have hz : (j : Int) < (n : Int) := by omega
      have hjn : j < n := by omega
      have hjt : j < t2.length := by rw [← HN.out]; omega
      obtain ⟨en9, b, off, e9, hb9, hcl⟩ := HR2.out.src.at recWR.len hjt
      obtain rfl := e9
      have HDR := hide (List.drop_eq_getElem_cons hjt)
      have HXO := hide (H2.out.oks _ (List.getElem_mem hjt))
      have HXL := hide (HLEN.out _ (List.getElem_mem hjt))
      have HRG : Hid (∀ W, Below wr.heap.size wr W → W.rangeAt b (off + j * 21) (wrE t2[j])) := hide (fun W hB i u hu => (hB.cell (p := ⟨b, off + j * 21 + i, none⟩) hb9).trans (hcl i u hu))
      generalize t2[j] = x at *
      rw [HDR.out] at HMJ
      have HRK : Hid (∀ W, Below wr.heap.size wr W → W.rangeAt b (off + j * 21) (eightE x.key)) := hide (fun W hB i u hu => HRG.out W hB i u (by
        show (eightE x.key ++ itE x.it)[i]? = some u
        rw [List.getElem?_append_left (List.getElem?_eq_some_iff.1 hu).1]
        exact hu))
      have HRI : Hid (∀ W, Below wr.heap.size wr W → W.rangeAt b (off + j * 21 + 8) (itE x.it)) := hide (fun W hB i u hu => by
        have h := HRG.out W hB (8 + i) u (by
          show (eightE x.key ++ itE x.it)[8 + i]? = some u
          rw [List.getElem?_append_right (by simp)]
          simpa using hu)
        rw [← Nat.add_assoc] at h
        exact h)
      have HC2 : Hid (∀ W, Below wr.heap.size wr W → W.cell? ⟨p2, 0, none⟩ = some (.slice (some ⟨b, off, none⟩) n cap)) := hide (fun W hB => (HR2.out.below hB).box.cell 0 _ rfl)
      have CI : Hid (∀ W, Below wr.heap.size wr W → Calls Try.prog 13 #[.pointer (some ⟨p, 0, none⟩), .agg (eightA x.key), .agg (itA x.it)] W fun e w' => e = .returned (.int .i64 (insA tc x.key x.it)) ∧ RTid W w' p vbc (insD tc x.key x.it)) := hide (fun W hB => rins_any p vbc tc x.key x.it W (HR.out.below hB) HXO.out.1 HXO.out.2 HXL.out)
      have HSM : Hid (insA tc x.key x.it ≠ 0 → insD tc x.key x.it = tc) := hide (fun h => ins_same h)
      have HGO : Hid ((insA tc x.key x.it = 0 ∨ insA tc x.key x.it = 13) → M = merT (insD tc x.key x.it) (t2.drop (j + 1))) := hide (fun h => by rw [HMJ.out, merT_go h])
      have HST : Hid (insA tc x.key x.it ≠ 0 → insA tc x.key x.it ≠ 13 → M = (insA tc x.key x.it, tc)) := hide (fun h h2 => by rw [HMJ.out, merT_stop h h2])
      generalize insA tc x.key x.it = R at *
      generalize insD tc x.key x.it = t' at *
      clear en9 hb9 hcl hjt HDR HMJ
      go_wp2_with fail
      refine wp_region_let (by kernel_rfl) (fun f => [(16, f 0), (17, f 1), (18, f 2), (19, f 3), (20, f 4), (21, f 5), (22, f 6), (23, f 7), (24, f 8), (25, f 9), (26, f 10), (27, f 11), (28, f 12), (29, f 13), (30, f 14), (31, f 15), (32, f 16), (33, f 17), (6, f 18)]) (fun f => rfl) (IM4 p p2 b off n cap j x R) (fun l W => True ∧ Ph 17 18 (fun W => Below wr.heap.size wr W) (fun W => RTid wr W p vbc t') (fun W => RTid wr W p vbc t') l W) RM4 (by kernel_rfl) ?_ ?_ ?_ ?_
      · intro i j' v W W' hij hng hI hR
        match j', hI with
        | 0, hI => exact hI
        | 1, hI => exact hI
        | 2, hI => exact hI
        | 3, hI => exact hI
        | 4, hI => exact hI
        | 5, hI => exact hI
        | 6, hI => exact hI
        | 7, hI => exact hI
        | 8, hI => exact hI
        | 9, hI => exact hI
        | 10, hI => exact hI
        | 11, hI => exact hI
        | 12, hI => exact hI
        | 13, hI => exact hI
        | 14, hI => exact hI
        | 15, hI => exact hI
        | 16, hI => exact hI
        | 17, hI => exact hI
        | 18, hI => exact hI
        | j' + 19, hI => trivial
      · exact ⟨trivial, fun _ => below_drew13 wr, fun h => (by cases h), fun h => (by cases h)⟩
      · intro i o hi listed A w1 hsz hN hS hold hdeps
        obtain ⟨hX, hP⟩ := hS
        have hlt : i < 19 := (Array.getElem?_eq_some_iff.1 hi).1
        have hc : i = 0 ∨ i = 1 ∨ i = 2 ∨ i = 3 ∨ i = 4 ∨ i = 5 ∨ i = 6 ∨ i = 7 ∨ i = 8 ∨ i = 9 ∨ i = 10 ∨ i = 11 ∨ i = 12 ∨ i = 13 ∨ i = 14 ∨ i = 15 ∨ i = 16 ∨ i = 17 ∨ i = 18 := by omega
        clear hlt
        rcases hc with rfl | rfl | rfl | rfl | rfl | rfl | rfl | rfl | rfl | rfl | rfl | rfl | rfl | rfl | rfl | rfl | rfl | rfl | rfl
        · obtain rfl := Option.some.inj hi
          have s0 : A.tmps.getD 0 undef = .pointer (some ⟨p, 0, none⟩) := hold 0 (by kernel_rfl)
          exact t_value hi rfl rfl (y_move _ s0) ⟨hX, hP.skip (by decide) (by decide)⟩ (.inr (Below.refl _ _)) rfl
        · obtain rfl := Option.some.inj hi
          have s1 : A.tmps.getD 1 undef = .pointer (some ⟨p2, 0, none⟩) := hold 1 (by kernel_rfl)
          exact t_value hi rfl rfl (y_move _ s1) ⟨hX, hP.skip (by decide) (by decide)⟩ (.inr (Below.refl _ _)) rfl
        · obtain rfl := Option.some.inj hi
          have s17 : A.tmps.getD 17 undef = .pointer (some ⟨p2, 0, none⟩) := slot_I hdeps 1 rfl (by kernel_rfl)
          exact t_value hi rfl rfl (y_nil _ s17) ⟨hX, hP.skip (by decide) (by decide)⟩ (.inr (Below.refl _ _)) rfl
        · obtain rfl := Option.some.inj hi
          have s18 : A.tmps.getD 18 undef = .pointer (some ⟨p2, 0, none⟩) := slot_I hdeps 2 rfl (by kernel_rfl)
          exact t_value hi rfl rfl (yt_field _ s18) ⟨hX, hP.skip (by decide) (by decide)⟩ (.inr (Below.refl _ _)) rfl
        · obtain rfl := Option.some.inj hi
          have s19 : A.tmps.getD 19 undef = .pointer (some ⟨p2, 0, none⟩) := slot_I hdeps 3 rfl (by kernel_rfl)
          have hA := hP.1 (unlisted_of hN.un hN.cl 19 17 (by kernel_rfl))
          exact t_value hi rfl rfl (yt_cell _ s19 (HC2.out w1 hA)) ⟨hX, hP.skip (by decide) (by decide)⟩ (.inr (Below.refl _ _)) rfl
        · obtain rfl := Option.some.inj hi
          have s5 : A.tmps.getD 5 undef = .int .i64 (j : Int) := hold 5 (by kernel_rfl)
          exact t_value hi rfl rfl (y_move _ s5) ⟨hX, hP.skip (by decide) (by decide)⟩ (.inr (Below.refl _ _)) rfl
        · obtain rfl := Option.some.inj hi
          have s20 : A.tmps.getD 20 undef = .slice (some ⟨b, off, none⟩) n cap := slot_I hdeps 4 rfl (by kernel_rfl)
          have s21 : A.tmps.getD 21 undef = .int .i64 (j : Int) := slot_I hdeps 5 rfl (by kernel_rfl)
          exact t_value hi rfl rfl (yt_idx _ _ s20 s21 hjn) ⟨hX, hP.skip (by decide) (by decide)⟩ (.inr (Below.refl _ _)) rfl
        · obtain rfl := Option.some.inj hi
          have s22 : A.tmps.getD 22 undef = .pointer (some ⟨b, off + j * 21, none⟩) := slot_I hdeps 6 rfl (by kernel_rfl)
          exact t_value hi rfl rfl (yt_wkey _ s22) ⟨hX, hP.skip (by decide) (by decide)⟩ (.inr (Below.refl _ _)) rfl
        · obtain rfl := Option.some.inj hi
          have s23 : A.tmps.getD 23 undef = .pointer (some ⟨b, off + j * 21, none⟩) := slot_I hdeps 7 rfl (by kernel_rfl)
          have hA := hP.1 (unlisted_of hN.un hN.cl 19 17 (by kernel_rfl))
          exact t_value hi rfl rfl (y_loadMid _ _ s23 (HRK.out w1 hA) Try.underlying31 rfl infoKey13) ⟨hX, hP.skip (by decide) (by decide)⟩ (.inr (Below.refl _ _)) rfl
        · obtain rfl := Option.some.inj hi
          have s1 : A.tmps.getD 1 undef = .pointer (some ⟨p2, 0, none⟩) := hold 1 (by kernel_rfl)
          exact t_value hi rfl rfl (y_move _ s1) ⟨hX, hP.skip (by decide) (by decide)⟩ (.inr (Below.refl _ _)) rfl
        · obtain rfl := Option.some.inj hi
          have s25 : A.tmps.getD 25 undef = .pointer (some ⟨p2, 0, none⟩) := slot_I hdeps 9 rfl (by kernel_rfl)
          exact t_value hi rfl rfl (y_nil _ s25) ⟨hX, hP.skip (by decide) (by decide)⟩ (.inr (Below.refl _ _)) rfl
        · obtain rfl := Option.some.inj hi
          have s26 : A.tmps.getD 26 undef = .pointer (some ⟨p2, 0, none⟩) := slot_I hdeps 10 rfl (by kernel_rfl)
          exact t_value hi rfl rfl (yt_field _ s26) ⟨hX, hP.skip (by decide) (by decide)⟩ (.inr (Below.refl _ _)) rfl
        · obtain rfl := Option.some.inj hi
          have s27 : A.tmps.getD 27 undef = .pointer (some ⟨p2, 0, none⟩) := slot_I hdeps 11 rfl (by kernel_rfl)
          have hA := hP.1 (unlisted_of hN.un hN.cl 19 17 (by kernel_rfl))
          exact t_value hi rfl rfl (yt_cell _ s27 (HC2.out w1 hA)) ⟨hX, hP.skip (by decide) (by decide)⟩ (.inr (Below.refl _ _)) rfl
        · obtain rfl := Option.some.inj hi
          have s5 : A.tmps.getD 5 undef = .int .i64 (j : Int) := hold 5 (by kernel_rfl)
          exact t_value hi rfl rfl (y_move _ s5) ⟨hX, hP.skip (by decide) (by decide)⟩ (.inr (Below.refl _ _)) rfl
        · obtain rfl := Option.some.inj hi
          have s28 : A.tmps.getD 28 undef = .slice (some ⟨b, off, none⟩) n cap := slot_I hdeps 12 rfl (by kernel_rfl)
          have s29 : A.tmps.getD 29 undef = .int .i64 (j : Int) := slot_I hdeps 13 rfl (by kernel_rfl)
          exact t_value hi rfl rfl (yt_idx _ _ s28 s29 hjn) ⟨hX, hP.skip (by decide) (by decide)⟩ (.inr (Below.refl _ _)) rfl
        · obtain rfl := Option.some.inj hi
          have s30 : A.tmps.getD 30 undef = .pointer (some ⟨b, off + j * 21, none⟩) := slot_I hdeps 14 rfl (by kernel_rfl)
          exact t_value hi rfl rfl (yt_wit8 _ s30) ⟨hX, hP.skip (by decide) (by decide)⟩ (.inr (Below.refl _ _)) rfl
        · obtain rfl := Option.some.inj hi
          have s31 : A.tmps.getD 31 undef = .pointer (some ⟨b, off + j * 21 + 8, none⟩) := slot_I hdeps 15 rfl (by kernel_rfl)
          have hA := hP.1 (unlisted_of hN.un hN.cl 19 17 (by kernel_rfl))
          exact t_value hi rfl rfl (y_loadMid _ _ s31 (HRI.out w1 hA) Try.underlying36 rfl infoIt13) ⟨hX, hP.skip (by decide) (by decide)⟩ (.inr (Below.refl _ _)) rfl
        · obtain rfl := Option.some.inj hi
          have s16 : A.tmps.getD 16 undef = .pointer (some ⟨p, 0, none⟩) := slot_I hdeps 0 rfl (by kernel_rfl)
          have s24 : A.tmps.getD 24 undef = .agg (eightA x.key) := slot_I hdeps 8 rfl (by kernel_rfl)
          have s32 : A.tmps.getD 32 undef = .agg (itA x.it) := slot_I hdeps 16 rfl (by kernel_rfl)
          have h18 : listed.getD 18 true = false := unlisted_of hN.un hN.cl 19 18 (by kernel_rfl)
          have hA := hP.1 hN.un
          exact t_enter hi rfl rfl (y_call 13 _ #[.pointer (some ⟨p, 0, none⟩), .agg (eightA x.key), .agg (itA x.it)] _ rfl (by simp only [List.map_toArray, List.map_cons, List.map_nil, show A.eval (.tmp 16) = .pointer (some ⟨p, 0, none⟩) from s16, show A.eval (.tmp 24) = .agg (eightA x.key) from s24, show A.eval (.tmp 32) = .agg (itA x.it) from s32]; try rfl) en13_rins5) (Calls.mono (CI.out w1 hA) fun e w' ⟨he, hd⟩ => ⟨_, he, ⟨trivial, Ph.first (by decide) h18 (hd.before hA)⟩, .inl rfl, rfl⟩)
        · obtain rfl := Option.some.inj hi
          have s33 : A.tmps.getD 33 undef = .int .i64 R := slot_I hdeps 17 rfl (by kernel_rfl)
          have h17 : listed.getD 17 true = true := listed_dep hN 17 (by kernel_rfl)
          exact t_value hi rfl rfl (y_assign _ s33) ⟨trivial, Ph.second (by decide) h17 (hP.2.1 h17 hN.un)⟩ (.inr (Below.refl _ _)) rfl
      · intro listed w9 f hall hS hI
        have hE := hS.2.2.2 (hall 18 (by decide))
        have HE := hide hE
        have e0 : f 0 = .pointer (some ⟨p, 0, none⟩) := hI 0 (by decide)
        have e1 : f 1 = .pointer (some ⟨p2, 0, none⟩) := hI 1 (by decide)
        have e2 : f 2 = .pointer (some ⟨p2, 0, none⟩) := hI 2 (by decide)
        have e3 : f 3 = .pointer (some ⟨p2, 0, none⟩) := hI 3 (by decide)
        have e4 : f 4 = .slice (some ⟨b, off, none⟩) n cap := hI 4 (by decide)
        have e5 : f 5 = .int .i64 (j : Int) := hI 5 (by decide)
        have e6 : f 6 = .pointer (some ⟨b, off + j * 21, none⟩) := hI 6 (by decide)
        have e7 : f 7 = .pointer (some ⟨b, off + j * 21, none⟩) := hI 7 (by decide)
        have e8 : f 8 = .agg (eightA x.key) := hI 8 (by decide)
        have e9 : f 9 = .pointer (some ⟨p2, 0, none⟩) := hI 9 (by decide)
        have e10 : f 10 = .pointer (some ⟨p2, 0, none⟩) := hI 10 (by decide)
        have e11 : f 11 = .pointer (some ⟨p2, 0, none⟩) := hI 11 (by decide)
        have e12 : f 12 = .slice (some ⟨b, off, none⟩) n cap := hI 12 (by decide)
        have e13 : f 13 = .int .i64 (j : Int) := hI 13 (by decide)
        have e14 : f 14 = .pointer (some ⟨b, off + j * 21, none⟩) := hI 14 (by decide)
        have e15 : f 15 = .pointer (some ⟨b, off + j * 21 + 8, none⟩) := hI 15 (by decide)
        have e16 : f 16 = .agg (itA x.it) := hI 16 (by decide)
        have e17 : f 17 = .int .i64 R := hI 17 (by decide)
        have e18 : f 18 = .int .i64 R := hI 18 (by decide)
        simp only [e0, e1, e2, e3, e4, e5, e6, e7, e8, e9, e10, e11, e12, e13, e14, e15, e16, e17, e18]
        clear hI hall hS hE e0 e1 e2 e3 e4 e5 e6 e7 e8 e9 e10 e11 e12 e13 e14 e15 e16 e17 e18
        clear f
        simp only [putAll, Act.put, List.setIfInBounds_toArray, List.set_cons_succ, List.set_cons_zero]
        have HW9 := hide (RTid.after HKC.out HUC.out HE.out)
        clear HE HRK HRI HRG HC2 CI c2
        by_cases h0 : R = 0
        · have HM2 := hide (HGO.out (.inl h0))
          subst h0
          go_wp2_with fail
          go_roundg g
          case measure => omega
          case rel => exact ⟨j + 1, t', by omega, by first | rfl | go_num, HW9, HM2⟩
        · by_cases h1 : R = 13
          · have HM2 := hide (HGO.out (.inr h1))
            subst h1
            go_wp2_with fail
            go_roundg g
            case measure => omega
            case rel => exact ⟨j + 1, t', by omega, by first | rfl | go_num, HW9, HM2⟩
          · have HM2 := hide (HST.out h0 h1)
            rw [HSM.out h0] at HW9
            have d0 : (R != 0) = true := by simpa using h0
            have d1 : (R != 13) = true := by simpa using h1
            go_wp2_with fail
            go_ret
            rw [HM2.out]
            exact ⟨rfl, HW9.out⟩
end
section
open Go.RowKit Classical

/-- Where they lie. -/
structure Nm13 (w : World) (s1 s2 q1 b1 q2 b2 : Nat) : Prop where
  a : w.heap.size ≤ q1 ∧ q1 < s1
  b : w.heap.size ≤ b1 ∧ b1 < s1
  c : s1 ≤ q2 ∧ q2 < s2
  d : s1 ≤ b2 ∧ b2 < s2
  e : w.heap.size ≤ s1
/-- Those of the reference lie at s2 and behind it; their rows further behind. -/
structure M13 (w : World) (s2 q1 b1 q2 b2 : Nat) (v1 v2 : Value) (t o s r : List WrP) (W : World) : Prop where
  a : PTb W q1 b1 t
  b : PTb W q2 b2 o
  c : RTb W s2 v1 s
  d : RTb W (s2 + 1) v2 r
  f1 : ∀ g, v1.ownBlock = some g → s2 + 2 ≤ g
  f2 : ∀ g, v2.ownBlock = some g → s2 + 2 ≤ g
  ap : ∀ g, v1.ownBlock = some g → v2.ownBlock ≠ some g
  B : Below w.heap.size w W
section
variable {w W W' : World} {s1 s2 q1 b1 q2 b2 : Nat} {v1 v2 : Value} {t o s r : List WrP}
theorem M13.size (h : M13 w s2 q1 b1 q2 b2 v1 v2 t o s r W) : s2 + 2 ≤ W.heap.size := h.d.box.lt
/-- What is written lies elsewhere. -/
theorem M13.keep (hN : Nm13 w s1 s2 q1 b1 q2 b2) (h : M13 w s2 q1 b1 q2 b2 v1 v2 t o s r W) {S : Nat → Prop} (hk : KeepBut S W W') (hS : ∀ k, S k → s2 + 2 ≤ k ∧ v1.ownBlock ≠ some k ∧ v2.ownBlock ≠ some k) : M13 w s2 q1 b1 q2 b2 v1 v2 t o s r W' := by
  obtain ⟨⟨_, n2⟩, ⟨_, n4⟩, ⟨n5, n6⟩, ⟨n7, n8⟩, n9⟩ := hN
  refine ⟨h.a.keep hk (fun e => ?_) (fun e => ?_), h.b.keep hk (fun e => ?_) (fun e => ?_), h.c.keep hk (fun k hu hs => ?_), h.d.keep hk (fun k hu hs => ?_), h.f1, h.f2, h.ap, h.B.trans (hk.below h.B.size (fun k hs => by have := (hS k hs).1; omega))⟩
  · have := (hS _ e).1; omega
  · have := (hS _ e).1; omega
  · have := (hS _ e).1; omega
  · have := (hS _ e).1; omega
  · rcases hu with rfl | hu
    · have := (hS _ hs).1; omega
    · exact (hS k hs).2.1 hu
  · rcases hu with rfl | hu
    · have := (hS _ hs).1; omega
    · exact (hS k hs).2.2 hu
theorem M13.below (hN : Nm13 w s1 s2 q1 b1 q2 b2) (h : M13 w s2 q1 b1 q2 b2 v1 v2 t o s r W) (hB : Below W.heap.size W W') : M13 w s2 q1 b1 q2 b2 v1 v2 t o s r W' := h.keep hN (KeepBut.of_below (fun _ => False) hB) (fun _ h => h.elim)
theorem M13.prog1 (hN : Nm13 w s1 s2 q1 b1 q2 b2) (h : M13 w s2 q1 b1 q2 b2 v1 v2 t o s r W) {t' : List WrP} (h2 : PTb W' q1 b1 t') (hk : KeepBut (fun j => j = b1) W W') : M13 w s2 q1 b1 q2 b2 v1 v2 t' o s r W' := by
  obtain ⟨⟨_, n2⟩, ⟨n3, n4⟩, ⟨n5, n6⟩, ⟨n7, n8⟩, n9⟩ := hN
  refine ⟨h2, h.b.keep hk (fun e => by omega) (fun e => by omega), h.c.keep hk (fun k hu hs => ?_), h.d.keep hk (fun k hu hs => ?_), h.f1, h.f2, h.ap, h.B.trans (hk.below h.B.size (fun k hs => by rw [hs]; exact n3))⟩
  · rcases hu with rfl | hu
    · omega
    · have := h.f1 k hu; omega
  · rcases hu with rfl | hu
    · omega
    · have := h.f2 k hu; omega
theorem M13.prog2 (hN : Nm13 w s1 s2 q1 b1 q2 b2) (h : M13 w s2 q1 b1 q2 b2 v1 v2 t o s r W) {o' : List WrP} (h2 : PTb W' q2 b2 o') (hk : KeepBut (fun j => j = b2) W W') : M13 w s2 q1 b1 q2 b2 v1 v2 t o' s r W' := by
  obtain ⟨⟨_, n2⟩, ⟨n3, n4⟩, ⟨n5, n6⟩, ⟨n7, n8⟩, n9⟩ := hN
  refine ⟨h.a.keep hk (fun e => by omega) (fun e => by omega), h2, h.c.keep hk (fun k hu hs => ?_), h.d.keep hk (fun k hu hs => ?_), h.f1, h.f2, h.ap, h.B.trans (hk.below h.B.size (fun k hs => by rw [hs]; omega))⟩
  · rcases hu with rfl | hu
    · omega
    · have := h.f1 k hu; omega
  · rcases hu with rfl | hu
    · omega
    · have := h.f2 k hu; omega
theorem M13.ref1 (hN : Nm13 w s1 s2 q1 b1 q2 b2) (h : M13 w s2 q1 b1 q2 b2 v1 v2 t o s r W) {s' : List WrP} (h2 : RTid W W' s2 v1 s') : ∃ v1', M13 w s2 q1 b1 q2 b2 v1' v2 t o s' r W' := by
  obtain ⟨⟨_, n2⟩, ⟨n3, n4⟩, ⟨n5, n6⟩, ⟨n7, n8⟩, n9⟩ := hN
  obtain ⟨v', hr, hk, hu⟩ := h2
  have hsz := h.size
  refine ⟨v', h.a.keep hk (fun e => by omega) (fun e => by omega), h.b.keep hk (fun e => by omega) (fun e => by omega), hr, h.d.keep hk (fun k hu hs => ?_), ?_, h.f2, ?_, h.B.trans (hk.below h.B.size (fun k hs => by rw [hs]; omega))⟩
  · rcases hu with rfl | hu
    · omega
    · have := h.f2 k hu; omega
  · intro g e
    rcases hu with hu | hu
    · exact h.f1 g (by rw [← hu]; exact e)
    · have := hu g e; omega
  · intro g e
    rcases hu with hu | hu
    · exact h.ap g (by rw [← hu]; exact e)
    · intro e2
      have h3 := hu g e
      have h4 := (h.d.far g e2).1
      omega
theorem M13.ref2 (hN : Nm13 w s1 s2 q1 b1 q2 b2) (h : M13 w s2 q1 b1 q2 b2 v1 v2 t o s r W) {r' : List WrP} (h2 : RTid W W' (s2 + 1) v2 r') : ∃ v2', M13 w s2 q1 b1 q2 b2 v1 v2' t o s r' W' := by
  obtain ⟨⟨_, n2⟩, ⟨n3, n4⟩, ⟨n5, n6⟩, ⟨n7, n8⟩, n9⟩ := hN
  obtain ⟨v', hr, hk, hu⟩ := h2
  have hsz := h.size
  refine ⟨v', h.a.keep hk (fun e => by omega) (fun e => by omega), h.b.keep hk (fun e => by omega) (fun e => by omega), h.c.keep hk (fun k hu hs => ?_), hr, h.f1, ?_, ?_, h.B.trans (hk.below h.B.size (fun k hs => by rw [hs]; omega))⟩
  · rcases hu with rfl | hu
    · omega
    · have := h.f1 k hu; omega
  · intro g e
    rcases hu with hu | hu
    · exact h.f2 g (by rw [← hu]; exact e)
    · have := hu g e; omega
  · intro g e e2
    rcases hu with hu | hu
    · exact h.ap g e (by rw [← hu]; exact e2)
    · have h3 := hu g e2
      have h4 := (h.c.far g e).1
      omega
end
/-- Values of items. -/
theorem ins_small {t : List WrP} (h : TbOk t) (hs : ∀ x ∈ t, x.it.val.length ≤ 9223372036854775807) {k : List Int} (hk : k.length = 8) {i : ItP} (hi : i.val.length ≤ 9223372036854775807) : ∀ x ∈ insD t k i, x.it.val.length ≤ 9223372036854775807 := fun x hx => by
  unfold insD at hx
  split at hx
  · rcases (put_mem h hk i x).1 hx with rfl | ⟨_, hx⟩
    · exact hi
    · exact hs x hx
  · exact hs x hx
end
end Go.Proofs.Ytlngejmojpkdkaa
