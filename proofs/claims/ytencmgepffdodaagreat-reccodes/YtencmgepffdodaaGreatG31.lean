/-
  Own texts put together: RcDo, RcR1. Own work.
-/
import Derived.Test.YtencmgepffdodaaGreatG30
import Derived.Test.YtencmgepffdodaaGreatG12
import Derived.Test.YtencmgepffdodaaGreatG23
import Derived.Test.YtencmgepffdodaaGreatG22
namespace Go.Proofs.YtencmgepffdodaaGreat
section
open Go.RowKit Classical

structure RecDo : Prop where
  may : ∀ {w : World} {v : Value} {m : RecP}, RecOk m → RcLies w v m → Calls Tryz.prog 10 #[v] w fun e w' => e = .returned (.bool (mayR m)) ∧ Below w.heap.size w w'
  same : ∀ {w : World} {v u : Value} {m k : RecP}, RecOk m → RecOk k → RcLies w v m → RcLies w u k → Calls Tryz.prog 13 #[v, u] w fun e w' => e = .returned (.bool (decide (m = k))) ∧ Below w.heap.size w w'
  enc : ∀ {w : World} {v : Value} {m : RecP}, RecOk m → RcLies w v m → Calls Tryz.prog 15 #[v] w fun e w' => ∃ u, e = .returned (.tuple #[u, .int .i64 (if mayR m then 0 else 1)]) ∧ Lies .u8 w' u (if mayR m then encRec m else []) ∧ Below w.heap.size w w'
  dec : ∀ {w : World} {v : Value} {b : List Int}, b.length ≤ 1000000 → (∀ c ∈ b, 0 ≤ c ∧ c < 256) → Lies .u8 w v b → Calls Tryz.prog 18 #[v] w fun e w' => ∃ u, e = .returned (.tuple #[u, .agg #[.int .i64 (decRec b).2.1, .int .i64 ((decRec b).2.2 : Int)]]) ∧ RcLies w' u (decRec b).1 ∧ Below w.heap.size w w'
def endM : RecP := { zeroR 6 with tx := (1, 2, 3) }
theorem end_ok : RecOk endM := ⟨by decide, by decide, by decide, by decide, by decide, (fun x hx => by cases hx), (fun x hx => by cases hx), ⟨by decide, by decide⟩, ⟨by decide, by decide, ⟨by decide, by decide, by decide, by decide, by decide⟩⟩⟩
theorem end_facts : mayR endM = true ∧ encRec endM = [6, 1, 2, 3] ∧ decRec [6, 1, 2, 3] = (endM, 0, 0) := by
  have h1 : mayR endM = true := by decide
  have h2 : encRec endM = [6, 1, 2, 3] := by decide
  have hok := end_ok
  exact ⟨h1, h2, by rw [← h2]; exact dec_encR hok h1⟩
set_option maxRecDepth 100000 in
set_option maxHeartbeats 3200000 in
theorem alive_by11 (H : RecDo) (w : World) : Calls Tryz.prog 9 #[] w fun e w' => e = .returned (.bool true) ∧ Below w.heap.size w w' := by
  have HF := hide end_facts
  have heq := fun W => eql_flt10 0 0 0 0 W
  go_enter Tryz.func9, Tryz.ntmps9
  go_wp2_with fail
  refine (H.enc (m := endM) end_ok ⟨none, none, 0, 0, rfl, RSrc.nil _, Lies.nil _ _⟩).mono ?_
  rintro e w1 ⟨u, rfl, hL, hB⟩
  rw [HF.out.1, HF.out.2.1] at hL
  simp only [if_true] at hL
  have HL := hide hL
  have HB := hide hB
  obtain ⟨ub, uo, uc, hu⟩ : ∃ ub uo uc, u = .slice (some ⟨ub, uo, none⟩) 4 uc := by
    rcases hL with ⟨h, _⟩ | ⟨_, b, off, cap, e, _⟩
    · cases h
    · exact ⟨b, off, cap, e⟩
  subst hu
  have C := H.dec (b := [6, 1, 2, 3]) (by decide) (by decide) HL.out
  rw [HF.out.2.2] at C
  have HC := hide C
  rw [HF.out.1]
  clear hL hB C
  go_wp2_with fail
  refine HC.out.mono ?_
  rintro e w2 ⟨v, rfl, hM, hB2⟩
  obtain ⟨ao, bo, cap, dap, rfl, hM, _⟩ := hM
  have HB2 := hide (HB.out.trans (hB2.mono HB.out.size))
  have HL2 := hide (HL.out.below hB2)
  clear hM hB2
  have HA : Hid (Below w2.heap.size w2 ((w2.alloc (.cells (recA (zeroR 0) (.slice none 0 0) (.slice none 0 0)) 41)).alloc (.cells #[.int .i64 0, .int .i64 0] 53))) := hide (((Below.refl _ _).alloc (Nat.le_refl _) _).alloc (by simp) _)
  have HZ1 : Hid (Box ((w2.alloc (.cells (recA (zeroR 0) (.slice none 0 0) (.slice none 0 0)) 41)).alloc (.cells #[.int .i64 0, .int .i64 0] 53)) w2.heap.size (recA (zeroR 0) (.slice none 0 0) (.slice none 0 0)) 41) := hide ((box_new w2 _ _).belowI (alloc_below10 _ _))
  have HZ2 : Hid (Box ((w2.alloc (.cells (recA (zeroR 0) (.slice none 0 0) (.slice none 0 0)) 41)).alloc (.cells #[.int .i64 0, .int .i64 0] 53)) (w2.heap.size + 1) #[.int .i64 0, .int .i64 0] 53) := hide (by have := box_new (w2.alloc (.cells (recA (zeroR 0) (.slice none 0 0) (.slice none 0 0)) 41)) #[.int .i64 0, .int .i64 0] 53; simpa using this)
  go_wp2_with (first | (refine wp_store_box rfl rfl _ _ rfl w2.heap.size rfl (cs' := recA endM (.slice ao endM.wr.length cap) (.slice bo endM.mis.length dap)) rfl HZ1.out rfl infoRec (rec_one _ _ _ _ _ _ _) ?_; intro w3 hb3 hk3; have HM := hide hb3; have HZ3 := hide (HZ2.out.keep hk3 (by omega)); have HA3 := hide (HA.out.trans (hk3.below HA.out.size (fun k hk => by omega))); clear hb3 hk3) | (refine wp_store_box rfl rfl _ _ rfl (w2.heap.size + 1) rfl (cs' := #[.int .i64 0, .int .i64 0]) rfl HZ3.out rfl infoFlt flt_one ?_; intro w4 hb4 hk4; have HM4 := hide (HM.out.keep hk4 (by omega)); have HF4 := hide hb4; have HA4 := hide (HA3.out.trans (hk4.below HA3.out.size (fun k hk => by omega))); clear hb4 hk4))
  have HN := hide (lies_new .u8 w4 [6, 1, 2, 3] 5 (by simp) (by decide))
  have HA5 := hide (alloc_below10 w4 (.cells #[.int .u8 6, .int .u8 1, .int .u8 2, .int .u8 3] 5))
  refine (same_any _ _ [6, 1, 2, 3] _ ((HL2.out.below HA4.out).below HA5.out) HN.out).mono ?_
  rintro e w5 ⟨rfl, hw5⟩
  rw [hw5]
  clear hw5
  have HM5 := HM4.out.belowI HA5.out
  have HF5 := HF4.out.belowI HA5.out
  have HE := hide (HB2.out.trans ((HA4.out.trans (HA5.out.mono HA4.out.size)).mono HB2.out.size))
  obtain ⟨w5, h5⟩ : ∃ w5, w5 = w4.alloc (.cells #[.int .u8 6, .int .u8 1, .int .u8 2, .int .u8 3] 5) := ⟨_, rfl⟩
  have y0 := HM5.cell 0 (.int .u8 6) rfl
  have y3 := HM5.cell 3 (.int .u32 2) rfl
  have z0 := HF5.cell 0 (.int .i64 0) rfl
  have z1 := HF5.cell 1 (.int .i64 0) rfl
  rw [← h5] at y0 y3 z0 z1 HE
  have hW5 := h5.symm
  clear HM5 HF5 h5
  go_wp2_with fail
  go_ret
  exact ⟨rfl, HE.out⟩
end
section
open Go.RowKit Classical

section
variable {ρ : Operand → Value} {w : World} {dst : Option Tmp} {ty : TypeId} {pos : String} {aft : Array Edge} {gd : Option (Nat × Bool)}
theorem y_idxU (x y : Operand) {b off n c k : Nat} (hx : ρ x = .slice (some ⟨b, off, none⟩) n c) (hy : ρ y = .int .i64 (k : Int)) (h : k < n) : (execOp ρ ⟨dst, .indexAddr 29 x y, ty, pos, aft, gd⟩).run Tryz.prog w = .ok (.value (.pointer (some ⟨b, off + k, none⟩))) w := by
  have h1 : (0 : Int) ≤ (k : Int) := by omega
  have h2 : (k : Int) < (n : Int) := by omega
  simp [go_sem, hx, hy, h1, h2]
theorem y_cell_u64 (x : Operand) {q o : Nat} {v : Value} (hx : ρ x = .pointer (some ⟨q, o, none⟩)) (h : w.cell? ⟨q, o, none⟩ = some v) : (execOp ρ ⟨dst, .load 27 x, ty, pos, aft, gd⟩).run Tryz.prog w = .ok (.value v) w := by simp [go_sem, hx, h]
end
theorem neq_u64_11 (a b : Int) (w : World) : (binOp .neq 27 (.int .u64 a) (.int .u64 b)).run Tryz.prog w = .ok (.bool (!(a == b))) w := by
  simp [go_sem]
  rfl
theorem lies_at {k : IntKind} {w : World} {ao : Option Addr} {n c : Nat} {xs : List Int} (h : Lies k w (.slice ao n c) xs) {i : Nat} (hi : i < xs.length) : ∃ b off, ao = some ⟨b, off, none⟩ ∧ b < w.heap.size ∧ w.cell? ⟨b, off + i, none⟩ = some (.int k (xs.getD i 0)) := by
  rcases h with ⟨he, _⟩ | ⟨_, b, off, cap, e, hb, _, _, hc⟩
  · rw [he] at hi
    exact absurd hi (Nat.not_lt_zero _)
  · cases e
    exact ⟨b, off, rfl, hb, hc i hi⟩
set_option maxRecDepth 100000 in
theorem rsets_any (v1 v2 : Value) (la lb : List Int) (w : World) (h1 : Lies .u64 w v1 la) (h2 : Lies .u64 w v2 lb) :
    Calls Tryz.prog 32 #[v1, v2] w fun e w' => e = .returned (.bool (decide (la = lb))) ∧ Below w.heap.size w w' := by
  have hm1 := h1.len
  have hm2 := h2.len
  unfold maxLen at hm1 hm2
  obtain ⟨a1, c1, rfl⟩ := h1.shape
  obtain ⟨a2, c2, rfl⟩ := h2.shape
  have H1 := hide h1
  have H2 := hide h2
  obtain ⟨R, hR⟩ : ∃ R, R = decide (la = lb) := ⟨_, rfl⟩
  rw [← hR]
  have HR := hide hR
  obtain ⟨L1, hL1⟩ : ∃ L1, L1 = la.length := ⟨_, rfl⟩
  obtain ⟨L2, hL2⟩ : ∃ L2, L2 = lb.length := ⟨_, rfl⟩
  rw [← hL1] at hm1
  rw [← hL2] at hm2
  rw [← hL1, ← hL2]
  have HL1 := hide hL1
  have HL2 := hide hL2
  clear h1 h2 hR hL1 hL2
  by_cases hl : L1 = L2
  · subst hl
    have hne : ((L1 : Int) != (L1 : Int)) = false := by simp
    go_enter Tryz.func32, Tryz.ntmps32
    go_wp2_with fail
    go_loopg [5] L1 (fun g i wr => ∃ k : Nat, k + g = L1 ∧ i = .int .i64 k ∧ Hid (Below w.heap.size w wr) ∧ Hid (la.take k = lb.take k))
    case atStart => exact ⟨0, by omega, rfl, hide (Below.refl _ _), hide rfl⟩
    case round =>
      obtain ⟨k, hk, rfl, HBW, HT⟩ := hrel
      cases gk with
      | zero =>
        obtain rfl : k = L1 := by omega
        have hz : ¬ ((k : Int) < (k : Int)) := by omega
        have HE : Hid (R = true) := hide (by
          have := HT.out
          rw [HL1.out, List.take_length, ← HL1.out, HL2.out, List.take_length] at this
          rw [HR.out, decide_eq_true this])
        go_wp2_with fail
        go_ret
        exact ⟨by rw [HE.out]; rfl, HBW.out⟩
      | succ g =>
        have hz : (k : Int) < (L1 : Int) := by omega
        have hk1 : k < la.length := by rw [← HL1.out]; omega
        have hk2 : k < lb.length := by rw [← HL2.out]; omega
        have hkl : k < L1 := by omega
        have hS1 : Lies .u64 wr (.slice a1 L1 c1) la := by have := H1.out.below HBW.out; rw [← HL1.out] at this; exact this
        have hS2 : Lies .u64 wr (.slice a2 L1 c2) lb := by have := H2.out.below HBW.out; rw [← HL2.out] at this; exact this
        obtain ⟨b1, o1, rfl, hb1, hr1⟩ := lies_at hS1 hk1
        obtain ⟨b2, o2, rfl, hb2, hr2⟩ := lies_at hS2 hk2
        have HX1 : Hid (la.getD k 0 = la[k]) := hide (by simp [List.getD, hk1])
        have HX2 : Hid (lb.getD k 0 = lb[k]) := hide (by simp [List.getD, hk2])
        obtain ⟨x, hx⟩ : ∃ x, x = la.getD k 0 := ⟨_, rfl⟩
        obtain ⟨y, hy⟩ : ∃ y, y = lb.getD k 0 := ⟨_, rfl⟩
        rw [← hx] at hr1 HX1
        rw [← hy] at hr2 HX2
        have HR1 := hide hr1
        have HR2 := hide hr2
        clear hS1 hS2 hr1 hr2 hx hy
        by_cases hxy : x = y
        · have HN : Hid (∀ W, (binOp .neq 27 (.int .u64 x) (.int .u64 y)).run Tryz.prog W = .ok (.bool false) W) := hide (fun W => by rw [neq_u64_11, hxy]; simp)
          have HT2 : Hid (la.take (k + 1) = lb.take (k + 1)) := hide (by rw [List.take_succ_eq_append_getElem hk1, List.take_succ_eq_append_getElem hk2, HT.out, ← HX1.out, ← HX2.out, hxy])
          go_wp2_with fail
          refine wp_region_vals (by kernel_rfl) [(17, .slice (some ⟨b1, o1, none⟩) L1 c1), (18, .int .i64 (k : Int)), (19, .pointer (some ⟨b1, o1 + k, none⟩)), (20, .int .u64 x), (21, .slice (some ⟨b2, o2, none⟩) L1 c2), (22, .int .i64 (k : Int)), (23, .pointer (some ⟨b2, o2 + k, none⟩)), (24, .int .u64 y), (25, .bool false)] (by kernel_rfl) rfl ?_ ?_
          · intro i o hi A w1 hB hold hdeps
            have hlt : i < 9 := (Array.getElem?_eq_some_iff.1 hi).1
            have hc : i = 0 ∨ i = 1 ∨ i = 2 ∨ i = 3 ∨ i = 4 ∨ i = 5 ∨ i = 6 ∨ i = 7 ∨ i = 8 := by omega
            clear hlt
            rcases hc with rfl | rfl | rfl | rfl | rfl | rfl | rfl | rfl | rfl
            · obtain rfl := Option.some.inj hi
              have s0 : A.tmps.getD 0 undef = .slice (some ⟨b1, o1, none⟩) L1 c1 := hold 0 (by kernel_rfl)
              exact r_pure hi rfl rfl (y_move _ s0)
            · obtain rfl := Option.some.inj hi
              have s5 : A.tmps.getD 5 undef = .int .i64 (k : Int) := hold 5 (by kernel_rfl)
              exact r_pure hi rfl rfl (y_move _ s5)
            · obtain rfl := Option.some.inj hi
              have s17 : A.tmps.getD 17 undef = .slice (some ⟨b1, o1, none⟩) L1 c1 := dep_of hdeps 0 (by kernel_rfl)
              have s18 : A.tmps.getD 18 undef = .int .i64 (k : Int) := dep_of hdeps 1 (by kernel_rfl)
              exact r_pure hi rfl rfl (y_idxU _ _ s17 s18 hkl)
            · obtain rfl := Option.some.inj hi
              have s19 : A.tmps.getD 19 undef = .pointer (some ⟨b1, o1 + k, none⟩) := dep_of hdeps 2 (by kernel_rfl)
              exact r_pure hi rfl rfl (y_cell_u64 _ s19 ((hB.cell (p := ⟨b1, o1 + k, none⟩) hb1).trans HR1.out))
            · obtain rfl := Option.some.inj hi
              have s1 : A.tmps.getD 1 undef = .slice (some ⟨b2, o2, none⟩) L1 c2 := hold 1 (by kernel_rfl)
              exact r_pure hi rfl rfl (y_move _ s1)
            · obtain rfl := Option.some.inj hi
              have s5 : A.tmps.getD 5 undef = .int .i64 (k : Int) := hold 5 (by kernel_rfl)
              exact r_pure hi rfl rfl (y_move _ s5)
            · obtain rfl := Option.some.inj hi
              have s21 : A.tmps.getD 21 undef = .slice (some ⟨b2, o2, none⟩) L1 c2 := dep_of hdeps 4 (by kernel_rfl)
              have s22 : A.tmps.getD 22 undef = .int .i64 (k : Int) := dep_of hdeps 5 (by kernel_rfl)
              exact r_pure hi rfl rfl (y_idxU _ _ s21 s22 hkl)
            · obtain rfl := Option.some.inj hi
              have s23 : A.tmps.getD 23 undef = .pointer (some ⟨b2, o2 + k, none⟩) := dep_of hdeps 6 (by kernel_rfl)
              exact r_pure hi rfl rfl (y_cell_u64 _ s23 ((hB.cell (p := ⟨b2, o2 + k, none⟩) hb2).trans HR2.out))
            · obtain rfl := Option.some.inj hi
              have s20 : A.tmps.getD 20 undef = .int .u64 x := dep_of hdeps 3 (by kernel_rfl)
              have s24 : A.tmps.getD 24 undef = .int .u64 y := dep_of hdeps 7 (by kernel_rfl)
              exact r_pure hi rfl rfl (y_bin _ _ _ _ _ s20 s24 (HN.out w1) (by kernel_rfl))
          · intro w8 hB8
            simp only [putAll, Act.put, List.setIfInBounds_toArray, List.set_cons_succ, List.set_cons_zero]
            have HB8 := hide hB8
            clear hB8
            go_wp2_with fail
            go_roundg g
            case measure => omega
            case rel => exact ⟨k + 1, by omega, by first | rfl | go_num, hide (HBW.out.trans (HB8.out.mono HBW.out.size)), HT2⟩
        · have HN : Hid (∀ W, (binOp .neq 27 (.int .u64 x) (.int .u64 y)).run Tryz.prog W = .ok (.bool true) W) := hide (fun W => by rw [neq_u64_11]; simp [hxy])
          have HE : Hid (R = false) := hide (by
            rw [HR.out]
            refine decide_eq_false (fun e => hxy ?_)
            rw [HX1.out, HX2.out]
            simp only [e])
          go_wp2_with fail
          refine wp_region_vals (by kernel_rfl) [(17, .slice (some ⟨b1, o1, none⟩) L1 c1), (18, .int .i64 (k : Int)), (19, .pointer (some ⟨b1, o1 + k, none⟩)), (20, .int .u64 x), (21, .slice (some ⟨b2, o2, none⟩) L1 c2), (22, .int .i64 (k : Int)), (23, .pointer (some ⟨b2, o2 + k, none⟩)), (24, .int .u64 y), (25, .bool true)] (by kernel_rfl) rfl ?_ ?_
          · intro i o hi A w1 hB hold hdeps
            have hlt : i < 9 := (Array.getElem?_eq_some_iff.1 hi).1
            have hc : i = 0 ∨ i = 1 ∨ i = 2 ∨ i = 3 ∨ i = 4 ∨ i = 5 ∨ i = 6 ∨ i = 7 ∨ i = 8 := by omega
            clear hlt
            rcases hc with rfl | rfl | rfl | rfl | rfl | rfl | rfl | rfl | rfl
            · obtain rfl := Option.some.inj hi
              have s0 : A.tmps.getD 0 undef = .slice (some ⟨b1, o1, none⟩) L1 c1 := hold 0 (by kernel_rfl)
              exact r_pure hi rfl rfl (y_move _ s0)
            · obtain rfl := Option.some.inj hi
              have s5 : A.tmps.getD 5 undef = .int .i64 (k : Int) := hold 5 (by kernel_rfl)
              exact r_pure hi rfl rfl (y_move _ s5)
            · obtain rfl := Option.some.inj hi
              have s17 : A.tmps.getD 17 undef = .slice (some ⟨b1, o1, none⟩) L1 c1 := dep_of hdeps 0 (by kernel_rfl)
              have s18 : A.tmps.getD 18 undef = .int .i64 (k : Int) := dep_of hdeps 1 (by kernel_rfl)
              exact r_pure hi rfl rfl (y_idxU _ _ s17 s18 hkl)
            · obtain rfl := Option.some.inj hi
              have s19 : A.tmps.getD 19 undef = .pointer (some ⟨b1, o1 + k, none⟩) := dep_of hdeps 2 (by kernel_rfl)
              exact r_pure hi rfl rfl (y_cell_u64 _ s19 ((hB.cell (p := ⟨b1, o1 + k, none⟩) hb1).trans HR1.out))
            · obtain rfl := Option.some.inj hi
              have s1 : A.tmps.getD 1 undef = .slice (some ⟨b2, o2, none⟩) L1 c2 := hold 1 (by kernel_rfl)
              exact r_pure hi rfl rfl (y_move _ s1)
            · obtain rfl := Option.some.inj hi
              have s5 : A.tmps.getD 5 undef = .int .i64 (k : Int) := hold 5 (by kernel_rfl)
              exact r_pure hi rfl rfl (y_move _ s5)
            · obtain rfl := Option.some.inj hi
              have s21 : A.tmps.getD 21 undef = .slice (some ⟨b2, o2, none⟩) L1 c2 := dep_of hdeps 4 (by kernel_rfl)
              have s22 : A.tmps.getD 22 undef = .int .i64 (k : Int) := dep_of hdeps 5 (by kernel_rfl)
              exact r_pure hi rfl rfl (y_idxU _ _ s21 s22 hkl)
            · obtain rfl := Option.some.inj hi
              have s23 : A.tmps.getD 23 undef = .pointer (some ⟨b2, o2 + k, none⟩) := dep_of hdeps 6 (by kernel_rfl)
              exact r_pure hi rfl rfl (y_cell_u64 _ s23 ((hB.cell (p := ⟨b2, o2 + k, none⟩) hb2).trans HR2.out))
            · obtain rfl := Option.some.inj hi
              have s20 : A.tmps.getD 20 undef = .int .u64 x := dep_of hdeps 3 (by kernel_rfl)
              have s24 : A.tmps.getD 24 undef = .int .u64 y := dep_of hdeps 7 (by kernel_rfl)
              exact r_pure hi rfl rfl (y_bin _ _ _ _ _ s20 s24 (HN.out w1) (by kernel_rfl))
          · intro w8 hB8
            simp only [putAll, Act.put, List.setIfInBounds_toArray, List.set_cons_succ, List.set_cons_zero]
            have HB8 := hide hB8
            clear hB8
            go_wp2_with fail
            go_ret
            exact ⟨by rw [HE.out]; rfl, HBW.out.trans (HB8.out.mono HBW.out.size)⟩
  · have hne : ((L1 : Int) != (L2 : Int)) = true := by simp; omega
    have HE : Hid (R = false) := hide (by rw [HR.out]; exact decide_eq_false (fun e => hl (by rw [HL1.out, HL2.out, e])))
    go_enter Tryz.func32, Tryz.ntmps32
    go_wp2_with fail
    go_ret
    exact ⟨by rw [HE.out]; rfl, Below.refl _ _⟩
end
end Go.Proofs.YtencmgepffdodaaGreat
