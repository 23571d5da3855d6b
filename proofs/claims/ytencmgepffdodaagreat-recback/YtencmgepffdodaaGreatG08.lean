/-
  Own texts put together: VtOps, VtMay, RSets, VtRef, VtMay2. Own work.
-/
import Derived.Test.YtencmgepffdodaaGreatG01
import Derived.Test.YtencmgepffdodaaGreatG07
import Derived.Test.YtencmgepffdodaaGreatG06
import Derived.Shelf.Abstract
import Derived.BigRegion
namespace Go.Proofs.YtencmgepffdodaaGreat
section
open Go Go.RowKit Go.Shelf

section
variable {ρ : Operand → Value} {dst : Option Tmp} {ty : TypeId} {pos : String} {aft : Array Edge} {gd : Option (Nat × Bool)} {w : World}
theorem x_assign (x : Operand) {v : Value} (hx : ρ x = v) : (execOp ρ ⟨dst, .assign x, ty, pos, aft, gd⟩).run Tryz.prog w = .ok (.value v) w := by subst hx; simp [go_sem]
theorem x_field1 (x : Operand) {q : Nat} (hx : ρ x = .pointer (some ⟨q, 0, none⟩)) : (execOp ρ ⟨dst, .fieldAddr 33 x 1, ty, pos, aft, gd⟩).run Tryz.prog w = .ok (.value (.pointer (some ⟨q, 1, none⟩))) w := by simp [go_sem, hx]
theorem x_field2 (x : Operand) {q : Nat} (hx : ρ x = .pointer (some ⟨q, 0, none⟩)) : (execOp ρ ⟨dst, .fieldAddr 33 x 2, ty, pos, aft, gd⟩).run Tryz.prog w = .ok (.value (.pointer (some ⟨q, 2, none⟩))) w := by simp [go_sem, hx]
theorem x_load8 (x : Operand) {q k : Nat} {s : Int} (hx : ρ x = .pointer (some ⟨q, k, none⟩)) (h : w.cell? ⟨q, k, none⟩ = some (.int .u8 s)) : (execOp ρ ⟨dst, .load 5 x, ty, pos, aft, gd⟩).run Tryz.prog w = .ok (.value (.int .u8 s)) w := by simp [go_sem, hx, h]
theorem x_loadC (x : Operand) {q : Nat} {c : Cf} {t : TypeId} (hok : c.Ok) (hx : ρ x = .pointer (some ⟨q, 0, none⟩)) (hb : Box w q c.arr t) : (execOp ρ ⟨dst, .load 33 x, ty, pos, aft, gd⟩).run Tryz.prog w = .ok (.value (.agg c.arr)) w := by
  have hr : w.rangeAt q 0 c.cells := arr_range hb
  have hs : c.cells.length = 11 := by have := hok.size; simpa [Cf.arr] using this
  have := run_loadAt_mid (P := Tryz.prog) w q 0 33 c.cells _ hr Tryz.underlying33 rfl (by rw [hs]; exact infoCfg)
  unfold execOp
  simp only [hx, Sem.run_bind, this]
  rfl
theorem x_conv (x : Operand) {n : Nat} (hx : ρ x = .int .u8 (n : Int)) (hn : n < 256) : (execOp ρ ⟨dst, .convert 5 3 x, ty, pos, aft, gd⟩).run Tryz.prog w = .ok (.value (.int .i64 (n : Int))) w := by
  have h2 : IntKind.i64.wrap (n : Int) = n := by rw [IntKind.wrap_i64]; omega
  simp [go_sem, hx, h2]
theorem x_call (f : FuncId) (xs : Array Operand) (vs : Array Value) (tys : Array TypeId) (hf : ρ (.func f) = .func (.func f) #[] #[]) (hv : xs.map ρ = vs) (he : ∀ args w, (callFunc f args).run Tryz.prog w = .ok (.enter f args) w) : (execOp ρ ⟨dst, .call { callee := .value (.func f), args := xs, argTypes := tys }, ty, pos, aft, gd⟩).run Tryz.prog w = .ok (.enter f vs) w := by
  subst hv
  simp [go_sem, hf, he]
end
theorem en_of : ∀ args w, (callFunc 179 args).run Tryz.prog w = .ok (.enter 179 args) w := enters_of Tryz.func179 (by kernel_rfl) rfl
theorem en_voters : ∀ args w, (callFunc 180 args).run Tryz.prog w = .ok (.enter 180 args) w := enters_of Tryz.func180 (by kernel_rfl) rfl
theorem en_total : ∀ args w, (callFunc 171 args).run Tryz.prog w = .ok (.enter 171 args) w := enters_of Tryz.func171 (by kernel_rfl) rfl
theorem en_rtotal : ∀ args w, (callFunc 159 args).run Tryz.prog w = .ok (.enter 159 args) w := enters_of Tryz.func159 (by kernel_rfl) rfl
theorem wpList_wanted {ops : Array Oper} {rest : List Oper} {o : Oper} {a : Act} {w : World} {Q : Exit → Act → World → Prop} {P : Program} (hg : Region.wanted o (yielded ops a.tmps) = true)
    (h : ∀ K : Act → World → Prop, (∀ a w, wpList P ops Q rest a w → K a w) → o.wp P a w K Q) : wpList P ops Q (o :: rest) a w :=
  wpList_step fun K hK => by simp only [hg, if_true]; exact h K hK
/-- An operation of a region that leaves one value. -/
theorem v_pure {P : Program} {ops : Array Oper} {Q : Exit → Act → World → Prop} {i : Nat} {o : Oper} {a : Act} {w : World} {v : Value} {ps : List (Nat × Value)} (hi : ops[i]? = some o) (hw : Region.wanted o (yielded ops a.tmps) = true)
    (hv : pv ps i = v) (hr : (execOp a.eval o).run P w = .ok (.value v) w) : wpOp P ops Q i (fun a' w' => Below w.heap.size w w' ∧ ∃ v, InvV ps i v w' ∧ a' = a.put o.dst v) a w :=
  each_pure hi hw hr hv.symm
theorem v_enter {P : Program} {ops : Array Oper} {Q : Exit → Act → World → Prop} {i : Nat} {o : Oper} {a : Act} {w : World} {v : Value} {ps : List (Nat × Value)} {f : FuncId} {args : Array Value} (hi : ops[i]? = some o) (hw : Region.wanted o (yielded ops a.tmps) = true)
    (hv : pv ps i = v) (hr : (execOp a.eval o).run P w = .ok (.enter f args) w) (h : Calls P f args w fun e w' => e = .returned v ∧ Below w.heap.size w w') : wpOp P ops Q i (fun a' w' => Below w.heap.size w w' ∧ ∃ v, InvV ps i v w' ∧ a' = a.put o.dst v) a w :=
  each_enter hi hw hr (Calls.mono h fun _ _ ⟨he, hB⟩ => ⟨v, he, hB, hv.symm⟩)
end
section
open Go.RowKit

theorem alloc_below (w : World) (o : Obj) : Below w.heap.size w (w.alloc o) := (Below.refl _ _).alloc (Nat.le_refl _) o
theorem Box.belowV {w w' : World} {p : Nat} {cs : Array Value} {t : TypeId} (h : Box w p cs t) (hB : Below w.heap.size w w') : Box w' p cs t := h.keep (KeepBut.of_below (fun _ => False) hB) id
theorem vot64 (vs : List Nat) : votN vs 8 < 18446744073709551616 := by have := vot256 vs; omega
theorem ofB (c : Cf) (s : Nat) (hok : c.Ok) (hs : s < 18446744073709551616) (w : World) :
    Calls Tryz.prog 179 #[.agg c.arr, .int .u64 ((s : Nat) : Int)] w fun e w' => e = .returned (.int .i64 ((ofN c.vs s 8 : Nat) : Int)) ∧ Below w.heap.size w w' :=
  (of_any c s hok hs w).mono fun _ _ ⟨he, hw⟩ => ⟨he, hw ▸ alloc_below _ _⟩
theorem votersB (c : Cf) (hok : c.Ok) (w : World) :
    Calls Tryz.prog 180 #[.agg c.arr] w fun e w' => e = .returned (.int .u64 ((votN c.vs 8 : Nat) : Int)) ∧ Below w.heap.size w w' :=
  (voters_any c hok w).mono fun _ _ ⟨he, hw⟩ => ⟨he, hw ▸ alloc_below _ _⟩
set_option maxRecDepth 100000 in
theorem total_any (c : Cf) (hok : c.Ok) (w : World) :
    Calls Tryz.prog 171 #[.agg c.arr] w fun e w' => e = .returned (.int .i64 ((totN c.vs 8 : Nat) : Int)) ∧ Below w.heap.size w w' := by
  have hsz := hok.size
  have HO := hide hok
  have HX := hide (box_new w c.arr 33)
  have HB := hide (alloc_below w (.cells c.arr 33))
  have CV := hide (fun W => votersB c hok W)
  have CO := hide (fun W => ofB c (votN c.vs 8) hok (vot64 c.vs) W)
  rw [of_vot c.vs 8 8 (Nat.le_refl _)] at CO
  generalize votN c.vs 8 = V at *
  generalize totN c.vs 8 = T at *
  clear hok
  go_enter Tryz.func171, Tryz.ntmps171
  go_wp2_with fail
  refine wp_region_vals (by kernel_rfl) [(3, .agg c.arr), (4, .agg c.arr), (5, .int .u64 ((V : Nat) : Int)), (6, .int .i64 ((T : Nat) : Int)), (2, .int .i64 ((T : Nat) : Int))] (by kernel_rfl) rfl ?_ ?_
  · intro i o hi A w1 hB hold hdeps
    have hX1 := HX.out.belowV hB
    have hlt : i < 5 := (Array.getElem?_eq_some_iff.1 hi).1
    have hc : i = 0 ∨ i = 1 ∨ i = 2 ∨ i = 3 ∨ i = 4 := by omega
    clear hlt
    rcases hc with rfl | rfl | rfl | rfl | rfl
    · obtain rfl := Option.some.inj hi
      have s1 : A.tmps.getD 1 undef = .pointer (some ⟨w.heap.size, 0, none⟩) := hold 1 (by kernel_rfl)
      exact v_pure hi rfl rfl (x_loadC _ HO.out s1 hX1)
    · obtain rfl := Option.some.inj hi
      have s1 : A.tmps.getD 1 undef = .pointer (some ⟨w.heap.size, 0, none⟩) := hold 1 (by kernel_rfl)
      exact v_pure hi rfl rfl (x_loadC _ HO.out s1 hX1)
    · obtain rfl := Option.some.inj hi
      have s4 : A.tmps.getD 4 undef = .agg c.arr := dep_of hdeps 1 (by kernel_rfl)
      exact v_enter hi rfl rfl (x_call 180 _ #[.agg c.arr] _ rfl (by simp only [List.map_toArray, List.map_cons, List.map_nil, show A.eval (.tmp 4) = .agg c.arr from s4]; try rfl) en_voters) (CV.out w1)
    · obtain rfl := Option.some.inj hi
      have s3 : A.tmps.getD 3 undef = .agg c.arr := dep_of hdeps 0 (by kernel_rfl)
      have s5 : A.tmps.getD 5 undef = .int .u64 ((V : Nat) : Int) := dep_of hdeps 2 (by kernel_rfl)
      exact v_enter hi rfl rfl (x_call 179 _ #[.agg c.arr, .int .u64 ((V : Nat) : Int)] _ rfl (by simp only [List.map_toArray, List.map_cons, List.map_nil, show A.eval (.tmp 3) = .agg c.arr from s3, show A.eval (.tmp 5) = .int .u64 ((V : Nat) : Int) from s5]; try rfl) en_of) (CO.out w1)
    · obtain rfl := Option.some.inj hi
      have s6 : A.tmps.getD 6 undef = .int .i64 ((T : Nat) : Int) := dep_of hdeps 3 (by kernel_rfl)
      exact v_pure hi rfl rfl (x_assign _ s6)
  · intro w1 hB
    simp only [putAll, Act.put, List.setIfInBounds_toArray, List.set_cons_succ, List.set_cons_zero]
    go_wp2_with fail
    go_ret
    exact ⟨rfl, HB.out.trans (hB.mono HB.out.size)⟩
end
section
open Go.RowKit

theorem arr_at {c : Cf} (h : c.Ok) (k : Nat) (hk : k < 8) : c.arr[3 + k]? = some (.int .u8 ((c.vs.getD k 0 : Nat) : Int)) := by
  have hl : k < c.vs.length := by rw [h.l]; exact hk
  rw [show 3 + k = k + 1 + 1 + 1 by omega]
  simp [Cf.arr, Cf.cells, votL, List.getD, hl]
theorem box_at {w : World} {b : Nat} {c : Cf} {t : TypeId} (h : c.Ok) (hb : Box w b c.arr t) (k : Nat) (hk : k < 8) : w.cell? ⟨b, 3 + k, none⟩ = some (.int .u8 ((c.vs.getD k 0 : Nat) : Int)) := hb.cell (3 + k) _ (arr_at h k hk)
set_option maxHeartbeats 400000 in
theorem rtotal_any (c : Cf) (hok : c.Ok) (w : World) :
    Calls Tryz.prog 159 #[.agg c.arr] w fun e w' => e = .returned (.int .i64 ((totN c.vs 8 : Nat) : Int)) ∧ Below w.heap.size w w' := by
  have hsz := hok.size
  have HO := hide hok
  have HB := hide (alloc_below w (.cells c.arr 33))
  clear hok
  go_enter Tryz.func159, Tryz.ntmps159
  go_wp2
  go_loop [3, 4] (fun x i => ∃ k : Nat, k ≤ 8 ∧ i = .int .i64 k ∧ x = .int .i64 ((totN c.vs k : Nat) : Int)) (fun _ i => 8 - (intOf i).toNat)
  case atStart => exact ⟨0, by omega, rfl, rfl⟩
  case round =>
    obtain ⟨k, hk, rfl, rfl⟩ := hrel
    by_cases hlt : k < 8
    · have hat := arr_at HO.out k hlt
      have hv := HO.out.at k
      have hu := HO.out.tot k
      have hkI : (k : Int) < 8 := by omega
      have HE : Hid (totN c.vs (k + 1) = totN c.vs k + c.vs.getD k 0) := rfl
      generalize c.vs.getD k 0 = x at *
      generalize totN c.vs k = o at *
      go_wp2
      go_round
      case rel => exact ⟨k + 1, by omega, by go_num, by rw [HE.out]; simp⟩
      case measure => simp [intOf]; omega
    · obtain rfl : k = 8 := by omega
      go_wp2
      go_ret
      exact ⟨rfl, HB.out⟩
end
section
open Go.RowKit

/-- No node below k has more than 15 votes. -/
def fifteen (vs : List Nat) : Nat → Bool
  | 0 => true
  | k + 1 => fifteen vs k && decide (vs.getD k 0 ≤ 15)
theorem fifteen_no (vs : List Nat) (k : Nat) (h : ¬ vs.getD k 0 ≤ 15) : ∀ d, fifteen vs (k + 1 + d) = false
  | 0 => by rw [Nat.add_zero, fifteen, decide_eq_false h, Bool.and_false]
  | d + 1 => by rw [← Nat.add_assoc, fifteen, fifteen_no vs k h d, Bool.false_and]
/-- It may be. -/
def mayB (c : Cf) : Bool := decide (1 ≤ c.e) && decide (c.e ≤ 2147483647) && fifteen c.vs 8 && decide (1 ≤ c.r) && decide (c.r ≤ totN c.vs 8) && decide (1 ≤ c.w) && decide (c.w ≤ totN c.vs 8) && decide (totN c.vs 8 < c.r + c.w) && decide (totN c.vs 8 < 2 * c.w)

set_option maxRecDepth 100000 in
set_option maxHeartbeats 1600000 in
theorem may_any (c : Cf) (hok : c.Ok) (w : World) :
    Calls Tryz.prog 151 #[.agg c.arr] w fun e w' => e = .returned (.bool (mayB c)) ∧ Below w.heap.size w w' := by
  have hsz := hok.size
  have HO := hide hok
  have HX := hide (box_new w c.arr 33)
  have x0 := arr_e HX.out
  have HB := hide (alloc_below w (.cells c.arr 33))
  have CT := hide (fun W => total_any c hok W)
  have he := hok.e
  have hr := hok.r
  have hw := hok.w
  have hT := hok.tot 8
  have HM : Hid (mayB c = (decide (1 ≤ c.e) && decide (c.e ≤ 2147483647) && fifteen c.vs 8 && decide (1 ≤ c.r) && decide (c.r ≤ totN c.vs 8) && decide (1 ≤ c.w) && decide (c.w ≤ totN c.vs 8) && decide (totN c.vs 8 < c.r + c.w) && decide (totN c.vs 8 < 2 * c.w))) := rfl
  generalize totN c.vs 8 = T at *
  clear hok
  by_cases e1 : c.e < 1
  · have d1 : decide ((c.e : Int) < 1) = true := decide_eq_true (by omega)
    have HR : Hid (mayB c = false) := hide (by rw [HM.out, decide_eq_false (show ¬ 1 ≤ c.e by omega)]; simp)
    clear HM
    go_enter Tryz.func151, Tryz.ntmps151
    go_wp2
    go_ret
    exact ⟨ret_bool HR.out.symm, HB.out⟩
  have d1 : decide ((c.e : Int) < 1) = false := decide_eq_false (by omega)
  by_cases e2 : c.e > 2147483647
  · have d2 : decide ((c.e : Int) > 2147483647) = true := decide_eq_true (by omega)
    have HR : Hid (mayB c = false) := hide (by rw [HM.out, decide_eq_false (show ¬ c.e ≤ 2147483647 by omega)]; simp)
    clear HM
    go_enter Tryz.func151, Tryz.ntmps151
    go_wp2
    go_ret
    exact ⟨ret_bool HR.out.symm, HB.out⟩
  have d2 : decide ((c.e : Int) > 2147483647) = false := decide_eq_false (by omega)
  rw [decide_eq_true (show 1 ≤ c.e by omega), decide_eq_true (show c.e ≤ 2147483647 by omega)] at HM
  go_enter Tryz.func151, Tryz.ntmps151
  go_wp2_with (refine wp_load_votes rfl _ rfl _ rfl HO.out HX.out ?_)
  go_loop [18] (fun i => ∃ k : Nat, k ≤ 8 ∧ i = .int .i64 k ∧ Hid (fifteen c.vs k = true)) (fun i => 8 - (intOf i).toNat)
  case atStart => exact ⟨0, by omega, rfl, rfl⟩
  case round =>
    clear x0 d1 d2
    obtain ⟨k, hk, rfl, HF⟩ := hrel
    by_cases hlt : k < 8
    · have hidx := index_votes c.vs k HO.out.l hlt
      have hv := HO.out.at k
      have HN := hide (fifteen_no c.vs k)
      have HS : Hid (fifteen c.vs (k + 1) = (fifteen c.vs k && decide (c.vs.getD k 0 ≤ 15))) := rfl
      generalize c.vs.getD k 0 = x at *
      by_cases hx : x ≤ 15
      · have d3 : decide ((x : Int) > 15) = false := decide_eq_false (by omega)
        have HS2 : Hid (fifteen c.vs (k + 1) = true) := hide (by rw [HS.out, HF.out, decide_eq_true hx]; rfl)
        clear HS HN
        go_wp2
        go_round
        case rel => exact ⟨k + 1, by omega, by go_num, HS2⟩
        case measure => simp [intOf]; omega
      · have d3 : decide ((x : Int) > 15) = true := decide_eq_true (by omega)
        have HR : Hid (mayB c = false) := hide (by
          have := HN.out hx (7 - k)
          rw [show k + 1 + (7 - k) = 8 by omega] at this
          rw [HM.out, this]; simp)
        clear HS HN HM
        go_wp2
        go_ret
        exact ⟨ret_bool HR.out.symm, HB.out⟩
    · obtain rfl : k = 8 := by omega
      rw [HF.out] at HM
      go_wp2_with fail
      refine wp_region_vals (by kernel_rfl) [(24, .agg c.arr), (25, .int .i64 ((T : Nat) : Int)), (26, .pointer (some ⟨w.heap.size, 1, none⟩)), (27, .int .u8 (c.r : Int)), (28, .int .i64 (c.r : Int)), (29, .pointer (some ⟨w.heap.size, 2, none⟩)), (30, .int .u8 (c.w : Int)), (31, .int .i64 (c.w : Int)), (5, .int .i64 ((T : Nat) : Int)), (6, .int .i64 (c.r : Int)), (7, .int .i64 (c.w : Int))] (by kernel_rfl) rfl ?_ ?_
      · intro i o hi A w1 hB hold hdeps
        have hX1 := HX.out.belowV hB
        have hlt : i < 11 := (Array.getElem?_eq_some_iff.1 hi).1
        have hc : i = 0 ∨ i = 1 ∨ i = 2 ∨ i = 3 ∨ i = 4 ∨ i = 5 ∨ i = 6 ∨ i = 7 ∨ i = 8 ∨ i = 9 ∨ i = 10 := by omega
        clear hlt
        rcases hc with rfl | rfl | rfl | rfl | rfl | rfl | rfl | rfl | rfl | rfl | rfl
        · obtain rfl := Option.some.inj hi
          have s1 : A.tmps.getD 1 undef = .pointer (some ⟨w.heap.size, 0, none⟩) := hold 1 (by kernel_rfl)
          exact v_pure hi rfl rfl (x_loadC _ HO.out s1 hX1)
        · obtain rfl := Option.some.inj hi
          have s24 : A.tmps.getD 24 undef = .agg c.arr := dep_of hdeps 0 (by kernel_rfl)
          exact v_enter hi rfl rfl (x_call 171 _ #[.agg c.arr] _ rfl (by simp only [List.map_toArray, List.map_cons, List.map_nil, show A.eval (.tmp 24) = .agg c.arr from s24]; try rfl) en_total) (CT.out w1)
        · obtain rfl := Option.some.inj hi
          have s1 : A.tmps.getD 1 undef = .pointer (some ⟨w.heap.size, 0, none⟩) := hold 1 (by kernel_rfl)
          exact v_pure hi rfl rfl (x_field1 _ s1)
        · obtain rfl := Option.some.inj hi
          have s26 : A.tmps.getD 26 undef = .pointer (some ⟨w.heap.size, 1, none⟩) := dep_of hdeps 2 (by kernel_rfl)
          exact v_pure hi rfl rfl (x_load8 _ s26 (arr_r hX1))
        · obtain rfl := Option.some.inj hi
          have s27 : A.tmps.getD 27 undef = .int .u8 (c.r : Int) := dep_of hdeps 3 (by kernel_rfl)
          exact v_pure hi rfl rfl (x_conv _ s27 HO.out.r)
        · obtain rfl := Option.some.inj hi
          have s1 : A.tmps.getD 1 undef = .pointer (some ⟨w.heap.size, 0, none⟩) := hold 1 (by kernel_rfl)
          exact v_pure hi rfl rfl (x_field2 _ s1)
        · obtain rfl := Option.some.inj hi
          have s29 : A.tmps.getD 29 undef = .pointer (some ⟨w.heap.size, 2, none⟩) := dep_of hdeps 5 (by kernel_rfl)
          exact v_pure hi rfl rfl (x_load8 _ s29 (arr_w hX1))
        · obtain rfl := Option.some.inj hi
          have s30 : A.tmps.getD 30 undef = .int .u8 (c.w : Int) := dep_of hdeps 6 (by kernel_rfl)
          exact v_pure hi rfl rfl (x_conv _ s30 HO.out.w)
        · obtain rfl := Option.some.inj hi
          have s25 : A.tmps.getD 25 undef = .int .i64 ((T : Nat) : Int) := dep_of hdeps 1 (by kernel_rfl)
          exact v_pure hi rfl rfl (x_assign _ s25)
        · obtain rfl := Option.some.inj hi
          have s28 : A.tmps.getD 28 undef = .int .i64 (c.r : Int) := dep_of hdeps 4 (by kernel_rfl)
          exact v_pure hi rfl rfl (x_assign _ s28)
        · obtain rfl := Option.some.inj hi
          have s31 : A.tmps.getD 31 undef = .int .i64 (c.w : Int) := dep_of hdeps 7 (by kernel_rfl)
          exact v_pure hi rfl rfl (x_assign _ s31)
      · intro w1 hB
        have HB1 := hide (HB.out.trans (hB.mono HB.out.size))
        clear hB HB HX CT
        simp only [putAll, Act.put, List.setIfInBounds_toArray, List.set_cons_succ, List.set_cons_zero]
        by_cases a1 : 1 ≤ c.r
        case neg =>
          have HR : Hid (mayB c = false) := hide (by rw [HM.out, decide_eq_false a1]; simp)
          clear HM
          have d0 : decide ((c.r : Int) < 1) = true := decide_eq_true (by omega)
          go_wp2
          go_ret
          exact ⟨ret_bool HR.out.symm, HB1.out⟩
        by_cases a2 : c.r ≤ T
        case neg =>
          have HR : Hid (mayB c = false) := hide (by rw [HM.out, decide_eq_false a2]; simp)
          clear HM
          have d0 : decide ((c.r : Int) < 1) = false := decide_eq_false (by omega)
          have d1 : decide ((c.r : Int) > (T : Int)) = true := decide_eq_true (by omega)
          go_wp2
          go_ret
          exact ⟨ret_bool HR.out.symm, HB1.out⟩
        by_cases a3 : 1 ≤ c.w
        case neg =>
          have HR : Hid (mayB c = false) := hide (by rw [HM.out, decide_eq_false a3]; simp)
          clear HM
          have d0 : decide ((c.r : Int) < 1) = false := decide_eq_false (by omega)
          have d1 : decide ((c.r : Int) > (T : Int)) = false := decide_eq_false (by omega)
          have d2 : decide ((c.w : Int) < 1) = true := decide_eq_true (by omega)
          go_wp2
          go_ret
          exact ⟨ret_bool HR.out.symm, HB1.out⟩
        by_cases a4 : c.w ≤ T
        case neg =>
          have HR : Hid (mayB c = false) := hide (by rw [HM.out, decide_eq_false a4]; simp)
          clear HM
          have d0 : decide ((c.r : Int) < 1) = false := decide_eq_false (by omega)
          have d1 : decide ((c.r : Int) > (T : Int)) = false := decide_eq_false (by omega)
          have d2 : decide ((c.w : Int) < 1) = false := decide_eq_false (by omega)
          have d3 : decide ((c.w : Int) > (T : Int)) = true := decide_eq_true (by omega)
          go_wp2
          go_ret
          exact ⟨ret_bool HR.out.symm, HB1.out⟩
        by_cases a5 : T < c.r + c.w
        case neg =>
          have HR : Hid (mayB c = false) := hide (by rw [HM.out, decide_eq_false a5]; simp)
          clear HM
          have d0 : decide ((c.r : Int) < 1) = false := decide_eq_false (by omega)
          have d1 : decide ((c.r : Int) > (T : Int)) = false := decide_eq_false (by omega)
          have d2 : decide ((c.w : Int) < 1) = false := decide_eq_false (by omega)
          have d3 : decide ((c.w : Int) > (T : Int)) = false := decide_eq_false (by omega)
          have d4 : decide ((c.r : Int) + (c.w : Int) > (T : Int)) = false := decide_eq_false (by omega)
          go_wp2
          go_ret
          exact ⟨ret_bool HR.out.symm, HB1.out⟩
        by_cases a6 : T < 2 * c.w
        · have HR : Hid (mayB c = true) := hide (by rw [HM.out, decide_eq_true a1, decide_eq_true a2, decide_eq_true a3, decide_eq_true a4, decide_eq_true a5, decide_eq_true a6]; rfl)
          clear HM
          have d0 : decide ((c.r : Int) < 1) = false := decide_eq_false (by omega)
          have d1 : decide ((c.r : Int) > (T : Int)) = false := decide_eq_false (by omega)
          have d2 : decide ((c.w : Int) < 1) = false := decide_eq_false (by omega)
          have d3 : decide ((c.w : Int) > (T : Int)) = false := decide_eq_false (by omega)
          have d4 : decide ((c.r : Int) + (c.w : Int) > (T : Int)) = true := decide_eq_true (by omega)
          have d5 : decide (2 * (c.w : Int) > (T : Int)) = true := decide_eq_true (by omega)
          go_wp2
          go_ret
          exact ⟨ret_bool HR.out.symm, HB1.out⟩
        · skip
          have HR : Hid (mayB c = false) := hide (by rw [HM.out, decide_eq_false a6]; simp)
          clear HM
          have d0 : decide ((c.r : Int) < 1) = false := decide_eq_false (by omega)
          have d1 : decide ((c.r : Int) > (T : Int)) = false := decide_eq_false (by omega)
          have d2 : decide ((c.w : Int) < 1) = false := decide_eq_false (by omega)
          have d3 : decide ((c.w : Int) > (T : Int)) = false := decide_eq_false (by omega)
          have d4 : decide ((c.r : Int) + (c.w : Int) > (T : Int)) = true := decide_eq_true (by omega)
          have d5 : decide (2 * (c.w : Int) > (T : Int)) = false := decide_eq_false (by omega)
          go_wp2
          go_ret
          exact ⟨ret_bool HR.out.symm, HB1.out⟩
set_option maxRecDepth 100000 in
set_option maxHeartbeats 3200000 in
theorem rmay_any (c : Cf) (hok : c.Ok) (w : World) :
    Calls Tryz.prog 88 #[.agg c.arr] w fun e w' => e = .returned (.bool (mayB c)) ∧ Below w.heap.size w w' := by
  have hsz := hok.size
  have HO := hide hok
  have HX := hide (box_new w c.arr 33)
  have HB := hide (alloc_below w (.cells c.arr 33))
  have CT := hide (fun W => rtotal_any c hok W)
  have he := hok.e
  have hr := hok.r
  have hw := hok.w
  have hT := hok.tot 8
  have HM : Hid (mayB c = (decide (1 ≤ c.e) && decide (c.e ≤ 2147483647) && fifteen c.vs 8 && decide (1 ≤ c.r) && decide (c.r ≤ totN c.vs 8) && decide (1 ≤ c.w) && decide (c.w ≤ totN c.vs 8) && decide (totN c.vs 8 < c.r + c.w) && decide (totN c.vs 8 < 2 * c.w))) := rfl
  generalize totN c.vs 8 = T at *
  clear hok
  go_enter Tryz.func88, Tryz.ntmps88
  go_wp2_with fail
  refine wp_region_vals (by kernel_rfl) [(7, .agg c.arr), (8, .int .i64 ((T : Nat) : Int)), (9, .pointer (some ⟨w.heap.size, 1, none⟩)), (10, .int .u8 (c.r : Int)), (11, .int .i64 (c.r : Int)), (12, .pointer (some ⟨w.heap.size, 2, none⟩)), (13, .int .u8 (c.w : Int)), (14, .int .i64 (c.w : Int)), (3, .int .i64 ((T : Nat) : Int)), (4, .int .i64 (c.r : Int)), (5, .int .i64 (c.w : Int))] (by kernel_rfl) rfl ?_ ?_
  · intro i o hi A w1 hB hold hdeps
    have hX1 := HX.out.belowV hB
    have hlt : i < 11 := (Array.getElem?_eq_some_iff.1 hi).1
    have hc : i = 0 ∨ i = 1 ∨ i = 2 ∨ i = 3 ∨ i = 4 ∨ i = 5 ∨ i = 6 ∨ i = 7 ∨ i = 8 ∨ i = 9 ∨ i = 10 := by omega
    clear hlt
    rcases hc with rfl | rfl | rfl | rfl | rfl | rfl | rfl | rfl | rfl | rfl | rfl
    · obtain rfl := Option.some.inj hi
      have s1 : A.tmps.getD 1 undef = .pointer (some ⟨w.heap.size, 0, none⟩) := hold 1 (by kernel_rfl)
      exact v_pure hi rfl rfl (x_loadC _ HO.out s1 hX1)
    · obtain rfl := Option.some.inj hi
      have s7 : A.tmps.getD 7 undef = .agg c.arr := dep_of hdeps 0 (by kernel_rfl)
      exact v_enter hi rfl rfl (x_call 159 _ #[.agg c.arr] _ rfl (by simp only [List.map_toArray, List.map_cons, List.map_nil, show A.eval (.tmp 7) = .agg c.arr from s7]; try rfl) en_rtotal) (CT.out w1)
    · obtain rfl := Option.some.inj hi
      have s1 : A.tmps.getD 1 undef = .pointer (some ⟨w.heap.size, 0, none⟩) := hold 1 (by kernel_rfl)
      exact v_pure hi rfl rfl (x_field1 _ s1)
    · obtain rfl := Option.some.inj hi
      have s9 : A.tmps.getD 9 undef = .pointer (some ⟨w.heap.size, 1, none⟩) := dep_of hdeps 2 (by kernel_rfl)
      exact v_pure hi rfl rfl (x_load8 _ s9 (arr_r hX1))
    · obtain rfl := Option.some.inj hi
      have s10 : A.tmps.getD 10 undef = .int .u8 (c.r : Int) := dep_of hdeps 3 (by kernel_rfl)
      exact v_pure hi rfl rfl (x_conv _ s10 HO.out.r)
    · obtain rfl := Option.some.inj hi
      have s1 : A.tmps.getD 1 undef = .pointer (some ⟨w.heap.size, 0, none⟩) := hold 1 (by kernel_rfl)
      exact v_pure hi rfl rfl (x_field2 _ s1)
    · obtain rfl := Option.some.inj hi
      have s12 : A.tmps.getD 12 undef = .pointer (some ⟨w.heap.size, 2, none⟩) := dep_of hdeps 5 (by kernel_rfl)
      exact v_pure hi rfl rfl (x_load8 _ s12 (arr_w hX1))
    · obtain rfl := Option.some.inj hi
      have s13 : A.tmps.getD 13 undef = .int .u8 (c.w : Int) := dep_of hdeps 6 (by kernel_rfl)
      exact v_pure hi rfl rfl (x_conv _ s13 HO.out.w)
    · obtain rfl := Option.some.inj hi
      have s8 : A.tmps.getD 8 undef = .int .i64 ((T : Nat) : Int) := dep_of hdeps 1 (by kernel_rfl)
      exact v_pure hi rfl rfl (x_assign _ s8)
    · obtain rfl := Option.some.inj hi
      have s11 : A.tmps.getD 11 undef = .int .i64 (c.r : Int) := dep_of hdeps 4 (by kernel_rfl)
      exact v_pure hi rfl rfl (x_assign _ s11)
    · obtain rfl := Option.some.inj hi
      have s14 : A.tmps.getD 14 undef = .int .i64 (c.w : Int) := dep_of hdeps 7 (by kernel_rfl)
      exact v_pure hi rfl rfl (x_assign _ s14)
  · intro w1 hB
    have HX1 := hide (HX.out.belowV hB)
    have HB1 := hide (HB.out.trans (hB.mono HB.out.size))
    have x0 := arr_e HX1.out
    have hlt1 := HX1.out.lt
    clear hB HB HX CT
    simp only [putAll, Act.put, List.setIfInBounds_toArray, List.set_cons_succ, List.set_cons_zero]
    go_wp2
    go_loop [6] (fun i => ∃ k : Nat, k ≤ 8 ∧ i = .int .i64 k ∧ Hid (fifteen c.vs k = true)) (fun i => 8 - (intOf i).toNat)
    case atStart => exact ⟨0, by omega, rfl, rfl⟩
    case round =>
      obtain ⟨k, hk, rfl, HF⟩ := hrel
      by_cases hlt : k < 8
      · have hat := box_at HO.out HX1.out k hlt
        have hkI : (k : Int) < 8 := by omega
        have hv := HO.out.at k
        have HN := hide (fifteen_no c.vs k)
        have HS : Hid (fifteen c.vs (k + 1) = (fifteen c.vs k && decide (c.vs.getD k 0 ≤ 15))) := rfl
        generalize c.vs.getD k 0 = x at *
        by_cases hx : x ≤ 15
        · have d3 : decide ((x : Int) > 15) = false := decide_eq_false (by omega)
          have HS2 : Hid (fifteen c.vs (k + 1) = true) := hide (by rw [HS.out, HF.out, decide_eq_true hx]; rfl)
          clear HS HN
          go_wp2
          go_round
          case rel => exact ⟨k + 1, by omega, by go_num, HS2⟩
          case measure => simp [intOf]; omega
        · have d3 : decide ((x : Int) > 15) = true := decide_eq_true (by omega)
          have HR : Hid (mayB c = false) := hide (by
            have := HN.out hx (7 - k)
            rw [show k + 1 + (7 - k) = 8 by omega] at this
            rw [HM.out, this]; simp)
          clear HS HN HM
          go_wp2
          go_ret
          exact ⟨ret_bool HR.out.symm, HB1.out⟩
      · obtain rfl : k = 8 := by omega
        rw [HF.out] at HM
        by_cases b1 : 1 ≤ c.e
        case neg =>
          have HR : Hid (mayB c = false) := hide (by rw [HM.out, decide_eq_false b1]; simp)
          clear HM
          have f0 : decide ((c.e : Int) ≥ 1) = false := decide_eq_false (by omega)
          go_wp2
          go_ret
          exact ⟨ret_bool HR.out.symm, HB1.out⟩
        by_cases b2 : c.e ≤ 2147483647
        case neg =>
          have HR : Hid (mayB c = false) := hide (by rw [HM.out, decide_eq_false b2]; simp)
          clear HM
          have f0 : decide ((c.e : Int) ≥ 1) = true := decide_eq_true (by omega)
          have f1 : decide ((c.e : Int) ≤ 2147483647) = false := decide_eq_false (by omega)
          go_wp2
          go_ret
          exact ⟨ret_bool HR.out.symm, HB1.out⟩
        by_cases a1 : 1 ≤ c.r
        case neg =>
          have HR : Hid (mayB c = false) := hide (by rw [HM.out, decide_eq_false a1]; simp)
          clear HM
          have f0 : decide ((c.e : Int) ≥ 1) = true := decide_eq_true (by omega)
          have f1 : decide ((c.e : Int) ≤ 2147483647) = true := decide_eq_true (by omega)
          have f2 : decide ((c.r : Int) ≥ 1) = false := decide_eq_false (by omega)
          go_wp2
          go_ret
          exact ⟨ret_bool HR.out.symm, HB1.out⟩
        by_cases a3 : 1 ≤ c.w
        case neg =>
          have HR : Hid (mayB c = false) := hide (by rw [HM.out, decide_eq_false a3]; simp)
          clear HM
          have f0 : decide ((c.e : Int) ≥ 1) = true := decide_eq_true (by omega)
          have f1 : decide ((c.e : Int) ≤ 2147483647) = true := decide_eq_true (by omega)
          have f2 : decide ((c.r : Int) ≥ 1) = true := decide_eq_true (by omega)
          have f3 : decide ((c.w : Int) ≥ 1) = false := decide_eq_false (by omega)
          go_wp2
          go_ret
          exact ⟨ret_bool HR.out.symm, HB1.out⟩
        by_cases a2 : c.r ≤ T
        case neg =>
          have HR : Hid (mayB c = false) := hide (by rw [HM.out, decide_eq_false a2]; simp)
          clear HM
          have f0 : decide ((c.e : Int) ≥ 1) = true := decide_eq_true (by omega)
          have f1 : decide ((c.e : Int) ≤ 2147483647) = true := decide_eq_true (by omega)
          have f2 : decide ((c.r : Int) ≥ 1) = true := decide_eq_true (by omega)
          have f3 : decide ((c.w : Int) ≥ 1) = true := decide_eq_true (by omega)
          have f4 : decide ((c.r : Int) ≤ (T : Int)) = false := decide_eq_false (by omega)
          go_wp2
          go_ret
          exact ⟨ret_bool HR.out.symm, HB1.out⟩
        by_cases a4 : c.w ≤ T
        case neg =>
          have HR : Hid (mayB c = false) := hide (by rw [HM.out, decide_eq_false a4]; simp)
          clear HM
          have f0 : decide ((c.e : Int) ≥ 1) = true := decide_eq_true (by omega)
          have f1 : decide ((c.e : Int) ≤ 2147483647) = true := decide_eq_true (by omega)
          have f2 : decide ((c.r : Int) ≥ 1) = true := decide_eq_true (by omega)
          have f3 : decide ((c.w : Int) ≥ 1) = true := decide_eq_true (by omega)
          have f4 : decide ((c.r : Int) ≤ (T : Int)) = true := decide_eq_true (by omega)
          have f5 : decide ((c.w : Int) ≤ (T : Int)) = false := decide_eq_false (by omega)
          go_wp2
          go_ret
          exact ⟨ret_bool HR.out.symm, HB1.out⟩
        by_cases a5 : T < c.r + c.w
        case neg =>
          have HR : Hid (mayB c = false) := hide (by rw [HM.out, decide_eq_false a5]; simp)
          clear HM
          have f0 : decide ((c.e : Int) ≥ 1) = true := decide_eq_true (by omega)
          have f1 : decide ((c.e : Int) ≤ 2147483647) = true := decide_eq_true (by omega)
          have f2 : decide ((c.r : Int) ≥ 1) = true := decide_eq_true (by omega)
          have f3 : decide ((c.w : Int) ≥ 1) = true := decide_eq_true (by omega)
          have f4 : decide ((c.r : Int) ≤ (T : Int)) = true := decide_eq_true (by omega)
          have f5 : decide ((c.w : Int) ≤ (T : Int)) = true := decide_eq_true (by omega)
          have f6 : decide ((c.r : Int) + (c.w : Int) > (T : Int)) = false := decide_eq_false (by omega)
          go_wp2
          go_ret
          exact ⟨ret_bool HR.out.symm, HB1.out⟩
        by_cases a6 : T < 2 * c.w
        · have HR : Hid (mayB c = true) := hide (by rw [HM.out, decide_eq_true b1, decide_eq_true b2, decide_eq_true a1, decide_eq_true a2, decide_eq_true a3, decide_eq_true a4, decide_eq_true a5, decide_eq_true a6]; rfl)
          clear HM
          have f0 : decide ((c.e : Int) ≥ 1) = true := decide_eq_true (by omega)
          have f1 : decide ((c.e : Int) ≤ 2147483647) = true := decide_eq_true (by omega)
          have f2 : decide ((c.r : Int) ≥ 1) = true := decide_eq_true (by omega)
          have f3 : decide ((c.w : Int) ≥ 1) = true := decide_eq_true (by omega)
          have f4 : decide ((c.r : Int) ≤ (T : Int)) = true := decide_eq_true (by omega)
          have f5 : decide ((c.w : Int) ≤ (T : Int)) = true := decide_eq_true (by omega)
          have f6 : decide ((c.r : Int) + (c.w : Int) > (T : Int)) = true := decide_eq_true (by omega)
          have f7 : decide (2 * (c.w : Int) > (T : Int)) = true := decide_eq_true (by omega)
          go_wp2
          go_ret
          exact ⟨ret_bool HR.out.symm, HB1.out⟩
        · skip
          have HR : Hid (mayB c = false) := hide (by rw [HM.out, decide_eq_false a6]; simp)
          clear HM
          have f0 : decide ((c.e : Int) ≥ 1) = true := decide_eq_true (by omega)
          have f1 : decide ((c.e : Int) ≤ 2147483647) = true := decide_eq_true (by omega)
          have f2 : decide ((c.r : Int) ≥ 1) = true := decide_eq_true (by omega)
          have f3 : decide ((c.w : Int) ≥ 1) = true := decide_eq_true (by omega)
          have f4 : decide ((c.r : Int) ≤ (T : Int)) = true := decide_eq_true (by omega)
          have f5 : decide ((c.w : Int) ≤ (T : Int)) = true := decide_eq_true (by omega)
          have f6 : decide ((c.r : Int) + (c.w : Int) > (T : Int)) = true := decide_eq_true (by omega)
          have f7 : decide (2 * (c.w : Int) > (T : Int)) = false := decide_eq_false (by omega)
          go_wp2
          go_ret
          exact ⟨ret_bool HR.out.symm, HB1.out⟩
end
end Go.Proofs.YtencmgepffdodaaGreat
