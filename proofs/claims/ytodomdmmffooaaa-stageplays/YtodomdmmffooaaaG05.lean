/-
  Own texts put together: VtCfg, VtOps, VtMay, RSets, VtRef. Own work.
-/
import Derived.Test.YtodomdmmffooaaaG04
import Derived.Test.YtodomdmmffooaaaG01
import Derived.Test.YtodomdmmffooaaaG03
import Derived.Deep.MidRow
import Derived.Shelf.Abstract
import Derived.BigRegion
namespace Go.Proofs.Ytodomdmmffooaaa
section
open Go.RowKit

/-- A configuration. -/
structure Cf where
  e : Nat
  r : Nat
  w : Nat
  vs : List Nat
structure Cf.Ok (c : Cf) : Prop where
  e : c.e < 4294967296
  r : c.r < 256
  w : c.w < 256
  l : c.vs.length = 8
  v : ∀ v ∈ c.vs, v < 256
def votL (vs : List Nat) : List Value := vs.map fun (v : Nat) => Value.int .u8 (v : Int)
def votC (vs : List Nat) : Array Value := (votL vs).toArray
def Cf.cells (c : Cf) : List Value := .int .u32 (c.e : Int) :: .int .u8 (c.r : Int) :: .int .u8 (c.w : Int) :: votL c.vs
def Cf.arr (c : Cf) : Array Value := c.cells.toArray
theorem votL_len (vs : List Nat) : (votL vs).length = vs.length := by simp [votL]
theorem Cf.Ok.size {c : Cf} (h : c.Ok) : c.arr.size = 11 := by simp [Cf.arr, Cf.cells, votL_len, h.l]
theorem Cf.one (c : Cf) : c.arr.all (·.oneCell') = true := by simp [Cf.arr, Cf.cells, votL, Value.oneCell']
theorem Cf.Ok.at {c : Cf} (h : c.Ok) (k : Nat) : c.vs.getD k 0 < 256 := by
  rw [List.getD_eq_getElem?_getD]
  cases hx : c.vs[k]? with
  | none => simp
  | some x => exact h.v x (List.mem_of_getElem? hx)
theorem Cf.Ok.tot {c : Cf} (h : c.Ok) (k : Nat) : totN c.vs k ≤ 255 * k := tot_le c.vs 255 (fun v hv => by have := h.v v hv; omega) k
theorem Cf.Ok.of {c : Cf} (h : c.Ok) (s k : Nat) : ofN c.vs s k ≤ 255 * k := Nat.le_trans (of_le c.vs s k) (h.tot k)
theorem votC_at (vs : List Nat) (k : Nat) (h : k < vs.length) : (votC vs)[k]? = some (.int .u8 ((vs.getD k 0 : Nat) : Int)) := by
  simp [votC, votL, List.getD, h]
theorem arr_range {w : World} {b : Nat} {c : Cf} {t : TypeId} (h : Box w b c.arr t) : w.rangeAt b 0 c.cells := fun j v hv => by
  rw [Nat.zero_add]; exact h.cell j v (by simpa [Cf.arr] using hv)
theorem arr_votes {w : World} {b : Nat} {c : Cf} {t : TypeId} (h : Box w b c.arr t) : w.rangeAt b 3 (votL c.vs) := fun j v hv => by
  refine h.cell (3 + j) v ?_
  rw [show 3 + j = j + 1 + 1 + 1 by omega]
  simpa [Cf.arr, Cf.cells] using hv
theorem arr_e {w : World} {b : Nat} {c : Cf} {t : TypeId} (h : Box w b c.arr t) : w.cell? ⟨b, 0, none⟩ = some (.int .u32 (c.e : Int)) := h.cell 0 _ rfl
theorem arr_r {w : World} {b : Nat} {c : Cf} {t : TypeId} (h : Box w b c.arr t) : w.cell? ⟨b, 1, none⟩ = some (.int .u8 (c.r : Int)) := h.cell 1 _ rfl
theorem arr_w {w : World} {b : Nat} {c : Cf} {t : TypeId} (h : Box w b c.arr t) : w.cell? ⟨b, 2, none⟩ = some (.int .u8 (c.w : Int)) := h.cell 2 _ rfl
theorem infoCfg : (Try.prog.info? 55).map (·.size) = some 11 := by kernel_rfl
theorem infoArr8 : (Try.prog.info? 52).map (·.size) = some 8 := by kernel_rfl
/-- Its votes are. -/
theorem wp_load_votes {ops : Array Oper} {rest : List Oper} {op : Oper} {a : Act} {w : World} {Q : Exit → Act → World → Prop} (hgd : op.guard = none) (x : Operand) (ho : op.op = .load 52 x)
    (b : Nat) (hx : a.eval x = .pointer (some ⟨b, 3, none⟩)) {c : Cf} {t : TypeId} (hok : c.Ok) (hb : Box w b c.arr t)
    (h : wpList Try.prog ops Q rest (a.put op.dst (.agg (votC c.vs))) w) : wpList Try.prog ops Q (op :: rest) a w :=
  wpList_load_mid hgd 52 x ho b 3 hx (votL c.vs) _ (arr_votes hb) Try.underlying52 rfl (by rw [votL_len, hok.l]; exact infoArr8) h
theorem index_votes (vs : List Nat) (k : Nat) (hl : vs.length = 8) (hk : k < 8) (W : World) :
    (Instr.index 52 (.agg (votC vs)) (.int .i64 (k : Int))).run Try.prog W = .ok (.int .u8 ((vs.getD k 0 : Nat) : Int)) W := by
  have hat := votC_at vs k (by omega)
  have h1 : (0 : Int) ≤ (k : Int) ∧ (k : Int) < 8 := by omega
  have h2 : ¬ 8 ≤ k := by omega
  simp [Instr.index, asIntOf, Sem.run_bind, run_underlying Try.underlying52, h1, part, Try.sizeOf5, Try.isAgg5, hat, h2]
set_option maxHeartbeats 400000 in
theorem of_any (c : Cf) (s : Nat) (hok : c.Ok) (hs : s < 18446744073709551616) (w : World) :
    Calls Try.prog 119 #[.agg c.arr, .int .u64 s] w fun e w' => e = .returned (.int .i64 ((ofN c.vs s 8 : Nat) : Int)) ∧ w' = w.alloc (.cells c.arr 55) := by
  have hsz := hok.size
  have HO := hide hok
  have HB := hide (box_new w c.arr 55)
  clear hok
  go_enter Try.func119, Try.ntmps119
  go_wp2_with (refine wp_load_votes rfl _ rfl _ rfl HO.out HB.out ?_)
  go_loop [5, 10] (fun x i => ∃ k : Nat, k ≤ 8 ∧ i = .int .i64 k ∧ x = .int .i64 ((ofN c.vs s k : Nat) : Int)) (fun _ i => 8 - (intOf i).toNat)
  case atStart => exact ⟨0, by omega, rfl, rfl⟩
  case round =>
    obtain ⟨k, hk, rfl, rfl⟩ := hrel
    by_cases hlt : k < 8
    · have hidx := index_votes c.vs k HO.out.l hlt
      have hv := HO.out.at k
      have hu := HO.out.of s k
      have CH := hide (fun w => has_in s k hs (by omega) w)
      have HE : Hid (ofN c.vs s (k + 1) = ofN c.vs s k + (if s.testBit k then c.vs.getD k 0 else 0)) := rfl
      generalize c.vs.getD k 0 = x at *
      generalize ofN c.vs s k = o at *
      cases hb : s.testBit k
      · rw [hb] at CH HE
        go_wp2_with (go_at_call 140; refine (CH.out _).mono ?_; rintro e w' ⟨rfl, hw'⟩; rw [hw']; clear hw')
        go_round
        case rel => exact ⟨k + 1, by omega, by go_num, by rw [HE.out]; rfl⟩
        case measure => simp [intOf]; omega
      · rw [hb] at CH HE
        go_wp2_with (go_at_call 140; refine (CH.out _).mono ?_; rintro e w' ⟨rfl, hw'⟩; rw [hw']; clear hw')
        go_round
        case rel => exact ⟨k + 1, by omega, by go_num, by rw [HE.out]; simp⟩
        case measure => simp [intOf]; omega
    · obtain rfl : k = 8 := by omega
      go_wp2
      go_ret
      exact ⟨rfl, rfl⟩
set_option maxHeartbeats 400000 in
theorem voters_any (c : Cf) (hok : c.Ok) (w : World) :
    Calls Try.prog 120 #[.agg c.arr] w fun e w' => e = .returned (.int .u64 ((votN c.vs 8 : Nat) : Int)) ∧ w' = w.alloc (.cells c.arr 55) := by
  have hsz := hok.size
  have HO := hide hok
  have HB := hide (box_new w c.arr 55)
  clear hok
  go_enter Try.func120, Try.ntmps120
  go_wp2_with (refine wp_load_votes rfl _ rfl _ rfl HO.out HB.out ?_)
  go_loop [3, 8] (fun x i => ∃ k : Nat, k ≤ 8 ∧ i = .int .i64 k ∧ x = .int .u64 ((votN c.vs k : Nat) : Int)) (fun _ i => 8 - (intOf i).toNat)
  case atStart => exact ⟨0, by omega, rfl, rfl⟩
  case round =>
    obtain ⟨k, hk, rfl, rfl⟩ := hrel
    by_cases hlt : k < 8
    · have hidx := index_votes c.vs k HO.out.l hlt
      have hu : votN c.vs k < 18446744073709551616 := Nat.lt_of_lt_of_le (vot_lt c.vs k) (by have := Nat.pow_le_pow_right (n := 2) (by decide) hk; omega)
      have CH := hide (fun w => with_in (votN c.vs k) k hu (by omega) w)
      have HE : Hid (votN c.vs (k + 1) = if 0 < c.vs.getD k 0 then withN (votN c.vs k) k else votN c.vs k) := rfl
      generalize c.vs.getD k 0 = x at *
      by_cases hb : 0 < x
      · rw [if_pos hb] at HE
        have hx : decide ((x : Int) > 0) = true := decide_eq_true (by omega)
        go_wp2_with (go_at_call 141; refine (CH.out _).mono ?_; rintro e w' ⟨rfl, hw'⟩; rw [hw']; clear hw')
        go_round
        case rel => exact ⟨k + 1, by omega, by go_num, by rw [HE.out]⟩
        case measure => simp [intOf]; omega
      · rw [if_neg hb] at HE
        obtain rfl : x = 0 := by omega
        go_wp2
        go_round
        case rel => exact ⟨k + 1, by omega, by go_num, by rw [HE.out]⟩
        case measure => simp [intOf]; omega
    · obtain rfl : k = 8 := by omega
      go_wp2
      go_ret
      exact ⟨rfl, rfl⟩
end
section
open Go Go.RowKit Go.Shelf

section
variable {ρ : Operand → Value} {dst : Option Tmp} {ty : TypeId} {pos : String} {aft : Array Edge} {gd : Option (Nat × Bool)} {w : World}
theorem x_assign (x : Operand) {v : Value} (hx : ρ x = v) : (execOp ρ ⟨dst, .assign x, ty, pos, aft, gd⟩).run Try.prog w = .ok (.value v) w := by subst hx; simp [go_sem]
theorem x_field1 (x : Operand) {q : Nat} (hx : ρ x = .pointer (some ⟨q, 0, none⟩)) : (execOp ρ ⟨dst, .fieldAddr 55 x 1, ty, pos, aft, gd⟩).run Try.prog w = .ok (.value (.pointer (some ⟨q, 1, none⟩))) w := by simp [go_sem, hx]
theorem x_field2 (x : Operand) {q : Nat} (hx : ρ x = .pointer (some ⟨q, 0, none⟩)) : (execOp ρ ⟨dst, .fieldAddr 55 x 2, ty, pos, aft, gd⟩).run Try.prog w = .ok (.value (.pointer (some ⟨q, 2, none⟩))) w := by simp [go_sem, hx]
theorem x_load8 (x : Operand) {q k : Nat} {s : Int} (hx : ρ x = .pointer (some ⟨q, k, none⟩)) (h : w.cell? ⟨q, k, none⟩ = some (.int .u8 s)) : (execOp ρ ⟨dst, .load 5 x, ty, pos, aft, gd⟩).run Try.prog w = .ok (.value (.int .u8 s)) w := by simp [go_sem, hx, h]
theorem x_loadC (x : Operand) {q : Nat} {c : Cf} {t : TypeId} (hok : c.Ok) (hx : ρ x = .pointer (some ⟨q, 0, none⟩)) (hb : Box w q c.arr t) : (execOp ρ ⟨dst, .load 55 x, ty, pos, aft, gd⟩).run Try.prog w = .ok (.value (.agg c.arr)) w := by
  have hr : w.rangeAt q 0 c.cells := arr_range hb
  have hs : c.cells.length = 11 := by have := hok.size; simpa [Cf.arr] using this
  have := run_loadAt_mid (P := Try.prog) w q 0 55 c.cells _ hr Try.underlying55 rfl (by rw [hs]; exact infoCfg)
  unfold execOp
  simp only [hx, Sem.run_bind, this]
  rfl
theorem x_conv (x : Operand) {n : Nat} (hx : ρ x = .int .u8 (n : Int)) (hn : n < 256) : (execOp ρ ⟨dst, .convert 5 3 x, ty, pos, aft, gd⟩).run Try.prog w = .ok (.value (.int .i64 (n : Int))) w := by
  have h2 : IntKind.i64.wrap (n : Int) = n := by rw [IntKind.wrap_i64]; omega
  simp [go_sem, hx, h2]
theorem x_call (f : FuncId) (xs : Array Operand) (vs : Array Value) (tys : Array TypeId) (hf : ρ (.func f) = .func (.func f) #[] #[]) (hv : xs.map ρ = vs) (he : ∀ args w, (callFunc f args).run Try.prog w = .ok (.enter f args) w) : (execOp ρ ⟨dst, .call { callee := .value (.func f), args := xs, argTypes := tys }, ty, pos, aft, gd⟩).run Try.prog w = .ok (.enter f vs) w := by
  subst hv
  simp [go_sem, hf, he]
end
theorem en_of : ∀ args w, (callFunc 119 args).run Try.prog w = .ok (.enter 119 args) w := enters_of Try.func119 (by kernel_rfl) rfl
theorem en_voters : ∀ args w, (callFunc 120 args).run Try.prog w = .ok (.enter 120 args) w := enters_of Try.func120 (by kernel_rfl) rfl
theorem en_total : ∀ args w, (callFunc 102 args).run Try.prog w = .ok (.enter 102 args) w := enters_of Try.func102 (by kernel_rfl) rfl
theorem en_rtotal : ∀ args w, (callFunc 104 args).run Try.prog w = .ok (.enter 104 args) w := enters_of Try.func104 (by kernel_rfl) rfl
theorem wpList_wanted {ops : Array Oper} {rest : List Oper} {o : Oper} {a : Act} {w : World} {Q : Exit → Act → World → Prop} {P : Program} (hg : Region.wanted o (yielded ops a.tmps) = true)
    (h : ∀ K : Act → World → Prop, (∀ a w, wpList P ops Q rest a w → K a w) → o.wp P a w K Q) : wpList P ops Q (o :: rest) a w :=
  wpList_step fun K hK => by simp only [hg, if_true]; exact h K hK
/-- An operation of a region that leaves one value. -/
theorem v_pure {P : Program} {ops : Array Oper} {Q : Exit → Act → World → Prop} {i : Nat} {o : Oper} {a : Act} {w : World} {v : Value} {ps : List (Nat × Value)} (hi : ops[i]? = some o) (hw : Region.wanted o (yielded ops a.tmps) = true)
    (hv : pv ps i = v) (hr : (execOp a.eval o).run P w = .ok (.value v) w) : wpOp P ops Q i (fun a' w' => Below w.heap.size w w' ∧ ∃ v, InvV ps i v w' ∧ a' = a.put o.dst v) a w :=
  each_pure hi hw hr hv.symm
theorem v_enter {P : Program} {ops : Array Oper} {Q : Exit → Act → World → Prop} {i : Nat} {o : Oper} {a : Act} {w : World} {v : Value} {ps : List (Nat × Value)} {f : FuncId} {args : Array Value} (hi : ops[i]? = some o) (hw : Region.wanted o (yielded ops a.tmps) = true)
    (hv : pv ps i = v) (hr : (execOp a.eval o).run P w = .ok (.enter f args) w) (h : Calls P f args w fun e w' => e = .returned v ∧ Below w.heap.size w w') : wpOp P ops Q i (fun a' w' => Below w.heap.size w w' ∧ ∃ v, InvV ps i v w' ∧ a' = a.put o.dst v) a w :=
  each_enter hi hw hr (Calls.mono h fun _ _ ⟨he, hB⟩ => ⟨v, he, hB, hv.symm⟩)
end
section
open Go.RowKit

theorem alloc_below (w : World) (o : Obj) : Below w.heap.size w (w.alloc o) := (Below.refl _ _).alloc (Nat.le_refl _) o
theorem Box.belowV {w w' : World} {p : Nat} {cs : Array Value} {t : TypeId} (h : Box w p cs t) (hB : Below w.heap.size w w') : Box w' p cs t := h.keep (KeepBut.of_below (fun _ => False) hB) id
theorem vot64 (vs : List Nat) : votN vs 8 < 18446744073709551616 := by have := vot256 vs; omega
theorem ofB (c : Cf) (s : Nat) (hok : c.Ok) (hs : s < 18446744073709551616) (w : World) :
    Calls Try.prog 119 #[.agg c.arr, .int .u64 ((s : Nat) : Int)] w fun e w' => e = .returned (.int .i64 ((ofN c.vs s 8 : Nat) : Int)) ∧ Below w.heap.size w w' :=
  (of_any c s hok hs w).mono fun _ _ ⟨he, hw⟩ => ⟨he, hw ▸ alloc_below _ _⟩
theorem votersB (c : Cf) (hok : c.Ok) (w : World) :
    Calls Try.prog 120 #[.agg c.arr] w fun e w' => e = .returned (.int .u64 ((votN c.vs 8 : Nat) : Int)) ∧ Below w.heap.size w w' :=
  (voters_any c hok w).mono fun _ _ ⟨he, hw⟩ => ⟨he, hw ▸ alloc_below _ _⟩
set_option maxRecDepth 100000 in
theorem total_any (c : Cf) (hok : c.Ok) (w : World) :
    Calls Try.prog 102 #[.agg c.arr] w fun e w' => e = .returned (.int .i64 ((totN c.vs 8 : Nat) : Int)) ∧ Below w.heap.size w w' := by
  have hsz := hok.size
  have HO := hide hok
  have HX := hide (box_new w c.arr 55)
  have HB := hide (alloc_below w (.cells c.arr 55))
  have CV := hide (fun W => votersB c hok W)
  have CO := hide (fun W => ofB c (votN c.vs 8) hok (vot64 c.vs) W)
  rw [of_vot c.vs 8 8 (Nat.le_refl _)] at CO
  generalize votN c.vs 8 = V at *
  generalize totN c.vs 8 = T at *
  clear hok
  go_enter Try.func102, Try.ntmps102
  go_wp2_with fail
  refine wp_region_vals (by kernel_rfl) [(3, .agg c.arr), (4, .agg c.arr), (5, .int .u64 ((V : Nat) : Int)), (6, .int .i64 ((T : Nat) : Int)), (2, .int .i64 ((T : Nat) : Int))] (by kernel_rfl) rfl ?_ ?_
  · intro i o hi A w1 hB hold hdeps
    have hX1 := HX.out.belowV hB
    have hlt : i < 5 := (Array.getElem?_eq_some_iff.1 hi).1
    have hc : i = 0 ∨ i = 1 ∨ i = 2 ∨ i = 3 ∨ i = 4 := by omega
    clear hlt
    rcases hc with rfl | rfl | rfl | rfl | rfl
    · obtain rfl := Option.some.inj hi
      have s1 : A.tmps.getD 1 undef = .pointer (some ⟨w.heap.size, 0, none⟩) := hold 1 (by kernel_rfl)
      exact v_pure hi rfl rfl (x_loadC _ HO.out s1 hX1)
    · obtain rfl := Option.some.inj hi
      have s1 : A.tmps.getD 1 undef = .pointer (some ⟨w.heap.size, 0, none⟩) := hold 1 (by kernel_rfl)
      exact v_pure hi rfl rfl (x_loadC _ HO.out s1 hX1)
    · obtain rfl := Option.some.inj hi
      have s4 : A.tmps.getD 4 undef = .agg c.arr := dep_of hdeps 1 (by kernel_rfl)
      exact v_enter hi rfl rfl (x_call 120 _ #[.agg c.arr] _ rfl (by simp only [List.map_toArray, List.map_cons, List.map_nil, show A.eval (.tmp 4) = .agg c.arr from s4]; try rfl) en_voters) (CV.out w1)
    · obtain rfl := Option.some.inj hi
      have s3 : A.tmps.getD 3 undef = .agg c.arr := dep_of hdeps 0 (by kernel_rfl)
      have s5 : A.tmps.getD 5 undef = .int .u64 ((V : Nat) : Int) := dep_of hdeps 2 (by kernel_rfl)
      exact v_enter hi rfl rfl (x_call 119 _ #[.agg c.arr, .int .u64 ((V : Nat) : Int)] _ rfl (by simp only [List.map_toArray, List.map_cons, List.map_nil, show A.eval (.tmp 3) = .agg c.arr from s3, show A.eval (.tmp 5) = .int .u64 ((V : Nat) : Int) from s5]; try rfl) en_of) (CO.out w1)
    · obtain rfl := Option.some.inj hi
      have s6 : A.tmps.getD 6 undef = .int .i64 ((T : Nat) : Int) := dep_of hdeps 3 (by kernel_rfl)
      exact v_pure hi rfl rfl (x_assign _ s6)
  · intro w1 hB
    simp only [putAll, Act.put, List.setIfInBounds_toArray, List.set_cons_succ, List.set_cons_zero]
    go_wp2_with fail
    go_ret
    exact ⟨rfl, HB.out.trans (hB.mono HB.out.size)⟩
end
section
open Go.RowKit

theorem arr_at {c : Cf} (h : c.Ok) (k : Nat) (hk : k < 8) : c.arr[3 + k]? = some (.int .u8 ((c.vs.getD k 0 : Nat) : Int)) := by
  have hl : k < c.vs.length := by rw [h.l]; exact hk
  rw [show 3 + k = k + 1 + 1 + 1 by omega]
  simp [Cf.arr, Cf.cells, votL, List.getD, hl]
theorem box_at {w : World} {b : Nat} {c : Cf} {t : TypeId} (h : c.Ok) (hb : Box w b c.arr t) (k : Nat) (hk : k < 8) : w.cell? ⟨b, 3 + k, none⟩ = some (.int .u8 ((c.vs.getD k 0 : Nat) : Int)) := hb.cell (3 + k) _ (arr_at h k hk)
set_option maxHeartbeats 400000 in
theorem rtotal_any (c : Cf) (hok : c.Ok) (w : World) :
    Calls Try.prog 104 #[.agg c.arr] w fun e w' => e = .returned (.int .i64 ((totN c.vs 8 : Nat) : Int)) ∧ Below w.heap.size w w' := by
  have hsz := hok.size
  have HO := hide hok
  have HB := hide (alloc_below w (.cells c.arr 55))
  clear hok
  go_enter Try.func104, Try.ntmps104
  go_wp2
  go_loop [3, 4] (fun x i => ∃ k : Nat, k ≤ 8 ∧ i = .int .i64 k ∧ x = .int .i64 ((totN c.vs k : Nat) : Int)) (fun _ i => 8 - (intOf i).toNat)
  case atStart => exact ⟨0, by omega, rfl, rfl⟩
  case round =>
    obtain ⟨k, hk, rfl, rfl⟩ := hrel
    by_cases hlt : k < 8
    · have hat := arr_at HO.out k hlt
      have hv := HO.out.at k
      have hu := HO.out.tot k
      have hkI : (k : Int) < 8 := by omega
      have HE : Hid (totN c.vs (k + 1) = totN c.vs k + c.vs.getD k 0) := rfl
      generalize c.vs.getD k 0 = x at *
      generalize totN c.vs k = o at *
      go_wp2
      go_round
      case rel => exact ⟨k + 1, by omega, by go_num, by rw [HE.out]; simp⟩
      case measure => simp [intOf]; omega
    · obtain rfl : k = 8 := by omega
      go_wp2
      go_ret
      exact ⟨rfl, HB.out⟩
end
end Go.Proofs.Ytodomdmmffooaaa
