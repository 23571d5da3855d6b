/-
  A configuration as cells: in a variable, as a value, its votes by their places. Own work.
-/
import Derived.Test.YtnljibmdcknmeabDoorWiths
import Derived.Test.YtnljibmdcknmeabDoorVtPlain
import Derived.Test.YtnljibmdcknmeabDoorBoxes
import Derived.Deep.MidRow
namespace Go.Proofs.YtnljibmdcknmeabDoor
open Go.RowKit

/-- A configuration. -/
structure Cf where
  e : Nat
  r : Nat
  w : Nat
  vs : List Nat
structure Cf.Ok (c : Cf) : Prop where
  e : c.e < 4294967296
  r : c.r < 256
  w : c.w < 256
  l : c.vs.length = 8
  v : ∀ v ∈ c.vs, v < 256
def votL (vs : List Nat) : List Value := vs.map fun (v : Nat) => Value.int .u8 (v : Int)
def votC (vs : List Nat) : Array Value := (votL vs).toArray
def Cf.cells (c : Cf) : List Value := .int .u32 (c.e : Int) :: .int .u8 (c.r : Int) :: .int .u8 (c.w : Int) :: votL c.vs
def Cf.arr (c : Cf) : Array Value := c.cells.toArray
theorem votL_len (vs : List Nat) : (votL vs).length = vs.length := by simp [votL]
theorem Cf.Ok.size {c : Cf} (h : c.Ok) : c.arr.size = 11 := by simp [Cf.arr, Cf.cells, votL_len, h.l]
theorem Cf.one (c : Cf) : c.arr.all (·.oneCell') = true := by simp [Cf.arr, Cf.cells, votL, Value.oneCell']
theorem Cf.Ok.at {c : Cf} (h : c.Ok) (k : Nat) : c.vs.getD k 0 < 256 := by
  rw [List.getD_eq_getElem?_getD]
  cases hx : c.vs[k]? with
  | none => simp
  | some x => exact h.v x (List.mem_of_getElem? hx)
theorem Cf.Ok.tot {c : Cf} (h : c.Ok) (k : Nat) : totN c.vs k ≤ 255 * k := tot_le c.vs 255 (fun v hv => by have := h.v v hv; omega) k
theorem Cf.Ok.of {c : Cf} (h : c.Ok) (s k : Nat) : ofN c.vs s k ≤ 255 * k := Nat.le_trans (of_le c.vs s k) (h.tot k)
theorem votC_at (vs : List Nat) (k : Nat) (h : k < vs.length) : (votC vs)[k]? = some (.int .u8 ((vs.getD k 0 : Nat) : Int)) := by
  simp [votC, votL, List.getD, h]
theorem arr_range {w : World} {b : Nat} {c : Cf} {t : TypeId} (h : Box w b c.arr t) : w.rangeAt b 0 c.cells := fun j v hv => by
  rw [Nat.zero_add]; exact h.cell j v (by simpa [Cf.arr] using hv)
theorem arr_votes {w : World} {b : Nat} {c : Cf} {t : TypeId} (h : Box w b c.arr t) : w.rangeAt b 3 (votL c.vs) := fun j v hv => by
  refine h.cell (3 + j) v ?_
  rw [show 3 + j = j + 1 + 1 + 1 by omega]
  simpa [Cf.arr, Cf.cells] using hv
theorem arr_e {w : World} {b : Nat} {c : Cf} {t : TypeId} (h : Box w b c.arr t) : w.cell? ⟨b, 0, none⟩ = some (.int .u32 (c.e : Int)) := h.cell 0 _ rfl
theorem arr_r {w : World} {b : Nat} {c : Cf} {t : TypeId} (h : Box w b c.arr t) : w.cell? ⟨b, 1, none⟩ = some (.int .u8 (c.r : Int)) := h.cell 1 _ rfl
theorem arr_w {w : World} {b : Nat} {c : Cf} {t : TypeId} (h : Box w b c.arr t) : w.cell? ⟨b, 2, none⟩ = some (.int .u8 (c.w : Int)) := h.cell 2 _ rfl
theorem infoCfg : (Tryd.prog.info? 25).map (·.size) = some 11 := by kernel_rfl
theorem infoArr8 : (Tryd.prog.info? 23).map (·.size) = some 8 := by kernel_rfl
/-- The whole is loaded. -/
theorem wp_load_cfg {ops : Array Oper} {rest : List Oper} {op : Oper} {a : Act} {w : World} {Q : Exit → Act → World → Prop} (hgd : op.guard = none) (x : Operand) (ho : op.op = .load 25 x)
    (b : Nat) (hx : a.eval x = .pointer (some ⟨b, 0, none⟩)) {c : Cf} {t : TypeId} (hok : c.Ok) (hb : Box w b c.arr t)
    (h : wpList Tryd.prog ops Q rest (a.put op.dst (.agg c.arr)) w) : wpList Tryd.prog ops Q (op :: rest) a w :=
  wp_load_box hgd x ho b hx hb Tryd.underlying25 rfl (by rw [hok.size]; exact infoCfg) h
/-- Its votes are. -/
theorem wp_load_votes {ops : Array Oper} {rest : List Oper} {op : Oper} {a : Act} {w : World} {Q : Exit → Act → World → Prop} (hgd : op.guard = none) (x : Operand) (ho : op.op = .load 23 x)
    (b : Nat) (hx : a.eval x = .pointer (some ⟨b, 3, none⟩)) {c : Cf} {t : TypeId} (hok : c.Ok) (hb : Box w b c.arr t)
    (h : wpList Tryd.prog ops Q rest (a.put op.dst (.agg (votC c.vs))) w) : wpList Tryd.prog ops Q (op :: rest) a w :=
  wpList_load_mid hgd 23 x ho b 3 hx (votL c.vs) _ (arr_votes hb) Tryd.underlying23 rfl (by rw [votL_len, hok.l]; exact infoArr8) h
theorem index_votes (vs : List Nat) (k : Nat) (hl : vs.length = 8) (hk : k < 8) (W : World) :
    (Instr.index 23 (.agg (votC vs)) (.int .i64 (k : Int))).run Tryd.prog W = .ok (.int .u8 ((vs.getD k 0 : Nat) : Int)) W := by
  have hat := votC_at vs k (by omega)
  have h1 : (0 : Int) ≤ (k : Int) ∧ (k : Int) < 8 := by omega
  have h2 : ¬ 8 ≤ k := by omega
  simp [Instr.index, asIntOf, Sem.run_bind, run_underlying Tryd.underlying23, h1, part, Tryd.sizeOf5, Tryd.isAgg5, hat, h2]
set_option maxHeartbeats 400000 in
theorem of_any (c : Cf) (s : Nat) (hok : c.Ok) (hs : s < 18446744073709551616) (w : World) :
    Calls Tryd.prog 10 #[.agg c.arr, .int .u64 s] w fun e w' => e = .returned (.int .i64 ((ofN c.vs s 8 : Nat) : Int)) ∧ w' = w.alloc (.cells c.arr 25) := by
  have hsz := hok.size
  have HO := hide hok
  have HB := hide (box_new w c.arr 25)
  clear hok
  go_enter Tryd.func10, Tryd.ntmps10
  go_wp2_with (refine wp_load_votes rfl _ rfl _ rfl HO.out HB.out ?_)
  go_loop [5, 10] (fun x i => ∃ k : Nat, k ≤ 8 ∧ i = .int .i64 k ∧ x = .int .i64 ((ofN c.vs s k : Nat) : Int)) (fun _ i => 8 - (intOf i).toNat)
  case atStart => exact ⟨0, by omega, rfl, rfl⟩
  case round =>
    obtain ⟨k, hk, rfl, rfl⟩ := hrel
    by_cases hlt : k < 8
    · have hidx := index_votes c.vs k HO.out.l hlt
      have hv := HO.out.at k
      have hu := HO.out.of s k
      have CH := hide (fun w => has_in s k hs (by omega) w)
      have HE : Hid (ofN c.vs s (k + 1) = ofN c.vs s k + (if s.testBit k then c.vs.getD k 0 else 0)) := rfl
      generalize c.vs.getD k 0 = x at *
      generalize ofN c.vs s k = o at *
      cases hb : s.testBit k
      · rw [hb] at CH HE
        go_wp2_with (go_at_call 26; refine (CH.out _).mono ?_; rintro e w' ⟨rfl, hw'⟩; rw [hw']; clear hw')
        go_round
        case rel => exact ⟨k + 1, by omega, by go_num, by rw [HE.out]; rfl⟩
        case measure => simp [intOf]; omega
      · rw [hb] at CH HE
        go_wp2_with (go_at_call 26; refine (CH.out _).mono ?_; rintro e w' ⟨rfl, hw'⟩; rw [hw']; clear hw')
        go_round
        case rel => exact ⟨k + 1, by omega, by go_num, by rw [HE.out]; simp⟩
        case measure => simp [intOf]; omega
    · obtain rfl : k = 8 := by omega
      go_wp2
      go_ret
      exact ⟨rfl, rfl⟩
set_option maxHeartbeats 400000 in
theorem voters_any (c : Cf) (hok : c.Ok) (w : World) :
    Calls Tryd.prog 7 #[.agg c.arr] w fun e w' => e = .returned (.int .u64 ((votN c.vs 8 : Nat) : Int)) ∧ w' = w.alloc (.cells c.arr 25) := by
  have hsz := hok.size
  have HO := hide hok
  have HB := hide (box_new w c.arr 25)
  clear hok
  go_enter Tryd.func7, Tryd.ntmps7
  go_wp2_with (refine wp_load_votes rfl _ rfl _ rfl HO.out HB.out ?_)
  go_loop [3, 8] (fun x i => ∃ k : Nat, k ≤ 8 ∧ i = .int .i64 k ∧ x = .int .u64 ((votN c.vs k : Nat) : Int)) (fun _ i => 8 - (intOf i).toNat)
  case atStart => exact ⟨0, by omega, rfl, rfl⟩
  case round =>
    obtain ⟨k, hk, rfl, rfl⟩ := hrel
    by_cases hlt : k < 8
    · have hidx := index_votes c.vs k HO.out.l hlt
      have hu : votN c.vs k < 18446744073709551616 := Nat.lt_of_lt_of_le (vot_lt c.vs k) (by have := Nat.pow_le_pow_right (n := 2) (by decide) hk; omega)
      have CH := hide (fun w => with_in (votN c.vs k) k hu (by omega) w)
      have HE : Hid (votN c.vs (k + 1) = if 0 < c.vs.getD k 0 then withN (votN c.vs k) k else votN c.vs k) := rfl
      generalize c.vs.getD k 0 = x at *
      by_cases hb : 0 < x
      · rw [if_pos hb] at HE
        have hx : decide ((x : Int) > 0) = true := decide_eq_true (by omega)
        go_wp2_with (go_at_call 23; refine (CH.out _).mono ?_; rintro e w' ⟨rfl, hw'⟩; rw [hw']; clear hw')
        go_round
        case rel => exact ⟨k + 1, by omega, by go_num, by rw [HE.out]⟩
        case measure => simp [intOf]; omega
      · rw [if_neg hb] at HE
        obtain rfl : x = 0 := by omega
        go_wp2
        go_round
        case rel => exact ⟨k + 1, by omega, by go_num, by rw [HE.out]⟩
        case measure => simp [intOf]; omega
    · obtain rfl : k = 8 := by omega
      go_wp2
      go_ret
      exact ⟨rfl, rfl⟩
end Go.Proofs.YtnljibmdcknmeabDoor
