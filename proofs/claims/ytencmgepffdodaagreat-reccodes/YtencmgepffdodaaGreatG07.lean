/-
  Own texts put together: VtPlain, VtCfg. Own work.
-/
import Derived.Test.YtencmgepffdodaaGreatG06
import Derived.Test.YtencmgepffdodaaGreatG01
import Derived.Deep.MidRow
namespace Go.Proofs.YtencmgepffdodaaGreat
section
open Go

/-- The votes of a set's nodes below k. -/
def ofN (vs : List Nat) (s : Nat) : Nat → Nat
  | 0 => 0
  | k + 1 => ofN vs s k + (if s.testBit k then vs.getD k 0 else 0)
/-- The voters below k. -/
def votN (vs : List Nat) : Nat → Nat
  | 0 => 0
  | k + 1 => if 0 < vs.getD k 0 then withN (votN vs k) k else votN vs k
/-- All votes of the nodes below k. -/
def totN (vs : List Nat) : Nat → Nat
  | 0 => 0
  | k + 1 => totN vs k + vs.getD k 0
/-- A part, bit by bit. -/
def Part (a b : Nat) : Prop := ∀ i, a.testBit i = true → b.testBit i = true
theorem with_other (s n i : Nat) (h : i ≠ n) : (withN s n).testBit i = s.testBit i := by
  rw [← or_with, Nat.testBit_or, Nat.testBit_two_pow]
  have e : ¬ n = i := fun e => h e.symm
  simp [e]
theorem vot_bit (vs : List Nat) (i : Nat) : ∀ k, (votN vs k).testBit i = (decide (i < k) && decide (0 < vs.getD i 0))
  | 0 => by simp [votN]
  | k + 1 => by
    rw [votN]
    split
    · rename_i h
      by_cases e : i = k
      · subst e; rw [with_bit]; simp only [Nat.lt_succ_self, decide_true, Bool.true_and]; exact (decide_eq_true h).symm
      · rw [with_other _ _ _ e, vot_bit vs i k]
        have : (i < k + 1) ↔ (i < k) := by omega
        simp [this]
    · rename_i h
      rw [vot_bit vs i k]
      by_cases e : i = k
      · subst e; simp only [Nat.lt_irrefl, decide_false, Bool.false_and]; rw [decide_eq_false h]; simp
      · have : (i < k + 1) ↔ (i < k) := by omega
        simp [this]
theorem lt_of_bits (x m : Nat) (h : ∀ i, x.testBit i = true → i < m) : x < 2 ^ m := by
  refine Nat.lt_pow_two_of_testBit x (fun i hi => ?_)
  cases hb : x.testBit i
  · rfl
  · have := h i hb; omega
theorem vot_lt (vs : List Nat) (k : Nat) : votN vs k < 2 ^ k := by
  refine lt_of_bits _ _ (fun i h => ?_)
  rw [vot_bit] at h
  simp at h
  exact h.1
theorem Part.trans {a b c : Nat} (h : Part a b) (h' : Part b c) : Part a c := fun i hi => h' i (h i hi)
theorem of_vot (vs : List Nat) (K : Nat) : ∀ k, k ≤ K → ofN vs (votN vs K) k = totN vs k
  | 0, _ => rfl
  | k + 1, h => by
    rw [ofN, totN, of_vot vs K k (by omega), vot_bit]
    have hk : decide (k < K) = true := decide_eq_true (by omega)
    rw [hk, Bool.true_and]
    by_cases h0 : 0 < vs.getD k 0
    · rw [decide_eq_true h0, if_pos rfl]
    · rw [decide_eq_false h0, if_neg (by decide)]; omega
theorem of_le (vs : List Nat) (a : Nat) : ∀ k, ofN vs a k ≤ totN vs k
  | 0 => Nat.le_refl _
  | k + 1 => by
    have := of_le vs a k
    rw [ofN, totN]
    split <;> omega
theorem tot_le (vs : List Nat) (m : Nat) (h : ∀ v ∈ vs, v ≤ m) : ∀ k, totN vs k ≤ m * k
  | 0 => Nat.le_refl _
  | k + 1 => by
    have := tot_le vs m h k
    have h1 : vs.getD k 0 ≤ m := by
      rw [List.getD_eq_getElem?_getD]
      cases hx : vs[k]? with
      | none => simp
      | some x => exact h x (List.mem_of_getElem? hx)
    rw [totN, Nat.mul_succ]
    omega
theorem vot256 (vs : List Nat) : votN vs 8 < 256 := vot_lt vs 8
end
section
open Go.RowKit

/-- A configuration. -/
structure Cf where
  e : Nat
  r : Nat
  w : Nat
  vs : List Nat
structure Cf.Ok (c : Cf) : Prop where
  e : c.e < 4294967296
  r : c.r < 256
  w : c.w < 256
  l : c.vs.length = 8
  v : ∀ v ∈ c.vs, v < 256
def votL (vs : List Nat) : List Value := vs.map fun (v : Nat) => Value.int .u8 (v : Int)
def votC (vs : List Nat) : Array Value := (votL vs).toArray
def Cf.cells (c : Cf) : List Value := .int .u32 (c.e : Int) :: .int .u8 (c.r : Int) :: .int .u8 (c.w : Int) :: votL c.vs
def Cf.arr (c : Cf) : Array Value := c.cells.toArray
theorem votL_len (vs : List Nat) : (votL vs).length = vs.length := by simp [votL]
theorem Cf.Ok.size {c : Cf} (h : c.Ok) : c.arr.size = 11 := by simp [Cf.arr, Cf.cells, votL_len, h.l]
theorem Cf.one (c : Cf) : c.arr.all (·.oneCell') = true := by simp [Cf.arr, Cf.cells, votL, Value.oneCell']
theorem Cf.Ok.at {c : Cf} (h : c.Ok) (k : Nat) : c.vs.getD k 0 < 256 := by
  rw [List.getD_eq_getElem?_getD]
  cases hx : c.vs[k]? with
  | none => simp
  | some x => exact h.v x (List.mem_of_getElem? hx)
theorem Cf.Ok.tot {c : Cf} (h : c.Ok) (k : Nat) : totN c.vs k ≤ 255 * k := tot_le c.vs 255 (fun v hv => by have := h.v v hv; omega) k
theorem Cf.Ok.of {c : Cf} (h : c.Ok) (s k : Nat) : ofN c.vs s k ≤ 255 * k := Nat.le_trans (of_le c.vs s k) (h.tot k)
theorem votC_at (vs : List Nat) (k : Nat) (h : k < vs.length) : (votC vs)[k]? = some (.int .u8 ((vs.getD k 0 : Nat) : Int)) := by
  simp [votC, votL, List.getD, h]
theorem arr_range {w : World} {b : Nat} {c : Cf} {t : TypeId} (h : Box w b c.arr t) : w.rangeAt b 0 c.cells := fun j v hv => by
  rw [Nat.zero_add]; exact h.cell j v (by simpa [Cf.arr] using hv)
theorem arr_votes {w : World} {b : Nat} {c : Cf} {t : TypeId} (h : Box w b c.arr t) : w.rangeAt b 3 (votL c.vs) := fun j v hv => by
  refine h.cell (3 + j) v ?_
  rw [show 3 + j = j + 1 + 1 + 1 by omega]
  simpa [Cf.arr, Cf.cells] using hv
theorem arr_e {w : World} {b : Nat} {c : Cf} {t : TypeId} (h : Box w b c.arr t) : w.cell? ⟨b, 0, none⟩ = some (.int .u32 (c.e : Int)) := h.cell 0 _ rfl
theorem arr_r {w : World} {b : Nat} {c : Cf} {t : TypeId} (h : Box w b c.arr t) : w.cell? ⟨b, 1, none⟩ = some (.int .u8 (c.r : Int)) := h.cell 1 _ rfl
theorem arr_w {w : World} {b : Nat} {c : Cf} {t : TypeId} (h : Box w b c.arr t) : w.cell? ⟨b, 2, none⟩ = some (.int .u8 (c.w : Int)) := h.cell 2 _ rfl
theorem infoCfg : (Tryz.prog.info? 33).map (·.size) = some 11 := by kernel_rfl
theorem infoArr8 : (Tryz.prog.info? 30).map (·.size) = some 8 := by kernel_rfl
/-- The whole is loaded. -/
theorem wp_load_cfg {ops : Array Oper} {rest : List Oper} {op : Oper} {a : Act} {w : World} {Q : Exit → Act → World → Prop} (hgd : op.guard = none) (x : Operand) (ho : op.op = .load 33 x)
    (b : Nat) (hx : a.eval x = .pointer (some ⟨b, 0, none⟩)) {c : Cf} {t : TypeId} (hok : c.Ok) (hb : Box w b c.arr t)
    (h : wpList Tryz.prog ops Q rest (a.put op.dst (.agg c.arr)) w) : wpList Tryz.prog ops Q (op :: rest) a w :=
  wp_load_box hgd x ho b hx hb Tryz.underlying33 rfl (by rw [hok.size]; exact infoCfg) h
/-- Its votes are. -/
theorem wp_load_votes {ops : Array Oper} {rest : List Oper} {op : Oper} {a : Act} {w : World} {Q : Exit → Act → World → Prop} (hgd : op.guard = none) (x : Operand) (ho : op.op = .load 30 x)
    (b : Nat) (hx : a.eval x = .pointer (some ⟨b, 3, none⟩)) {c : Cf} {t : TypeId} (hok : c.Ok) (hb : Box w b c.arr t)
    (h : wpList Tryz.prog ops Q rest (a.put op.dst (.agg (votC c.vs))) w) : wpList Tryz.prog ops Q (op :: rest) a w :=
  wpList_load_mid hgd 30 x ho b 3 hx (votL c.vs) _ (arr_votes hb) Tryz.underlying30 rfl (by rw [votL_len, hok.l]; exact infoArr8) h
theorem index_votes (vs : List Nat) (k : Nat) (hl : vs.length = 8) (hk : k < 8) (W : World) :
    (Instr.index 30 (.agg (votC vs)) (.int .i64 (k : Int))).run Tryz.prog W = .ok (.int .u8 ((vs.getD k 0 : Nat) : Int)) W := by
  have hat := votC_at vs k (by omega)
  have h1 : (0 : Int) ≤ (k : Int) ∧ (k : Int) < 8 := by omega
  have h2 : ¬ 8 ≤ k := by omega
  simp [Instr.index, asIntOf, Sem.run_bind, run_underlying Tryz.underlying30, h1, part, Tryz.sizeOf5, Tryz.isAgg5, hat, h2]
set_option maxHeartbeats 400000 in
theorem of_any (c : Cf) (s : Nat) (hok : c.Ok) (hs : s < 18446744073709551616) (w : World) :
    Calls Tryz.prog 179 #[.agg c.arr, .int .u64 s] w fun e w' => e = .returned (.int .i64 ((ofN c.vs s 8 : Nat) : Int)) ∧ w' = w.alloc (.cells c.arr 33) := by
  have hsz := hok.size
  have HO := hide hok
  have HB := hide (box_new w c.arr 33)
  clear hok
  go_enter Tryz.func179, Tryz.ntmps179
  go_wp2_with (refine wp_load_votes rfl _ rfl _ rfl HO.out HB.out ?_)
  go_loop [5, 10] (fun x i => ∃ k : Nat, k ≤ 8 ∧ i = .int .i64 k ∧ x = .int .i64 ((ofN c.vs s k : Nat) : Int)) (fun _ i => 8 - (intOf i).toNat)
  case atStart => exact ⟨0, by omega, rfl, rfl⟩
  case round =>
    obtain ⟨k, hk, rfl, rfl⟩ := hrel
    by_cases hlt : k < 8
    · have hidx := index_votes c.vs k HO.out.l hlt
      have hv := HO.out.at k
      have hu := HO.out.of s k
      have CH := hide (fun w => has_in s k hs (by omega) w)
      have HE : Hid (ofN c.vs s (k + 1) = ofN c.vs s k + (if s.testBit k then c.vs.getD k 0 else 0)) := rfl
      generalize c.vs.getD k 0 = x at *
      generalize ofN c.vs s k = o at *
      cases hb : s.testBit k
      · rw [hb] at CH HE
        go_wp2_with (go_at_call 58; refine (CH.out _).mono ?_; rintro e w' ⟨rfl, hw'⟩; rw [hw']; clear hw')
        go_round
        case rel => exact ⟨k + 1, by omega, by go_num, by rw [HE.out]; rfl⟩
        case measure => simp [intOf]; omega
      · rw [hb] at CH HE
        go_wp2_with (go_at_call 58; refine (CH.out _).mono ?_; rintro e w' ⟨rfl, hw'⟩; rw [hw']; clear hw')
        go_round
        case rel => exact ⟨k + 1, by omega, by go_num, by rw [HE.out]; simp⟩
        case measure => simp [intOf]; omega
    · obtain rfl : k = 8 := by omega
      go_wp2
      go_ret
      exact ⟨rfl, rfl⟩
set_option maxHeartbeats 400000 in
theorem voters_any (c : Cf) (hok : c.Ok) (w : World) :
    Calls Tryz.prog 180 #[.agg c.arr] w fun e w' => e = .returned (.int .u64 ((votN c.vs 8 : Nat) : Int)) ∧ w' = w.alloc (.cells c.arr 33) := by
  have hsz := hok.size
  have HO := hide hok
  have HB := hide (box_new w c.arr 33)
  clear hok
  go_enter Tryz.func180, Tryz.ntmps180
  go_wp2_with (refine wp_load_votes rfl _ rfl _ rfl HO.out HB.out ?_)
  go_loop [3, 8] (fun x i => ∃ k : Nat, k ≤ 8 ∧ i = .int .i64 k ∧ x = .int .u64 ((votN c.vs k : Nat) : Int)) (fun _ i => 8 - (intOf i).toNat)
  case atStart => exact ⟨0, by omega, rfl, rfl⟩
  case round =>
    obtain ⟨k, hk, rfl, rfl⟩ := hrel
    by_cases hlt : k < 8
    · have hidx := index_votes c.vs k HO.out.l hlt
      have hu : votN c.vs k < 18446744073709551616 := Nat.lt_of_lt_of_le (vot_lt c.vs k) (by have := Nat.pow_le_pow_right (n := 2) (by decide) hk; omega)
      have CH := hide (fun w => with_in (votN c.vs k) k hu (by omega) w)
      have HE : Hid (votN c.vs (k + 1) = if 0 < c.vs.getD k 0 then withN (votN c.vs k) k else votN c.vs k) := rfl
      generalize c.vs.getD k 0 = x at *
      by_cases hb : 0 < x
      · rw [if_pos hb] at HE
        have hx : decide ((x : Int) > 0) = true := decide_eq_true (by omega)
        go_wp2_with (go_at_call 161; refine (CH.out _).mono ?_; rintro e w' ⟨rfl, hw'⟩; rw [hw']; clear hw')
        go_round
        case rel => exact ⟨k + 1, by omega, by go_num, by rw [HE.out]⟩
        case measure => simp [intOf]; omega
      · rw [if_neg hb] at HE
        obtain rfl : x = 0 := by omega
        go_wp2
        go_round
        case rel => exact ⟨k + 1, by omega, by go_num, by rw [HE.out]⟩
        case measure => simp [intOf]; omega
    · obtain rfl : k = 8 := by omega
      go_wp2
      go_ret
      exact ⟨rfl, rfl⟩
end
end Go.Proofs.YtencmgepffdodaaGreat
