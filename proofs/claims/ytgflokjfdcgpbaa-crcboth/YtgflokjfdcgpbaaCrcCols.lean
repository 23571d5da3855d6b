/-
  Walks of the program's maps by 32 columns: of, square, single, and after. Own work.
-/
import Derived.Test.YtgflokjfdcgpbaaCrcNum
import Derived.Deep.WholeRow
import Derived.Deep.MidRow
import Derived.Laws.ResultCell
namespace Go.Proofs.Ytgflokjfdcgpbaa
open Go.RowKit

/-- Columns as an array's cells. -/
def cellsL (ms : List Nat) : List Value := ms.map fun (m : Nat) => Value.int .u32 (m : Int)
def cellsN (ms : List Nat) : Array Value := (cellsL ms).toArray
theorem cellsL_length (ms : List Nat) : (cellsL ms).length = ms.length := by simp [cellsL]
theorem cellsN_size (ms : List Nat) : (cellsN ms).size = ms.length := by simp [cellsN, cellsL]
theorem cellsN_at (ms : List Nat) (k : Nat) (h : k < ms.length) : (cellsN ms)[k]? = some (.int .u32 (ms.getD k 0 : Nat)) := by
  simp [cellsN, cellsL, List.getD, h]
theorem cellsN_one (ms : List Nat) : (cellsN ms).all (·.oneCell') = true := by
  simp [cellsN, cellsL, Value.oneCell']
theorem infoS : (Try.prog.info? 44).map (fun i => (i.zero, i.size)) = some (some (.agg (Array.replicate 32 (.int .u32 0))), 32) := by kernel_rfl
theorem sizeS32 : (Try.prog.info? 44).map (·.size) = some 32 := (zero_of_info infoS).2
/-- Columns lie whole in a block of memory. -/
def Cols (w : World) (b : Nat) (ms : List Nat) : Prop := w.rangeAt b 0 (cellsL ms)
theorem Cols.new (w : World) (ms : List Nat) (t : TypeId) : Cols (w.alloc (.cells (cellsN ms) t)) w.heap.size ms := by
  intro j v hv
  rw [Nat.zero_add, cell_of_row _ _ j (cellsN ms) t (0, 0) (heap_alloc_last w _)]
  simpa [cellsN] using hv
theorem wp_load_cols {ops : Array Oper} {rest : List Oper} {op : Oper} {a : Act} {w : World} {Q : Exit → Act → World → Prop} (hgd : op.guard = none) (x : Operand) (ho : op.op = .load 44 x)
    (b : Nat) (hx : a.eval x = .pointer (some ⟨b, 0, none⟩)) (ms : List Nat) (hl : ms.length = 32) (hc : Cols w b ms)
    (h : wpList Try.prog ops Q rest (a.put op.dst (.agg (cellsN ms))) w) : wpList Try.prog ops Q (op :: rest) a w :=
  wpList_load_mid hgd 44 x ho b 0 hx (cellsL ms) _ hc Try.underlying44 rfl (by rw [cellsL_length, hl]; exact sizeS32) h
theorem index_cols (ms : List Nat) (k : Nat) (hl : ms.length = 32) (hk : k < 32) (W : World) :
    (Instr.index 44 (.agg (cellsN ms)) (.int .i64 (k : Int))).run Try.prog W = .ok (.int .u32 (ms.getD k 0 : Nat)) W := by
  have hat := cellsN_at ms k (by omega)
  have h1 : (0 : Int) ≤ (k : Int) ∧ (k : Int) < 32 := by omega
  have h2 : ¬ 32 ≤ k := by omega
  simp [Instr.index, asIntOf, Sem.run_bind, run_underlying Try.underlying44, h1, part, Try.sizeOf23, Try.isAgg23, hat, h2]
theorem pick_drop (ms : List Nat) (k v : Nat) (h : k < ms.length) : pick (ms.drop k) (v / 2 ^ k) = (if v / 2 ^ k % 2 = 1 then ms.getD k 0 else 0) ^^^ pick (ms.drop (k + 1)) (v / 2 ^ (k + 1)) := by
  rw [List.drop_eq_getElem_cons h, pick, Nat.pow_succ, Nat.div_div_eq_div_mul]
  simp [List.getD, h]

set_option maxHeartbeats 400000 in
theorem of_any (ms : List Nat) (v : Nat) (hl : ms.length = 32) (hm : ∀ m ∈ ms, m < 4294967296) (hv : v < 4294967296) (w : World) :
    Calls Try.prog 26 #[.agg (cellsN ms), .int .u32 v] w fun e w' => e = .returned (.int .u32 (pick ms v : Nat)) ∧ w' = w.alloc (.cells (cellsN ms) 44) := by
  have hsz := cellsN_size ms
  rw [hl] at hsz
  have HL := hide hl
  have HC := hide (Cols.new w ms 44)
  have HM := hide hm
  clear hl hm
  go_enter Try.func26, Try.ntmps26
  go_wp2_with (refine wp_load_cols rfl _ rfl _ rfl ms HL.out HC.out ?_)
  go_loop [5, 9] (fun x i => ∃ k m : Nat, k ≤ 32 ∧ i = .int .i64 k ∧ x = .int .u32 m ∧ m < 4294967296 ∧ Hid (m ^^^ pick (ms.drop k) (v / 2 ^ k) = pick ms v)) (fun _ i => 32 - (intOf i).toNat)
  case atStart => exact ⟨0, 0, by omega, rfl, rfl, by decide, hide (by simp)⟩
  case round =>
    obtain ⟨k, m, hk, rfl, rfl, hmm, HK⟩ := hrel
    by_cases hlt : k < 32
    · have hat := cellsN_at ms k (by rw [HL.out]; exact hlt)
      have hidx := index_cols ms k HL.out hlt
      have hc := HM.out (ms.getD k 0) (by have := HL.out; simp [List.getD, this, hlt])
      have HE := hide (pick_drop ms k v (by rw [HL.out]; exact hlt))
      generalize ms.getD k 0 = c at *
      clear hat
      have hand : bits .and .u32 ((v : Int) / 2 ^ k) 1 = ((v / 2 ^ k % 2 : Nat) : Int) := by
        have hq : v / 2 ^ k < 4294967296 := Nat.lt_of_le_of_lt (Nat.div_le_self _ _) hv
        have := and1 (v / 2 ^ k) hq
        simpa using this
      by_cases hbit : v / 2 ^ k % 2 = 1
      · rw [hbit] at hand
        have hand1 : (bits .and .u32 ((v : Int) / 2 ^ k) 1 == 1) = true := by rw [hand]; rfl
        clear hand
        have hx := xor32 m c hmm hc
        have HN : Hid ((m ^^^ c) ^^^ pick (ms.drop (k + 1)) (v / 2 ^ (k + 1)) = pick ms v) := hide (by rw [← HK.out, HE.out, if_pos hbit, Nat.xor_assoc])
        have hlt2 := xor_lt32 hmm hc
        clear hbit
        go_wp2
        go_round
        case rel => exact ⟨k + 1, m ^^^ c, by omega, by go_num, rfl, hlt2, HN⟩
        case measure => simp [intOf]; omega
      · have hand1 : (bits .and .u32 ((v : Int) / 2 ^ k) 1 == 1) = false := by
          rw [hand]
          have : v / 2 ^ k % 2 = 0 := by omega
          rw [this]; rfl
        clear hand
        have HN : Hid (m ^^^ pick (ms.drop (k + 1)) (v / 2 ^ (k + 1)) = pick ms v) := hide (by rw [← HK.out, HE.out, if_neg hbit, Nat.zero_xor])
        clear hbit
        go_wp2
        go_round
        case rel => exact ⟨k + 1, m, by omega, by go_num, rfl, hmm, HN⟩
        case measure => simp [intOf]; omega
    · obtain rfl : k = 32 := by omega
      have HN : Hid (m = pick ms v) := hide (by rw [← HK.out, List.drop_of_length_le (by rw [HL.out]; exact Nat.le_refl _)]; simp [pick])
      go_wp2
      go_ret
      exact ⟨ret_int (by rw [HN.out]), rfl⟩

theorem pick_lt : ∀ (ms : List Nat) (v : Nat), (∀ m ∈ ms, m < 4294967296) → pick ms v < 4294967296
  | [], _, _ => by simp [pick]
  | m :: ms, v, h => by
    unfold pick
    refine xor_lt32 ?_ (pick_lt ms (v / 2) (fun x hx => h x (by simp [hx])))
    split
    · exact h m (by simp)
    · decide

/-- So far filled: the rest is 0 still. -/
def filled (ms : List Nat) (k : Nat) : List Nat := ms.take k ++ List.replicate (32 - k) 0
theorem filled_length (ms : List Nat) (k : Nat) (hl : ms.length = 32) (hk : k ≤ 32) : (filled ms k).length = 32 := by simp [filled]; omega
theorem filled_zero (ms : List Nat) : cellsN (filled ms 0) = Array.replicate 32 (.int .u32 0) := by simp [filled, cellsN, cellsL]; rfl
theorem filled_all (ms : List Nat) (hl : ms.length = 32) : filled ms 32 = ms := by simp [filled, ← hl]
theorem filled_next (ms : List Nat) (k : Nat) (hl : ms.length = 32) (hk : k < 32) : (cellsN (filled ms k)).setIfInBounds k (.int .u32 (ms.getD k 0 : Nat)) = cellsN (filled ms (k + 1)) := by
  unfold cellsN
  rw [List.setIfInBounds_toArray]
  congr 1
  apply List.ext_getElem?
  intro i
  have h1 : (cellsL (filled ms k)).length = 32 := by rw [cellsL_length, filled_length ms k hl (by omega)]
  rw [List.getElem?_set, h1]
  by_cases hi : k = i
  · subst hi
    rw [if_pos rfl, if_pos hk]
    simp [cellsL, filled, List.getElem?_append, hl, hk, List.getD]
    intro hh
    omega
  · rw [if_neg hi]
    simp only [cellsL, filled, List.getElem?_map, List.getElem?_append, List.length_take, hl]
    by_cases h2 : i < k
    · rw [if_pos (by omega), if_pos (by omega)]
      simp [h2, show i < k + 1 by omega]
    · rw [if_neg (by omega), if_neg (by omega)]
      simp only [List.getElem?_replicate]
      congr 1
      by_cases h3 : i < 32
      · rw [if_pos (by omega), if_pos (by omega)]
      · rw [if_neg (by omega), if_neg (by omega)]
end Go.Proofs.Ytgflokjfdcgpbaa
