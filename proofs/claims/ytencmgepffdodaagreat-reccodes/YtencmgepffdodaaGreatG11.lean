/-
  Own texts put together: MgVals, IdBox, MgLaw. Own work.
-/
import Derived.Test.YtencmgepffdodaaGreatG10
import Derived.Test.YtencmgepffdodaaGreatG03
import Derived.Test.YtencmgepffdodaaGreatG01
import Derived.Laws.StructEq
import Derived.Laws.BytesArg
import Derived.BigQuiet
import Derived.Deep.QuietTactic
import Derived.Deep.LoopGhost
namespace Go.Proofs.YtencmgepffdodaaGreat
section
open Go.RowKit Classical

/-- One of eight, under a name that simp leaves alone. -/
def at8 (k : List Int) (i : Nat) : Int := k.getD i 0
def atN (k : List Nat) (i : Nat) : Int := ((k.getD i 0 : Nat) : Int)
/-- The cells of eight bytes, of a configuration, an item, a write, a message whose writes lie at p. -/
abbrev eightE (k : List Int) : List Value := [.int .u8 (at8 k 0), .int .u8 (at8 k 1), .int .u8 (at8 k 2), .int .u8 (at8 k 3), .int .u8 (at8 k 4), .int .u8 (at8 k 5), .int .u8 (at8 k 6), .int .u8 (at8 k 7)]
abbrev votE (k : List Nat) : List Value := [.int .u8 (atN k 0), .int .u8 (atN k 1), .int .u8 (atN k 2), .int .u8 (atN k 3), .int .u8 (atN k 4), .int .u8 (atN k 5), .int .u8 (atN k 6), .int .u8 (atN k 7)]
abbrev cfE (c : Cf) : List Value := .int .u32 (c.e : Int) :: .int .u8 (c.r : Int) :: .int .u8 (c.w : Int) :: votE c.vs
abbrev itE (i : ItP) : List Value := .int .u32 (i.ver : Int) :: .string (strOfNums i.val) :: cfE i.cf
abbrev wrE (x : WrP) : List Value := eightE x.key ++ itE x.it
abbrev txE (t : TxN) : List Value := [.int .u8 (t.1 : Int), .int .u32 (t.2.1 : Int), .int .u32 (t.2.2 : Int)]
abbrev rgE (g : Nat × Nat) : List Value := [.int .u32 (g.1 : Int), .int .u32 (g.2 : Int)]
abbrev msgE (m : MsgP) (p : Value) : List Value := .int .u8 (m.kind : Int) :: (txE m.tx ++ .int .u32 (m.time : Int) :: (rgE m.reg ++ (eightE m.key ++ .int .u8 (m.mode : Int) :: .int .u32 (m.no : Int) :: .int .u8 (m.why : Int) :: .int .u8 (m.yes : Int) :: (itE m.item ++ [p]))))
abbrev eightA (k : List Int) : Array Value := (eightE k).toArray
abbrev itA (i : ItP) : Array Value := (itE i).toArray
abbrev wrA (x : WrP) : Array Value := (wrE x).toArray
abbrev msgA (m : MsgP) (p : Value) : Array Value := (msgE m p).toArray
theorem eightE_map {k : List Int} (h : k.length = 8) : eightE k = k.map (Value.int .u8) := by
  match k, h with
  | [_, _, _, _, _, _, _, _], _ => rfl
theorem votE_map {k : List Nat} (h : k.length = 8) : votE k = votL k := by
  match k, h with
  | [_, _, _, _, _, _, _, _], _ => rfl
theorem cfE_cells {c : Cf} (h : c.Ok) : cfE c = c.cells := by
  show Value.int .u32 (c.e : Int) :: .int .u8 (c.r : Int) :: .int .u8 (c.w : Int) :: votE c.vs = _
  rw [votE_map h.l]
  rfl
theorem wr_one (x : WrP) : ∀ u ∈ wrE x, u.oneCell' = true := by
  intro u hu
  simp at hu
  rcases hu with rfl | rfl | rfl | rfl | rfl | rfl | rfl | rfl | rfl | rfl | rfl | rfl | rfl | rfl | rfl | rfl | rfl | rfl | rfl | rfl | rfl <;> rfl
def zeroWr : WrP := ⟨[0, 0, 0, 0, 0, 0, 0, 0], zeroIt⟩
theorem recWR : Rec 28 61 21 wrE := ⟨Tryz.underlying28, rec_info (z := .agg (wrA zeroWr)) (K := 21) (B := 48) (by kernel_rfl) rfl (by decide), by decide, fun _ => rfl⟩
theorem infoWrite : (Tryz.prog.info? 61).map (·.size) = some 21 := by kernel_rfl
theorem infoItem : (Tryz.prog.info? 35).map (·.size) = some 13 := by kernel_rfl
/-- Texts are the same where their bytes are. -/
theorem str_same {a b : List Int} (ha : ∀ c ∈ a, 0 ≤ c ∧ c < 256) (hb : ∀ c ∈ b, 0 ≤ c ∧ c < 256) : ((strOfNums a).toList == (strOfNums b).toList) = decide (a = b) := by
  rw [Bool.eq_iff_iff, beq_iff_eq, decide_eq_true_eq, ByteArray.toList_eq, ByteArray.toList_eq]
  unfold strOfNums
  simp only
  refine ⟨fun h => ?_, fun h => by rw [h]⟩
  have back : ∀ l : List Int, (∀ c ∈ l, 0 ≤ c ∧ c < 256) → (l.map fun n => UInt8.ofNat n.toNat).map (fun u => ((u.toNat : Nat) : Int)) = l := fun l hl => by
    rw [List.map_map]
    conv => rhs; rw [← List.map_id l]
    refine List.map_congr_left fun c hc => ?_
    have := hl c hc
    simp only [Function.comp, id, UInt8.toNat_ofNat']
    omega
  rw [← back a ha, ← back b hb, h]
set_option maxHeartbeats 800000 in
theorem eq8 (t : TypeId) (ht : Tryz.prog.underlying t = some (.array 8 5)) (d : Nat) (a0 a1 a2 a3 a4 a5 a6 a7 b0 b1 b2 b3 b4 b5 b6 b7 : Int) (w : World) :
    (Op.equalIn (d + 2) t (.agg #[.int .u8 a0, .int .u8 a1, .int .u8 a2, .int .u8 a3, .int .u8 a4, .int .u8 a5, .int .u8 a6, .int .u8 a7]) (.agg #[.int .u8 b0, .int .u8 b1, .int .u8 b2, .int .u8 b3, .int .u8 b4, .int .u8 b5, .int .u8 b6, .int .u8 b7])).run Tryz.prog w
      = .ok (a0 == b0 && a1 == b1 && a2 == b2 && a3 == b3 && a4 == b4 && a5 == b5 && a6 == b6 && a7 == b7) w := by
  rw [show d + 2 = (d + 1) + 1 from rfl, Op.equalIn]
  simp only [Sem.run_bind, run_underlying ht, Result.andThen_ok]
  simp only [Std.Legacy.Range.forIn_eq_forIn_range', Std.Legacy.Range.size, Nat.sub_zero, Nat.add_sub_cancel, Nat.div_one, List.range'_succ, List.range'_zero, List.forIn_cons, List.forIn_nil]
  go_simp
  by_cases h0 : a0 = b0
  · by_cases h1 : a1 = b1
    · by_cases h2 : a2 = b2
      · by_cases h3 : a3 = b3
        · by_cases h4 : a4 = b4
          · by_cases h5 : a5 = b5
            · by_cases h6 : a6 = b6
              · by_cases h7 : a7 = b7 <;> simp [h0, h1, h2, h3, h4, h5, h6, h7]
              · simp [h0, h1, h2, h3, h4, h5, h6]
            · simp [h0, h1, h2, h3, h4, h5]
          · simp [h0, h1, h2, h3, h4]
        · simp [h0, h1, h2, h3]
      · simp [h0, h1, h2]
    · simp [h0, h1]
  · simp [h0]
theorem eight_dec {a b : List Int} (ha : a.length = 8) (hb : b.length = 8) : (at8 a 0 == at8 b 0 && at8 a 1 == at8 b 1 && at8 a 2 == at8 b 2 && at8 a 3 == at8 b 3 && at8 a 4 == at8 b 4 && at8 a 5 == at8 b 5 && at8 a 6 == at8 b 6 && at8 a 7 == at8 b 7) = decide (a = b) := by
  match a, ha, b, hb with
  | [_, _, _, _, _, _, _, _], _, [_, _, _, _, _, _, _, _], _ =>
    rw [Bool.eq_iff_iff]
    simp [and_assoc, at8]
theorem vot_dec {a b : List Nat} (ha : a.length = 8) (hb : b.length = 8) : ((atN a 0) == (atN b 0) && (atN a 1) == (atN b 1) && (atN a 2) == (atN b 2) && (atN a 3) == (atN b 3) && (atN a 4) == (atN b 4) && (atN a 5) == (atN b 5) && (atN a 6) == (atN b 6) && (atN a 7) == (atN b 7)) = decide (a = b) := by
  match a, ha, b, hb with
  | [_, _, _, _, _, _, _, _], _, [_, _, _, _, _, _, _, _], _ =>
    rw [Bool.eq_iff_iff]
    simp [and_assoc, atN, Int.ofNat_inj]
set_option maxHeartbeats 800000 in
theorem eq_cf (d : Nat) {a b : Cf} (ha : a.Ok) (hb : b.Ok) (w : World) : (Op.equalIn (d + 3) 33 (.agg (cfE a).toArray) (.agg (cfE b).toArray)).run Tryz.prog w = .ok (decide (a = b)) w := by
  have hS : Tryz.prog.underlying 33 = some (.struct (Tryz.prog.fieldsOf 33)) := by kernel_rfl
  have hin := fun w => eq8 30 Tryz.underlying30 d (atN a.vs 0) (atN a.vs 1) (atN a.vs 2) (atN a.vs 3) (atN a.vs 4) (atN a.vs 5) (atN a.vs 6) (atN a.vs 7) (atN b.vs 0) (atN b.vs 1) (atN b.vs 2) (atN b.vs 3) (atN b.vs 4) (atN b.vs 5) (atN b.vs 6) (atN b.vs 7) w
  rw [vot_dec ha.l hb.l] at hin
  have hu : ∀ (x y : Int) w, (Op.equalIn (d + 2) 22 (.int .u32 x) (.int .u32 y)).run Tryz.prog w = .ok (x == y) w := fun x y w => by
    rw [show d + 2 = (d + 1) + 1 from rfl]
    go_simp
  have hv : ∀ (x y : Int) w, (Op.equalIn (d + 2) 5 (.int .u8 x) (.int .u8 y)).run Tryz.prog w = .ok (x == y) w := fun x y w => by
    rw [show d + 2 = (d + 1) + 1 from rfl]
    go_simp
  have hE : decide (a = b) = (((a.e : Int) == (b.e : Int)) && ((a.r : Int) == (b.r : Int)) && ((a.w : Int) == (b.w : Int)) && decide (a.vs = b.vs)) := by
    obtain ⟨a1, a2, a3, a4⟩ := a
    obtain ⟨b1, b2, b3, b4⟩ := b
    rw [Bool.eq_iff_iff]
    simp [and_assoc, Int.ofNat_inj]
  rw [hE, show d + 3 = (d + 2) + 1 from rfl, run_equalIn_agg w (d + 2) 33 _ _ hS (by kernel_rfl)]
  simp only [Program.fieldsOf, Tryz.underlying33]
  generalize decide (a.vs = b.vs) = q at *
  generalize d + 2 = d0 at *
  clear hE
  go_simp
  cases q <;> by_cases h1 : (a.e : Int) = (b.e : Int) <;> by_cases h2 : (a.r : Int) = (b.r : Int) <;> by_cases h3 : (a.w : Int) = (b.w : Int) <;> simp [h1, h2, h3]
set_option maxHeartbeats 800000 in
theorem eq_it (d : Nat) {a b : ItP} (ha : ItOk a) (hb : ItOk b) (w : World) : (Op.equalIn (d + 4) 35 (.agg (itA a)) (.agg (itA b))).run Tryz.prog w = .ok (decide (a = b)) w := by
  have hS : Tryz.prog.underlying 35 = some (.struct (Tryz.prog.fieldsOf 35)) := by kernel_rfl
  have hin := fun w => eq_cf d ha.c hb.c w
  have hu : ∀ (x y : Int) w, (Op.equalIn (d + 3) 22 (.int .u32 x) (.int .u32 y)).run Tryz.prog w = .ok (x == y) w := fun x y w => by
    rw [show d + 3 = (d + 2) + 1 from rfl]
    go_simp
  have hv : ∀ w, (Op.equalIn (d + 3) 9 (.string (strOfNums a.val)) (.string (strOfNums b.val))).run Tryz.prog w = .ok (decide (a.val = b.val)) w := fun w => by
    rw [show d + 3 = (d + 2) + 1 from rfl, run_equalIn_string w (d + 2) 9 _ _ Tryz.underlying9, str_same ha.s hb.s]
  have hE : decide (a = b) = (((a.ver : Int) == (b.ver : Int)) && decide (a.val = b.val) && decide (a.cf = b.cf)) := by
    obtain ⟨a1, a2, a3⟩ := a
    obtain ⟨b1, b2, b3⟩ := b
    rw [Bool.eq_iff_iff]
    simp [and_assoc, Int.ofNat_inj]
  rw [hE, show d + 4 = (d + 3) + 1 from rfl, run_equalIn_agg w (d + 3) 35 _ _ hS (by kernel_rfl)]
  simp only [Program.fieldsOf, Tryz.underlying35]
  generalize decide (a.val = b.val) = q at *
  generalize decide (a.cf = b.cf) = r at *
  generalize d + 3 = d0 at *
  clear hE
  go_simp
  cases q <;> cases r <;> by_cases h1 : (a.ver : Int) = (b.ver : Int) <;> simp [h1]
set_option maxHeartbeats 800000 in
theorem eq_wr (d : Nat) {a b : WrP} (ha : KeyOk a.key ∧ ItOk a.it) (hb : KeyOk b.key ∧ ItOk b.it) (w : World) : (Op.equalIn (d + 5) 61 (.agg (wrA a)) (.agg (wrA b))).run Tryz.prog w = .ok (decide (a = b)) w := by
  have hS : Tryz.prog.underlying 61 = some (.struct (Tryz.prog.fieldsOf 61)) := by kernel_rfl
  have hin := fun w => eq_it d ha.2 hb.2 w
  have hk := fun w => eq8 31 Tryz.underlying31 (d + 2) (at8 a.key 0) (at8 a.key 1) (at8 a.key 2) (at8 a.key 3) (at8 a.key 4) (at8 a.key 5) (at8 a.key 6) (at8 a.key 7) (at8 b.key 0) (at8 b.key 1) (at8 b.key 2) (at8 b.key 3) (at8 b.key 4) (at8 b.key 5) (at8 b.key 6) (at8 b.key 7) w
  rw [eight_dec ha.1.l hb.1.l] at hk
  have hE : decide (a = b) = (decide (a.key = b.key) && decide (a.it = b.it)) := by
    obtain ⟨a1, a2⟩ := a
    obtain ⟨b1, b2⟩ := b
    rw [Bool.eq_iff_iff]
    simp
  rw [show d + 2 + 2 = d + 4 from rfl] at hk
  rw [hE, show d + 5 = (d + 4) + 1 from rfl, run_equalIn_agg w (d + 4) 61 _ _ hS (by kernel_rfl)]
  simp only [Program.fieldsOf, Tryz.underlying61]
  generalize decide (a.key = b.key) = q at *
  generalize decide (a.it = b.it) = r at *
  generalize d + 4 = d0 at *
  go_simp
  cases q <;> cases r <;> simp
end
section
open Go.RowKit

theorem Box.two {w : World} {p : Nat} {a b : Value} {t : TypeId} (h : Box w p #[a, b] t) : w.cell? ⟨p, 0, none⟩ = some a ∧ w.cell? ⟨p, 1, none⟩ = some b := ⟨h.cell 0 _ rfl, h.cell 1 _ rfl⟩
theorem Box.three {w : World} {p : Nat} {a b c : Value} {t : TypeId} (h : Box w p #[a, b, c] t) : w.cell? ⟨p, 0, none⟩ = some a ∧ w.cell? ⟨p, 1, none⟩ = some b ∧ w.cell? ⟨p, 2, none⟩ = some c := ⟨h.cell 0 _ rfl, h.cell 1 _ rfl, h.cell 2 _ rfl⟩
theorem Box.four {w : World} {p : Nat} {a b c d : Value} {t : TypeId} (h : Box w p #[a, b, c, d] t) : w.cell? ⟨p, 0, none⟩ = some a ∧ w.cell? ⟨p, 1, none⟩ = some b ∧ w.cell? ⟨p, 2, none⟩ = some c ∧ w.cell? ⟨p, 3, none⟩ = some d := ⟨h.cell 0 _ rfl, h.cell 1 _ rfl, h.cell 2 _ rfl, h.cell 3 _ rfl⟩
theorem Box.eight {w : World} {p : Nat} {a b c d e f g i : Value} {t : TypeId} (h : Box w p #[a, b, c, d, e, f, g, i] t) : w.cell? ⟨p, 0, none⟩ = some a ∧ w.cell? ⟨p, 1, none⟩ = some b ∧ w.cell? ⟨p, 2, none⟩ = some c ∧ w.cell? ⟨p, 3, none⟩ = some d ∧ w.cell? ⟨p, 4, none⟩ = some e ∧ w.cell? ⟨p, 5, none⟩ = some f ∧ w.cell? ⟨p, 6, none⟩ = some g ∧ w.cell? ⟨p, 7, none⟩ = some i :=
  ⟨h.cell 0 _ rfl, h.cell 1 _ rfl, h.cell 2 _ rfl, h.cell 3 _ rfl, h.cell 4 _ rfl, h.cell 5 _ rfl, h.cell 6 _ rfl, h.cell 7 _ rfl⟩
theorem Box.belowI {w w' : World} {p : Nat} {cs : Array Value} {t : TypeId} (h : Box w p cs t) (hB : Below w.heap.size w w') : Box w' p cs t := h.keep (KeepBut.of_below (fun _ => False) hB) id
theorem below_drewN {B n : Nat} {w w' : World} (h : Below B w w') : Below B w (w'.drewN n) := ⟨h.os, h.tape, h.output, h.size, h.block⟩
theorem drewN2 (w : World) (a b : Nat) : (w.drewN a).drewN b = w.drewN (a + b) := by simp [World.drewN, Nat.add_assoc]
theorem drewN3 (w : World) (a b c : Nat) : ((w.drewN a).drewN b).drewN c = w.drewN (a + b + c) := by simp [World.drewN, Nat.add_assoc]
/-- A block of numbers, read as a slice. -/
theorem lies_new (k : IntKind) (w : World) (xs : List Int) (t : TypeId) (hn : xs ≠ []) (hl : xs.length ≤ 1000000) : Lies k (w.alloc (.cells (xs.map (Value.int k)).toArray t)) (.slice (some ⟨w.heap.size, 0, none⟩) xs.length xs.length) xs := by
  refine .inr ⟨hn, w.heap.size, 0, xs.length, rfl, by simp, Nat.le_refl _, by unfold maxLen; omega, fun i hi => ?_⟩
  rw [Nat.zero_add]
  refine (box_new w _ t).cell i _ ?_
  simp [List.getD, hi]
end
section
open Go.RowKit

theorem alloc_below10 (w : World) (o : Obj) : Below w.heap.size w (w.alloc o) := (Below.refl _ _).alloc (Nat.le_refl _) o
def bulkW (n : Nat) (ws : List WrP) : Nat := n + (ws.map fun x => min x.it.val.length 10000).sum
theorem bulkW_snoc (n : Nat) (ws : List WrP) (x : WrP) : bulkW n (ws ++ [x]) = bulkW n ws + min x.it.val.length 10000 := by simp [bulkW, Nat.add_assoc]
theorem bulkW_le (n : Nat) : ∀ ws : List WrP, bulkW n ws ≤ n + 10000 * ws.length
  | [] => by simp [bulkW]
  | x :: ws => by have := bulkW_le n ws; simp [bulkW] at this ⊢; omega
theorem strOf_size10 (xs : List Int) : (strOfNums xs).size = xs.length := by simp [strOfNums, ByteArray.size]
theorem infoWr : (Tryz.prog.info? 61).map (·.size) = some 21 := by kernel_rfl
theorem wrA_one (x : WrP) : (wrA x).all (·.oneCell') = true := by simp [Value.oneCell']
end
end Go.Proofs.YtencmgepffdodaaGreat
