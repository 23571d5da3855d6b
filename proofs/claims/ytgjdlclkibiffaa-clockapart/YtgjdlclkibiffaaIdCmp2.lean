/-
  The program's Txs, Stamps and Keys. Own work.
-/
import Derived.Test.YtgjdlclkibiffaaIdCmp
namespace Go.Proofs.Ytgjdlclkibiffaa
open Go.RowKit

theorem lies_of3 (k : IntKind) (w : World) (b : Nat) (x y z : Int) (hb : b < w.heap.size) (h0 : w.cell? ⟨b, 0, none⟩ = some (.int k x)) (h1 : w.cell? ⟨b, 1, none⟩ = some (.int k y)) (h2 : w.cell? ⟨b, 2, none⟩ = some (.int k z)) : Lies k w (.slice (some ⟨b, 0, none⟩) 3 3) [x, y, z] := by
  refine .inr ⟨by simp, b, 0, 3, rfl, hb, by simp, by unfold maxLen; omega, fun i hi => ?_⟩
  match i, hi with
  | 0, _ => exact h0
  | 1, _ => exact h1
  | 2, _ => exact h2
theorem lies_of2 (k : IntKind) (w : World) (b : Nat) (x y : Int) (hb : b < w.heap.size) (h0 : w.cell? ⟨b, 0, none⟩ = some (.int k x)) (h1 : w.cell? ⟨b, 1, none⟩ = some (.int k y)) : Lies k w (.slice (some ⟨b, 0, none⟩) 2 2) [x, y] := by
  refine .inr ⟨by simp, b, 0, 2, rfl, hb, by simp, by unfold maxLen; omega, fun i hi => ?_⟩
  match i, hi with
  | 0, _ => exact h0
  | 1, _ => exact h1
theorem orL3 (a b c d e f : Int) : orL [cmpF a d, cmpF b e, cmpF c f] = txsF (a, b, c) (d, e, f) := rfl
theorem orL2 (s t : Int) (a b : TxP) : orL [cmpF s t, txsF a b] = stsF (s, a) (t, b) := by
  show orF (cmpF s t) (orF (txsF a b) 0) = orF (cmpF s t) (lexF (txL a) (txL b))
  have : orF (txsF a b) 0 = txsF a b := by unfold orF; split <;> omega
  rw [this]
  rfl
set_option maxRecDepth 100000 in
set_option maxHeartbeats 400000 in
theorem txs_any (a b c d e f : Int) (w : World) : Calls Try.prog 42 #[.agg #[.int .u8 a, .int .u32 b, .int .u32 c], .agg #[.int .u8 d, .int .u32 e, .int .u32 f]] w fun e' w' => e' = .returned (.int .i64 (txsF (a, b, c) (d, e, f))) ∧ Grown w w' := by
  have hG0 := (((Grown.refl w).alloc (.cells #[.int .u8 a, .int .u32 b, .int .u32 c] 32)).alloc (.cells #[.int .u8 d, .int .u32 e, .int .u32 f] 32)).drew
  have HO : Hid (∀ (W : World) (B : Nat), B < W.heap.size → W.cell? ⟨B, 0, none⟩ = some (.int .i64 (cmpF a d)) → W.cell? ⟨B, 1, none⟩ = some (.int .i64 (cmpF b e)) → W.cell? ⟨B, 2, none⟩ = some (.int .i64 (cmpF c f)) → Calls Try.prog 39 #[.slice (some ⟨B, 0, none⟩) 3 3] W fun e' w' => e' = .returned (.int .i64 (txsF (a, b, c) (d, e, f))) ∧ w' = W) := hide (fun W B h0 h1 h2 h3 => by
    have h4 := or_any [cmpF a d, cmpF b e, cmpF c f] _ _ (lies_of3 .i64 W B _ _ _ h0 h1 h2 h3) (by simp)
    rw [orL3] at h4
    exact h4)
  have C1 := hide (fun w => cmp8_any a d w)
  have C2 := hide cmp32_any
  have HG0 := hide hG0
  clear hG0
  generalize txsF (a, b, c) (d, e, f) = r at *
  go_enter Try.func42, Try.ntmps42
  go_wp2_with fail
  go_region_held (fun w' => w'.cell? ⟨w.heap.size, 0, none⟩ = some (.int .u8 a) ∧ w'.cell? ⟨w.heap.size, 1, none⟩ = some (.int .u32 b) ∧ w'.cell? ⟨w.heap.size, 2, none⟩ = some (.int .u32 c) ∧ w'.cell? ⟨w.heap.size + 1, 0, none⟩ = some (.int .u8 d) ∧ w'.cell? ⟨w.heap.size + 1, 1, none⟩ = some (.int .u32 e) ∧ w'.cell? ⟨w.heap.size + 1, 2, none⟩ = some (.int .u32 f)) (go_keep) (first
    | (go_at_call 41; refine (C1.out _).mono ?_; rintro e' w1 ⟨rfl, rfl⟩)
    | (go_at_call 40; refine (C2.out _ _ _).mono ?_; rintro e' w1 ⟨rfl, rfl⟩)
    | (go_at_call 39; refine (HO.out _ _ (by simp) (new_cell _ _ _ _ _ _ (by simp) rfl) (new_cell _ _ _ _ _ _ (by simp) rfl) (new_cell _ _ _ _ _ _ (by simp) rfl)).mono ?_; rintro e' w1 ⟨rfl, rfl⟩))
  go_wp2_with fail
  go_ret
  exact ⟨rfl, ((((Grown.refl w).alloc _).alloc _).alloc _).drew⟩
end Go.Proofs.Ytgjdlclkibiffaa
