/-
  The program's order of timers. Own work.
-/
import Derived.Test.YtgjdlclkibiffaaPkRow
import Derived.Test.YtgjdlclkibiffaaIdCmp2
namespace Go.Proofs.Ytgjdlclkibiffaa
open Go.RowKit

theorem orL_tm (a b : TmP) : orL [cmpF a.2 b.2, cmpF a.1.1 b.1.1, txsF a.1.2 b.1.2] = lexF (tmL a) (tmL b) := by
  show orF _ (orF _ (orF _ 0)) = orF _ (orF _ (txsF a.1.2 b.1.2))
  have : orF (txsF a.1.2 b.1.2) 0 = txsF a.1.2 b.1.2 := by unfold orF; split <;> omega
  rw [this]
theorem Box.five9 {w : World} {p : Nat} {c0 c1 c2 c3 c4 : Value} {t : TypeId} (h : Box w p #[c0, c1, c2, c3, c4] t) : w.cell? ⟨p, 0, none⟩ = some c0 ∧ w.cell? ⟨p, 1, none⟩ = some c1 ∧ w.cell? ⟨p, 2, none⟩ = some c2 ∧ w.cell? ⟨p, 3, none⟩ = some c3 ∧ w.cell? ⟨p, 4, none⟩ = some c4 :=
  ⟨h.cell 0 _ rfl, h.cell 1 _ rfl, h.cell 2 _ rfl, h.cell 3 _ rfl, h.cell 4 _ rfl⟩
set_option maxRecDepth 100000 in
set_option maxHeartbeats 1600000 in
theorem ord_any (a b : TmP) (w : World) : Calls Try.prog 33 #[.agg (ptA a), .agg (ptA b)] w fun e' w' => e' = .returned (.int .i64 (lexF (tmL a) (tmL b))) ∧ Grown w w' := by
  have HO : Hid (∀ (W : World) (B : Nat), B < W.heap.size → W.cell? ⟨B, 0, none⟩ = some (.int .i64 (cmpF a.2 b.2)) → W.cell? ⟨B, 1, none⟩ = some (.int .i64 (cmpF a.1.1 b.1.1)) → W.cell? ⟨B, 2, none⟩ = some (.int .i64 (txsF a.1.2 b.1.2)) → Calls Try.prog 39 #[.slice (some ⟨B, 0, none⟩) 3 3] W fun e' w' => e' = .returned (.int .i64 (lexF (tmL a) (tmL b))) ∧ w' = W) := hide (fun W B h0 h1 h2 h3 => by
    have h4 := or_any [cmpF a.2 b.2, cmpF a.1.1 b.1.1, txsF a.1.2 b.1.2] _ _ (lies_of3 .i64 W B _ _ _ h0 h1 h2 h3) (by simp)
    rw [orL_tm] at h4
    exact h4)
  have C1 := hide cmp32_any
  have C3 := hide cmp8_any
  have C2 : Hid (∀ w, Calls Try.prog 42 #[.agg #[.int .u8 a.1.2.1, .int .u32 a.1.2.2.1, .int .u32 a.1.2.2.2], .agg #[.int .u8 b.1.2.1, .int .u32 b.1.2.2.1, .int .u32 b.1.2.2.2]] w fun e' w' => e' = .returned (.int .i64 (txsF a.1.2 b.1.2)) ∧ Grown w w') := hide (fun w => txs_any a.1.2.1 a.1.2.2.1 a.1.2.2.2 b.1.2.1 b.1.2.2.1 b.1.2.2.2 w)
  generalize txsF a.1.2 b.1.2 = q at *
  generalize lexF (tmL a) (tmL b) = r at *
  obtain ⟨⟨a1, a2, a3, a4⟩, a0⟩ := a
  obtain ⟨⟨b1, b2, b3, b4⟩, b0⟩ := b
  simp only [ptA] at *
  have HS0 : Hid (Box ((w.alloc (.cells #[.int .u32 a0, .int .u8 a1, .int .u8 a2, .int .u32 a3, .int .u32 a4] 80)).alloc (.cells #[.int .u32 b0, .int .u8 b1, .int .u8 b2, .int .u32 b3, .int .u32 b4] 80)).drew w.heap.size #[.int .u32 a0, .int .u8 a1, .int .u8 a2, .int .u32 a3, .int .u32 a4] 80) := hide ((box_new w _ _).belowI (((Below.refl _ _).alloc (Nat.le_refl _) _).drew))
  have HT0 : Hid (Box ((w.alloc (.cells #[.int .u32 a0, .int .u8 a1, .int .u8 a2, .int .u32 a3, .int .u32 a4] 80)).alloc (.cells #[.int .u32 b0, .int .u8 b1, .int .u8 b2, .int .u32 b3, .int .u32 b4] 80)).drew (w.heap.size + 1) #[.int .u32 b0, .int .u8 b1, .int .u8 b2, .int .u32 b3, .int .u32 b4] 80) := hide (by
    have := box_new (w.alloc (.cells #[.int .u32 a0, .int .u8 a1, .int .u8 a2, .int .u32 a3, .int .u32 a4] 80)) #[.int .u32 b0, .int .u8 b1, .int .u8 b2, .int .u32 b3, .int .u32 b4] 80
    rw [World.size_alloc] at this
    exact this)
  have HG0 := hide (((Grown.refl w).alloc (.cells #[.int .u32 a0, .int .u8 a1, .int .u8 a2, .int .u32 a3, .int .u32 a4] 80)).alloc (.cells #[.int .u32 b0, .int .u8 b1, .int .u8 b2, .int .u32 b3, .int .u32 b4] 80)).drew
  go_enter Try.func33, Try.ntmps33
  go_wp2_with fail
  go_region_held (fun w' => w'.cell? ⟨w.heap.size, 0, none⟩ = some (.int .u32 a0) ∧ w'.cell? ⟨w.heap.size, 1, none⟩ = some (.int .u8 a1) ∧ w'.cell? ⟨w.heap.size, 2, none⟩ = some (.int .u8 a2) ∧ w'.cell? ⟨w.heap.size, 3, none⟩ = some (.int .u32 a3) ∧ w'.cell? ⟨w.heap.size, 4, none⟩ = some (.int .u32 a4) ∧ w'.cell? ⟨w.heap.size + 1, 0, none⟩ = some (.int .u32 b0) ∧ w'.cell? ⟨w.heap.size + 1, 1, none⟩ = some (.int .u8 b1) ∧ w'.cell? ⟨w.heap.size + 1, 2, none⟩ = some (.int .u8 b2) ∧ w'.cell? ⟨w.heap.size + 1, 3, none⟩ = some (.int .u32 b3) ∧ w'.cell? ⟨w.heap.size + 1, 4, none⟩ = some (.int .u32 b4)) (go_keep) (first
    | (go_at_call 40; refine (C1.out _ _ _).mono ?_; rintro e' w1 ⟨rfl, rfl⟩)
    | (go_at_call 41; refine (C3.out _ _ _).mono ?_; rintro e' w1 ⟨rfl, rfl⟩)
    | (go_at_call 42; refine (C2.out _).mono ?_; rintro e' w1 ⟨rfl, hG⟩; have HG1 := hide (HG0.out.trans hG); obtain ⟨x0, x1, x2, x3, x4⟩ := (HS0.out.belowI hG.below).five9; obtain ⟨y0, y1, y2, y3, y4⟩ := (HT0.out.belowI hG.below).five9; have hz1 := hG.below.size; clear hG)
    | (go_at_call 39; refine (HO.out _ _ (by simp) (new_at _ _ _ _ _ _ rfl rfl) (new_at _ _ _ _ _ _ rfl rfl) (new_at _ _ _ _ _ _ rfl rfl)).mono ?_; rintro e' w2 ⟨rfl, rfl⟩))
  go_wp2_with fail
  go_ret
  exact ⟨rfl, (HG1.out.alloc _)⟩
end Go.Proofs.Ytgjdlclkibiffaa
