/-
  The reference's numbers, Txs and Stamps. Own work.
-/
import Derived.Test.YtgjdlclkibiffaaIdRef
namespace Go.Proofs.Ytgjdlclkibiffaa
open Go.RowKit

theorem wrap32_u8 {a : Int} (h0 : 0 ≤ a) (h1 : a < 256) : IntKind.u32.wrap a = a := by rw [IntKind.wrap_u32]; omega
theorem owns_lower {w : World} {base base' e size n : Nat} {v : Value} {xs : List Value} (h : w.ownsRow base e size v n xs) (hle : base' ≤ base) : w.ownsRow base' e size v n xs := by
  obtain ⟨hl, h0 | ⟨g, cap, cur, rfl, hb, r⟩⟩ := h
  · exact ⟨hl, .inl h0⟩
  · exact ⟨hl, .inr ⟨g, cap, cur, rfl, Nat.le_trans hle hb, r⟩⟩
/-- A row of one's own in a new block. -/
theorem owns_new32 (w : World) (xs : List Int) (hl : xs.length ≤ 1000000) : (w.alloc (.cells (xs.map (Value.int .u32)).toArray 25)).ownsRow w.heap.size 25 1 (.slice (some ⟨w.heap.size, 0, none⟩) xs.length xs.length) xs.length (xs.map (Value.int .u32)) := by
  refine ⟨by simp, .inr ⟨w.heap.size, xs.length, (xs.map (Value.int .u32)).toArray, rfl, Nat.le_refl _, box_new w _ _, Nat.le_refl _, by unfold maxLen; omega, by simp, ?_⟩⟩
  simp only [Nat.mul_one]
  exact List.take_of_length_le (by simp)
set_option maxRecDepth 100000 in
theorem numbers_any (a b c : Int) (w : World) (h0 : 0 ≤ a) (h1 : a < 256) : Calls Try.prog 46 #[.agg #[.int .u8 a, .int .u32 b, .int .u32 c]] w fun e w' => ∃ v, e = .returned v ∧ w'.ownsRow w.heap.size 25 1 v 3 ([a, b, c].map (Value.int .u32)) ∧ Below w.heap.size w w' := by
  have hcv := wrap32_u8 h0 h1
  go_enter Try.func46, Try.ntmps46
  go_wp2
  go_ret
  refine ⟨_, rfl, ?_, ((Below.refl _ _).alloc (Nat.le_refl _) _).alloc (by simp) _⟩
  have := owns_lower (owns_new32 (w.alloc (.cells #[.int .u8 a, .int .u32 b, .int .u32 c] 32)) [a, b, c] (by simp)) (show w.heap.size ≤ _ by simp)
  rw [World.size_alloc] at this
  exact this
set_option maxRecDepth 100000 in
set_option maxHeartbeats 1600000 in
theorem rtxs_any (a b c d e f : Int) (w : World) (h0 : 0 ≤ a) (h1 : a < 256) (h2 : 0 ≤ d) (h3 : d < 256) : Calls Try.prog 38 #[.agg #[.int .u8 a, .int .u32 b, .int .u32 c], .agg #[.int .u8 d, .int .u32 e, .int .u32 f]] w fun e' w' => e' = .returned (.int .i64 (txsF (a, b, c) (d, e, f))) ∧ Below w.heap.size w w' := by
  have C1 := hide (fun w => numbers_any a b c w h0 h1)
  have C2 := hide (fun w => numbers_any d e f w h2 h3)
  have CF : Hid (∀ v1 v2 w, Lies .u32 w v1 [a, b, c] → Lies .u32 w v2 [d, e, f] → Calls Try.prog 45 #[v1, v2] w fun e' w' => e' = .returned (.int .i64 (txsF (a, b, c) (d, e, f))) ∧ ∃ n, w' = w.drewN n) := hide (fun v1 v2 w h1 h2 => first_any [a, b, c] [d, e, f] v1 v2 w h1 h2 rfl (by simp))
  have HS0 : Hid (Box ((w.alloc (.cells #[.int .u8 a, .int .u32 b, .int .u32 c] 32)).alloc (.cells #[.int .u8 d, .int .u32 e, .int .u32 f] 32)).drew w.heap.size #[.int .u8 a, .int .u32 b, .int .u32 c] 32) := hide ((box_new w _ _).belowI (((Below.refl _ _).alloc (Nat.le_refl _) _).drew))
  have HT0 : Hid (Box ((w.alloc (.cells #[.int .u8 a, .int .u32 b, .int .u32 c] 32)).alloc (.cells #[.int .u8 d, .int .u32 e, .int .u32 f] 32)).drew (w.heap.size + 1) #[.int .u8 d, .int .u32 e, .int .u32 f] 32) := hide (by
    have := box_new (w.alloc (.cells #[.int .u8 a, .int .u32 b, .int .u32 c] 32)) #[.int .u8 d, .int .u32 e, .int .u32 f] 32
    rw [World.size_alloc] at this
    exact this)
  have HB0 := hide (((Below.refl w.heap.size w).alloc (Nat.le_refl _) (.cells #[.int .u8 a, .int .u32 b, .int .u32 c] 32)).alloc (by simp) (.cells #[.int .u8 d, .int .u32 e, .int .u32 f] 32)).drew
  generalize txsF (a, b, c) (d, e, f) = r at *
  go_enter Try.func38, Try.ntmps38
  go_wp2_with fail
  go_region_held (fun w' => w'.cell? ⟨w.heap.size, 0, none⟩ = some (.int .u8 a) ∧ w'.cell? ⟨w.heap.size, 1, none⟩ = some (.int .u32 b) ∧ w'.cell? ⟨w.heap.size, 2, none⟩ = some (.int .u32 c) ∧ w'.cell? ⟨w.heap.size + 1, 0, none⟩ = some (.int .u8 d) ∧ w'.cell? ⟨w.heap.size + 1, 1, none⟩ = some (.int .u32 e) ∧ w'.cell? ⟨w.heap.size + 1, 2, none⟩ = some (.int .u32 f)) (go_keep) (first
    | (go_at_call 46; refine (C1.out _).mono ?_; rintro e' w1 ⟨v1, rfl, ho, hB⟩; have HL1 := hide (Lies.of_own ho); have HS1 := hide (HS0.out.belowI hB); have HT1 := hide (HT0.out.belowI hB); have HB1 := hide (HB0.out.trans (hB.mono HB0.out.size)); obtain ⟨a0, a1, a2⟩ := HS1.out.three; obtain ⟨b0, b1, b2⟩ := HT1.out.three; clear hB ho C1)
    | (go_at_call 46; refine (C2.out _).mono ?_; rintro e' w2 ⟨v2, rfl, ho, hB⟩; have HL2 := hide (Lies.of_own ho); have HL3 := hide (HL1.out.below hB); have HS2 := hide (HS1.out.belowI hB); have HT2 := hide (HT1.out.belowI hB); have HB2 := hide (HB1.out.trans (hB.mono HB1.out.size)); obtain ⟨c0, c1, c2⟩ := HS2.out.three; obtain ⟨d0, d1, d2⟩ := HT2.out.three; clear hB ho)
    | (go_at_call 45; refine (CF.out _ _ _ HL3.out HL2.out).mono ?_; rintro e' w3 ⟨rfl, n3, rfl⟩))
  go_wp2_with fail
  go_ret
  exact ⟨rfl, below_drewN HB2.out⟩
end Go.Proofs.Ytgjdlclkibiffaa
