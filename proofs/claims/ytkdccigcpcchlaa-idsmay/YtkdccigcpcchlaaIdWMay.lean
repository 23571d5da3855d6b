/-
  The walk of IdsMay. Own work.
-/
import Derived.Test.YtkdccigcpcchlaaIdLawKit
namespace Go.Proofs.Ytkdccigcpcchlaa
open Go.RowKit

namespace may5
set_option maxRecDepth 100000 in
set_option maxHeartbeats 3200000 in
theorem walkN (t n b m x y : Int) (w : World) : Calls Try.prog 4 #[.agg #[.int .u32 t, .int .u8 n, .int .u32 b, .int .u32 m], .agg #[.int .u32 x, .int .u32 y]] w fun e w' => e = .returned (.bool true) ∧ Below w.heap.size w w' := by
  have C1 := hide (fun w => txMay_any n b m w)
  have C2 := hide (fun w => rtxMay_any n b m w)
  have C3 := hide (fun w => stMay_any t n b m w)
  have C4 := hide (fun w => rstMay_any t n b m w)
  have C5 := hide (fun w => regMay_any x y w)
  have C6 := hide (fun w => rregMay_any x y w)
  have hB0 := (((Below.refl w.heap.size w).alloc (Nat.le_refl _) (.cells #[.int .u32 t, .int .u8 n, .int .u32 b, .int .u32 m] 37)).alloc (by simp) (.cells #[.int .u32 x, .int .u32 y] 39)).drew
  have hS0 : Box ((w.alloc (.cells #[.int .u32 t, .int .u8 n, .int .u32 b, .int .u32 m] 37)).alloc (.cells #[.int .u32 x, .int .u32 y] 39)).drew w.heap.size #[.int .u32 t, .int .u8 n, .int .u32 b, .int .u32 m] 37 := (box_new w _ _).belowI (((Below.refl _ _).alloc (Nat.le_refl _) _).drew)
  have hR0 : Box ((w.alloc (.cells #[.int .u32 t, .int .u8 n, .int .u32 b, .int .u32 m] 37)).alloc (.cells #[.int .u32 x, .int .u32 y] 39)).drew (w.heap.size + 1) #[.int .u32 x, .int .u32 y] 39 := by
    have := box_new (w.alloc (.cells #[.int .u32 t, .int .u8 n, .int .u32 b, .int .u32 m] 37)) #[.int .u32 x, .int .u32 y] 39
    rw [World.size_alloc] at this
    exact this
  have HB0 := hide hB0
  have HS0 := hide hS0
  have HR0 := hide hR0
  clear hB0 hS0 hR0
  generalize txMayB (n, b, m) = r1 at *
  generalize stMayB (t, n, b, m) = r2 at *
  generalize regMayB (x, y) = r3 at *
  go_enter Try.func4, Try.ntmps4
  go_wp2_with fail
  go_region_held (fun w' => w'.cell? ⟨w.heap.size, 0, none⟩ = some (.int .u32 t) ∧ w'.cell? ⟨w.heap.size, 1, none⟩ = some (.int .u8 n) ∧ w'.cell? ⟨w.heap.size, 2, none⟩ = some (.int .u32 b) ∧ w'.cell? ⟨w.heap.size, 3, none⟩ = some (.int .u32 m) ∧ w'.cell? ⟨w.heap.size + 1, 0, none⟩ = some (.int .u32 x) ∧ w'.cell? ⟨w.heap.size + 1, 1, none⟩ = some (.int .u32 y)) (go_keep) (first
    | (go_at_call 14; refine (C1.out _).mono ?_; rintro e w1 ⟨rfl, hB⟩; have HS1 := hide (HS0.out.belowI hB); have HR1 := hide (HR0.out.belowI hB); have HB1 := hide (HB0.out.trans (hB.mono HB0.out.size)); obtain ⟨a0, a1, a2, a3⟩ := HS1.out.four; obtain ⟨a4, a5⟩ := HR1.out.two; clear hB)
    | (go_at_call 15; refine (C2.out _).mono ?_; rintro e w2 ⟨rfl, hB⟩; have HS2 := hide (HS1.out.belowI hB); have HR2 := hide (HR1.out.belowI hB); have HB2 := hide (HB1.out.trans (hB.mono HB1.out.size)); obtain ⟨b0, b1, b2, b3⟩ := HS2.out.four; obtain ⟨b4, b5⟩ := HR2.out.two; clear hB)
    | (go_at_call 16; refine (C3.out _).mono ?_; rintro e w3 ⟨rfl, hB⟩; have HS3 := hide (HS2.out.belowI hB); have HR3 := hide (HR2.out.belowI hB); have HB3 := hide (HB2.out.trans (hB.mono HB2.out.size)); obtain ⟨c0, c1, c2, c3⟩ := HS3.out.four; obtain ⟨c4, c5⟩ := HR3.out.two; clear hB)
    | (go_at_call 17; refine (C4.out _).mono ?_; rintro e w4 ⟨rfl, hB⟩; have HS4 := hide (HS3.out.belowI hB); have HR4 := hide (HR3.out.belowI hB); have HB4 := hide (HB3.out.trans (hB.mono HB3.out.size)); obtain ⟨d0, d1, d2, d3⟩ := HS4.out.four; obtain ⟨d4, d5⟩ := HR4.out.two; clear hB)
    | (go_at_call 18; refine (C5.out _).mono ?_; rintro e w5 ⟨rfl, hB⟩; have HS5 := hide (HS4.out.belowI hB); have HR5 := hide (HR4.out.belowI hB); have HB5 := hide (HB4.out.trans (hB.mono HB4.out.size)); obtain ⟨e0, e1, e2, e3⟩ := HS5.out.four; obtain ⟨e4, e5⟩ := HR5.out.two; clear hB)
    | (go_at_call 19; refine (C6.out _).mono ?_; rintro e w6 ⟨rfl, hB⟩; have HS6 := hide (HS5.out.belowI hB); have HR6 := hide (HR5.out.belowI hB); have HB6 := hide (HB5.out.trans (hB.mono HB5.out.size)); obtain ⟨f0, f1, f2, f3⟩ := HS6.out.four; obtain ⟨f4, f5⟩ := HR6.out.two; clear hB)
    | (go_at_call 13; refine (alive_any _).mono ?_; rintro e w7 ⟨rfl, hB⟩; have HS7 := hide (HS6.out.belowI hB); have HR7 := hide (HR6.out.belowI hB); have HB7 := hide (HB6.out.trans (hB.mono HB6.out.size)); obtain ⟨g0, g1, g2, g3⟩ := HS7.out.four; obtain ⟨g4, g5⟩ := HR7.out.two; clear hB))
  go_wp2_with fail
  go_ret
  exact ⟨rfl, HB7.out⟩
end may5
end Go.Proofs.Ytkdccigcpcchlaa
