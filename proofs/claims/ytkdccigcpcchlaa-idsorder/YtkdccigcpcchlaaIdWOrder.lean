/-
  The walk of IdsOrder. Own work.
-/
import Derived.Test.YtkdccigcpcchlaaIdLawKit
import Derived.Test.YtkdccigcpcchlaaIdCmp2
import Derived.Test.YtkdccigcpcchlaaIdCmp3
import Derived.Test.YtkdccigcpcchlaaIdEach
import Derived.Test.YtkdccigcpcchlaaIdRef3
namespace Go.Proofs.Ytkdccigcpcchlaa
open Go.RowKit

namespace order5
/-- The three boxes. -/
structure Kit (W : World) (q : Nat) (s n b m t o c p a0 a1 a2 a3 a4 a5 a6 a7 b0 b1 b2 b3 b4 b5 b6 b7 : Int) : Prop where
  x : Box W q #[.int .u32 s, .int .u8 n, .int .u32 b, .int .u32 m] 37
  y : Box W (q + 1) #[.int .u32 t, .int .u8 o, .int .u32 c, .int .u32 p] 37
  k : Box W (q + 2) #[.int .u8 a0, .int .u8 a1, .int .u8 a2, .int .u8 a3, .int .u8 a4, .int .u8 a5, .int .u8 a6, .int .u8 a7, .int .u8 b0, .int .u8 b1, .int .u8 b2, .int .u8 b3, .int .u8 b4, .int .u8 b5, .int .u8 b6, .int .u8 b7] 44
theorem Kit.below {W W' : World} {q : Nat} {s n b m t o c p a0 a1 a2 a3 a4 a5 a6 a7 b0 b1 b2 b3 b4 b5 b6 b7 : Int} (h : Kit W q s n b m t o c p a0 a1 a2 a3 a4 a5 a6 a7 b0 b1 b2 b3 b4 b5 b6 b7) (hB : Below W.heap.size W W') : Kit W' q s n b m t o c p a0 a1 a2 a3 a4 a5 a6 a7 b0 b1 b2 b3 b4 b5 b6 b7 := ⟨h.x.belowI hB, h.y.belowI hB, h.k.belowI hB⟩
theorem Kit.cells {W : World} {q : Nat} {s n b m t o c p a0 a1 a2 a3 a4 a5 a6 a7 b0 b1 b2 b3 b4 b5 b6 b7 : Int} (h : Kit W q s n b m t o c p a0 a1 a2 a3 a4 a5 a6 a7 b0 b1 b2 b3 b4 b5 b6 b7) : W.cell? ⟨q, 0, none⟩ = some (.int .u32 s) ∧ W.cell? ⟨q, 1, none⟩ = some (.int .u8 n) ∧ W.cell? ⟨q, 2, none⟩ = some (.int .u32 b) ∧ W.cell? ⟨q, 3, none⟩ = some (.int .u32 m) ∧ W.cell? ⟨q + 1, 0, none⟩ = some (.int .u32 t) ∧ W.cell? ⟨q + 1, 1, none⟩ = some (.int .u8 o) ∧ W.cell? ⟨q + 1, 2, none⟩ = some (.int .u32 c) ∧ W.cell? ⟨q + 1, 3, none⟩ = some (.int .u32 p) ∧ W.cell? ⟨q + 2, 0, none⟩ = some (.int .u8 a0) ∧ W.cell? ⟨q + 2, 1, none⟩ = some (.int .u8 a1) ∧ W.cell? ⟨q + 2, 2, none⟩ = some (.int .u8 a2) ∧ W.cell? ⟨q + 2, 3, none⟩ = some (.int .u8 a3) ∧ W.cell? ⟨q + 2, 4, none⟩ = some (.int .u8 a4) ∧ W.cell? ⟨q + 2, 5, none⟩ = some (.int .u8 a5) ∧ W.cell? ⟨q + 2, 6, none⟩ = some (.int .u8 a6) ∧ W.cell? ⟨q + 2, 7, none⟩ = some (.int .u8 a7) ∧ W.cell? ⟨q + 2, 8, none⟩ = some (.int .u8 b0) ∧ W.cell? ⟨q + 2, 9, none⟩ = some (.int .u8 b1) ∧ W.cell? ⟨q + 2, 10, none⟩ = some (.int .u8 b2) ∧ W.cell? ⟨q + 2, 11, none⟩ = some (.int .u8 b3) ∧ W.cell? ⟨q + 2, 12, none⟩ = some (.int .u8 b4) ∧ W.cell? ⟨q + 2, 13, none⟩ = some (.int .u8 b5) ∧ W.cell? ⟨q + 2, 14, none⟩ = some (.int .u8 b6) ∧ W.cell? ⟨q + 2, 15, none⟩ = some (.int .u8 b7) :=
  ⟨h.x.cell 0 _ rfl, h.x.cell 1 _ rfl, h.x.cell 2 _ rfl, h.x.cell 3 _ rfl, h.y.cell 0 _ rfl, h.y.cell 1 _ rfl, h.y.cell 2 _ rfl, h.y.cell 3 _ rfl, h.k.cell 0 _ rfl, h.k.cell 1 _ rfl, h.k.cell 2 _ rfl, h.k.cell 3 _ rfl, h.k.cell 4 _ rfl, h.k.cell 5 _ rfl, h.k.cell 6 _ rfl, h.k.cell 7 _ rfl, h.k.cell 8 _ rfl, h.k.cell 9 _ rfl, h.k.cell 10 _ rfl, h.k.cell 11 _ rfl, h.k.cell 12 _ rfl, h.k.cell 13 _ rfl, h.k.cell 14 _ rfl, h.k.cell 15 _ rfl⟩
set_option maxRecDepth 100000 in
set_option maxHeartbeats 6400000 in
theorem walkN (s n b m t o c p a0 a1 a2 a3 a4 a5 a6 a7 b0 b1 b2 b3 b4 b5 b6 b7 : Int) (w : World) (hn : 0 ≤ n ∧ n < 256) (ho : 0 ≤ o ∧ o < 256) (ha : ∀ x ∈ [a0, a1, a2, a3, a4, a5, a6, a7], 0 ≤ x ∧ x < 256) (hb : ∀ x ∈ [b0, b1, b2, b3, b4, b5, b6, b7], 0 ≤ x ∧ x < 256) :
    Calls Try.prog 5 #[.agg #[.int .u32 s, .int .u8 n, .int .u32 b, .int .u32 m], .agg #[.int .u32 t, .int .u8 o, .int .u32 c, .int .u32 p], .agg #[.int .u8 a0, .int .u8 a1, .int .u8 a2, .int .u8 a3, .int .u8 a4, .int .u8 a5, .int .u8 a6, .int .u8 a7, .int .u8 b0, .int .u8 b1, .int .u8 b2, .int .u8 b3, .int .u8 b4, .int .u8 b5, .int .u8 b6, .int .u8 b7]] w fun e w' => e = .returned (.bool true) ∧ Below w.heap.size w w' := by
  have C1 : Hid (∀ w, Calls Try.prog 20 #[.agg #[.int .u8 a0, .int .u8 a1, .int .u8 a2, .int .u8 a3, .int .u8 a4, .int .u8 a5, .int .u8 a6, .int .u8 a7], .agg #[.int .u8 b0, .int .u8 b1, .int .u8 b2, .int .u8 b3, .int .u8 b4, .int .u8 b5, .int .u8 b6, .int .u8 b7]] w fun e w' => e = .returned (.int .i64 (lexF [a0, a1, a2, a3, a4, a5, a6, a7] [b0, b1, b2, b3, b4, b5, b6, b7])) ∧ Below w.heap.size w w') := hide (fun w => keys_any [a0, a1, a2, a3, a4, a5, a6, a7] [b0, b1, b2, b3, b4, b5, b6, b7] w rfl rfl ha hb)
  have C2 : Hid (∀ w, Calls Try.prog 21 #[.agg #[.int .u8 a0, .int .u8 a1, .int .u8 a2, .int .u8 a3, .int .u8 a4, .int .u8 a5, .int .u8 a6, .int .u8 a7], .agg #[.int .u8 b0, .int .u8 b1, .int .u8 b2, .int .u8 b3, .int .u8 b4, .int .u8 b5, .int .u8 b6, .int .u8 b7]] w fun e w' => e = .returned (.int .i64 (lexF [a0, a1, a2, a3, a4, a5, a6, a7] [b0, b1, b2, b3, b4, b5, b6, b7])) ∧ Below w.heap.size w w') := hide (fun w => rkeys_any [a0, a1, a2, a3, a4, a5, a6, a7] [b0, b1, b2, b3, b4, b5, b6, b7] w rfl rfl ha hb)
  have C3 := hide (fun w => (txs_any n b m o c p w).mono fun e w' ⟨h1, h2⟩ => (⟨h1, h2.below⟩ : _ ∧ Below w.heap.size w w'))
  have C4 := hide (fun w => rtxs_any n b m o c p w hn.1 hn.2 ho.1 ho.2)
  have C5 := hide (fun w => (stamps_any s n b m t o c p w).mono fun e w' ⟨h1, h2⟩ => (⟨h1, h2.below⟩ : _ ∧ Below w.heap.size w w'))
  have C6 := hide (fun w => rstamps_any s n b m t o c p w hn.1 hn.2 ho.1 ho.2)
  have C7 := hide alive_any
  have HB0 := hide ((((Below.refl w.heap.size w).alloc (Nat.le_refl _) (.cells #[.int .u32 s, .int .u8 n, .int .u32 b, .int .u32 m] 37)).alloc (by simp) (.cells #[.int .u32 t, .int .u8 o, .int .u32 c, .int .u32 p] 37)).alloc (by simp; omega) (.cells #[.int .u8 a0, .int .u8 a1, .int .u8 a2, .int .u8 a3, .int .u8 a4, .int .u8 a5, .int .u8 a6, .int .u8 a7, .int .u8 b0, .int .u8 b1, .int .u8 b2, .int .u8 b3, .int .u8 b4, .int .u8 b5, .int .u8 b6, .int .u8 b7] 44)).drew
  have HK0 : Hid (Kit (((w.alloc (.cells #[.int .u32 s, .int .u8 n, .int .u32 b, .int .u32 m] 37)).alloc (.cells #[.int .u32 t, .int .u8 o, .int .u32 c, .int .u32 p] 37)).alloc (.cells #[.int .u8 a0, .int .u8 a1, .int .u8 a2, .int .u8 a3, .int .u8 a4, .int .u8 a5, .int .u8 a6, .int .u8 a7, .int .u8 b0, .int .u8 b1, .int .u8 b2, .int .u8 b3, .int .u8 b4, .int .u8 b5, .int .u8 b6, .int .u8 b7] 44)).drew w.heap.size s n b m t o c p a0 a1 a2 a3 a4 a5 a6 a7 b0 b1 b2 b3 b4 b5 b6 b7) := hide (by
    refine ⟨?_, ?_, ?_⟩
    · exact (box_new w _ _).belowI ((((Below.refl _ _).alloc (Nat.le_refl _) _).alloc (by simp) _).drew)
    · have := (box_new (w.alloc (.cells #[.int .u32 s, .int .u8 n, .int .u32 b, .int .u32 m] 37)) #[.int .u32 t, .int .u8 o, .int .u32 c, .int .u32 p] 37).belowI (((Below.refl _ _).alloc (Nat.le_refl _) (.cells #[.int .u8 a0, .int .u8 a1, .int .u8 a2, .int .u8 a3, .int .u8 a4, .int .u8 a5, .int .u8 a6, .int .u8 a7, .int .u8 b0, .int .u8 b1, .int .u8 b2, .int .u8 b3, .int .u8 b4, .int .u8 b5, .int .u8 b6, .int .u8 b7] 44)).drew)
      rw [World.size_alloc] at this
      exact this
    · have := (box_new ((w.alloc (.cells #[.int .u32 s, .int .u8 n, .int .u32 b, .int .u32 m] 37)).alloc (.cells #[.int .u32 t, .int .u8 o, .int .u32 c, .int .u32 p] 37)) #[.int .u8 a0, .int .u8 a1, .int .u8 a2, .int .u8 a3, .int .u8 a4, .int .u8 a5, .int .u8 a6, .int .u8 a7, .int .u8 b0, .int .u8 b1, .int .u8 b2, .int .u8 b3, .int .u8 b4, .int .u8 b5, .int .u8 b6, .int .u8 b7] 44)
      rw [World.size_alloc, World.size_alloc] at this
      exact this)
  generalize lexF [a0, a1, a2, a3, a4, a5, a6, a7] [b0, b1, b2, b3, b4, b5, b6, b7] = r1 at *
  generalize txsF (n, b, m) (o, c, p) = r2 at *
  generalize stsF (s, n, b, m) (t, o, c, p) = r3 at *
  clear hn ho ha hb
  go_enter Try.func5, Try.ntmps5
  go_wp2_with fail
  obtain ⟨z0, z1, z2, z3, z4, z5, z6, z7, z8, z9, z10, z11, z12, z13, z14, z15, z16, z17, z18, z19, z20, z21, z22, z23⟩ := HK0.out.cells
  go_region_held (fun w' => w'.cell? ⟨w.heap.size, 0, none⟩ = some (.int .u32 s) ∧ w'.cell? ⟨w.heap.size, 1, none⟩ = some (.int .u8 n) ∧ w'.cell? ⟨w.heap.size, 2, none⟩ = some (.int .u32 b) ∧ w'.cell? ⟨w.heap.size, 3, none⟩ = some (.int .u32 m) ∧ w'.cell? ⟨w.heap.size + 1, 0, none⟩ = some (.int .u32 t) ∧ w'.cell? ⟨w.heap.size + 1, 1, none⟩ = some (.int .u8 o) ∧ w'.cell? ⟨w.heap.size + 1, 2, none⟩ = some (.int .u32 c) ∧ w'.cell? ⟨w.heap.size + 1, 3, none⟩ = some (.int .u32 p) ∧ w'.cell? ⟨w.heap.size + 2, 0, none⟩ = some (.int .u8 a0) ∧ w'.cell? ⟨w.heap.size + 2, 1, none⟩ = some (.int .u8 a1) ∧ w'.cell? ⟨w.heap.size + 2, 2, none⟩ = some (.int .u8 a2) ∧ w'.cell? ⟨w.heap.size + 2, 3, none⟩ = some (.int .u8 a3) ∧ w'.cell? ⟨w.heap.size + 2, 4, none⟩ = some (.int .u8 a4) ∧ w'.cell? ⟨w.heap.size + 2, 5, none⟩ = some (.int .u8 a5) ∧ w'.cell? ⟨w.heap.size + 2, 6, none⟩ = some (.int .u8 a6) ∧ w'.cell? ⟨w.heap.size + 2, 7, none⟩ = some (.int .u8 a7) ∧ w'.cell? ⟨w.heap.size + 2, 8, none⟩ = some (.int .u8 b0) ∧ w'.cell? ⟨w.heap.size + 2, 9, none⟩ = some (.int .u8 b1) ∧ w'.cell? ⟨w.heap.size + 2, 10, none⟩ = some (.int .u8 b2) ∧ w'.cell? ⟨w.heap.size + 2, 11, none⟩ = some (.int .u8 b3) ∧ w'.cell? ⟨w.heap.size + 2, 12, none⟩ = some (.int .u8 b4) ∧ w'.cell? ⟨w.heap.size + 2, 13, none⟩ = some (.int .u8 b5) ∧ w'.cell? ⟨w.heap.size + 2, 14, none⟩ = some (.int .u8 b6) ∧ w'.cell? ⟨w.heap.size + 2, 15, none⟩ = some (.int .u8 b7)) (go_keep) (first
    | (go_at_call 20; refine (C1.out _).mono ?_; rintro e w1 ⟨rfl, hB⟩; have HK1 := hide (HK0.out.below hB); have HB1 := hide (HB0.out.trans (hB.mono HB0.out.size)); obtain ⟨d0, d1, d2, d3, d4, d5, d6, d7, d8, d9, d10, d11, d12, d13, d14, d15, d16, d17, d18, d19, d20, d21, d22, d23⟩ := HK1.out.cells; clear hB)
    | (go_at_call 21; refine (C2.out _).mono ?_; rintro e w2 ⟨rfl, hB⟩; have HK2 := hide (HK1.out.below hB); have HB2 := hide (HB1.out.trans (hB.mono HB1.out.size)); obtain ⟨e0, e1, e2, e3, e4, e5, e6, e7, e8, e9, e10, e11, e12, e13, e14, e15, e16, e17, e18, e19, e20, e21, e22, e23⟩ := HK2.out.cells; clear hB)
    | (go_at_call 22; refine (C3.out _).mono ?_; rintro e w3 ⟨rfl, hB⟩; have HK3 := hide (HK2.out.below hB); have HB3 := hide (HB2.out.trans (hB.mono HB2.out.size)); obtain ⟨f0, f1, f2, f3, f4, f5, f6, f7, f8, f9, f10, f11, f12, f13, f14, f15, f16, f17, f18, f19, f20, f21, f22, f23⟩ := HK3.out.cells; clear hB)
    | (go_at_call 23; refine (C4.out _).mono ?_; rintro e w4 ⟨rfl, hB⟩; have HK4 := hide (HK3.out.below hB); have HB4 := hide (HB3.out.trans (hB.mono HB3.out.size)); obtain ⟨g0, g1, g2, g3, g4, g5, g6, g7, g8, g9, g10, g11, g12, g13, g14, g15, g16, g17, g18, g19, g20, g21, g22, g23⟩ := HK4.out.cells; clear hB)
    | (go_at_call 24; refine (C5.out _).mono ?_; rintro e w5 ⟨rfl, hB⟩; have HK5 := hide (HK4.out.below hB); have HB5 := hide (HB4.out.trans (hB.mono HB4.out.size)); obtain ⟨h0, h1, h2, h3, h4, h5, h6, h7, h8, h9, h10, h11, h12, h13, h14, h15, h16, h17, h18, h19, h20, h21, h22, h23⟩ := HK5.out.cells; clear hB)
    | (go_at_call 25; refine (C6.out _).mono ?_; rintro e w6 ⟨rfl, hB⟩; have HK6 := hide (HK5.out.below hB); have HB6 := hide (HB5.out.trans (hB.mono HB5.out.size)); obtain ⟨i0, i1, i2, i3, i4, i5, i6, i7, i8, i9, i10, i11, i12, i13, i14, i15, i16, i17, i18, i19, i20, i21, i22, i23⟩ := HK6.out.cells; clear hB)
    | (go_at_call 13; refine (C7.out _).mono ?_; rintro e w7 ⟨rfl, hB⟩; have HK7 := hide (HK6.out.below hB); have HB7 := hide (HB6.out.trans (hB.mono HB6.out.size)); obtain ⟨j0, j1, j2, j3, j4, j5, j6, j7, j8, j9, j10, j11, j12, j13, j14, j15, j16, j17, j18, j19, j20, j21, j22, j23⟩ := HK7.out.cells; clear hB))
  go_wp2_with fail
  go_ret
  exact ⟨rfl, HB7.out⟩
end order5
end Go.Proofs.Ytkdccigcpcchlaa
