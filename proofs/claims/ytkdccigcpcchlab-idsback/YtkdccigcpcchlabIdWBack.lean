/-
  Walk of the law IdsBack. Own work.
-/
import Derived.Test.YtkdccigcpcchlabIdCode2
import Derived.Test.YtkdccigcpcchlabIdLawKit
import Derived.Laws.StructEq
namespace Go.Proofs.Ytkdccigcpcchlab
open Go.RowKit

theorem eq_fault5 (a b c d : Int) (w : World) : (Op.equalIn 10000 53 (.agg #[.int .i64 a, .int .i64 b]) (.agg #[.int .i64 c, .int .i64 d])).run Try.prog w = .ok (a == c && b == d) w := by
  have hS : Try.prog.underlying 53 = some (.struct (Try.prog.fieldsOf 53)) := by kernel_rfl
  rw [show (10000 : Nat) = 9999 + 1 from rfl, run_equalIn_agg w 9999 53 _ _ hS (by kernel_rfl)]
  simp only [Program.fieldsOf, Try.underlying53]
  go_simp
  by_cases h1 : a = c <;> by_cases h2 : b = d <;> simp [h1, h2]
theorem eql_fault5 (a b c d : Int) (w : World) : (binOp .eql 53 (.agg #[.int .i64 a, .int .i64 b]) (.agg #[.int .i64 c, .int .i64 d])).run Try.prog w = .ok (.bool (a == c && b == d)) w := by
  rw [run_eql_struct, eq_fault5]; rfl
theorem tx_back (a : Int) (b c : Nat) (hb : b ≤ mxC) (hc : c ≤ mxC) (ys : List Int) (wn : Nat) :
    txR ⟨txB a b c ++ ys, wn, 0, 0⟩ = ⟨ys, wn + 1 + (shortS b).length + (shortS c).length, 0, 0⟩ ∧ txVal ⟨txB a b c ++ ys, wn, 0, 0⟩ = (a, (b : Int), (c : Int)) := by
  have e : txB a b c ++ ys = [a] ++ (shortS b ++ (shortS c ++ ys)) := by unfold txB; simp
  have h1 := byte_back a (shortS b ++ (shortS c ++ ys)) wn 0
  have h2 := num_back b (by simp only [mxC] at hb; omega) (shortS c ++ ys) (wn + 1) mxC hb 0
  have h3 := num_back c (by simp only [mxC] at hc; omega) ys (wn + 1 + (shortS b).length) mxC hc 0
  have hR : txR ⟨txB a b c ++ ys, wn, 0, 0⟩ = ⟨ys, wn + 1 + (shortS b).length + (shortS c).length, 0, 0⟩ := by
    unfold txR
    rw [e, h1]
    simp only
    rw [h2]
    simp only
    rw [h3]
  refine ⟨hR, ?_⟩
  unfold txVal
  rw [hR, e, h1]
  simp only
  rw [h2]
  simp only
  rw [h3]
  simp
theorem st_back (t : Nat) (a : Int) (b c : Nat) (ht : t ≤ mxC) (hb : b ≤ mxC) (hc : c ≤ mxC) (ys : List Int) (wn : Nat) :
    (∃ m, stR ⟨stB t a b c ++ ys, wn, 0, 0⟩ = ⟨ys, m, 0, 0⟩) ∧ stVal ⟨stB t a b c ++ ys, wn, 0, 0⟩ = ((t : Int), a, (b : Int), (c : Int)) := by
  have e : stB t a b c ++ ys = shortS t ++ (txB a b c ++ ys) := by unfold stB; simp
  have h1 := num_back t (by simp only [mxC] at ht; omega) (txB a b c ++ ys) wn mxC ht 0
  obtain ⟨h2, h3⟩ := tx_back a b c hb hc ys (wn + (shortS t).length)
  have hR : stR ⟨stB t a b c ++ ys, wn, 0, 0⟩ = ⟨ys, wn + (shortS t).length + 1 + (shortS b).length + (shortS c).length, 0, 0⟩ := by
    unfold stR
    rw [e, h1]
    exact h2
  refine ⟨⟨_, hR⟩, ?_⟩
  unfold stVal
  rw [hR, e, h1]
  simp only
  rw [h3]
  simp
theorem reg_back (b c : Nat) (hb : b ≤ mxC) (hc : c ≤ mxC) (wn : Nat) :
    (∃ m, regR ⟨regB b c, wn, 0, 0⟩ = ⟨[], m, 0, 0⟩) ∧ regVal ⟨regB b c, wn, 0, 0⟩ = ((b : Int), (c : Int)) := by
  have e : regB b c = shortS b ++ (shortS c ++ []) := by unfold regB; simp
  have h1 := num_back b (by simp only [mxC] at hb; omega) (shortS c ++ []) wn mxC hb 0
  have h2 := num_back c (by simp only [mxC] at hc; omega) [] (wn + (shortS b).length) mxC hc 0
  have hR : regR ⟨regB b c, wn, 0, 0⟩ = ⟨[], wn + (shortS b).length + (shortS c).length, 0, 0⟩ := by
    unfold regR
    rw [e, h1]
    simp only
    rw [h2]
  refine ⟨⟨_, hR⟩, ?_⟩
  unfold regVal
  rw [hR, e, h1]
  simp only
  rw [h2]
  simp
theorem both_byte (t : Nat) (a : Int) (b c x y : Nat) (ha : 0 ≤ a ∧ a < 256) : ∀ k ∈ stB t a b c ++ regB x y, 0 ≤ k ∧ k < 256 := by
  intro k hk
  unfold stB txB regB at hk
  simp only [List.mem_append, List.mem_singleton] at hk
  rcases hk with (h | h | h | h) | h | h
  · exact shortS_bytes _ k h
  · subst h; exact ha
  all_goals exact shortS_bytes _ k h
theorem both_len (t : Nat) (a : Int) (b c x y : Nat) (ht : t < 4294967296) (hb : b < 4294967296) (hc : c < 4294967296) (hx : x < 4294967296) (hy : y < 4294967296) : (stB t a b c).length ≤ 20 ∧ (stB t a b c ++ regB x y).length ≤ 40 := by
  have := short5 ht
  have := short5 hb
  have := short5 hc
  have := short5 hx
  have := short5 hy
  unfold stB txB regB
  simp
  omega
namespace back5
set_option maxRecDepth 100000 in
set_option maxHeartbeats 3200000 in
theorem walkN (t : Nat) (a : Int) (b c x y : Nat) (w : World) (ht : t < 4294967296) (ha : 0 ≤ a ∧ a < 256) (hb : b < 4294967296) (hc : c < 4294967296) (hx : x < 4294967296) (hy : y < 4294967296) :
    Calls Try.prog 4 #[.agg #[.int .u32 t, .int .u8 a, .int .u32 b, .int .u32 c], .agg #[.int .u32 x, .int .u32 y]] w fun e w' => e = .returned (.bool true) ∧ Below w.heap.size w w' := by
  obtain ⟨hl1, hl2⟩ := both_len t a b c x y ht hb hc hx hy
  have HBY := hide (both_byte t a b c x y ha)
  have HIS := hide infoUstamp
  have HIR := hide infoUreg
  have hE := eql_stamp
  have hF := eql_reg
  have hG := eql_fault5
  obtain ⟨B, hB⟩ : ∃ B, B = w.heap.size := ⟨_, rfl⟩
  have h0 : CW (((w.alloc (.cells #[.int .u32 t, .int .u8 a, .int .u32 b, .int .u32 c] 26)).alloc (.cells #[.int .u32 x, .int .u32 y] 37)).alloc (.cells #[.slice none 0 0] 40)) (w.heap.size + 1 + 1) (.slice none 0 0) [] := by
    refine ⟨?_, World.ownsRow_nil _ _ _ _⟩
    have := box_new ((w.alloc (.cells #[.int .u32 t, .int .u8 a, .int .u32 b, .int .u32 c] 26)).alloc (.cells #[.int .u32 x, .int .u32 y] 37)) #[.slice none 0 0] 40
    simpa using this
  have hS0 : Box (((w.alloc (.cells #[.int .u32 t, .int .u8 a, .int .u32 b, .int .u32 c] 26)).alloc (.cells #[.int .u32 x, .int .u32 y] 37)).alloc (.cells #[.slice none 0 0] 40)) w.heap.size #[.int .u32 t, .int .u8 a, .int .u32 b, .int .u32 c] 26 :=
    (box_new w _ _).belowI (((Below.refl _ _).alloc (Nat.le_refl _) _).alloc (by simp) _)
  have hR0 : Box (((w.alloc (.cells #[.int .u32 t, .int .u8 a, .int .u32 b, .int .u32 c] 26)).alloc (.cells #[.int .u32 x, .int .u32 y] 37)).alloc (.cells #[.slice none 0 0] 40)) (w.heap.size + 1) #[.int .u32 x, .int .u32 y] 37 := by
    have := box_new (w.alloc (.cells #[.int .u32 t, .int .u8 a, .int .u32 b, .int .u32 c] 26)) #[.int .u32 x, .int .u32 y] 37
    rw [World.size_alloc] at this
    exact this.belowI ((Below.refl _ _).alloc (Nat.le_refl _) _)
  have hB0 : Below w.heap.size w (((w.alloc (.cells #[.int .u32 t, .int .u8 a, .int .u32 b, .int .u32 c] 26)).alloc (.cells #[.int .u32 x, .int .u32 y] 37)).alloc (.cells #[.slice none 0 0] 40)) := (((Below.refl w.heap.size w).alloc (Nat.le_refl _) _).alloc (by simp) _).alloc (by simp; omega) _
  have C1 := hide (putst_any (w.heap.size + 1 + 1) (.slice none 0 0) [] t a b c _ h0 (by simp) ht hb hc)
  have HS0 := hide hS0
  have HR0 := hide hR0
  have HB0 := hide hB0
  clear h0 hS0 hR0 hB0
  go_enter Try.func4, Try.ntmps4
  go_wp2_with fail
  refine C1.out.mono ?_
  rintro e w1 ⟨rfl, v1, h1⟩
  have hk1 : KeepBut (fun k => k = w.heap.size + 1 + 1) _ w1 := h1.keep.mono (fun k hk => by
    rcases hk with e | e
    · exact e
    · cases e)
  have HG1 : Hid (∀ g, v1.ownBlock = some g → w.heap.size + 3 ≤ g) := hide (fun g hg => by
    rcases h1.place with e | ⟨g2, e, h2⟩
    · rw [e] at hg; cases hg
    · rw [e] at hg; cases hg; simp at h2; omega)
  have HS1 := hide (HS0.out.keep hk1 (by omega))
  have HR1 := hide (HR0.out.keep hk1 (by omega))
  have HB1 := hide (HB0.out.trans (hk1.below HB0.out.size (fun k hk => by omega)))
  have C2 := hide (putreg_any (w.heap.size + 1 + 1) v1 _ x y w1 h1.wr (by simp; omega) hx hy)
  obtain ⟨m0, m1⟩ := HR1.out.two
  have ml := HR1.out.lt
  clear hk1 h1 HS0 HR0 HB0 C1
  go_wp2_with fail
  refine C2.out.mono ?_
  rintro e w2 ⟨rfl, v2, h2⟩
  have HS2 := hide (HS1.out.keep h2.keep (fun hS => by
    rcases hS with e | e
    · omega
    · have := HG1.out _ e; omega))
  have HR2 := hide (HR1.out.keep h2.keep (fun hS => by
    rcases hS with e | e
    · omega
    · have := HG1.out _ e; omega))
  have HB2 := hide (HB1.out.trans (h2.keep.below HB1.out.size (fun k hk => by
    rcases hk with e | e
    · omega
    · have := HG1.out _ e; omega)))
  have hw2 := h2.wr
  rw [List.nil_append] at hw2
  have C3 := hide (cwbytes_any (w.heap.size + 1 + 1) v2 _ w2 hw2 (by omega))
  clear h2 hw2 HS1 HR1 HB1 C2 m0 m1 ml HG1
  go_wp2_with fail
  refine C3.out.mono ?_
  rintro e w3 ⟨v3, rfl, ho3, hB3⟩
  have HS3 := hide (HS2.out.belowI hB3)
  have HR3 := hide (HR2.out.belowI hB3)
  have HB3 := hide (HB2.out.trans (hB3.mono HB2.out.size))
  have C4 := hide (new_any v3 _ w3 (Lies.of_own ho3) HBY.out (by omega))
  clear ho3 hB3 C3 HS2 HR2 HB2
  go_wp2_with fail
  refine C4.out.mono ?_
  rintro e w4 ⟨p, vb, rfl, hR, hp, hv, hB4⟩
  have hs3 := HR3.out.lt
  have hs4 := hB4.size
  have HS4 := hide (HS3.out.belowI hB4)
  have HR4 := hide (HR3.out.belowI hB4)
  have HB4 := hide (HB3.out.trans (hB4.mono HB3.out.size))
  have hp4 := hR.box.lt
  have HV4 : Hid (∀ g, vb.ownBlock = some g → g < w4.heap.size) := hide (fun g hg => owns_lt hR.own hg)
  have C5 := hide (getst_any p vb _ _ w4 hR)
  clear hR hv hB4 C4 HS3 HR3 HB3
  go_wp2_with fail
  refine C5.out.mono ?_
  rintro e w5 ⟨rfl, hc5, hk5⟩
  have hs5 := hk5.size
  have HS5 := hide (HS4.out.keep hk5 (by omega))
  have HR5 := hide (HR4.out.keep hk5 (by omega))
  have HB5 := hide (HB4.out.trans (hk5.below HB4.out.size (fun k hk => by omega)))
  clear hk5 C5 HS4 HR4 HB4
  have hb6 := (Below.refl w5.heap.size w5).alloc (Nat.le_refl _) (.cells #[.int .u32 0, .int .u8 0, .int .u32 0, .int .u32 0] 26)
  have HX6 := hide (box_new w5 #[.int .u32 0, .int .u8 0, .int .u32 0, .int .u32 0] 26)
  have HC6 := hide (hc5.below hb6)
  have HS6 := hide (HS5.out.belowI hb6)
  have HR6 := hide (HR5.out.belowI hb6)
  have HB6 := hide (HB5.out.trans (hb6.mono HB5.out.size))
  clear hc5 hb6 HS5 HR5 HB5
  obtain ⟨sv, hsv⟩ : ∃ s, s = stVal ⟨stB t a b c ++ regB x y, 0, 0, 0⟩ := ⟨_, rfl⟩
  obtain ⟨rv, hrv⟩ : ∃ s, s = stR ⟨stB t a b c ++ regB x y, 0, 0, 0⟩ := ⟨_, rfl⟩
  rw [← hrv] at HC6
  rw [← hsv]
  have HSV := hide hsv
  have HRV := hide hrv
  clear hsv hrv
  go_wp2_with (refine wp_store_box (cs' := #[.int .u32 sv.1, .int .u8 sv.2.1, .int .u32 sv.2.2.1, .int .u32 sv.2.2.2]) rfl rfl _ _ rfl _ rfl rfl HX6.out rfl HIS.out (by simp [Value.oneCell']) ?_; intro w7 hb7 hk7; have HX7 := hide hb7; have HK7 := hide hk7; clear hb7 hk7)
  have hs7 := HK7.out.size
  rw [World.size_alloc] at hs7
  have HC7 := hide (HC6.out.keep HK7.out (by omega) (fun g hg => by have := HV4.out g hg; omega))
  have HS7 := hide (HS6.out.keep HK7.out (by omega))
  have HR7 := hide (HR6.out.keep HK7.out (by omega))
  have HB7 := hide (HB6.out.trans (HK7.out.below HB6.out.size (fun k hk => by omega)))
  have C8 := hide (getreg_any p vb _ _ w7 HC7.out)
  clear HK7 HC6 HS6 HR6 HB6 HX6 HC7
  refine C8.out.mono ?_
  rintro e w8 ⟨rfl, hc8, hk8⟩
  have hs8 := hk8.size
  have hb9 := (Below.refl w8.heap.size w8).alloc (Nat.le_refl _) (.cells #[.int .u32 0, .int .u32 0] 37)
  have HY9 := hide (box_new w8 #[.int .u32 0, .int .u32 0] 37)
  have HC9 := hide (hc8.below hb9)
  have HX9 := hide ((HX7.out.keep hk8 (by omega)).belowI hb9)
  have HS9 := hide ((HS7.out.keep hk8 (by omega)).belowI hb9)
  have HR9 := hide ((HR7.out.keep hk8 (by omega)).belowI hb9)
  have HB8 := hide (HB7.out.trans (hk8.below HB7.out.size (fun k hk => by omega)))
  have HB9 := hide (HB8.out.trans (hb9.mono HB8.out.size))
  clear C8 hc8 hk8 hb9 HX7 HS7 HR7 HB7 HB8
  obtain ⟨gv, hgv⟩ : ∃ s, s = regVal rv := ⟨_, rfl⟩
  obtain ⟨qv, hqv⟩ : ∃ s, s = regR rv := ⟨_, rfl⟩
  rw [← hqv] at HC9
  rw [← hgv]
  have HGV := hide hgv
  have HQV := hide hqv
  clear hgv hqv
  have C10 := hide (fun w => stMay_any t a b c w)
  have C11 := hide (fun w => regMay_any x y w)
  go_wp2_with (refine wp_store_box (cs' := #[.int .u32 gv.1, .int .u32 gv.2]) rfl rfl _ _ rfl _ rfl rfl HY9.out rfl HIR.out (by simp [Value.oneCell']) ?_; intro w10 hb10 hk10; have HY10 := hide hb10; have HK10 := hide hk10; clear hb10 hk10; have hs10 := HK10.out.size; rw [World.size_alloc] at hs10; have HC10 := hide (HC9.out.keep HK10.out (by omega) (fun g hg => by have := HV4.out g hg; omega)); have HX10 := hide (HX9.out.keep HK10.out (by omega)); have HS10 := hide (HS9.out.keep HK10.out (by omega)); have HR10 := hide (HR9.out.keep HK10.out (by omega)); have HB10 := hide (HB9.out.trans (HK10.out.below HB9.out.size (fun k hk => by omega))); clear HK10 HC9 HX9 HS9 HR9 HB9 HY9; obtain ⟨z0, z1, z2, z3⟩ := HS10.out.four; have zl := HS10.out.lt)
  refine (C10.out _).mono ?_
  rintro e w11 ⟨rfl, hB11⟩
  have hs11 := hB11.size
  have HC11 := hide (HC10.out.below hB11)
  have HX11 := hide (HX10.out.belowI hB11)
  have HY11 := hide (HY10.out.belowI hB11)
  have HS11 := hide (HS10.out.belowI hB11)
  have HR11 := hide (HR10.out.belowI hB11)
  have HB11 := hide (HB10.out.trans (hB11.mono HB10.out.size))
  clear hB11 HC10 HX10 HY10 HS10 HR10 HB10 z0 z1 z2 z3 zl C10
  by_cases hm1 : stMayB (t, a, b, c) = true
  · rw [hm1]
    obtain ⟨z0, z1⟩ := HR11.out.two
    have zl := HR11.out.lt
    go_wp2_with fail
    refine (C11.out _).mono ?_
    rintro e w12 ⟨rfl, hB12⟩
    have hs12 := hB12.size
    have HC12 := hide (HC11.out.below hB12)
    have HX12 := hide (HX11.out.belowI hB12)
    have HY12 := hide (HY11.out.belowI hB12)
    have HS12 := hide (HS11.out.belowI hB12)
    have HR12 := hide (HR11.out.belowI hB12)
    have HB12 := hide (HB11.out.trans (hB12.mono HB11.out.size))
    clear hB12 HC11 HX11 HY11 HS11 HR11 HB11 z0 z1 zl C11
    by_cases hm2 : regMayB (x, y) = true
    · rw [hm2]
      have hbt : t ≤ mxC := by unfold stMayB at hm1; simp at hm1; simp only [mxC]; omega
      have hbb : b ≤ mxC ∧ c ≤ mxC := by unfold stMayB txMayB countB at hm1; simp at hm1; simp only [mxC]; omega
      have hbx : x ≤ mxC ∧ y ≤ mxC := by unfold regMayB countB at hm2; simp at hm2; simp only [mxC]; omega
      obtain ⟨⟨m, q1⟩, q2⟩ := st_back t a b c hbt hbb.1 hbb.2 (regB x y) 0
      obtain ⟨⟨m', q3⟩, q4⟩ := reg_back x y hbx.1 hbx.2 m
      have e1 := HSV.out
      rw [q2] at e1
      have e2 := HRV.out
      rw [q1] at e2
      have e3 := HGV.out
      rw [e2, q4] at e3
      have e4 := HQV.out
      rw [e2, q3] at e4
      have e5 : endS qv = qv := by rw [e4]; rfl
      have e6 : qv.why = 0 ∧ qv.fat = 0 := by rw [e4]; exact ⟨rfl, rfl⟩
      subst e1
      subst e3
      have CE := hide (end_any p vb _ _ w12 HC12.out)
      rw [e5, e6.1, e6.2] at CE
      clear q1 q2 q3 q4 e2 e4 e5 e6 HSV HRV HGV HQV HC12
      have b1 : (((t : Int) == (t : Int)) && ((a == a) && ((b : Int) == (b : Int)) && ((c : Int) == (c : Int)))) = true := by simp
      have b2 : (((x : Int) == (x : Int)) && ((y : Int) == (y : Int))) = true := by simp
      obtain ⟨y0, y1, y2, y3⟩ := HX12.out.four
      have yl := HX12.out.lt
      obtain ⟨z0, z1, z2, z3⟩ := HS12.out.four
      have zl := HS12.out.lt
      obtain ⟨u0, u1⟩ := HY12.out.two
      have ul := HY12.out.lt
      obtain ⟨s0, s1⟩ := HR12.out.two
      have sl := HR12.out.lt
      dsimp only at y0 y1 y2 y3 u0 u1
      go_wp2_with fail
      refine CE.out.mono ?_
      rintro e w13 ⟨rfl, hc13, hk13⟩
      have HB13 := hide (HB12.out.trans (hk13.below HB12.out.size (fun k hk => by omega)))
      clear hc13 hk13 CE HB12 y0 y1 y2 y3 yl z0 z1 z2 z3 zl u0 u1 ul s0 s1 sl
      go_wp2_with fail
      refine (alive_any _).mono ?_
      rintro e w14 ⟨rfl, hB14⟩
      have HB14 := hide (HB13.out.trans (hB14.mono HB13.out.size))
      clear hB14 HB13
      go_wp2_with fail
      go_ret
      exact ⟨rfl, HB14.out⟩
    · rw [Bool.not_eq_true] at hm2
      rw [hm2]
      go_wp2_with fail
      refine (alive_any _).mono ?_
      rintro e w14 ⟨rfl, hB14⟩
      have HB14 := hide (HB12.out.trans (hB14.mono HB12.out.size))
      clear hB14 HB12
      go_wp2_with fail
      go_ret
      exact ⟨rfl, HB14.out⟩
  · rw [Bool.not_eq_true] at hm1
    rw [hm1]
    go_wp2_with fail
    refine (alive_any _).mono ?_
    rintro e w14 ⟨rfl, hB14⟩
    have HB14 := hide (HB11.out.trans (hB14.mono HB11.out.size))
    clear hB14 HB11
    go_wp2_with fail
    go_ret
    exact ⟨rfl, HB14.out⟩
end back5
end Go.Proofs.Ytkdccigcpcchlab
