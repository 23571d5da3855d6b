/-
  For all []byte a and b and every [2]uint32 far2, the statement CrcBoth returns true: the sum of two texts follows from theirs, that of a text with zeros behind from its own, and the probe 'alive' holds; nothing that was there is written.
  Conditions: none.
-/
import Derived.Test.YtgflokjfdcgpbaaCrcTop
import Derived.Test.YtgflokjfdcgpbaaFramePlain
import Derived.Deep.RegionHeld
import Derived.Test.YtgflokjfdcgpbaaEachOps
import Derived.WideKeyPair
namespace Go.Proofs.Ytgflokjfdcgpbaa
open Go.ChangeShapes Go.WideShapes Go.ChangeAt Go.RowKit

theorem arrPair : Go.WideMaps.ArrKey Try.prog 37 23 2 := ⟨Try.underlying37, by kernel_rfl, by kernel_rfl, by kernel_rfl⟩
namespace both
theorem zeros_zeros (s n m : Nat) : zerosN (zerosN s n) m = zerosN s (n + m) := by
  unfold zerosN
  rw [not_not, steps_add]
theorem join_eq (xa xb : List Int) : joinN (moreI 0 xa) (moreI 0 xb) xb.length = moreI 0 (xa ++ xb) := by
  unfold joinN moreI nats
  rw [List.map_append, more_join, List.length_map]
theorem zeros_eq (xa : List Int) (k : Nat) : zerosN (moreI 0 xa) k = moreI 0 (xa ++ List.replicate k 0) := by
  rw [moreI_append]
  unfold zerosN
  have : nats (List.replicate k (0 : Int)) = List.replicate k 0 := by simp [nats]
  rw [show moreI (moreI 0 xa) (List.replicate k 0) = moreN (moreI 0 xa) (nats (List.replicate k (0 : Int))) from rfl, this, more_zeros]

theorem sumP1 {w : World} {b : Nat} {v1 : Value} {x1 : List Int} (h : PartsLie w b [v1] [x1]) (b1 : ∀ c ∈ x1, 0 ≤ c ∧ c < 256) {X : Nat} (hX : moreI 0 x1 = X) :
    Calls Try.prog 11 #[.slice (some ⟨b, 0, none⟩) 1 1] w fun e w' => ∃ v, e = .returned v ∧ Below w.heap.size w w' ∧ v = .int .u32 X :=
  (sum_any b 1 [v1] [x1] w rfl (by decide) h (by intro xs hxs; simp at hxs; subst hxs; exact b1)).mono fun e w' ⟨he, hw⟩ => by
    subst hw
    exact ⟨_, he, Below.refl _ _, by rw [← hX]; simp⟩
theorem sumP2 {w : World} {b : Nat} {v1 v2 : Value} {x1 x2 : List Int} (h : PartsLie w b [v1, v2] [x1, x2]) (b1 : ∀ c ∈ x1, 0 ≤ c ∧ c < 256) (b2 : ∀ c ∈ x2, 0 ≤ c ∧ c < 256) {X : Nat} (hX : moreI 0 (x1 ++ x2) = X) :
    Calls Try.prog 11 #[.slice (some ⟨b, 0, none⟩) 2 2] w fun e w' => ∃ v, e = .returned v ∧ Below w.heap.size w w' ∧ v = .int .u32 X :=
  (sum_any b 2 [v1, v2] [x1, x2] w rfl (by decide) h (by intro xs hxs; simp at hxs; rcases hxs with rfl | rfl; exact b1; exact b2)).mono fun e w' ⟨he, hw⟩ => by
    subst hw
    exact ⟨_, he, Below.refl _ _, by rw [← hX]; simp⟩
theorem parts_below {w w' : World} {b : Nat} {vs : List Value} {xss : List (List Int)} (h : PartsLie w b vs xss) (hB : Below w.heap.size w w') : PartsLie w' b vs xss :=
  ⟨h.1, fun t ht => by
    obtain ⟨h1, h2, h3⟩ := h.2 t ht
    exact ⟨(hB.cell (p := ⟨b, t, none⟩) (World.block_lt_of_cell? w _ h1)).trans h1, h2, h3.below hB⟩⟩
/-- What each operation of the last region leaves. -/
def I9 (va vb : Value) (xa xb : List Int) (X Y T U lb k : Nat) : Nat → Value → World → Prop
  | 0, v, _ => v = va
  | 1, v, w => ∃ b, v = .slice (some ⟨b, 0, none⟩) 1 1 ∧ PartsLie w b [va] [xa]
  | 2, v, _ => v = .int .u32 X
  | 3, v, _ => v = vb
  | 4, v, w => ∃ b, v = .slice (some ⟨b, 0, none⟩) 1 1 ∧ PartsLie w b [vb] [xb]
  | 5, v, _ => v = .int .u32 Y
  | 6, v, _ => v = vb
  | 7, v, _ => v = .int .i64 lb
  | 8, v, _ => v = .int .u32 lb
  | 9, v, _ => v = .int .u32 T
  | 10, v, _ => v = va
  | 11, v, _ => v = vb
  | 12, v, w => ∃ b, v = .slice (some ⟨b, 0, none⟩) 2 2 ∧ PartsLie w b [va, vb] [xa, xb]
  | 13, v, _ => v = .int .u32 T
  | 14, v, _ => v = .bool true
  | 15, v, _ => v = .bool true
  | 16, v, _ => v = va
  | 17, v, w => ∃ b, v = .slice (some ⟨b, 0, none⟩) 1 1 ∧ PartsLie w b [va] [xa]
  | 18, v, _ => v = .int .u32 X
  | 19, v, _ => v = .int .u32 k
  | 20, v, _ => v = .int .u32 U
  | 21, v, _ => v = va
  | 22, v, _ => v = .int .u32 k
  | 23, v, w => ∃ b, v = .slice (some ⟨b, 0, none⟩) k k ∧ Lies .u8 w v (List.replicate k 0)
  | 24, v, w => ∃ b v2, v = .slice (some ⟨b, 0, none⟩) 2 2 ∧ PartsLie w b [va, v2] [xa, List.replicate k 0]
  | 25, v, _ => v = .int .u32 U
  | _, v, _ => v = .bool true
theorem I9_below {va vb : Value} {xa xb : List Int} {X Y T U lb k : Nat} : ∀ (i : Nat) (v : Value) (w w' : World), I9 va vb xa xb X Y T U lb k i v w → Below w.heap.size w w' → I9 va vb xa xb X Y T U lb k i v w' := by
  intro i v w w' h hB
  unfold I9 at h ⊢
  split at h <;> first
    | exact h
    | (obtain ⟨b, h1, h2⟩ := h; exact ⟨b, h1, parts_below h2 hB⟩)
    | (obtain ⟨b, h1, h2⟩ := h; exact ⟨b, h1, h2.below hB⟩)
    | (obtain ⟨b, v2, h1, h2⟩ := h; exact ⟨b, v2, h1, parts_below h2 hB⟩)

set_option maxRecDepth 100000 in
set_option maxHeartbeats 4000000 in
theorem walkN (va vb : Value) (xa xb : List Int) (n m : Nat) (w : World) (hn : n < 4294967296) (hm : m < 4294967296) (ha : Lies .u8 w va xa) (hb : Lies .u8 w vb xb) (ba : ∀ c ∈ xa, 0 ≤ c ∧ c < 256) (bb : ∀ c ∈ xb, 0 ≤ c ∧ c < 256) :
    Calls Try.prog 8 #[va, vb, .agg #[.int .u32 n, .int .u32 m]] w fun e w' => e = .returned (.bool true) ∧ Below w.heap.size w w' := by
  obtain ⟨aa, ca, rfl⟩ := ha.shape
  obtain ⟨ab, cb, rfl⟩ := hb.shape
  have HA := hide ha
  have HB := hide hb
  have BA := hide ba
  have BB := hide bb
  clear ha hb ba bb
  by_cases hla : 5000 < xa.length
  · have d1 : decide ((5000 : Int) < (xa.length : Int)) = true := by simp; omega
    generalize xa.length = la at *
    generalize xb.length = lb at *
    go_enter Try.func8, Try.ntmps8
    go_wp2_with fail
    go_region_held (fun w' => w'.cell? ⟨w.heap.size, 0, none⟩ = some (.int .u32 n) ∧ w'.cell? ⟨w.heap.size, 1, none⟩ = some (.int .u32 m)) (go_keep) (fail)
    have HB0 : Hid (Below w.heap.size w (w.alloc (.cells #[.int .u32 n, .int .u32 m] 37)).drew) := hide ((Below.refl _ _).alloc (Nat.le_refl _) _).drew
    generalize (w.alloc (.cells #[.int .u32 n, .int .u32 m] 37)).drew = W0 at *
    go_wp2_with fail
    refine (long_any _ _ _ _).mono ?_
    rintro e w1 ⟨rfl, h1⟩
    rw [h1]
    clear h1
    go_wp2_with fail
    refine (alive_any _).mono ?_
    rintro e w2 ⟨rfl, hB2⟩
    go_wp2_with fail
    go_ret
    exact ⟨rfl, HB0.out.trans (hB2.mono HB0.out.size)⟩
  have d1 : decide ((5000 : Int) < (xa.length : Int)) = false := by simp; omega
  by_cases hlb : 5000 < xb.length
  · have d2 : decide ((5000 : Int) < (xb.length : Int)) = true := by simp; omega
    generalize xa.length = la at *
    generalize xb.length = lb at *
    go_enter Try.func8, Try.ntmps8
    go_wp2_with fail
    go_region_held (fun w' => w'.cell? ⟨w.heap.size, 0, none⟩ = some (.int .u32 n) ∧ w'.cell? ⟨w.heap.size, 1, none⟩ = some (.int .u32 m)) (go_keep) (fail)
    have HB0 : Hid (Below w.heap.size w (w.alloc (.cells #[.int .u32 n, .int .u32 m] 37)).drew) := hide ((Below.refl _ _).alloc (Nat.le_refl _) _).drew
    generalize (w.alloc (.cells #[.int .u32 n, .int .u32 m] 37)).drew = W0 at *
    go_wp2_with fail
    refine (long_any _ _ _ _).mono ?_
    rintro e w1 ⟨rfl, h1⟩
    rw [h1]
    clear h1
    go_wp2_with fail
    refine (long_any _ _ _ _).mono ?_
    rintro e w1 ⟨rfl, h1⟩
    rw [h1]
    clear h1
    go_wp2_with fail
    refine (alive_any _).mono ?_
    rintro e w2 ⟨rfl, hB2⟩
    go_wp2_with fail
    go_ret
    exact ⟨rfl, HB0.out.trans (hB2.mono HB0.out.size)⟩
  · have d2 : decide ((5000 : Int) < (xb.length : Int)) = false := by simp; omega
    have EJ := hide (join_eq xa xb)
    have HT : Hid (moreI 0 (xa ++ xb) = moreI 0 (xa ++ xb)) := hide rfl
    have HY : Hid (moreI 0 xb = moreI 0 xb) := hide rfl
    have HX : Hid (moreI 0 xa = moreI 0 xa) := hide rfl
    have hX := moreI_lt (s := 0) (by decide) BA.out
    have hY := moreI_lt (s := 0) (by decide) BB.out
    have EZ := hide (zeros_zeros (moreI 0 xa) n m)
    have hZ1 := zeros_lt (n := n) hX
    have EK := hide (zeros_eq xa (n % 3000))
    have hk : n % 3000 < 4294967296 := by omega
    have hkm : ((n : Int) % 3000) = ((n % 3000 : Nat) : Int) := by omega
    have hkl : n % 3000 < 3000 := by omega
    generalize n % 3000 = k at *
    have HU : Hid (moreI 0 (xa ++ List.replicate k 0) = moreI 0 (xa ++ List.replicate k 0)) := hide rfl
    have SX := hide (fun (w : World) v1 (h1 : Lies .u8 w v1 xa) => sum_one w v1 xa 22 h1 BA.out)
    obtain ⟨X, hXd⟩ : ∃ X, moreI 0 xa = X := ⟨_, rfl⟩
    obtain ⟨Y, hYd⟩ : ∃ Y, moreI 0 xb = Y := ⟨_, rfl⟩
    obtain ⟨T, hTd⟩ : ∃ T, moreI 0 (xa ++ xb) = T := ⟨_, rfl⟩
    obtain ⟨U, hUd⟩ : ∃ U, moreI 0 (xa ++ List.replicate k 0) = U := ⟨_, rfl⟩
    rw [hXd, hYd, hTd] at EJ
    rw [hXd] at EZ EK hX hZ1 SX
    rw [hYd] at hY
    rw [hUd] at EK
    replace HX := hide hXd
    replace HY := hide hYd
    replace HT := hide hTd
    replace HU := hide hUd
    clear hXd hYd hTd hUd
    generalize hlaa : xa.length = la at *
    generalize hlbb : xb.length = lb at *
    go_enter Try.func8, Try.ntmps8
    go_wp2_with fail
    go_region_held (fun w' => w'.cell? ⟨w.heap.size, 0, none⟩ = some (.int .u32 n) ∧ w'.cell? ⟨w.heap.size, 1, none⟩ = some (.int .u32 m)) (go_keep) (fail)
    have HB0 : Hid (Below w.heap.size w (w.alloc (.cells #[.int .u32 n, .int .u32 m] 37)).drew) := hide ((Below.refl _ _).alloc (Nat.le_refl _) _).drew
    generalize (w.alloc (.cells #[.int .u32 n, .int .u32 m] 37)).drew = W0 at *
    go_wp2_with fail
    refine (long_any _ _ _ _).mono ?_
    rintro e w1 ⟨rfl, h1⟩
    rw [h1]
    clear h1
    go_wp2_with fail
    refine (long_any _ _ _ _).mono ?_
    rintro e w1 ⟨rfl, h1⟩
    rw [h1]
    clear h1
    go_wp2_with fail
    have LA := hide (HA.out.below HB0.out)
    have LB := hide (HB.out.below HB0.out)
    refine (SX.out W0 _ LA.out).mono ?_
    rintro e w1 ⟨rfl, h1⟩
    rw [h1]
    clear h1
    go_wp2_with fail
    refine (zeros_any _ n hX hn _).mono ?_
    rintro e w2 ⟨rfl, hB2⟩
    go_wp2_with fail
    refine (zeros_any _ m hZ1 hm _).mono ?_
    rintro e w3 ⟨rfl, hB3⟩
    rw [EZ.out]
    have HB3 : Hid (Below w.heap.size w w3) := hide (by
      have h1 : Below w.heap.size w (W0.alloc (.cells #[.slice aa la ca] 22)) := HB0.out.alloc HB0.out.size _
      have h2 := h1.trans (hB2.mono h1.size)
      exact h2.trans (hB3.mono h2.size))
    clear hB2 hB3
    have LA3 := hide (HA.out.below HB3.out)
    have LB3 := hide (HB.out.below HB3.out)
    clear LA LB
    have HZ : Hid (∀ (W : World), n + m < 4294967296 → Calls Try.prog 14 #[.int .u32 (X : Nat), .int .u32 ((n + m : Nat) : Int)] W fun e w' => e = .returned (.int .u32 (zerosN X (n + m) : Nat)) ∧ Below W.heap.size W w') := hide (fun W h => zeros_any X (n + m) hX h W)
    clear EZ
    generalize zerosN X (n + m) = Z at *
    have qz : (((Z : Nat) : Int) != ((Z : Nat) : Int)) = false := by simp
    by_cases hf : n + m < 4294967296
    · have hfI : decide ((n : Int) + (m : Int) < 4294967296) = true := by simp; omega
      have hfN : Hid ((n : Int) + (m : Int) = ((n + m : Nat) : Int)) := hide (by omega)
      go_wp2_with fail
      refine (SX.out w3 _ LA3.out).mono ?_
      rintro e w4 ⟨rfl, h4⟩
      rw [h4]
      clear h4
      go_wp2_with fail
      rw [hfN.out]
      refine (HZ.out _ hf).mono ?_
      rintro e w5 ⟨rfl, hB5⟩
      have HB9 : Hid (Below w.heap.size w w5) := hide (by
        have h1 : Below w.heap.size w (w3.alloc (.cells #[.slice aa la ca] 22)) := HB3.out.alloc HB3.out.size _
        exact h1.trans (hB5.mono h1.size))
      clear hB5 HB3
      have LA9 := hide (HA.out.below HB9.out)
      have LB9 := hide (HB.out.below HB9.out)
      go_wp2_with fail
      refine wp_region_each2 (by kernel_rfl) (I9 (.slice aa la ca) (.slice ab lb cb) xa xb X Y T U lb k) (by kernel_rfl) I9_below ?_ ?_
      · intro i o hi a w1 hB hold hdeps
        have hold0 : a.tmps.getD 0 undef = .slice aa la ca := hold 0 (by kernel_rfl)
        have hold1 : a.tmps.getD 1 undef = .slice ab lb cb := hold 1 (by kernel_rfl)
        have hold11 : a.tmps.getD 11 undef = .int .u32 (k : Nat) := (hold 11 (by kernel_rfl)).trans (congrArg (Value.int .u32) hkm)
        have LA1 := LA9.out.below hB
        have LB1 := LB9.out.below hB
        have h32 : i < 32 := (Array.getElem?_eq_some_iff.1 hi).1
        have hc : i = 0 ∨ i = 1 ∨ i = 2 ∨ i = 3 ∨ i = 4 ∨ i = 5 ∨ i = 6 ∨ i = 7 ∨ i = 8 ∨ i = 9 ∨ i = 10 ∨ i = 11 ∨ i = 12 ∨ i = 13 ∨ i = 14 ∨ i = 15 ∨ i = 16 ∨ i = 17 ∨ i = 18 ∨ i = 19 ∨ i = 20 ∨ i = 21 ∨ i = 22 ∨ i = 23 ∨ i = 24 ∨ i = 25 ∨ i = 26 ∨ i = 27 ∨ i = 28 ∨ i = 29 ∨ i = 30 ∨ i = 31 := by omega
        clear h32
        rcases hc with rfl | rfl | rfl | rfl | rfl | rfl | rfl | rfl | rfl | rfl | rfl | rfl | rfl | rfl | rfl | rfl | rfl | rfl | rfl | rfl | rfl | rfl | rfl | rfl | rfl | rfl | rfl | rfl | rfl | rfl | rfl | rfl
        · obtain rfl := Option.some.inj hi
          exact each_pure hi rfl (ex_move _) hold0
        · obtain rfl := Option.some.inj hi
          have d0 : a.tmps.getD 49 undef = .slice aa la ca := dep_of hdeps 0 (by kernel_rfl)
          exact each_alloc hi rfl (ex_build1 _ _ _ _ d0) ((Below.refl _ _).alloc (Nat.le_refl _) _) ⟨_, rfl, parts_one w1 _ xa _ LA1⟩
        · obtain rfl := Option.some.inj hi
          obtain ⟨b, hb, hp⟩ : ∃ b, a.tmps.getD 50 undef = .slice (some ⟨b, 0, none⟩) 1 1 ∧ PartsLie w1 b [.slice aa la ca] [xa] := dep_of hdeps 1 (by kernel_rfl)
          have e1 : a.eval (.tmp 50) = .slice (some ⟨b, 0, none⟩) 1 1 := hb
          exact each_enter hi rfl (ex_call 11 _ _ _ rfl (by simp only [List.map_toArray, List.map_cons, List.map_nil, e1]) en_sum) (sumP1 hp BA.out HX.out)
        · obtain rfl := Option.some.inj hi
          exact each_pure hi rfl (ex_move _) hold1
        · obtain rfl := Option.some.inj hi
          have d3 : a.tmps.getD 52 undef = .slice ab lb cb := dep_of hdeps 3 (by kernel_rfl)
          exact each_alloc hi rfl (ex_build1 _ _ _ _ d3) ((Below.refl _ _).alloc (Nat.le_refl _) _) ⟨_, rfl, parts_one w1 _ xb _ LB1⟩
        · obtain rfl := Option.some.inj hi
          obtain ⟨b, hb, hp⟩ : ∃ b, a.tmps.getD 53 undef = .slice (some ⟨b, 0, none⟩) 1 1 ∧ PartsLie w1 b [.slice ab lb cb] [xb] := dep_of hdeps 4 (by kernel_rfl)
          have e1 : a.eval (.tmp 53) = .slice (some ⟨b, 0, none⟩) 1 1 := hb
          exact each_enter hi rfl (ex_call 11 _ _ _ rfl (by simp only [List.map_toArray, List.map_cons, List.map_nil, e1]) en_sum) (sumP1 hp BB.out HY.out)
        · obtain rfl := Option.some.inj hi
          exact each_pure hi rfl (ex_move _) hold1
        · obtain rfl := Option.some.inj hi
          have d6 : a.tmps.getD 55 undef = .slice ab lb cb := dep_of hdeps 6 (by kernel_rfl)
          exact each_pure hi rfl (ex_len _ _ _ _ d6) rfl
        · obtain rfl := Option.some.inj hi
          have d7 : a.tmps.getD 56 undef = .int .i64 (lb : Nat) := dep_of hdeps 7 (by kernel_rfl)
          exact each_pure hi rfl (ex_conv _ _ (by omega) d7) rfl
        · obtain rfl := Option.some.inj hi
          have d2 : a.tmps.getD 51 undef = .int .u32 (X : Nat) := dep_of hdeps 2 (by kernel_rfl)
          have d5 : a.tmps.getD 54 undef = .int .u32 (Y : Nat) := dep_of hdeps 5 (by kernel_rfl)
          have d8 : a.tmps.getD 57 undef = .int .u32 (lb : Nat) := dep_of hdeps 8 (by kernel_rfl)
          have e2 : a.eval (.tmp 51) = .int .u32 (X : Nat) := d2
          have e5 : a.eval (.tmp 54) = .int .u32 (Y : Nat) := d5
          have e8 : a.eval (.tmp 57) = .int .u32 (lb : Nat) := d8
          exact each_enter hi rfl (ex_call 16 _ _ _ rfl (by simp only [List.map_toArray, List.map_cons, List.map_nil, e2, e5, e8]) en_join) ((join_any X Y lb hX hY (by omega) w1).mono fun e w' ⟨he, hw⟩ => ⟨_, he, hw, by rw [EJ.out]; rfl⟩)
        · obtain rfl := Option.some.inj hi
          exact each_pure hi rfl (ex_move _) hold0
        · obtain rfl := Option.some.inj hi
          exact each_pure hi rfl (ex_move _) hold1
        · obtain rfl := Option.some.inj hi
          have d10 : a.tmps.getD 59 undef = .slice aa la ca := dep_of hdeps 10 (by kernel_rfl)
          have d11 : a.tmps.getD 60 undef = .slice ab lb cb := dep_of hdeps 11 (by kernel_rfl)
          exact each_alloc hi rfl (ex_build2 _ _ _ _ _ d10 _ _ _ d11) ((Below.refl _ _).alloc (Nat.le_refl _) _) ⟨_, rfl, parts_two w1 _ _ xa xb _ LA1 LB1⟩
        · obtain rfl := Option.some.inj hi
          obtain ⟨b, hb, hp⟩ : ∃ b, a.tmps.getD 61 undef = .slice (some ⟨b, 0, none⟩) 2 2 ∧ PartsLie w1 b [.slice aa la ca, .slice ab lb cb] [xa, xb] := dep_of hdeps 12 (by kernel_rfl)
          have e1 : a.eval (.tmp 61) = .slice (some ⟨b, 0, none⟩) 2 2 := hb
          exact each_enter hi rfl (ex_call 11 _ _ _ rfl (by simp only [List.map_toArray, List.map_cons, List.map_nil, e1]) en_sum) (sumP2 hp BA.out BB.out HT.out)
        · obtain rfl := Option.some.inj hi
          have d9 : a.tmps.getD 58 undef = .int .u32 (T : Nat) := dep_of hdeps 9 (by kernel_rfl)
          have d13 : a.tmps.getD 62 undef = .int .u32 (T : Nat) := dep_of hdeps 13 (by kernel_rfl)
          exact each_pure hi rfl (ex_eql _ _ _ _ d9 d13) (by simp [I9])
        · obtain rfl := Option.some.inj hi
          have d14 : a.tmps.getD 63 undef = .bool true := dep_of hdeps 14 (by kernel_rfl)
          exact each_pure hi rfl (ex_move _) d14
        · obtain rfl := Option.some.inj hi
          have d15 : a.tmps.getD 64 undef = .bool true := dep_of hdeps 15 (by kernel_rfl)
          exact each_pure hi (wanted_of (g := 15) rfl rfl d15) (ex_move _) hold0
        · obtain rfl := Option.some.inj hi
          have d15 : a.tmps.getD 64 undef = .bool true := dep_of hdeps 15 (by kernel_rfl)
          have d16 : a.tmps.getD 65 undef = .slice aa la ca := dep_of hdeps 16 (by kernel_rfl)
          exact each_alloc hi (wanted_of (g := 15) rfl rfl d15) (ex_build1 _ _ _ _ d16) ((Below.refl _ _).alloc (Nat.le_refl _) _) ⟨_, rfl, parts_one w1 _ xa _ LA1⟩
        · obtain rfl := Option.some.inj hi
          have d15 : a.tmps.getD 64 undef = .bool true := dep_of hdeps 15 (by kernel_rfl)
          obtain ⟨b, hb, hp⟩ : ∃ b, a.tmps.getD 66 undef = .slice (some ⟨b, 0, none⟩) 1 1 ∧ PartsLie w1 b [.slice aa la ca] [xa] := dep_of hdeps 17 (by kernel_rfl)
          have e1 : a.eval (.tmp 66) = .slice (some ⟨b, 0, none⟩) 1 1 := hb
          exact each_enter hi (wanted_of (g := 15) rfl rfl d15) (ex_call 11 _ _ _ rfl (by simp only [List.map_toArray, List.map_cons, List.map_nil, e1]) en_sum) (sumP1 hp BA.out HX.out)
        · obtain rfl := Option.some.inj hi
          have d15 : a.tmps.getD 64 undef = .bool true := dep_of hdeps 15 (by kernel_rfl)
          exact each_pure hi (wanted_of (g := 15) rfl rfl d15) (ex_move _) hold11
        · obtain rfl := Option.some.inj hi
          have d15 : a.tmps.getD 64 undef = .bool true := dep_of hdeps 15 (by kernel_rfl)
          have d18 : a.tmps.getD 67 undef = .int .u32 (X : Nat) := dep_of hdeps 18 (by kernel_rfl)
          have d19 : a.tmps.getD 68 undef = .int .u32 (k : Nat) := dep_of hdeps 19 (by kernel_rfl)
          have e2 : a.eval (.tmp 67) = .int .u32 (X : Nat) := d18
          have e5 : a.eval (.tmp 68) = .int .u32 (k : Nat) := d19
          exact each_enter hi (wanted_of (g := 15) rfl rfl d15) (ex_call 14 _ _ _ rfl (by simp only [List.map_toArray, List.map_cons, List.map_nil, e2, e5]) en_zeros) ((zeros_any X k hX (by omega) w1).mono fun e w' ⟨he, hw⟩ => ⟨_, he, hw, by rw [EK.out]; rfl⟩)
        · obtain rfl := Option.some.inj hi
          have d15 : a.tmps.getD 64 undef = .bool true := dep_of hdeps 15 (by kernel_rfl)
          exact each_pure hi (wanted_of (g := 15) rfl rfl d15) (ex_move _) hold0
        · obtain rfl := Option.some.inj hi
          have d15 : a.tmps.getD 64 undef = .bool true := dep_of hdeps 15 (by kernel_rfl)
          exact each_pure hi (wanted_of (g := 15) rfl rfl d15) (ex_move _) hold11
        · obtain rfl := Option.some.inj hi
          have d15 : a.tmps.getD 64 undef = .bool true := dep_of hdeps 15 (by kernel_rfl)
          have d22 : a.tmps.getD 71 undef = .int .u32 (k : Nat) := dep_of hdeps 22 (by kernel_rfl)
          obtain ⟨w2, hr, hl, hB2⟩ := ex_make (ρ := a.eval) (w := w1) (.tmp 71) k hkl d22
          exact each_alloc hi (wanted_of (g := 15) rfl rfl d15) hr hB2 ⟨_, rfl, hl⟩
        · obtain rfl := Option.some.inj hi
          have d15 : a.tmps.getD 64 undef = .bool true := dep_of hdeps 15 (by kernel_rfl)
          have d21 : a.tmps.getD 70 undef = .slice aa la ca := dep_of hdeps 21 (by kernel_rfl)
          obtain ⟨b, hb, hl⟩ : ∃ b, a.tmps.getD 72 undef = .slice (some ⟨b, 0, none⟩) k k ∧ Lies .u8 w1 (a.tmps.getD 72 undef) (List.replicate k 0) := dep_of hdeps 23 (by kernel_rfl)
          rw [hb] at hl
          exact each_alloc hi (wanted_of (g := 15) rfl rfl d15) (ex_build2 _ _ _ _ _ d21 _ _ _ hb) ((Below.refl _ _).alloc (Nat.le_refl _) _) ⟨_, _, rfl, parts_two w1 _ _ xa _ _ LA1 hl⟩
        · obtain rfl := Option.some.inj hi
          have d15 : a.tmps.getD 64 undef = .bool true := dep_of hdeps 15 (by kernel_rfl)
          obtain ⟨b, v2, hb, hp⟩ : ∃ b v2, a.tmps.getD 73 undef = .slice (some ⟨b, 0, none⟩) 2 2 ∧ PartsLie w1 b [.slice aa la ca, v2] [xa, List.replicate k 0] := dep_of hdeps 24 (by kernel_rfl)
          have e1 : a.eval (.tmp 73) = .slice (some ⟨b, 0, none⟩) 2 2 := hb
          exact each_enter hi (wanted_of (g := 15) rfl rfl d15) (ex_call 11 _ _ _ rfl (by simp only [List.map_toArray, List.map_cons, List.map_nil, e1]) en_sum) (sumP2 hp BA.out (by intro c hc; rw [List.mem_replicate] at hc; omega) HU.out)
        · obtain rfl := Option.some.inj hi
          have d15 : a.tmps.getD 64 undef = .bool true := dep_of hdeps 15 (by kernel_rfl)
          have d20 : a.tmps.getD 69 undef = .int .u32 (U : Nat) := dep_of hdeps 20 (by kernel_rfl)
          have d25 : a.tmps.getD 74 undef = .int .u32 (U : Nat) := dep_of hdeps 25 (by kernel_rfl)
          exact each_pure hi (wanted_of (g := 15) rfl rfl d15) (ex_eql _ _ _ _ d20 d25) (by simp [I9])
        · obtain rfl := Option.some.inj hi
          have d15 : a.tmps.getD 64 undef = .bool true := dep_of hdeps 15 (by kernel_rfl)
          have d26 : a.tmps.getD 75 undef = .bool true := dep_of hdeps 26 (by kernel_rfl)
          exact each_pure hi rfl (ex_pick _ _ d15 _) d26
        · obtain rfl := Option.some.inj hi
          have d27 : a.tmps.getD 76 undef = .bool true := dep_of hdeps 27 (by kernel_rfl)
          exact each_pure hi rfl (ex_move _) d27
        · obtain rfl := Option.some.inj hi
          have d28 : a.tmps.getD 77 undef = .bool true := dep_of hdeps 28 (by kernel_rfl)
          exact each_enter hi (wanted_of (g := 28) rfl rfl d28) (ex_call 10 _ _ _ rfl (by simp only [List.map_toArray, List.map_nil]) en_alive) ((alive_any w1).mono fun e w' ⟨he, hw⟩ => ⟨_, he, hw, rfl⟩)
        · obtain rfl := Option.some.inj hi
          have d28 : a.tmps.getD 77 undef = .bool true := dep_of hdeps 28 (by kernel_rfl)
          have d29 : a.tmps.getD 78 undef = .bool true := dep_of hdeps 29 (by kernel_rfl)
          exact each_pure hi rfl (ex_pick _ _ d28 _) d29
        · obtain rfl := Option.some.inj hi
          have d30 : a.tmps.getD 79 undef = .bool true := dep_of hdeps 30 (by kernel_rfl)
          exact each_pure hi rfl (ex_assign _) d30
      · intro a w1 hB hdef hold hall
        have h31 : a.tmps.getD 6 undef = .bool true := hall 31 (by decide)
        have H31 := hide h31
        clear h31 hold hall
        go_wp2_with fail
        refine bodyPost_ret (results_tmp rfl _ _ _) hdef ?_
        exact ⟨congrArg Ending.returned H31.out, HB9.out.trans (hB.mono HB9.out.size)⟩
    · have hfI : decide ((n : Int) + (m : Int) < 4294967296) = false := by simp; omega
      go_wp2_with fail
      have HB9 := HB3
      have LA9 := LA3
      have LB9 := LB3
      refine wp_region_each2 (by kernel_rfl) (I9 (.slice aa la ca) (.slice ab lb cb) xa xb X Y T U lb k) (by kernel_rfl) I9_below ?_ ?_
      · intro i o hi a w1 hB hold hdeps
        have hold0 : a.tmps.getD 0 undef = .slice aa la ca := hold 0 (by kernel_rfl)
        have hold1 : a.tmps.getD 1 undef = .slice ab lb cb := hold 1 (by kernel_rfl)
        have hold11 : a.tmps.getD 11 undef = .int .u32 (k : Nat) := (hold 11 (by kernel_rfl)).trans (congrArg (Value.int .u32) hkm)
        have LA1 := LA9.out.below hB
        have LB1 := LB9.out.below hB
        have h32 : i < 32 := (Array.getElem?_eq_some_iff.1 hi).1
        have hc : i = 0 ∨ i = 1 ∨ i = 2 ∨ i = 3 ∨ i = 4 ∨ i = 5 ∨ i = 6 ∨ i = 7 ∨ i = 8 ∨ i = 9 ∨ i = 10 ∨ i = 11 ∨ i = 12 ∨ i = 13 ∨ i = 14 ∨ i = 15 ∨ i = 16 ∨ i = 17 ∨ i = 18 ∨ i = 19 ∨ i = 20 ∨ i = 21 ∨ i = 22 ∨ i = 23 ∨ i = 24 ∨ i = 25 ∨ i = 26 ∨ i = 27 ∨ i = 28 ∨ i = 29 ∨ i = 30 ∨ i = 31 := by omega
        clear h32
        rcases hc with rfl | rfl | rfl | rfl | rfl | rfl | rfl | rfl | rfl | rfl | rfl | rfl | rfl | rfl | rfl | rfl | rfl | rfl | rfl | rfl | rfl | rfl | rfl | rfl | rfl | rfl | rfl | rfl | rfl | rfl | rfl | rfl
        · obtain rfl := Option.some.inj hi
          exact each_pure hi rfl (ex_move _) hold0
        · obtain rfl := Option.some.inj hi
          have d0 : a.tmps.getD 49 undef = .slice aa la ca := dep_of hdeps 0 (by kernel_rfl)
          exact each_alloc hi rfl (ex_build1 _ _ _ _ d0) ((Below.refl _ _).alloc (Nat.le_refl _) _) ⟨_, rfl, parts_one w1 _ xa _ LA1⟩
        · obtain rfl := Option.some.inj hi
          obtain ⟨b, hb, hp⟩ : ∃ b, a.tmps.getD 50 undef = .slice (some ⟨b, 0, none⟩) 1 1 ∧ PartsLie w1 b [.slice aa la ca] [xa] := dep_of hdeps 1 (by kernel_rfl)
          have e1 : a.eval (.tmp 50) = .slice (some ⟨b, 0, none⟩) 1 1 := hb
          exact each_enter hi rfl (ex_call 11 _ _ _ rfl (by simp only [List.map_toArray, List.map_cons, List.map_nil, e1]) en_sum) (sumP1 hp BA.out HX.out)
        · obtain rfl := Option.some.inj hi
          exact each_pure hi rfl (ex_move _) hold1
        · obtain rfl := Option.some.inj hi
          have d3 : a.tmps.getD 52 undef = .slice ab lb cb := dep_of hdeps 3 (by kernel_rfl)
          exact each_alloc hi rfl (ex_build1 _ _ _ _ d3) ((Below.refl _ _).alloc (Nat.le_refl _) _) ⟨_, rfl, parts_one w1 _ xb _ LB1⟩
        · obtain rfl := Option.some.inj hi
          obtain ⟨b, hb, hp⟩ : ∃ b, a.tmps.getD 53 undef = .slice (some ⟨b, 0, none⟩) 1 1 ∧ PartsLie w1 b [.slice ab lb cb] [xb] := dep_of hdeps 4 (by kernel_rfl)
          have e1 : a.eval (.tmp 53) = .slice (some ⟨b, 0, none⟩) 1 1 := hb
          exact each_enter hi rfl (ex_call 11 _ _ _ rfl (by simp only [List.map_toArray, List.map_cons, List.map_nil, e1]) en_sum) (sumP1 hp BB.out HY.out)
        · obtain rfl := Option.some.inj hi
          exact each_pure hi rfl (ex_move _) hold1
        · obtain rfl := Option.some.inj hi
          have d6 : a.tmps.getD 55 undef = .slice ab lb cb := dep_of hdeps 6 (by kernel_rfl)
          exact each_pure hi rfl (ex_len _ _ _ _ d6) rfl
        · obtain rfl := Option.some.inj hi
          have d7 : a.tmps.getD 56 undef = .int .i64 (lb : Nat) := dep_of hdeps 7 (by kernel_rfl)
          exact each_pure hi rfl (ex_conv _ _ (by omega) d7) rfl
        · obtain rfl := Option.some.inj hi
          have d2 : a.tmps.getD 51 undef = .int .u32 (X : Nat) := dep_of hdeps 2 (by kernel_rfl)
          have d5 : a.tmps.getD 54 undef = .int .u32 (Y : Nat) := dep_of hdeps 5 (by kernel_rfl)
          have d8 : a.tmps.getD 57 undef = .int .u32 (lb : Nat) := dep_of hdeps 8 (by kernel_rfl)
          have e2 : a.eval (.tmp 51) = .int .u32 (X : Nat) := d2
          have e5 : a.eval (.tmp 54) = .int .u32 (Y : Nat) := d5
          have e8 : a.eval (.tmp 57) = .int .u32 (lb : Nat) := d8
          exact each_enter hi rfl (ex_call 16 _ _ _ rfl (by simp only [List.map_toArray, List.map_cons, List.map_nil, e2, e5, e8]) en_join) ((join_any X Y lb hX hY (by omega) w1).mono fun e w' ⟨he, hw⟩ => ⟨_, he, hw, by rw [EJ.out]; rfl⟩)
        · obtain rfl := Option.some.inj hi
          exact each_pure hi rfl (ex_move _) hold0
        · obtain rfl := Option.some.inj hi
          exact each_pure hi rfl (ex_move _) hold1
        · obtain rfl := Option.some.inj hi
          have d10 : a.tmps.getD 59 undef = .slice aa la ca := dep_of hdeps 10 (by kernel_rfl)
          have d11 : a.tmps.getD 60 undef = .slice ab lb cb := dep_of hdeps 11 (by kernel_rfl)
          exact each_alloc hi rfl (ex_build2 _ _ _ _ _ d10 _ _ _ d11) ((Below.refl _ _).alloc (Nat.le_refl _) _) ⟨_, rfl, parts_two w1 _ _ xa xb _ LA1 LB1⟩
        · obtain rfl := Option.some.inj hi
          obtain ⟨b, hb, hp⟩ : ∃ b, a.tmps.getD 61 undef = .slice (some ⟨b, 0, none⟩) 2 2 ∧ PartsLie w1 b [.slice aa la ca, .slice ab lb cb] [xa, xb] := dep_of hdeps 12 (by kernel_rfl)
          have e1 : a.eval (.tmp 61) = .slice (some ⟨b, 0, none⟩) 2 2 := hb
          exact each_enter hi rfl (ex_call 11 _ _ _ rfl (by simp only [List.map_toArray, List.map_cons, List.map_nil, e1]) en_sum) (sumP2 hp BA.out BB.out HT.out)
        · obtain rfl := Option.some.inj hi
          have d9 : a.tmps.getD 58 undef = .int .u32 (T : Nat) := dep_of hdeps 9 (by kernel_rfl)
          have d13 : a.tmps.getD 62 undef = .int .u32 (T : Nat) := dep_of hdeps 13 (by kernel_rfl)
          exact each_pure hi rfl (ex_eql _ _ _ _ d9 d13) (by simp [I9])
        · obtain rfl := Option.some.inj hi
          have d14 : a.tmps.getD 63 undef = .bool true := dep_of hdeps 14 (by kernel_rfl)
          exact each_pure hi rfl (ex_move _) d14
        · obtain rfl := Option.some.inj hi
          have d15 : a.tmps.getD 64 undef = .bool true := dep_of hdeps 15 (by kernel_rfl)
          exact each_pure hi (wanted_of (g := 15) rfl rfl d15) (ex_move _) hold0
        · obtain rfl := Option.some.inj hi
          have d15 : a.tmps.getD 64 undef = .bool true := dep_of hdeps 15 (by kernel_rfl)
          have d16 : a.tmps.getD 65 undef = .slice aa la ca := dep_of hdeps 16 (by kernel_rfl)
          exact each_alloc hi (wanted_of (g := 15) rfl rfl d15) (ex_build1 _ _ _ _ d16) ((Below.refl _ _).alloc (Nat.le_refl _) _) ⟨_, rfl, parts_one w1 _ xa _ LA1⟩
        · obtain rfl := Option.some.inj hi
          have d15 : a.tmps.getD 64 undef = .bool true := dep_of hdeps 15 (by kernel_rfl)
          obtain ⟨b, hb, hp⟩ : ∃ b, a.tmps.getD 66 undef = .slice (some ⟨b, 0, none⟩) 1 1 ∧ PartsLie w1 b [.slice aa la ca] [xa] := dep_of hdeps 17 (by kernel_rfl)
          have e1 : a.eval (.tmp 66) = .slice (some ⟨b, 0, none⟩) 1 1 := hb
          exact each_enter hi (wanted_of (g := 15) rfl rfl d15) (ex_call 11 _ _ _ rfl (by simp only [List.map_toArray, List.map_cons, List.map_nil, e1]) en_sum) (sumP1 hp BA.out HX.out)
        · obtain rfl := Option.some.inj hi
          have d15 : a.tmps.getD 64 undef = .bool true := dep_of hdeps 15 (by kernel_rfl)
          exact each_pure hi (wanted_of (g := 15) rfl rfl d15) (ex_move _) hold11
        · obtain rfl := Option.some.inj hi
          have d15 : a.tmps.getD 64 undef = .bool true := dep_of hdeps 15 (by kernel_rfl)
          have d18 : a.tmps.getD 67 undef = .int .u32 (X : Nat) := dep_of hdeps 18 (by kernel_rfl)
          have d19 : a.tmps.getD 68 undef = .int .u32 (k : Nat) := dep_of hdeps 19 (by kernel_rfl)
          have e2 : a.eval (.tmp 67) = .int .u32 (X : Nat) := d18
          have e5 : a.eval (.tmp 68) = .int .u32 (k : Nat) := d19
          exact each_enter hi (wanted_of (g := 15) rfl rfl d15) (ex_call 14 _ _ _ rfl (by simp only [List.map_toArray, List.map_cons, List.map_nil, e2, e5]) en_zeros) ((zeros_any X k hX (by omega) w1).mono fun e w' ⟨he, hw⟩ => ⟨_, he, hw, by rw [EK.out]; rfl⟩)
        · obtain rfl := Option.some.inj hi
          have d15 : a.tmps.getD 64 undef = .bool true := dep_of hdeps 15 (by kernel_rfl)
          exact each_pure hi (wanted_of (g := 15) rfl rfl d15) (ex_move _) hold0
        · obtain rfl := Option.some.inj hi
          have d15 : a.tmps.getD 64 undef = .bool true := dep_of hdeps 15 (by kernel_rfl)
          exact each_pure hi (wanted_of (g := 15) rfl rfl d15) (ex_move _) hold11
        · obtain rfl := Option.some.inj hi
          have d15 : a.tmps.getD 64 undef = .bool true := dep_of hdeps 15 (by kernel_rfl)
          have d22 : a.tmps.getD 71 undef = .int .u32 (k : Nat) := dep_of hdeps 22 (by kernel_rfl)
          obtain ⟨w2, hr, hl, hB2⟩ := ex_make (ρ := a.eval) (w := w1) (.tmp 71) k hkl d22
          exact each_alloc hi (wanted_of (g := 15) rfl rfl d15) hr hB2 ⟨_, rfl, hl⟩
        · obtain rfl := Option.some.inj hi
          have d15 : a.tmps.getD 64 undef = .bool true := dep_of hdeps 15 (by kernel_rfl)
          have d21 : a.tmps.getD 70 undef = .slice aa la ca := dep_of hdeps 21 (by kernel_rfl)
          obtain ⟨b, hb, hl⟩ : ∃ b, a.tmps.getD 72 undef = .slice (some ⟨b, 0, none⟩) k k ∧ Lies .u8 w1 (a.tmps.getD 72 undef) (List.replicate k 0) := dep_of hdeps 23 (by kernel_rfl)
          rw [hb] at hl
          exact each_alloc hi (wanted_of (g := 15) rfl rfl d15) (ex_build2 _ _ _ _ _ d21 _ _ _ hb) ((Below.refl _ _).alloc (Nat.le_refl _) _) ⟨_, _, rfl, parts_two w1 _ _ xa _ _ LA1 hl⟩
        · obtain rfl := Option.some.inj hi
          have d15 : a.tmps.getD 64 undef = .bool true := dep_of hdeps 15 (by kernel_rfl)
          obtain ⟨b, v2, hb, hp⟩ : ∃ b v2, a.tmps.getD 73 undef = .slice (some ⟨b, 0, none⟩) 2 2 ∧ PartsLie w1 b [.slice aa la ca, v2] [xa, List.replicate k 0] := dep_of hdeps 24 (by kernel_rfl)
          have e1 : a.eval (.tmp 73) = .slice (some ⟨b, 0, none⟩) 2 2 := hb
          exact each_enter hi (wanted_of (g := 15) rfl rfl d15) (ex_call 11 _ _ _ rfl (by simp only [List.map_toArray, List.map_cons, List.map_nil, e1]) en_sum) (sumP2 hp BA.out (by intro c hc; rw [List.mem_replicate] at hc; omega) HU.out)
        · obtain rfl := Option.some.inj hi
          have d15 : a.tmps.getD 64 undef = .bool true := dep_of hdeps 15 (by kernel_rfl)
          have d20 : a.tmps.getD 69 undef = .int .u32 (U : Nat) := dep_of hdeps 20 (by kernel_rfl)
          have d25 : a.tmps.getD 74 undef = .int .u32 (U : Nat) := dep_of hdeps 25 (by kernel_rfl)
          exact each_pure hi (wanted_of (g := 15) rfl rfl d15) (ex_eql _ _ _ _ d20 d25) (by simp [I9])
        · obtain rfl := Option.some.inj hi
          have d15 : a.tmps.getD 64 undef = .bool true := dep_of hdeps 15 (by kernel_rfl)
          have d26 : a.tmps.getD 75 undef = .bool true := dep_of hdeps 26 (by kernel_rfl)
          exact each_pure hi rfl (ex_pick _ _ d15 _) d26
        · obtain rfl := Option.some.inj hi
          have d27 : a.tmps.getD 76 undef = .bool true := dep_of hdeps 27 (by kernel_rfl)
          exact each_pure hi rfl (ex_move _) d27
        · obtain rfl := Option.some.inj hi
          have d28 : a.tmps.getD 77 undef = .bool true := dep_of hdeps 28 (by kernel_rfl)
          exact each_enter hi (wanted_of (g := 28) rfl rfl d28) (ex_call 10 _ _ _ rfl (by simp only [List.map_toArray, List.map_nil]) en_alive) ((alive_any w1).mono fun e w' ⟨he, hw⟩ => ⟨_, he, hw, rfl⟩)
        · obtain rfl := Option.some.inj hi
          have d28 : a.tmps.getD 77 undef = .bool true := dep_of hdeps 28 (by kernel_rfl)
          have d29 : a.tmps.getD 78 undef = .bool true := dep_of hdeps 29 (by kernel_rfl)
          exact each_pure hi rfl (ex_pick _ _ d28 _) d29
        · obtain rfl := Option.some.inj hi
          have d30 : a.tmps.getD 79 undef = .bool true := dep_of hdeps 30 (by kernel_rfl)
          exact each_pure hi rfl (ex_assign _) d30
      · intro a w1 hB hdef hold hall
        have h31 : a.tmps.getD 6 undef = .bool true := hall 31 (by decide)
        have H31 := hide h31
        clear h31 hold hall
        go_wp2_with fail
        refine bodyPost_ret (results_tmp rfl _ _ _) hdef ?_
        exact ⟨congrArg Ending.returned H31.out, HB9.out.trans (hB.mono HB9.out.size)⟩
end both
namespace bothRow
set_option maxRecDepth 100000 in
theorem lifted (os : Os) (started : os.Started) (H : Type) (enc : TypeId × Value → H) :
    ReturnsInHanded {} Try.checked os 8 .any (Rows.crcBothSpec.pre6 enc Try.prog Try.f8 Rows.crcBothRow.domain false) (Rows.crcBothSpec.post enc Try.prog Try.f8 false true false false) := by
  refine returnsInHanded_of_change (C := Try.checked) own started (by kernel_rfl) Try.func8
    (ChangeSpec.witness6 (enc := enc) (C := Try.checked) false ⟨#[], #[.slice none 0 0, .slice none 0 0, .agg #[.int .u32 0, .int .u32 0]], []⟩ 8 (by kernel_rfl) (by kernel_rfl) (by kernel_rfl) (by kernel_rfl)) ?_
  intro W base args ds gs before hval0 hW hcnd _
  have hval : ∀ (j : Nat) t v, Try.f8.params[j]? = some t → args[j]? = some v → Value.okWide Try.prog W .any base t v := hval0
  have hW' := hW
  obtain ⟨p, q, hA0, hV, rfl, hfz, hnd⟩ := hW
  have hA : DataW.TrodAll enc Try.prog W 0 (fun _ => true) true Try.f8.params.toList args.toList ds p := hA0
  rw [Try.params8] at hA hval
  obtain ⟨v0, vs0, d0, ds0, p0, q0, hargs, rfl, rfl, h0, r0⟩ := trodAll_cons hA
  obtain ⟨v1, vs1, d1, ds1, p1, q1, rfl, rfl, rfl, h1, r1⟩ := trodAll_cons r0
  obtain ⟨v2, vs2, d2, ds2, p2, q2, rfl, rfl, rfl, h2, r2⟩ := trodAll_cons r1
  obtain ⟨rfl, rfl, rfl⟩ := trodAll_nil r2
  obtain rfl : args = #[v0, v1, v2] := by cases args; simp_all
  obtain ⟨rfl, rfl⟩ := trodVars_none hV
  obtain ⟨a0, len0, cap0, rfl⟩ := okWide_slice Try.underlying22 (hval 0 22 v0 rfl rfl)
  have k0 := h0
  have lt0 : ∀ x ∈ p0, x.block < W.heap.size := by obtain ⟨m, hm⟩ := k0; exact DataW.trod_lt m _ _ _ hm
  obtain ⟨xs0, lies0, by0⟩ := lies_of_trod h0
  obtain ⟨a1, len1, cap1, rfl⟩ := okWide_slice Try.underlying22 (hval 1 22 v1 rfl rfl)
  have k1 := h1
  have lt1 : ∀ x ∈ p1, x.block < W.heap.size := by obtain ⟨m, hm⟩ := k1; exact DataW.trod_lt m _ _ _ hm
  obtain ⟨xs1, lies1, by1⟩ := lies_of_trod h1
  obtain ⟨x2, y2, rfl, rfl, rfl, wx2, wy2⟩ := Go.WideMaps.open_pair arrPair Try.underlying23 (hval 2 37 v2 rfl rfl) h2
  have bx2 := bounds_u32 wx2
  have by2 := bounds_u32 wy2
  obtain ⟨m2, rfl⟩ := Int.eq_ofNat_of_zero_le bx2.1
  obtain ⟨n2, rfl⟩ := Int.eq_ofNat_of_zero_le by2.1
  clear hA0 hval0
  refine (both.walkN _ _ xs0 xs1 m2 n2 W (by omega) (by omega) lies0 lies1 by0 by1).mono fun e W' ⟨he, bel⟩ => ?_
  subst he
  exact ⟨_, rfl, _, _, _, [], _, [], hW', trodAll_mk1 (shut_bool Try.underlying4 _), (trodAll_cons_mk (Below.trod laidOut (by kernel_rfl) (of_decide_eq_true (by kernel_rfl)) k0 bel lt0) (trodAll_cons_mk (Below.trod laidOut (by kernel_rfl) (of_decide_eq_true (by kernel_rfl)) k1 bel lt1) (trodAll_cons_mk (Go.WideMaps.shut_pair arrPair Try.underlying23 wx2 wy2) trodAll_mk0))), rfl, bel.frame _, fun h => by cases h⟩

theorem over : Rows.crcBothRow.holds Try.pinned (OpenSpec.ofChange Rows.crcBothSpec) :=
  OpenClaim.holds_of_wide 8 Try.f8 rfl rfl rfl rfl rfl rfl rfl ⟨rfl, rfl, rfl, rfl, rfl⟩ rfl rfl rfl rfl rfl (by kernel_rfl) Try.func8 (by kernel_rfl)
    (of_decide_eq_true (by kernel_rfl)) (by unfold Func.isWrapper; first | (rw [if_pos (by decide +kernel)]; kernel_rfl) | (rw [if_neg (by decide +kernel)]; exact ⟨rfl, rfl⟩))
    (fun os started H enc _ => lifted os started H enc)
end bothRow

/-- THE STATEMENT. -/
theorem crcBoth_holds : Rows.CrcBothSaid := bothRow.over
#print axioms crcBoth_holds
end Go.Proofs.Ytgflokjfdcgpbaa
