/-
  Walk of after: a number goes by many bytes 0, by squares. Own work.
-/
import Derived.Test.YtgflokjfdcgpbaaCrcSquare
namespace Go.Proofs.Ytgflokjfdcgpbaa
open Go.RowKit

/-- A map of numbers of 32 bits that keeps 'either'. -/
structure Lin (f : Nat → Nat) : Prop where
  zero : f 0 = 0
  add : ∀ a b, f (a ^^^ b) = f a ^^^ f b
  lt : ∀ c, c < 4294967296 → f c < 4294967296
theorem Lin.eight : Lin eightN := ⟨eight_zero, eight_lin, fun _ => eight_lt⟩
theorem Lin.twice {f : Nat → Nat} (h : Lin f) : Lin (fun c => f (f c)) := ⟨by rw [h.zero, h.zero], fun a b => by rw [h.add, h.add], fun c hc => h.lt _ (h.lt c hc)⟩
theorem Lin.pick {f : Nat → Nat} (h : Lin f) {v : Nat} (hv : v < 4294967296) : pick (cols f 32) v = f v := pick_cols f h.zero h.add 32 v hv
theorem Lin.square {f : Nat → Nat} (h : Lin f) : (cols f 32).map (Go.Proofs.Ytgflokjfdcgpbaa.pick (cols f 32)) = cols (fun c => f (f c)) 32 := cols_square f h.zero h.add h.lt
theorem cols_length (f : Nat → Nat) : (cols f 32).length = 32 := by simp [cols]
theorem Lin.cols_lt {f : Nat → Nat} (h : Lin f) : ∀ m ∈ cols f 32, m < 4294967296 := by
  intro m hm
  unfold cols at hm
  rw [List.mem_map] at hm
  obtain ⟨i, hi, rfl⟩ := hm
  exact h.lt _ (pow_lt32 (by simpa using hi))
/-- What holds at each round of 'after'. -/
structure AftInv (w wr : World) (N b : Nat) (f : Nat → Nat) : Prop where
  lin : Lin f
  src : Cols wr b (cols f 32)
  may : wr.there b 0 32
  bel : Below N w wr
  low : N ≤ b
  size : b < wr.heap.size
theorem AftInv.below {w wr w' : World} {N b : Nat} {f : Nat → Nat} (h : AftInv w wr N b f) (hB : Below wr.heap.size wr w') : AftInv w w' N b f :=
  ⟨h.lin, h.src.below hB h.size, there_below h.may hB h.size, h.bel.trans (hB.mono (Nat.le_of_lt (Nat.lt_of_le_of_lt h.low h.size))), h.low, Nat.lt_of_lt_of_le h.size hB.size⟩
theorem size_setCells (b : Nat) : ∀ (vs : List Value) (o : Nat) (w : World), (w.setCells b o vs).heap.size = w.heap.size
  | [], _, _ => rfl
  | v :: r, o, w => by rw [World.setCells, size_setCells b r (o + 1)]; simp
theorem AftInv.put {w wr w' : World} {N b : Nat} {f g : Nat → Nat} (h : AftInv w wr N b f) (hg : Lin g) (hw : w' = wr.setCells b 0 (cellsL (cols g 32))) (hc : Cols w' b (cols g 32)) : AftInv w w' N b g := by
  subst hw
  exact ⟨hg, hc, World.there_setCells h.may _ _ _, below_setCells h.low _ _ _ h.bel, h.low, by rw [size_setCells]; exact h.size⟩
theorem AftInv.fresh {w wr w' : World} {N b : Nat} {f : Nat → Nat} {Z : Array Value} (h : AftInv w wr N b f) (hZ : Z.size = 32) (hw : w' = (wr.alloc (.cells Z 44)).setCells wr.heap.size 0 (cellsL (cols f 32))) (hc : Cols w' wr.heap.size (cols f 32)) : AftInv w w' N wr.heap.size f := by
  subst hw
  have hN : N ≤ wr.heap.size := Nat.le_of_lt (Nat.lt_of_le_of_lt h.low h.size)
  have ht := there_new wr Z 44
  rw [hZ] at ht
  exact ⟨h.lin, hc, World.there_setCells ht _ _ _, below_setCells hN _ _ _ (h.bel.alloc hN _), hN, by rw [size_setCells]; simp⟩

set_option maxHeartbeats 1600000 in
theorem after_any (c n : Nat) (hc : c < 4294967296) (hn : n < 4294967296) (w : World) :
    Calls Try.prog 22 #[.int .u32 c, .int .u32 n] w fun e w' => e = .returned (.int .u32 (stepsN c n : Nat)) ∧ Below w.heap.size w w' := by
  obtain ⟨hz, _⟩ := zero_of_info infoS
  have hZ : (Array.replicate 32 (Value.int .u32 0)).size = 32 := by simp
  generalize Array.replicate 32 (Value.int .u32 0) = Z at *
  have HT : Hid (∀ W : World, (W.alloc (.cells Z 44)).there W.heap.size 0 32) := hide (fun W => by have := there_new W Z 44; rwa [hZ] at this)
  go_enter Try.func22, Try.ntmps22
  go_wp2_with (first | (go_at_call 25; refine (single_any _).mono ?_; rintro e w1 ⟨rfl, hB1⟩) | (refine wp_store_cols rfl rfl _ _ rfl _ (cols eightN 32) rfl rfl (cols_length _) (HT.out _) ?_; intro w2 hw2 HC2))
  have HA : Hid (AftInv w w2 w.heap.size w1.heap.size eightN) := hide (by
    have hs := hB1.size
    have ht := HT.out w1
    subst hw2
    exact ⟨Lin.eight, HC2, World.there_setCells ht _ _ _, below_setCells hs _ _ _ (hB1.alloc hs _), hs, by rw [size_setCells]; simp⟩)
  have H0 : Hid (iterN eightN n c = stepsN c n) := hide rfl
  have HZ := hide hZ
  clear hw2 HC2 hB1 hZ
  generalize w1.heap.size = b0 at *
  go_loopw [0, 1, 5] (fun x m p wr => ∃ (y k b : Nat) (f : Nat → Nat), x = .int .u32 y ∧ m = .int .u32 k ∧ p = .pointer (some ⟨b, 0, none⟩) ∧ y < 4294967296 ∧ k < 4294967296 ∧ Hid (iterN f k y = stepsN c n) ∧ Hid (AftInv w wr w.heap.size b f)) (fun _ m _ _ => (intOf m).toNat)
  case atStart => exact ⟨c, n, b0, eightN, rfl, rfl, rfl, hc, hn, H0, HA⟩
  case round =>
    obtain ⟨y, k, b, f, rfl, rfl, rfl, hy, hk, HK, HI⟩ := hrel
    clear HA H0
    by_cases h0 : k = 0
    · subst h0
      have HE : Hid (y = stepsN c n) := hide (by rw [← HK.out]; rfl)
      go_wp2
      go_ret
      exact ⟨ret_int (by rw [HE.out]), HI.out.bel⟩
    · have hand := and1 k hk
      have HL := hide (cols_length f)
      have HL2 := hide (cols_length (fun c => f (f c)))
      have HML := hide HI.out.lin.cols_lt
      have HSQ := hide HI.out.lin.square
      have HP := hide (HI.out.lin.pick hy)
      have HIT := hide (iter_bits f k y)
      have hfy := HI.out.lin.lt y hy
      have HLT := hide HI.out.lin.twice
      generalize hms : cols f 32 = ms at *
      generalize hm2 : cols (fun c => f (f c)) 32 = m2 at *
      have HMS := hide hms
      have HM2 := hide hm2
      clear hms hm2
      have HI0 := hide HI.out.src
      rw [HMS.out] at HI0
      by_cases hbit : k % 2 = 1
      · rw [hbit] at hand
        have hand1 : (bits .and .u32 (k : Int) 1 == 1) = true := by rw [hand]; rfl
        have HN : Hid (iterN (fun c => f (f c)) (k / 2) (f y) = stepsN c n) := hide (by rw [← HK.out, HIT.out, if_pos hbit])
        clear hand hbit
        go_wp2_with (first
          | (refine wp_load_cols rfl _ rfl _ rfl ms HL.out HI0.out ?_)
          | (go_at_call 26; refine (of_below ms y HL.out HML.out hy _).mono ?_; rintro e w3 ⟨rfl, hB3⟩; rw [HP.out]; have HI1 := hide (HI.out.below hB3); have HI1s := hide HI1.out.src; rw [HMS.out] at HI1s; clear hB3)
          | (refine wp_load_cols rfl _ rfl _ rfl ms HL.out HI1s.out ?_)
          | (go_at_call 27; refine (square_any ms HL.out HML.out _).mono ?_; rintro e w4 ⟨rfl, hB4⟩; rw [HSQ.out]; have HI2 := hide (HI1.out.below hB4); clear hB4)
          | (refine wp_store_cols rfl rfl _ _ rfl _ m2 rfl rfl HL2.out HI2.out.may ?_; intro w5 hw5 HC5; rw [← HM2.out] at hw5 HC5; have HI3 := hide (HI2.out.put HLT.out hw5 HC5); rw [HM2.out] at HC5; have HC5h := hide HC5; clear hw5 HC5)
          | (refine wp_load_cols rfl _ rfl _ rfl m2 HL2.out HC5h.out ?_)
          | (refine wp_store_cols rfl rfl _ _ rfl _ m2 rfl rfl HL2.out (HT.out _) ?_; intro w6 hw6 HC6; rw [← HM2.out] at hw6 HC6; have HI4 := hide (HI3.out.fresh HZ.out hw6 HC6); clear hw6 HC6))
        go_roundw
        case rel => exact ⟨f y, k / 2, _, _, rfl, by go_num, rfl, hfy, by omega, HN, HI4⟩
        case measure => simp [intOf]; omega
      · have hand1 : (bits .and .u32 (k : Int) 1 == 1) = false := by
          rw [hand]
          have : k % 2 = 0 := by omega
          rw [this]; rfl
        have HN : Hid (iterN (fun c => f (f c)) (k / 2) y = stepsN c n) := hide (by rw [← HK.out, HIT.out, if_neg hbit])
        clear hand hbit
        go_wp2_with (first
          | (refine wp_load_cols rfl _ rfl _ rfl ms HL.out HI0.out ?_)
          | (go_at_call 27; refine (square_any ms HL.out HML.out _).mono ?_; rintro e w4 ⟨rfl, hB4⟩; rw [HSQ.out]; have HI2 := hide (HI.out.below hB4); clear hB4)
          | (refine wp_store_cols rfl rfl _ _ rfl _ m2 rfl rfl HL2.out HI2.out.may ?_; intro w5 hw5 HC5; rw [← HM2.out] at hw5 HC5; have HI3 := hide (HI2.out.put HLT.out hw5 HC5); rw [HM2.out] at HC5; have HC5h := hide HC5; clear hw5 HC5)
          | (refine wp_load_cols rfl _ rfl _ rfl m2 HL2.out HC5h.out ?_)
          | (refine wp_store_cols rfl rfl _ _ rfl _ m2 rfl rfl HL2.out (HT.out _) ?_; intro w6 hw6 HC6; rw [← HM2.out] at hw6 HC6; have HI4 := hide (HI3.out.fresh HZ.out hw6 HC6); clear hw6 HC6))
        go_roundw
        case rel => exact ⟨y, k / 2, _, _, rfl, by go_num, rfl, hy, by omega, HN, HI4⟩
        case measure => simp [intOf]; omega
end Go.Proofs.Ytgflokjfdcgpbaa
