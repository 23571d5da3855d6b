/-
  Walks of single, square and after. Own work.
-/
import Derived.Test.YtgflokjfdcgpbaaCrcCols
import Derived.Deep.RegionHeld
import Derived.Below
namespace Go.Proofs.Ytgflokjfdcgpbaa
open Go.RowKit

theorem below_setCells {B : Nat} {a : World} {b : Nat} (hb : B ≤ b) : ∀ (vs : List Value) (o : Nat) (w : World), Below B a w → Below B a (w.setCells b o vs)
  | [], _, _, h => h
  | v :: r, o, w, h => by
    rw [World.setCells]
    exact below_setCells hb r (o + 1) _ (h.setCell hb v)
theorem results_cell1 {fn : Func} {p : Tmp} {ty : TypeId} (h : fn.results = #[.cell p ty]) (tmps : Array Value) (P : Program) (w : World) :
    (results fn tmps).run P w = ((asAddr (tmps.getD p undef)).run P w).andThen fun a w1 => (loadVar ty a).run P w1 := by
  simp only [results, h]
  simp [Sem.run_bind, Result.andThen]
theorem there_new (w : World) (c : Array Value) (t : TypeId) : (w.alloc (.cells c t)).there w.heap.size 0 c.size := by
  intro j hj
  rw [Nat.zero_add]
  refine ⟨?_, ?_⟩
  · rw [cell_of_row _ _ j c t (0, 0) (heap_alloc_last w _)]
    simp [hj]
  · unfold World.frozen?
    rw [heap_alloc_last]
    simp
theorem wp_store_cols {ops : Array Oper} {rest : List Oper} {op : Oper} {a : Act} {w : World} {Q : Exit → Act → World → Prop} (hgd : op.guard = none) (hd : op.dst = none) (x y : Operand) (ho : op.op = .store 44 x y)
    (b : Nat) (ms : List Nat) (hx : a.eval x = .pointer (some ⟨b, 0, none⟩)) (hy : a.eval y = .agg (cellsN ms)) (hl : ms.length = 32) (ht : w.there b 0 32)
    (h : ∀ w', w' = w.setCells b 0 (cellsL ms) → Cols w' b ms → wpList Try.prog ops Q rest a w') : wpList Try.prog ops Q (op :: rest) a w :=
  wpList_store_mid hgd 44 x y ho b 0 (cellsN ms) hx hy (by rw [cellsN_size, hl]; exact ht) (by rw [cellsN_size, hl]; exact sizeS32) (cellsN_one ms)
    (by rw [hd]; exact h _ rfl (World.rangeAt_setCells_same w b 0 (cellsL ms) (by rw [cellsL_length, hl]; exact ht)))
theorem load_cols (w : World) (b : Nat) (ms : List Nat) (hl : ms.length = 32) (h : Cols w b ms) : (loadVar 44 ⟨b, 0, none⟩).run Try.prog w = .ok (.agg (cellsN ms)) w :=
  run_loadVar_mid w b 0 44 (cellsL ms) _ h Try.underlying44 rfl (by rw [cellsL_length, hl]; exact sizeS32)
theorem cols_at (f : Nat → Nat) (k : Nat) (h : k < 32) : (cols f 32).getD k 0 = f (2 ^ k) := by
  simp [cols, List.getD, h]
theorem pow_lt32 {k : Nat} (h : k < 32) : 2 ^ k < 4294967296 := Nat.lt_of_lt_of_eq (Nat.pow_lt_pow_right (by decide) h) (by decide)

set_option maxHeartbeats 400000 in
theorem single_any (w : World) :
    Calls Try.prog 25 #[] w fun e w' => e = .returned (.agg (cellsN (cols eightN 32))) ∧ Below w.heap.size w w' := by
  obtain ⟨hz, _⟩ := zero_of_info infoS
  have hl : (cols eightN 32).length = 32 := by simp [cols]
  generalize hms : cols eightN 32 = ms at *
  rw [← filled_zero ms] at hz
  have HL := hide hl
  have HM := hide hms
  clear hl hms
  go_enter Try.func25, Try.ntmps25
  go_wp2
  go_loopw [3] (fun i wr => ∃ k : Nat, k ≤ 32 ∧ i = .int .i64 k ∧ wr = (w.alloc (.cells (cellsN (filled ms 0)) 44)).alloc (.cells (cellsN (filled ms k)) 44)) (fun i _ => 32 - (intOf i).toNat)
  case atStart => exact ⟨0, by omega, rfl, rfl⟩
  case round =>
    obtain ⟨k, hk, rfl, rfl⟩ := hrel
    by_cases hlt : k < 32
    · have hsz := cellsN_size (filled ms k)
      rw [filled_length ms k HL.out hk] at hsz
      obtain ⟨p, hp, hpp, HE⟩ : ∃ p : Nat, p < 4294967296 ∧ (2 : Int) ^ k % 4294967296 = (p : Int) ∧ Hid (eightN p = ms.getD k 0) := by
        refine ⟨2 ^ k, pow_lt32 hlt, ?_, hide ?_⟩
        · have := pow_lt32 hlt
          have e : (2 : Int) ^ k = ((2 ^ k : Nat) : Int) := by simp
          rw [e]
          generalize 2 ^ k = z at *
          omega
        · rw [← HM.out, cols_at eightN k hlt]
      have HF : Hid ((cellsN (filled ms k)).setIfInBounds k (.int .u32 (eightN p : Nat)) = cellsN (filled ms (k + 1))) := hide (by rw [HE.out]; exact filled_next ms k HL.out hlt)
      have he := eight_lt hp
      go_wp2_with (go_at_call 21; refine (pass_any p hp _).mono ?_; rintro e w1 ⟨rfl, h1⟩; rw [h1]; clear h1)
      go_roundw
      case rel => exact ⟨k + 1, by omega, by go_num, by rw [HF.out]⟩
      case measure => simp [intOf]; omega
    · obtain rfl : k = 32 := by omega
      have HFA := hide (filled_all ms HL.out)
      rw [HFA.out]
      have hC := Cols.new (w.alloc (.cells (cellsN (filled ms 0)) 44)) ms 44
      have hT := World.there_alloc (there_new w (cellsN (filled ms 0)) 44) (.cells (cellsN ms) 44)
      have hB : Below w.heap.size w ((w.alloc (.cells (cellsN (filled ms 0)) 44)).alloc (.cells (cellsN ms) 44)) := ((Below.refl _ _).alloc (Nat.le_refl _) _).alloc (by simp) _
      rw [cellsN_size, filled_length ms 0 HL.out (by decide)] at hT
      rw [show (w.alloc (.cells (cellsN (filled ms 0)) 44)).heap.size = w.heap.size + 1 by simp] at hC
      generalize (w.alloc (.cells (cellsN (filled ms 0)) 44)).alloc (.cells (cellsN ms) 44) = W at *
      have HC := hide hC
      have HT := hide hT
      have HB := hide hB
      clear hC hT hB
      go_wp2_with (first | (refine wp_load_cols rfl _ rfl _ rfl ms HL.out HC.out ?_) | (refine wp_store_cols rfl rfl _ _ rfl _ ms rfl rfl HL.out HT.out ?_; intro w1 hw1 HC1))
      refine bodyPost_ret (v := .agg (cellsN ms)) ?_ rfl ⟨rfl, ?_⟩
      · rw [results_cell1 rfl]
        have := load_cols w1 w.heap.size ms HL.out HC1
        show ((asAddr (.pointer (some ⟨w.heap.size, 0, none⟩))).run Try.prog w1).andThen _ = _
        simp [asAddr, Result.andThen, this]
      · rw [hw1]
        exact below_setCells (Nat.le_refl _) _ _ _ HB.out

theorem Cols.below {w w' : World} {B b : Nat} {ms : List Nat} (h : Cols w b ms) (hB : Below B w w') (hb : b < B) : Cols w' b ms :=
  fun j v hv => (hB.cell (p := ⟨b, 0 + j, none⟩) hb).trans (h j v hv)
theorem there_below {w w' : World} {B b o n : Nat} (h : w.there b o n) (hB : Below B w w') (hb : b < B) : w'.there b o n :=
  fun j hj => by
    rw [hB.cell (p := ⟨b, o + j, none⟩) hb, hB.frozen (p := ⟨b, o + j, none⟩) hb]
    exact h j hj
theorem Cols.cell {w : World} {b : Nat} {ms : List Nat} (h : Cols w b ms) (k : Nat) (hk : k < ms.length) : w.cell? ⟨b, k, none⟩ = some (.int .u32 (ms.getD k 0 : Nat)) := by
  have := h k (.int .u32 (ms.getD k 0 : Nat)) (by simp [cellsL, List.getD, hk])
  rwa [Nat.zero_add] at this
theorem there_frozen {w : World} {b : Nat} (h : w.there b 0 32) (k : Nat) (hk : k < 32) : w.frozen? ⟨b, k, none⟩ = false := by
  have := (h k hk).2
  rwa [Nat.zero_add] at this
theorem there_setCell {w : World} {b b' o n k : Nat} (v : Value) (h : w.there b o n) : (w.setCell ⟨b', k, none⟩ v).there b o n := by
  have := World.there_setCells h b' k [v]
  simpa [World.setCells] using this
theorem Cols.setCell_other {w : World} {b b' k : Nat} {ms : List Nat} (v : Value) (h : Cols w b ms) (hb : b ≠ b') : Cols (w.setCell ⟨b', k, none⟩ v) b ms := by
  have := World.rangeAt_setCells_apart h b' k [v] (.inl hb)
  simpa [World.setCells, Cols] using this
theorem Cols.setCell_next {w : World} {b k : Nat} {ms : List Nat} (h : Cols w b (filled ms k)) (hl : ms.length = 32) (hk : k < 32) : Cols (w.setCell ⟨b, k, none⟩ (.int .u32 (ms.getD k 0 : Nat))) b (filled ms (k + 1)) := by
  intro j v hv
  rw [Nat.zero_add]
  have hn := filled_next ms k hl hk
  have hv' : (cellsN (filled ms (k + 1)))[j]? = some v := by simpa [cellsN] using hv
  rw [← hn] at hv'
  have hsz : (cellsN (filled ms k)).size = 32 := by rw [cellsN_size, filled_length ms k hl (by omega)]
  by_cases e : k = j
  · subst e
    have hc := h.cell k (by rw [filled_length ms k hl (by omega)]; exact hk)
    rw [World.cell?_setCell_same _ _ _ hc]
    rw [Array.getElem?_setIfInBounds_self_of_lt (by omega)] at hv'
    exact hv'
  · rw [Array.getElem?_setIfInBounds_ne e] at hv'
    rw [World.cell?_setCell_other _ _ _ _ (by intro hh; cases hh; exact e rfl)]
    have := h j v (by simpa [cellsN] using hv')
    rwa [Nat.zero_add] at this

theorem of_below (ms : List Nat) (v : Nat) (hl : ms.length = 32) (hm : ∀ m ∈ ms, m < 4294967296) (hv : v < 4294967296) (w : World) :
    Calls Try.prog 26 #[.agg (cellsN ms), .int .u32 v] w fun e w' => e = .returned (.int .u32 (pick ms v : Nat)) ∧ Below w.heap.size w w' :=
  (of_any ms v hl hm hv w).mono fun _ _ ⟨h1, h2⟩ => ⟨h1, h2 ▸ (Below.refl _ _).alloc (Nat.le_refl _) _⟩

/-- What holds at each round of 'square': whence it reads, where it writes, where the answer will be. -/
structure SqInv (w wr : World) (N k : Nat) (ms m2 : List Nat) : Prop where
  src : Cols wr N ms
  dst : Cols wr (N + 1 + 1) (filled m2 k)
  res : wr.there (N + 1) 0 32
  may : wr.there (N + 1 + 1) 0 32
  bel : Below N w wr
  size : N + 3 ≤ wr.heap.size
theorem SqInv.start (w : World) (ms m2 : List Nat) (hl2 : m2.length = 32) :
    SqInv w (((w.alloc (.cells (cellsN ms) 44)).alloc (.cells (cellsN (filled m2 0)) 44)).alloc (.cells (cellsN (filled m2 0)) 44)) w.heap.size 0 ms m2 := by
  have hs : (cellsN (filled m2 0)).size = 32 := by rw [cellsN_size, filled_length m2 0 hl2 (by decide)]
  refine ⟨World.rangeAt_alloc (World.rangeAt_alloc (Cols.new w ms 44) _) _, ?_, ?_, ?_, ?_, ?_⟩
  · have := Cols.new ((w.alloc (.cells (cellsN ms) 44)).alloc (.cells (cellsN (filled m2 0)) 44)) (filled m2 0) 44
    simpa using this
  · have := World.there_alloc (there_new (w.alloc (.cells (cellsN ms) 44)) (cellsN (filled m2 0)) 44) (.cells (cellsN (filled m2 0)) 44)
    rw [hs] at this
    simpa using this
  · have := there_new ((w.alloc (.cells (cellsN ms) 44)).alloc (.cells (cellsN (filled m2 0)) 44)) (cellsN (filled m2 0)) 44
    rw [hs] at this
    simpa using this
  · exact (((Below.refl _ _).alloc (Nat.le_refl _) _).alloc (by simp) _).alloc (by simp; omega) _
  · simp
theorem SqInv.below {w wr w' : World} {N k : Nat} {ms m2 : List Nat} (h : SqInv w wr N k ms m2) (hB : Below wr.heap.size wr w') : SqInv w w' N k ms m2 := by
  have hs := h.size
  have hN : N ≤ wr.heap.size := by omega
  exact ⟨h.src.below hB (by omega), h.dst.below hB (by omega), there_below h.res hB (by omega), there_below h.may hB (by omega), h.bel.trans (hB.mono hN), Nat.le_trans hs hB.size⟩
theorem SqInv.next {w wr : World} {N k : Nat} {ms m2 : List Nat} (h : SqInv w wr N k ms m2) (hl2 : m2.length = 32) (hk : k < 32) :
    SqInv w (wr.setCell ⟨N + 1 + 1, k, none⟩ (.int .u32 (m2.getD k 0 : Nat))) N (k + 1) ms m2 := by
  refine ⟨h.src.setCell_other _ (by omega), h.dst.setCell_next hl2 hk, there_setCell _ h.res, there_setCell _ h.may, h.bel.setCell (by simp; omega) _, ?_⟩
  have := h.size
  simpa using this

set_option maxHeartbeats 800000 in
theorem square_any (ms : List Nat) (hl : ms.length = 32) (hm : ∀ m ∈ ms, m < 4294967296) (w : World) :
    Calls Try.prog 27 #[.agg (cellsN ms)] w fun e w' => e = .returned (.agg (cellsN (ms.map (pick ms)))) ∧ Below w.heap.size w w' := by
  obtain ⟨hz, _⟩ := zero_of_info infoS
  have hl2 : (ms.map (pick ms)).length = 32 := by simp [hl]
  have HS : Hid (∀ k, k < 32 → (ms.map (pick ms)).getD k 0 = pick ms (ms.getD k 0)) := hide (fun k hk => by simp [List.getD, hl, hk])
  generalize ms.map (pick ms) = m2 at *
  rw [← filled_zero m2] at hz
  have hsz := cellsN_size ms
  rw [hl] at hsz
  have HL := hide hl
  have HL2 := hide hl2
  have HM := hide hm
  have HC0 : Hid (Cols (((w.alloc (.cells (cellsN ms) 44)).alloc (.cells (cellsN (filled m2 0)) 44)).alloc (.cells (cellsN (filled m2 0)) 44)) w.heap.size ms) :=
    hide (World.rangeAt_alloc (World.rangeAt_alloc (Cols.new w ms 44) _) _)
  clear hl hm hl2
  go_enter Try.func27, Try.ntmps27
  go_wp2_with (refine wp_load_cols rfl _ rfl _ rfl ms HL.out HC0.out ?_)
  clear HC0 hsz hz
  have H0 := hide (SqInv.start w ms m2 HL2.out)
  generalize ((w.alloc (.cells (cellsN ms) 44)).alloc (.cells (cellsN (filled m2 0)) 44)).alloc (.cells (cellsN (filled m2 0)) 44) = W0 at *
  go_loopw [7] (fun i wr => ∃ k : Nat, k ≤ 32 ∧ i = .int .i64 k ∧ Hid (SqInv w wr w.heap.size k ms m2)) (fun i _ => 32 - (intOf i).toNat)
  case atStart => exact ⟨0, by omega, rfl, H0⟩
  case round =>
    obtain ⟨k, hk, rfl, HI⟩ := hrel
    by_cases hlt : k < 32
    · have hidx := index_cols ms k HL.out hlt
      have hc := HM.out (ms.getD k 0) (by have := HL.out; simp [List.getD, this, hlt])
      have HE : Hid (pick ms (ms.getD k 0) = m2.getD k 0) := hide (HS.out k hlt).symm
      generalize ms.getD k 0 = c at *
      go_wp2_with (first | (refine wp_load_cols rfl _ rfl _ rfl ms HL.out HI.out.src ?_) | (go_at_call 26; refine (of_below ms c HL.out HM.out hc _).mono ?_; rintro e w1 ⟨rfl, hB1⟩; rw [HE.out]; have HI1 := hide (HI.out.below hB1); have hcell := HI1.out.dst.cell k (by rw [filled_length m2 k HL2.out hk]; exact hlt); have hfro := there_frozen HI1.out.may k hlt; clear hB1))
      have HI2 := hide (HI1.out.next HL2.out hlt)
      go_roundw
      case rel => exact ⟨k + 1, by omega, by go_num, HI2⟩
      case measure => simp [intOf]; omega
    · obtain rfl : k = 32 := by omega
      have HC := HI.out.dst
      rw [filled_all m2 HL2.out] at HC
      have HD := hide HC
      clear HC
      go_wp2_with (first | (refine wp_load_cols rfl _ rfl _ rfl m2 HL2.out HD.out ?_) | (refine wp_store_cols rfl rfl _ _ rfl _ m2 rfl rfl HL2.out HI.out.res ?_; intro w1 hw1 HC1))
      refine bodyPost_ret (v := .agg (cellsN m2)) ?_ rfl ⟨rfl, ?_⟩
      · rw [results_cell1 rfl]
        have := load_cols w1 (w.heap.size + 1) m2 HL2.out HC1
        show ((asAddr (.pointer (some ⟨w.heap.size + 1, 0, none⟩))).run Try.prog w1).andThen _ = _
        simp [asAddr, Result.andThen, this]
      · rw [hw1]
        exact below_setCells (by omega) _ _ _ HI.out.bel
end Go.Proofs.Ytgflokjfdcgpbaa
