/-
  The reference's Keys. Own work.
-/
import Derived.Test.YtkdccigcpcchlaaIdRef2
namespace Go.Proofs.Ytkdccigcpcchlaa
open Go.RowKit

theorem owns_lt' {w : World} {base e size n : Nat} {v : Value} {xs : List Value} (h : w.ownsRow base e size v n xs) {g : Nat} (hg : v.ownBlock = some g) : g < w.heap.size := (h.lt g hg).2
/-- Two rows of one's own that lie apart. -/
structure Rows2 (base : Nat) (w : World) (v1 v2 : Value) (xs ys : List Int) : Prop where
  o1 : w.ownsRow base 33 1 v1 xs.length (xs.map (Value.int .u32))
  o2 : w.ownsRow base 33 1 v2 ys.length (ys.map (Value.int .u32))
  ne : ∀ g, v1.ownBlock = some g → v2.ownBlock ≠ some g
theorem owns_kept_ne {w w' : World} {base e size n : Nat} {v : Value} {xs : List Value} {row : Option Nat} (h : w.ownsRow base e size v n xs) (hg : w.grownBy w' row) (hne : ∀ g, v.ownBlock = some g → row ≠ some g) : w'.ownsRow base e size v n xs := by
  obtain ⟨hl, h0 | ⟨g, cap, cur, rfl, hb, hh, r⟩⟩ := h
  · exact ⟨hl, .inl h0⟩
  · exact ⟨hl, .inr ⟨g, cap, cur, rfl, hb, (hg.block g (Array.getElem?_eq_some_iff.1 hh).1 (fun e => hne g rfl e.symm)).trans hh, r⟩⟩
theorem below_grown {B : Nat} {a w w' : World} {row : Option Nat} (h : Below B a w) (hB : B ≤ w.heap.size) (hg : w.grownBy w' row) (hr : ∀ g, row = some g → B ≤ g) : Below B a w' := h.grown hg hB (fun k hk => hr k hk)
set_option maxRecDepth 100000 in
set_option maxHeartbeats 1600000 in
theorem rkeys_any (a b : List Int) (w : World) (ha : a.length = 8) (hb : b.length = 8) (hx : ∀ c ∈ a, 0 ≤ c ∧ c < 256) (hy : ∀ c ∈ b, 0 ≤ c ∧ c < 256) : Calls Try.prog 21 #[.agg (cells8 a), .agg (cells8 b)] w fun e w' => e = .returned (.int .i64 (lexF a b)) ∧ Below w.heap.size w w' := by
  obtain ⟨i0, hi, hz0, hz1, hz2⟩ := info_parts info32
  have HA0 : Hid (Box ((w.alloc (.cells (cells8 a) 23)).alloc (.cells (cells8 b) 23)) w.heap.size (cells8 a) 23) := hide ((box_new w _ _).belowI ((Below.refl _ _).alloc (Nat.le_refl _) _))
  have HB0 : Hid (Box ((w.alloc (.cells (cells8 a) 23)).alloc (.cells (cells8 b) 23)) (w.heap.size + 1) (cells8 b) 23) := hide (by
    have := box_new (w.alloc (.cells (cells8 a) 23)) (cells8 b) 23
    rw [World.size_alloc] at this
    exact this)
  have HW0 := hide (((Below.refl w.heap.size w).alloc (Nat.le_refl _) (.cells (cells8 a) 23)).alloc (by simp) (.cells (cells8 b) 23))
  have hs0 : ((w.alloc (.cells (cells8 a) 23)).alloc (.cells (cells8 b) 23)).heap.size = w.heap.size + 2 := by simp
  have HS0 := hide hs0
  have HX := hide hx
  have HY := hide hy
  have HA := hide ha
  have HB := hide hb
  have CF := hide (fun v1 v2 w h1 h2 => first_any a b v1 v2 w h1 h2 (by rw [ha, hb]) (by omega))
  clear hx hy ha hb hs0
  generalize hca : cells8 a = ca at *
  generalize hcb : cells8 b = cb at *
  have HCA := hide hca
  have HCB := hide hcb
  clear hca hcb
  go_enter Try.func21, Try.ntmps21
  go_wp2
  generalize hW0 : (w.alloc (.cells ca 23)).alloc (.cells cb 23) = W0 at *
  clear hW0
  go_loopw [5, 6, 7] (fun v1 v2 i wr => ∃ k : Nat, k ≤ 8 ∧ i = .int .i64 k ∧ Hid (Rows2 W0.heap.size wr v1 v2 (a.take k) (b.take k)) ∧ Hid (Below W0.heap.size W0 wr)) (fun _ _ i _ => 8 - (intOf i).toNat)
  case atStart => exact ⟨0, by omega, rfl, hide ⟨World.ownsRow_nil _ _ _ _, World.ownsRow_nil _ _ _ _, fun g hg => by cases hg⟩, hide (Below.refl _ _)⟩
  case round =>
    obtain ⟨k, hk, rfl, HR, HBW⟩ := hrel
    by_cases hlt : k < 8
    · have hkI : (k : Int) < 8 := by omega
      have hla : k < a.length := by have := HA.out; omega
      have hlb : k < b.length := by have := HB.out; omega
      have c1 : wr.cell? ⟨w.heap.size, k, none⟩ = some (.int .u8 (a.getD k 0)) := (HA0.out.belowI HBW.out).cell k _ (by rw [← HCA.out]; simp [cells8, List.getD, hla])
      have HYE : Hid (cb[k]? = some (.int .u8 (b.getD k 0))) := hide (by rw [← HCB.out]; simp [cells8, List.getD, hlb])
      have hxa := HX.out (a.getD k 0) (by simp [List.getD, hla])
      have hyb := HY.out (b.getD k 0) (by simp [List.getD, hlb])
      have hv1 := wrap32_u8 hxa.1 hxa.2
      have hv2 := wrap32_u8 hyb.1 hyb.2
      have HT1 : Hid (a.take (k + 1) = a.take k ++ [a.getD k 0]) := hide (by rw [List.take_succ_eq_append_getElem hla]; simp [List.getD, hla])
      have HT2 : Hid (b.take (k + 1) = b.take k ++ [b.getD k 0]) := hide (by rw [List.take_succ_eq_append_getElem hlb]; simp [List.getD, hlb])
      have HLA : Hid ((a.take k).length = k) := hide (by simp; omega)
      have HLB : Hid ((b.take k).length = k) := hide (by simp; omega)
      have ho1 := HR.out.o1
      have ho2 := HR.out.o2
      rw [HLA.out] at ho1
      rw [HLB.out] at ho2
      have HO1 := hide ho1
      have HO2 := hide ho2
      have HNE := hide HR.out.ne
      have HSZ := hide HBW.out.size
      clear ho1 ho2 HR hxa hyb
      generalize a.getD k 0 = x at *
      generalize b.getD k 0 = y at *
      go_wp2_with (first
        | (at_builtin; refine wpList_append_own_at _ rfl _ _ 100 rfl W0.heap.size 33 i0 (.int .u32 0) 1 4 Try.underlying100 hi hz0 hz1 hz2 rfl (by decide) _ k _ rfl (HO1.out.alloc _) ⟨wr.heap.size, 0, none⟩ 1 1 [.int .u32 x] rfl rfl (cell_one_new _ _ _) (ints_oneCell .u32 [x]) (by unfold maxLen; omega) (by omega) (by have := HSZ.out; simp; omega) ?_; intro v1' w1 ho1' hg1 hn1 hat1; have hB1 := (HBW.out.alloc HSZ.out (.cells #[.int .u32 x] 33)).grown hg1 (by have := HSZ.out; simp; omega) (fun g hg => (HO1.out.lt g hg).1); have c2 := (HB0.out.belowI hB1).cell k _ HYE.out; have HO2' := hide (owns_kept_ne (HO2.out.alloc (.cells #[.int .u32 x] 33)) hg1 (fun g hg e => HNE.out g e hg)); have HO1' := hide ho1'; have HAT1 := hide hat1; have HB1 := hide hB1; have HSZ1 := hide hB1.size; have HLT1 := hide (fun g (hg : u5.ownBlock = some g) => Nat.lt_of_lt_of_le (owns_lt' HO1.out hg) (Nat.le_refl _)); have HG1 := hide hg1; clear ho1' hg1 hn1 hat1 HO1 hB1)
        | (at_builtin; refine wpList_append_own_at _ rfl _ _ 100 rfl W0.heap.size 33 i0 (.int .u32 0) 1 4 Try.underlying100 hi hz0 hz1 hz2 rfl (by decide) _ k _ rfl (HO2'.out.alloc _) ⟨w1.heap.size, 0, none⟩ 1 1 [.int .u32 y] rfl rfl (cell_one_new _ _ _) (ints_oneCell .u32 [y]) (by unfold maxLen; omega) (by omega) (by have := HSZ1.out; simp; omega) ?_; intro v2' w2 ho2' hg2 hn2 hat2; have HB2 := hide ((HB1.out.alloc HSZ1.out (.cells #[.int .u32 y] 33)).grown hg2 (by have := HSZ1.out; simp; omega) (fun g hg => (HO2'.out.lt g hg).1)); have HO2'' := hide ho2'; have HG2 := hide hg2; have HAT2 := hide hat2; clear ho2' hg2 hn2 hat2)
        | go_in)
      have h6lt : ∀ g, u6.ownBlock = some g → g < wr.heap.size := fun g hg => owns_lt' HO2.out hg
      have h1lt : ∀ g, v1'.ownBlock = some g → g < w1.heap.size := fun g hg => owns_lt' HO1'.out hg
      have hapart : ∀ g, v1'.ownBlock = some g → u6.ownBlock ≠ some g := fun g hg e => by
        rcases HAT1.out with h | h
        · exact HNE.out g (h ▸ hg) e
        · rw [h] at hg
          have := h6lt g e
          simp at hg
          omega
      have hR : Rows2 W0.heap.size w2 v1' v2' (a.take (k + 1)) (b.take (k + 1)) := by
        refine ⟨?_, ?_, fun g hg e => ?_⟩
        · rw [HT1.out, List.map_append, List.length_append, HLA.out]
          exact owns_kept_ne (HO1'.out.alloc (.cells #[.int .u32 y] 33)) HG2.out (fun g hg e => hapart g hg e)
        · rw [HT2.out, List.map_append, List.length_append, HLB.out]
          exact HO2''.out
        · rcases HAT2.out with h | h
          · exact hapart g hg (h ▸ e)
          · rw [h] at e
            have := h1lt g hg
            simp at e
            omega
      go_roundw
      case rel => exact ⟨k + 1, by omega, by go_num, hide hR, HB2⟩
      case measure => simp [intOf]; omega
    · have hge : decide ((k : Int) < 8) = false := decide_eq_false (by omega)
      obtain rfl : k = 8 := by omega
      have HL1 := hide (Lies.of_own HR.out.o1)
      have HL2 := hide (Lies.of_own HR.out.o2)
      rw [show a.take 8 = a from List.take_of_length_le (by have := HA.out; omega)] at HL1
      rw [show b.take 8 = b from List.take_of_length_le (by have := HB.out; omega)] at HL2
      have HBR := hide (HW0.out.trans (HBW.out.mono HW0.out.size))
      go_wp2_with (go_at_call 57; refine (CF.out _ _ _ HL1.out HL2.out).mono ?_; rintro e' w3 ⟨rfl, n3, rfl⟩)
      go_ret
      exact ⟨rfl, below_drewN HBR.out⟩
end Go.Proofs.Ytkdccigcpcchlaa
