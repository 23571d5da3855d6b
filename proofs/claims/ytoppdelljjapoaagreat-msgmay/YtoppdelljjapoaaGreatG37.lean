/-
  Own texts put together: MpMay. Own work.
-/
import Derived.Test.YtoppdelljjapoaaGreatG36
namespace Go.Proofs.YtoppdelljjapoaaGreat
section
open Go.RowKit Classical

theorem fns_of {n lo hi q : Nat} {w : World} {vs : List Value} (h : FV n lo hi q w vs) : ∃ f0 f1 f2 f3 c0 c1 c2 c3, vs = [.func f0 #[] c0, .func f1 #[] c1, .func f2 #[] c2, .func f3 #[] c3] := by
  revert h
  unfold FV
  split <;> first | exact fun h => ⟨_, _, _, _, _, _, _, _, h⟩ | exact fun ⟨_, _, _, _, _, h⟩ => ⟨_, _, _, _, _, _, _, _, h.eq⟩
set_option maxRecDepth 100000 in
theorem index_fa {F : Nat → List Value} (h : ∀ n, n < 10 → (F n).length = 4) {k : Nat} (hk : k < 10) (w : World) : (Instr.index 93 (.agg (fA F)) (.int .i64 (k : Int))).run Tryz.prog w = .ok (.agg (F k).toArray) w := by
  obtain ⟨a0, b0, c0, d0, e0⟩ := four_of (h 0 (by decide))
  obtain ⟨a1, b1, c1, d1, e1⟩ := four_of (h 1 (by decide))
  obtain ⟨a2, b2, c2, d2, e2⟩ := four_of (h 2 (by decide))
  obtain ⟨a3, b3, c3, d3, e3⟩ := four_of (h 3 (by decide))
  obtain ⟨a4, b4, c4, d4, e4⟩ := four_of (h 4 (by decide))
  obtain ⟨a5, b5, c5, d5, e5⟩ := four_of (h 5 (by decide))
  obtain ⟨a6, b6, c6, d6, e6⟩ := four_of (h 6 (by decide))
  obtain ⟨a7, b7, c7, d7, e7⟩ := four_of (h 7 (by decide))
  obtain ⟨a8, b8, c8, d8, e8⟩ := four_of (h 8 (by decide))
  obtain ⟨a9, b9, c9, d9, e9⟩ := four_of (h 9 (by decide))
  unfold fA fE
  rw [e0, e1, e2, e3, e4, e5, e6, e7, e8, e9]
  have hc : k = 0 ∨ k = 1 ∨ k = 2 ∨ k = 3 ∨ k = 4 ∨ k = 5 ∨ k = 6 ∨ k = 7 ∨ k = 8 ∨ k = 9 := by omega
  rcases hc with rfl | rfl | rfl | rfl | rfl | rfl | rfl | rfl | rfl | rfl
  · rw [e0]; rfl
  · rw [e1]; rfl
  · rw [e2]; rfl
  · rw [e3]; rfl
  · rw [e4]; rfl
  · rw [e5]; rfl
  · rw [e6]; rfl
  · rw [e7]; rfl
  · rw [e8]; rfl
  · rw [e9]; rfl
theorem nats_has (l : List Nat) (k : Nat) : (natsI l).contains (k : Int) = l.contains k := by
  rw [Bool.eq_iff_iff, List.contains_iff_mem, List.contains_iff_mem]
  unfold natsI
  rw [List.mem_map]
  exact ⟨fun ⟨a, ha, e⟩ => by have : a = k := by omega
                              rw [← this]; exact ha, fun h => ⟨k, h, rfl⟩⟩
def okN (m : MsgP) (j : Nat) : Bool := if (fieldsN m.kind).contains j then mayF m j else zeroB j m
theorem may_iff {m : MsgP} (h : fieldsN m.kind ≠ []) : mayM m = true ↔ ∀ j, j < 10 → okN m j = true := by
  unfold mayM keptB
  have he : (fieldsN m.kind).isEmpty = false := by
    cases hf : fieldsN m.kind with
    | nil => exact absurd hf h
    | cons a l => rfl
  rw [he, Bool.not_false, Bool.true_and, Bool.and_eq_true, List.all_eq_true, List.all_eq_true]
  constructor
  · rintro ⟨h1, h2⟩ j hj
    unfold okN
    split
    · rename_i hc
      exact h2 j (by simpa using hc)
    · rename_i hc
      have := h1 j (List.mem_range.2 hj)
      rw [Bool.or_eq_true] at this
      rcases this with e | e
      · exact absurd e hc
      · exact e
  · intro hj
    refine ⟨fun g hg => ?_, fun f hf => ?_⟩
    · have := hj g (List.mem_range.1 hg)
      unfold okN at this
      rw [Bool.or_eq_true]
      by_cases hc : (fieldsN m.kind).contains g = true
      · exact .inl hc
      · rw [if_neg hc] at this
        exact .inr this
    · have hf10 := (fields_facts m.kind).2 f hf
      have := hj f hf10
      unfold okN at this
      rw [if_pos (by simpa using hf)] at this
      exact this
theorem may_not {m : MsgP} {j : Nat} (hj : j < 10) (h : okN m j = false) : mayM m = false := by
  cases hq : mayM m with
  | false => rfl
  | true =>
    by_cases hf : fieldsN m.kind = []
    · unfold mayM at hq
      rw [hf] at hq
      cases hq
    · have := (may_iff hf).1 hq j hj
      rw [h] at this
      cases this
/-- What stands while the fields are looked at. -/
structure MayI (w wr : World) (lo hi q : Nat) (F : Nat → List Value) (m : MsgP) (ao : Option Addr) (c : Nat) (vc : Value) : Prop where
  bl : Below w.heap.size w wr
  fa : FA lo hi q wr F
  box : Box wr q (msgA m (.slice ao m.wr.length c)) 39
  src : RSrc wrE wr (.slice ao m.wr.length c) m.wr
  cnt : Lies .i64 wr vc (natsI (fieldsN m.kind))
theorem MayI.below {w wr w' : World} {lo hi q : Nat} {F : Nat → List Value} {m : MsgP} {ao : Option Addr} {c : Nat} {vc : Value} (h : MayI w wr lo hi q F m ao c vc) (hB : Below wr.heap.size wr w') : MayI w w' lo hi q F m ao c vc :=
  ⟨h.bl.trans (hB.mono h.bl.size), h.fa.below hB, h.box.belowI hB, h.src.below hB, h.cnt.below hB⟩
set_option maxRecDepth 100000 in
set_option maxHeartbeats 1600000 in
theorem pmay_any {w : World} {v : Value} {m : MsgP} (hm : MsgOk m) (hv : MgLies w v m) : Calls Tryz.prog 11 #[v] w fun e w' => e = .returned (.bool (mayM m)) ∧ Below w.heap.size w w' := by
  obtain ⟨ao, c, rfl, hs⟩ := hv
  have hA := alloc_below10 w (.cells (msgA m (.slice ao m.wr.length c)) 39)
  have hX := box_new w (msgA m (.slice ao m.wr.length c)) 39
  obtain ⟨w1, hw1⟩ : ∃ w1, w1 = w.alloc (.cells (msgA m (.slice ao m.wr.length c)) 39) := ⟨_, rfl⟩
  obtain ⟨q, hq⟩ : ∃ q, q = w.heap.size := ⟨_, rfl⟩
  rw [← hw1] at hA hX
  rw [← hq] at hX
  have C1 := hide (fieldsOf_any m.kind w1)
  have HA := hide hA
  have HX := hide hX
  have HS := hide (hs.below hA)
  have HM := hide hm
  have hW := hw1.symm
  have hQ := hq.symm
  have HQ : Hid (w.heap.size = q) := hide hQ
  have x0 := hX.cell 0 _ rfl
  obtain ⟨R, hR⟩ : ∃ R, R = mayM m := ⟨_, rfl⟩
  rw [← hR]
  have HR := hide hR
  clear hA hX hw1 hs hm hR hq
  go_enter Tryz.func11, Tryz.ntmps11
  go_wp2_with fail
  refine C1.out.mono ?_
  rintro e w2 ⟨vc, rfl, hL, hB2⟩
  obtain ⟨av, cv, rfl⟩ := hL.shape
  have HL := hide hL
  have HA2 := hide (HA.out.trans (hB2.mono HA.out.size))
  have HX2 := hide (HX.out.belowI hB2)
  have HS2 := hide (HS.out.below hB2)
  clear hB2 HA HX HS x0 C1 hW hL
  obtain ⟨N, hN⟩ : ∃ N, N = (natsI (fieldsN m.kind)).length := ⟨_, rfl⟩
  rw [← hN]
  rw [← hN] at HL
  have HN : Hid (N = (fieldsN m.kind).length) := hide (by rw [hN]; unfold natsI; rw [List.length_map])
  clear hN
  by_cases hf : fieldsN m.kind = []
  · have hN0 : N = 0 := by rw [HN.out, hf]; rfl
    have HE : Hid (R = false) := hide (by rw [HR.out]; unfold mayM; rw [hf]; rfl)
    clear HN
    subst hN0
    go_wp2_with fail
    go_ret
    exact ⟨by rw [HE.out]; rfl, HA2.out⟩
  · have hN0 : ¬ N = 0 := by
      rw [HN.out]
      intro e
      exact hf (List.eq_nil_of_length_eq_zero e)
    have hN1 : ((N : Int) == 0) = false := by simp; omega
    have HF := hide hf
    clear hf hN0
    go_wp2_with fail
    refine (fieldsIn_any q w2).mono ?_
    rintro e w3 ⟨F, rfl, hFA, hB3⟩
    have HI : Hid (MayI w w3 w2.heap.size w3.heap.size q F m ao c (.slice av N cv)) := hide ⟨HA2.out.trans (hB3.mono HA2.out.size), hFA, HX2.out.belowI hB3, HS2.out.below hB3, HL.out.below hB3⟩
    have HFL : Hid (∀ n, n < 10 → (F n).length = 4) := hide (fun n hn => (hFA.f n hn).len)
    generalize w2.heap.size = lo at *
    generalize w3.heap.size = hi at *
    clear hB3 hFA HA2 HX2 HS2 HL
    go_wp2_with fail
    go_loopg [14] 10 (fun g i wr => ∃ k : Nat, k + g = 10 ∧ i = .int .i64 k ∧ Hid (MayI w wr lo hi q F m ao c (.slice av N cv)) ∧ Hid (∀ j, j < k → okN m j = true))
    case atStart => exact ⟨0, by omega, rfl, HI, hide (fun j h => absurd h (Nat.not_lt_zero _))⟩
    case round =>
      clear HI
      obtain ⟨k, hk, rfl, HI, HT⟩ := hrel
      cases gk with
      | zero =>
        obtain rfl : k = 10 := by omega
        have HE : Hid (R = true) := hide (by rw [HR.out]; exact (may_iff HF.out).2 (fun j hj => HT.out j hj))
        go_wp2_with fail
        go_ret
        refine ⟨by rw [HE.out]; rfl, ?_⟩
        rw [← HQ.out]
        exact HI.out.bl
      | succ g =>
        have hz : (k : Int) < 10 := by omega
        have hk10 : k < 10 := by omega
        have hidx := fun W => index_fa HFL.out hk10 W
        obtain ⟨f0, f1, f2, f3, c0, c1, c2, c3, hFk⟩ := fns_of (HI.out.fa.f k hk10)
        rw [hFk] at hidx
        have HFK := hide hFk
        have HZ := hide (box_new wr #[.nilFunc, .nilFunc, .nilFunc, .nilFunc] 92)
        have HBA := hide (alloc_below10 wr (.cells #[.nilFunc, .nilFunc, .nilFunc, .nilFunc] 92))
        have HIF := hide infoFld
        clear hFk
        go_wp2_with (refine wp_store_box rfl rfl _ _ rfl wr.heap.size rfl (cs' := #[.func f0 #[] c0, .func f1 #[] c1, .func f2 #[] c2, .func f3 #[] c3]) rfl HZ.out rfl HIF.out (fld_one _ _ _ _ _ _ _ _) ?_; intro w4 hb4 hk4; have HX4 := hide hb4; have x0 := hb4.cell 0 _ rfl; have HB4 : Hid (Below wr.heap.size wr w4) := hide (HBA.out.trans (hk4.below HBA.out.size (fun k e => by omega))); clear hb4 hk4)
        have HI4 := hide (HI.out.below HB4.out)
        have C2 := contains_any _ _ (k : Int) w4 HI4.out.cnt
        rw [nats_has] at C2
        have hcell0 : (F k)[0]? = some (.func f0 #[] c0) := by rw [HFK.out]; rfl
        have hcell1 : (F k)[1]? = some (.func f1 #[] c1) := by rw [HFK.out]; rfl
        have HCC := hide (And.intro hcell0 hcell1)
        clear hidx HZ HBA HI HB4 x0 hcell0 hcell1
        refine C2.mono ?_
        rintro e w5 ⟨rfl, hB5⟩
        have HI5 := hide (HI4.out.below hB5)
        have hX5 := HX4.out.belowI hB5
        have x1 := hX5.cell 1 _ rfl
        clear hB5 HI4 HX4 C2 hX5
        cases hc : (fieldsN m.kind).contains k with
        | true =>
          obtain ⟨f, cap, e1, he, hC⟩ := HI5.out.fa.may_any HM.out HI5.out.box HI5.out.src hk10
          rw [HCC.out.2] at e1
          cases e1
          have HOK : Hid (okN m k = mayF m k) := hide (by unfold okN; rw [if_pos hc])
          have HC := hide hC
          unfold FnOk at he
          clear hC hc
          go_wp2_with fail
          refine HC.out.mono ?_
          rintro e w6 ⟨rfl, hB6⟩
          have HI6 := hide (HI5.out.below hB6)
          clear hB6 HI5 HC he
          cases hb : mayF m k with
          | false =>
            have HE : Hid (R = false) := hide (by rw [HR.out]; exact may_not hk10 (by rw [HOK.out, hb]))
            clear hb
            go_wp2_with fail
            go_ret
            exact ⟨by rw [HE.out]; rfl, HI6.out.bl⟩
          | true =>
            have HT2 : Hid (∀ j, j < k + 1 → okN m j = true) := hide (fun j hj => by
              rcases Nat.lt_or_ge j k with h | h
              · exact HT.out j h
              · obtain rfl : j = k := by omega
                rw [HOK.out, hb])
            clear hb
            go_wp2_with fail
            go_roundg g
            case measure => omega
            case rel => exact ⟨k + 1, by omega, by first | rfl | go_num, HI6, HT2⟩
        | false =>
          obtain ⟨f, cap, e1, he, hC⟩ := HI5.out.fa.none_any HM.out HI5.out.box hk10
          rw [HCC.out.1] at e1
          cases e1
          have HOK : Hid (okN m k = zeroB k m) := hide (by unfold okN; rw [if_neg (by rw [hc]; simp)])
          have HC := hide hC
          unfold FnOk at he
          clear hC hc
          go_wp2_with fail
          refine HC.out.mono ?_
          rintro e w6 ⟨rfl, hB6⟩
          have HI6 := hide (HI5.out.below hB6)
          clear hB6 HI5 HC he
          cases hb : zeroB k m with
          | false =>
            have HE : Hid (R = false) := hide (by rw [HR.out]; exact may_not hk10 (by rw [HOK.out, hb]))
            clear hb
            go_wp2_with fail
            go_ret
            exact ⟨by rw [HE.out]; rfl, HI6.out.bl⟩
          | true =>
            have HT2 : Hid (∀ j, j < k + 1 → okN m j = true) := hide (fun j hj => by
              rcases Nat.lt_or_ge j k with h | h
              · exact HT.out j h
              · obtain rfl : j = k := by omega
                rw [HOK.out, hb])
            clear hb
            go_wp2_with fail
            go_roundg g
            case measure => omega
            case rel => exact ⟨k + 1, by omega, by first | rfl | go_num, HI6, HT2⟩
end
end Go.Proofs.YtoppdelljjapoaaGreat
