/-
  The reference's KeyOf and Name. Own work.
-/
import Derived.Test.YtkdccigcpcchlaaIdName
namespace Go.Proofs.Ytkdccigcpcchlaa
open Go.RowKit

theorem drop_two8 (xs : List Int) (k : Nat) (h : k < xs.length) : xs.drop k = xs.getD k 0 :: xs.drop (k + 1) := by
  rw [List.drop_eq_getElem_cons h]; simp [List.getD, h]
theorem set_next (xs : List Int) (k : Nat) (hk : k < xs.length) (h8 : k < 8) : (cells8 (xs.take k ++ List.replicate (8 - k) 0)).setIfInBounds k (.int .u8 (xs.getD k 0)) = cells8 (xs.take (k + 1) ++ List.replicate (8 - (k + 1)) 0) := by
  obtain ⟨m, hm⟩ : ∃ m, 8 - k = m + 1 := ⟨7 - k, by omega⟩
  have hm2 : 8 - (k + 1) = m := by omega
  rw [hm, hm2, List.replicate_succ, List.take_succ_eq_append_getElem hk]
  unfold cells8
  apply Array.toList_inj.1
  simp only [List.map_append, List.map_cons, Array.toList_setIfInBounds]
  have hl : (List.map (Value.int IntKind.u8) (xs.take k)).length = k := by simp; omega
  rw [List.set_append, if_neg (by omega), hl, Nat.sub_self]
  simp [List.getD, hk]
theorem get_next (xs : List Int) (k : Nat) (hk : k < xs.length) (h8 : k < 8) : (cells8 (xs.take k ++ List.replicate (8 - k) 0))[k]? = some (.int .u8 0) := by
  obtain ⟨m, hm⟩ : ∃ m, 8 - k = m + 1 := ⟨7 - k, by omega⟩
  rw [hm, List.replicate_succ]
  unfold cells8
  have hl : (List.map (Value.int IntKind.u8) (xs.take k)).length = k := by simp; omega
  rw [List.map_append, List.getElem?_toArray, List.getElem?_append_right (by omega), hl, Nat.sub_self]
  rfl
theorem numsS_get (s : ByteArray) (k : Nat) (h : k < s.size) : (numsS s).getD k 0 = ((s[k].toNat : Nat) : Int) := by
  obtain ⟨d⟩ := s
  have hk : k < d.size := h
  unfold numsS
  rw [List.getD_eq_getElem?_getD, List.getElem?_map]
  show (Option.map _ (d.toList[k]?)).getD 0 = ((d[k].toNat : Nat) : Int)
  rw [Array.getElem?_toList, Array.getElem?_eq_getElem hk]
  rfl
theorem take_no (xs : List Int) (k : Nat) (hk : k < xs.length) (h : 0 ∉ xs.take k) (hc : xs.getD k 0 ≠ 0) : 0 ∉ xs.take (k + 1) := by
  rw [List.take_succ_eq_append_getElem hk]
  simp only [List.mem_append, List.mem_singleton, not_or]
  refine ⟨h, fun e => hc ?_⟩
  simp [List.getD, hk, ← e]
set_option maxRecDepth 100000 in
set_option maxHeartbeats 1600000 in
theorem rkeyOf_any (s : ByteArray) (hs : s.size ≤ maxLen) (w : World) :
    Calls Try.prog 10 #[.string s] w fun e w' => e = .returned (.tuple #[.agg (cells8 (keyOfF (numsS s)).1), .int .i64 (keyOfF (numsS s)).2]) ∧ Below w.heap.size w w' := by
  unfold maxLen at hs
  have hlen := numsS_length s
  have HI := hide infoKeyI
  have HB := hide (((Below.refl w.heap.size w).alloc (Nat.le_refl _) (.cells zeroC 23)).alloc (by simp) (.cells zeroC 23))
  have HBR : Hid (Box ((w.alloc (.cells zeroC 23)).alloc (.cells zeroC 23)) w.heap.size zeroC 23) := hide ((box_new w zeroC 23).keep (KeepBut.of_below (fun _ => False) ((Below.refl _ _).alloc (Nat.le_refl _) _)) id)
  have HBK : Hid (Box ((w.alloc (.cells zeroC 23)).alloc (.cells zeroC 23)) (w.heap.size + 1) (cells8 zero8i) 23) := hide (by
    have := box_new (w.alloc (.cells zeroC 23)) zeroC 23
    rw [show cells8 zero8i = zeroC from rfl]
    simpa using this)
  by_cases hbad : s.size = 0 ∨ 8 < s.size
  · have HE : Hid (keyOfF (numsS s) = (zero8i, 1)) := hide (keyOfF_bad (by
      rcases hbad with h | h
      · exact .inl (by omega)
      · exact .inr (.inl (by omega))))
    rw [HE.out]
    by_cases h1 : s.size = 0
    · have h1' : (s.size : Int) < 1 := by omega
      clear hbad hlen
      go_enter Try.func10, Try.ntmps10
      go_wp2_with fail
      exact bodyPost_ret (v := .tuple #[.agg zeroC, .int .i64 1]) (results_box2 (v1 := .int .i64 1) Try.results10 _ _ w.heap.size rfl rfl HBR.out Try.underlying23 rfl HI.out) rfl ⟨rfl, HB.out⟩
    · have h1' : decide ((s.size : Int) < 1) = false := decide_eq_false (by omega)
      have h2' : (8 : Int) < (s.size : Int) := by omega
      clear hbad hlen
      go_enter Try.func10, Try.ntmps10
      go_wp2_with fail
      exact bodyPost_ret (v := .tuple #[.agg zeroC, .int .i64 1]) (results_box2 (v1 := .int .i64 1) Try.results10 _ _ w.heap.size rfl rfl HBR.out Try.underlying23 rfl HI.out) rfl ⟨rfl, HB.out⟩
  · simp only [not_or] at hbad
    have h1' : decide ((s.size : Int) < 1) = false := decide_eq_false (by omega)
    have h2' : decide ((8 : Int) < (s.size : Int)) = false := decide_eq_false (by omega)
    have hs8 : s.size ≤ 8 := by omega
    have HNZ : Hid (0 < s.size) := hide (by omega)
    have HLEN := hide hlen
    have HXG := hide (numsS_get s)
    clear hlen hbad
    go_enter Try.func10, Try.ntmps10
    go_wp2_with fail
    generalize hW0 : (w.alloc (.cells zeroC 23)).alloc (.cells zeroC 23) = W0 at *
    clear hW0
    go_loopw [5] (fun i wr => ∃ k : Nat, k ≤ s.size ∧ i = .int .i64 k ∧ Hid (0 ∉ (numsS s).take k) ∧ Hid (Box wr (w.heap.size + 1) (cells8 ((numsS s).take k ++ List.replicate (8 - k) 0)) 23) ∧ Hid (Box wr w.heap.size zeroC 23) ∧ Hid (Below w.heap.size w wr)) (fun i _ => s.size - (intOf i).toNat)
    case atStart => exact ⟨0, by omega, rfl, hide (by simp), hide (by have := HBK.out; simpa [zero8i] using this), HBR, HB⟩
    case round =>
      obtain ⟨k, hk, rfl, HNO, HKB, HRB, HW⟩ := hrel
      by_cases hlt : k < s.size
      · have hlx : k < (numsS s).length := by rw [HLEN.out]; exact hlt
        have hg := HXG.out k hlt
        by_cases h0 : (numsS s).getD k 0 = 0
        · have HE : Hid (keyOfF (numsS s) = (zero8i, 1)) := hide (keyOfF_bad (.inr (.inr (by
            rw [← h0]; simp [List.getD, hlx]))))
          have hsk : ((s[k].toNat : Nat) : Int) = 0 := by rw [← hg, h0]
          have hskb : (((s[k].toNat : Nat) : Int) == 0) = true := beq_iff_eq.2 hsk
          clear hg h0 hsk hlx
          go_wp2_with (refine wp_store_box (cs' := zeroC) rfl rfl _ _ rfl _ rfl rfl HRB.out rfl HI.out (cells8_one zero8i) ?_; intro w3 hb3 hk3; have HB3 := hide hb3; have HK3 := hide hk3; clear hb3 hk3)
          refine bodyPost_ret (v := .tuple #[.agg zeroC, .int .i64 1]) (results_box2 (v1 := .int .i64 1) Try.results10 _ _ w.heap.size rfl rfl HB3.out Try.underlying23 rfl HI.out) rfl ⟨by rw [HE.out]; rfl, ?_⟩
          exact HW.out.trans (HK3.out.below HW.out.size (fun k hk => by omega))
        · have hsk : (((s[k].toNat : Nat) : Int) == 0) = false := beq_eq_false_iff_ne.2 (fun e => h0 (hg.trans e))
          have HSET := hide (set_next (numsS s) k hlx (by omega))
          rw [hg] at HSET
          have HNO2 := hide (take_no (numsS s) k hlx HNO.out h0)
          have hcell : wr.cell? ⟨w.heap.size + 1, k, none⟩ = some (.int .u8 0) := HKB.out.cell k _ (get_next (numsS s) k hlx (by omega))
          have hfro := HKB.out.frozen k
          have HKB2 : Hid (Box (wr.setCell ⟨w.heap.size + 1, k, none⟩ (.int .u8 ((s[k].toNat : Nat) : Int))) (w.heap.size + 1) (cells8 ((numsS s).take (k + 1) ++ List.replicate (8 - (k + 1)) 0)) 23) := hide (by
            have := HKB.out.set (i := k) (v := .int .u8 ((s[k].toNat : Nat) : Int))
            rw [HSET.out] at this
            exact this)
          have HKK := hide ((KeepBut.refl (fun j => j = w.heap.size + 1) wr).setCell (p := ⟨w.heap.size + 1, k, none⟩) (.inl rfl) (.int .u8 ((s[k].toNat : Nat) : Int)))
          have hkI : (k : Int) < 8 := by omega
          clear hg h0 hlx
          go_wp2_with fail
          go_roundw
          case rel => exact ⟨k + 1, by omega, by go_num, HNO2, HKB2, hide (HRB.out.keep HKK.out (by omega)), hide (HW.out.trans (HKK.out.below HW.out.size (fun j hj => by omega)))⟩
          case measure => simp [intOf]; omega
      · have hge : decide ((k : Int) < (s.size : Int)) = false := decide_eq_false (by omega)
        obtain rfl : k = s.size := by omega
        have HTA : Hid ((numsS s).take s.size = numsS s) := hide (List.take_of_length_le (by rw [HLEN.out]; exact Nat.le_refl _))
        rw [HTA.out] at HNO HKB
        have HE : Hid (keyOfF (numsS s) = (numsS s ++ List.replicate (8 - s.size) 0, 0)) := hide (by
          unfold keyOfF
          rw [if_neg, HLEN.out]
          simp only [not_or]
          exact ⟨by have := HNZ.out; have := HLEN.out; omega, by have := HLEN.out; omega, HNO.out⟩)
        have HS8 : Hid ((cells8 (numsS s ++ List.replicate (8 - s.size) 0)).size = 8) := hide (by rw [cells8_size]; have := HLEN.out; simp; omega)
        generalize numsS s ++ List.replicate (8 - s.size) 0 = ks at *
        have HI2 : Hid ((Try.prog.info? 23).map (·.size) = some (cells8 ks).size) := hide (by rw [HS8.out]; exact HI.out)
        have HZZ : Hid ((zeroC : Array Value).size = (cells8 ks).size) := hide (by rw [HS8.out]; rfl)
        have HO : Hid ((cells8 ks).all (·.oneCell') = true) := hide (cells8_one ks)
        go_wp2_with (first
          | (refine wp_load_box rfl _ rfl _ rfl HKB.out Try.underlying23 rfl HI2.out ?_)
          | (refine wp_store_box rfl rfl _ _ rfl _ rfl rfl HRB.out HZZ.out HI2.out HO.out ?_; intro w3 hb3 hk3; have HB3 := hide hb3; have HK3 := hide hk3; clear hb3 hk3))
        refine bodyPost_ret (v := .tuple #[.agg (cells8 ks), .int .i64 0]) (results_box2 (v1 := .int .i64 0) Try.results10 _ _ w.heap.size rfl rfl HB3.out Try.underlying23 rfl HI2.out) rfl ⟨by rw [HE.out], ?_⟩
        exact HW.out.trans (HK3.out.below HW.out.size (fun k hk => by omega))
theorem aheadF_at (ks : List Int) (k : Nat) (hk : k < ks.length) (h : 0 ∉ ks.take k) : (ks.getD k 0 = 0 → (aheadF ks).length = k) := by
  intro h0
  have e : ks = ks.take k ++ 0 :: ks.drop (k + 1) := by
    have h1 := drop_two8 ks k hk
    rw [h0] at h1
    rw [← h1, List.take_append_drop]
  have h2 : ∀ (xs ys : List Int), 0 ∉ xs → (aheadF (xs ++ 0 :: ys)).length = xs.length := by
    intro xs
    induction xs with
    | nil => intro ys _; simp [aheadF]
    | cons x r ih =>
      intro ys hx
      simp only [List.mem_cons, not_or] at hx
      simp only [List.cons_append]
      unfold aheadF
      rw [if_neg (fun e => hx.1 e.symm)]
      simp [ih ys hx.2]
  rw [e, h2 _ _ h]
  simp
  omega
end Go.Proofs.Ytkdccigcpcchlaa
