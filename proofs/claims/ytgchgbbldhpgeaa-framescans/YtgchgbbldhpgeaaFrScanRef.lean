/-
  The reference of layer 4: Scan, All, Lists. Own work.
-/
import Derived.Test.YtgchgbbldhpgeaaFrNext
import Derived.Test.YtgchgbbldhpgeaaFrScan
import Derived.Test.YtgchgbbldhpgeaaFrRows
namespace Go.Proofs.Ytgchgbbldhpgeaa
open Go.RowKit

set_option maxRecDepth 100000 in
set_option maxHeartbeats 3200000 in
theorem r4scan_any (v : Value) (bs : List Int) (w : World) (h : Lies .u8 w v bs) (hx : ∀ c ∈ bs, 0 ≤ c ∧ c < 256) (hl : bs.length ≤ 1000000) :
    Calls Try.prog 19 #[v] w fun e w' => ∃ v', e = .returned (.tuple #[v', .int .i64 (scanF bs).2]) ∧ Rows w' w.heap.size v' (scanF bs).1 ∧ Below w.heap.size w w' := by
  obtain ⟨ao, cap, rfl⟩ := h.shape
  have H := hide h
  have HX := hide hx
  clear h hx
  go_enter Try.func19, Try.ntmps19
  go_wp2
  go_loopw [4, 5] (fun o i wr => ∃ (k : Nat) (acc : List (List Int)), k ≤ bs.length ∧ acc.length ≤ k ∧ i = .int .i64 k ∧ Hid (Rows wr w.heap.size o acc) ∧ Hid (Below w.heap.size w wr) ∧ Hid (scanF bs = (acc ++ (scanF (bs.drop k)).1, k + (scanF (bs.drop k)).2))) (fun _ i _ => bs.length - (intOf i).toNat)
  case atStart => exact ⟨0, [], Nat.zero_le _, Nat.zero_le _, rfl, hide (Rows.nil _ _), hide (Below.refl _ _), hide (by simp)⟩
  case round =>
    obtain ⟨k, acc, hk, hacc, rfl, HR, HB, HS⟩ := hrel
    have HL := hide (H.out.below HB.out)
    have HXk : Hid (∀ c ∈ bs.drop k, 0 ≤ c ∧ c < 256) := hide fun c hc => HX.out c (List.mem_of_mem_drop hc)
    have hkI : (k : Int) ≤ bs.length := by omega
    obtain ⟨ar, cr, er⟩ := HR.out.shape
    subst er
    go_wp2_with (refine wp_from _ rfl _ _ rfl _ bs rfl HL.out k rfl hk ?_; intro a2 c2 hL2; have HL2 := hide hL2; clear hL2)
    refine (r4next_any _ (bs.drop k) _ HL2.out HXk.out).mono ?_
    rintro e w3 ⟨u, rfl, hu, hB3⟩
    have hok := next_ok (bs.drop k)
    have hdl : (bs.drop k).length = bs.length - k := by simp
    rw [hdl] at hok
    have HOK := hide (scan_ok (bs.drop k))
    have HNO := hide (scan_no (bs.drop k))
    generalize nextF (bs.drop k) = nx at *
    obtain ⟨ld, n, code⟩ := nx
    dsimp only at hu hok HOK HNO ⊢
    have HU := hide hu
    have HR3 := hide (HR.out.below hB3)
    have HB3 := hide (HB.out.trans (hB3.mono HB.out.size))
    clear hu hB3 hdl
    by_cases hc : code = 0
    · subst hc
      have hok := hok rfl
      have HOK := hide (HOK.out rfl)
      obtain ⟨hn8, hnl⟩ := hok
      have hI : (k : Int) + n ≤ 1000000 := by omega
      clear HNO
      obtain ⟨au, cu, eu⟩ := (Lies.of_own HU.out).shape
      subst eu
      have HU3 := hide (owns_base HU.out HB.out.size)
      have HS3 := hide (Nat.le_trans HB3.out.size (below_two w3 (.cells #[.slice au ld.length cu] 22)).size)
      have HBA := hide (HB3.out.trans ((below_two w3 (.cells #[.slice au ld.length cu] 22)).mono HB3.out.size))
      have HE : Hid (scanF bs = ((acc ++ [ld]) ++ (scanF (bs.drop (k + n))).1, (k + n) + (scanF (bs.drop (k + n))).2)) := hide (by
        rw [HS.out, HOK.out, List.drop_drop]
        simp [Nat.add_assoc])
      go_wp2_with (at_builtin; refine append_row _ rfl _ _ rfl w.heap.size _ acc rfl (HR3.out.below (below_two _ _)) w3.heap.size _ ld rfl (by simp) (HU3.out.alloc _) (by omega) HS3.out ?_; intro v4 w4 hR4 hgrow4; have HR4 := hide hR4; have HB4 := hide (HBA.out.grown hgrow4 HS3.out (fun k hk => (HR3.out.lt k hk).1)); clear hR4 hgrow4)
      go_roundw
      case rel => exact ⟨k + n, acc ++ [ld], by omega, by simp; omega, by go_num, HR4, HB4, HE⟩
      case measure => simp [intOf]; omega
    · have HNO := hide (HNO.out hc)
      clear hok HOK
      go_wp2
      go_ret2
      exact ⟨_, by rw [HS.out, HNO.out]; rfl, by rw [HS.out, HNO.out]; simpa using HR3.out, HB3.out⟩
set_option maxRecDepth 100000 in
set_option maxHeartbeats 3200000 in
theorem r4all_any (v : Value) (bs : List Int) (w : World) (h : Lies .u8 w v bs) (hx : ∀ c ∈ bs, 0 ≤ c ∧ c < 256) (hl : bs.length ≤ 1000000) :
    Calls Try.prog 21 #[v] w fun e w' => ∃ v', e = .returned (.tuple #[v', .int .i64 (allF bs).2]) ∧ Rows w' w.heap.size v' (allF bs).1 ∧ Below w.heap.size w w' := by
  have C := hide (r4scan_any v bs w h hx hl)
  have hle := scan_le bs
  have HX : Hid (∀ c ∈ bs.drop (scanF bs).2, 0 ≤ c ∧ c < 256) := hide fun c hc => hx c (List.mem_of_mem_drop hc)
  obtain ⟨ao, cap, rfl⟩ := h.shape
  have H := hide h
  clear h hx
  have HA1 : Hid ((scanF bs).2 < bs.length → allF bs = ([], (nextF (bs.drop (scanF bs).2)).2.2)) := hide fun h => by unfold allF; rw [if_pos h]
  have HA2 : Hid (¬ (scanF bs).2 < bs.length → allF bs = ((scanF bs).1, 0)) := hide fun h => by unfold allF; rw [if_neg h]
  generalize scanF bs = r at *
  obtain ⟨rs, at'⟩ := r
  dsimp only at *
  go_enter Try.func21, Try.ntmps21
  go_wp2_with fail
  refine C.out.mono ?_
  rintro e w2 ⟨v2, rfl, hR2, hB2⟩
  have HR2 := hide hR2
  have HB2 := hide hB2
  have HL2 := hide (H.out.below hB2)
  clear hR2 hB2 C
  by_cases hlt : at' < bs.length
  · have HA := hide (HA1.out hlt)
    have hltI : (at' : Int) < bs.length := by omega
    go_wp2_with (refine wp_from _ rfl _ _ rfl _ bs rfl HL2.out at' rfl hle ?_; intro a3 c3 hL3; have HL3 := hide hL3; clear hL3)
    refine (r4next_any _ (bs.drop at') _ HL3.out HX.out).mono ?_
    rintro e w3 ⟨u, rfl, hu, hB3⟩
    have HB3 := hide (HB2.out.trans (hB3.mono HB2.out.size))
    clear hu hB3
    generalize nextF (bs.drop at') = nx at *
    go_wp2_with fail
    go_ret2
    exact ⟨_, by rw [HA.out]; rfl, by rw [HA.out]; exact Rows.nil _ _, HB3.out⟩
  · have HA := hide (HA2.out hlt)
    have hltI : (bs.length : Int) ≤ at' := by omega
    go_wp2_with fail
    go_ret2
    exact ⟨_, by rw [HA.out]; rfl, by rw [HA.out]; exact HR2.out, HB2.out⟩
end Go.Proofs.Ytgchgbbldhpgeaa
