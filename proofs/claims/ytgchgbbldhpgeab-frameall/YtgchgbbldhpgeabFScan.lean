/-
  The program's walk, Scan, All; what package frame answers, all in all. Own work.
-/
import Derived.Test.YtgchgbbldhpgeabFPut
namespace Go.Proofs.Ytgchgbbldhpgeab
open Go.RowKit

set_option maxRecDepth 100000 in
set_option maxHeartbeats 1600000 in
theorem fwalk_any (v : Value) (bs : List Int) (w : World) (h : Lies .u8 w v bs) (hx : ∀ c ∈ bs, 0 ≤ c ∧ c < 256) (hl : bs.length ≤ 1000000) :
    Calls Try.prog 14 #[v] w fun e w' => ∃ v', e = .returned (.tuple #[v', .int .i64 (scanF bs).2, .int .i64 (nextF (bs.drop (scanF bs).2)).2.2]) ∧ Rows w' w.heap.size v' (scanF bs).1 ∧ Below w.heap.size w w' := by
  obtain ⟨ao, cap, rfl⟩ := h.shape
  have H := hide h
  have HX := hide hx
  clear h hx
  go_enter Try.func14, Try.ntmps14
  go_wp2
  go_loopw [5, 6] (fun o i wr => ∃ (k : Nat) (acc : List (List Int)), k ≤ bs.length ∧ acc.length ≤ k ∧ i = .int .i64 k ∧ Hid (Rows wr w.heap.size o acc) ∧ Hid (Below w.heap.size w wr) ∧ Hid (scanF bs = (acc ++ (scanF (bs.drop k)).1, k + (scanF (bs.drop k)).2))) (fun _ i _ => bs.length - (intOf i).toNat)
  case atStart => exact ⟨0, [], Nat.zero_le _, Nat.zero_le _, rfl, hide (Rows.nil _ _), hide (Below.refl _ _), hide (by simp)⟩
  case round =>
    obtain ⟨k, acc, hk, hacc, rfl, HR, HB, HS⟩ := hrel
    have HL := hide (H.out.below HB.out)
    have HXk : Hid (∀ c ∈ bs.drop k, 0 ≤ c ∧ c < 256) := hide fun c hc => HX.out c (List.mem_of_mem_drop hc)
    have hkI : (k : Int) ≤ bs.length := by omega
    have hdk : (bs.drop k).length ≤ 1000000 := by simp; omega
    obtain ⟨ar, cr, er⟩ := HR.out.shape
    subst er
    go_wp2_with (refine wp_from _ rfl _ _ rfl _ bs rfl HL.out k rfl hk ?_; intro a2 c2 hL2; have HL2 := hide hL2; clear hL2)
    refine (fnext_any _ (bs.drop k) _ HL2.out HXk.out hdk).mono ?_
    rintro e w3 ⟨u, rfl, hu, hB3⟩
    have hok := next_ok (bs.drop k)
    have hdl : (bs.drop k).length = bs.length - k := by simp
    rw [hdl] at hok
    have HOK := hide (scan_ok (bs.drop k))
    have HNO := hide (scan_no (bs.drop k))
    have HEN : Hid (∀ code, (nextF (bs.drop k)).2.2 = code → code ≠ 0 → (nextF (bs.drop (scanF bs).2)).2.2 = code) := hide fun code hc hne => by
      rw [HS.out, scan_no (bs.drop k) (by rw [hc]; exact hne)]
      exact hc
    generalize nextF (bs.drop k) = nx at *
    obtain ⟨ld, n, code⟩ := nx
    dsimp only at hu hok HOK HNO HEN ⊢
    have HU := hide hu
    have HR3 := hide (HR.out.below hB3)
    have HB3 := hide (HB.out.trans (hB3.mono HB.out.size))
    clear hu hB3 hdl
    by_cases hc : code = 0
    · subst hc
      have hok := hok rfl
      have HOK := hide (HOK.out rfl)
      obtain ⟨hn8, hnl⟩ := hok
      have hI : (k : Int) + n ≤ 1000000 := by omega
      clear HNO HEN
      obtain ⟨au, cu, eu⟩ := (Lies.of_own HU.out).shape
      subst eu
      have HU3 := hide (owns_base HU.out HB.out.size)
      have HS3 := hide (Nat.le_trans HB3.out.size (below_two w3 (.cells #[.slice au ld.length cu] 23)).size)
      have HBA := hide (HB3.out.trans ((below_two w3 (.cells #[.slice au ld.length cu] 23)).mono HB3.out.size))
      have HE : Hid (scanF bs = ((acc ++ [ld]) ++ (scanF (bs.drop (k + n))).1, (k + n) + (scanF (bs.drop (k + n))).2)) := hide (by
        rw [HS.out, HOK.out, List.drop_drop]
        simp [Nat.add_assoc])
      go_wp2_with (at_builtin; refine append_row _ rfl _ _ rfl w.heap.size _ acc rfl (HR3.out.below (below_two _ _)) w3.heap.size _ ld rfl (by simp) (HU3.out.alloc _) (by omega) HS3.out ?_; intro v4 w4 hR4 hgrow4; have HR4 := hide hR4; have HB4 := hide (HBA.out.grown hgrow4 HS3.out (fun k hk => (HR3.out.lt k hk).1)); clear hR4 hgrow4)
      go_roundw
      case rel => exact ⟨k + n, acc ++ [ld], by omega, by simp; omega, by go_num, HR4, HB4, HE⟩
      case measure => simp [intOf]; omega
    · have HNO := hide (HNO.out hc)
      have HEN := hide (HEN.out code rfl hc)
      have hcb : (code == 0) = false := by simpa using hc
      clear hok HOK
      go_wp2
      go_ret3
      exact ⟨_, by rw [HEN.out, HS.out, HNO.out]; rfl, by rw [HS.out, HNO.out]; simpa using HR3.out, HB3.out⟩
set_option maxHeartbeats 800000 in
theorem fscan_any : ScanOK := by
  intro v bs w h hx hl
  have C := hide (fwalk_any v bs w h hx hl)
  obtain ⟨ao, cap, rfl⟩ := h.shape
  clear h hx
  generalize nextF (bs.drop (scanF bs).2) = nx at *
  generalize scanF bs = r at *
  go_enter Try.func9, Try.ntmps9
  go_wp2_with fail
  refine C.out.mono ?_
  rintro e w2 ⟨v2, rfl, hR2, hB2⟩
  have HL2 := hide hR2.lies
  have HB2 := hide hB2
  obtain ⟨ar, cr, er⟩ := hR2.shape
  subst er
  clear hR2 hB2 C
  go_wp2_with fail
  go_ret2
  exact ⟨_, rfl, HL2.out, HB2.out⟩
set_option maxHeartbeats 800000 in
theorem fall_any : AllOK := by
  intro v bs w h hx hl
  have C := hide (fwalk_any v bs w h hx hl)
  have hle := scan_le bs
  obtain ⟨ao, cap, rfl⟩ := h.shape
  clear h hx
  have HA1 : Hid ((scanF bs).2 < bs.length → allF bs = ([], (nextF (bs.drop (scanF bs).2)).2.2)) := hide fun h => by unfold allF; rw [if_pos h]
  have HA2 : Hid (¬ (scanF bs).2 < bs.length → allF bs = ((scanF bs).1, 0)) := hide fun h => by unfold allF; rw [if_neg h]
  generalize nextF (bs.drop (scanF bs).2) = nx at *
  generalize scanF bs = r at *
  obtain ⟨rs, at'⟩ := r
  dsimp only at *
  go_enter Try.func6, Try.ntmps6
  go_wp2_with fail
  refine C.out.mono ?_
  rintro e w2 ⟨v2, rfl, hR2, hB2⟩
  have HL2 := hide hR2.lies
  have HB2 := hide hB2
  obtain ⟨ar, cr, er⟩ := hR2.shape
  subst er
  clear hR2 hB2 C
  by_cases hlt : at' < bs.length
  · have HA := hide (HA1.out hlt)
    have hltI : (at' : Int) < bs.length := by omega
    go_wp2_with fail
    go_ret2
    exact ⟨_, by rw [HA.out]; rfl, by rw [HA.out]; exact (Rows.nil _ 0).lies, HB2.out⟩
  · have HA := hide (HA2.out hlt)
    have hltI : (bs.length : Int) ≤ at' := by omega
    go_wp2_with fail
    go_ret2
    exact ⟨_, by rw [HA.out]; rfl, by rw [HA.out]; exact HL2.out, HB2.out⟩
theorem next_OK : NextOK := fun v bs w h hx hl => (fnext_any v bs w h hx hl).mono fun _ _ ⟨v', e1, e2, e3⟩ => ⟨v', e1, Lies.of_own e2, e3⟩
theorem size_OK : SizeOK := fun n w h1 h2 => (fsize_any n w h1 h2).mono fun _ _ ⟨e1, e2⟩ => ⟨e1, by rw [e2]; exact Below.refl _ _⟩
/-- Of the functions 13 5 10 9 6. -/
theorem frame_ok : FrameOK := ⟨size_OK, fput_any, next_OK, fscan_any, fall_any⟩
end Go.Proofs.Ytgchgbbldhpgeab
