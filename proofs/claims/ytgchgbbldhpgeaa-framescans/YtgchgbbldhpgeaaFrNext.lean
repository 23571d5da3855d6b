/-
  The reference of layer 4: Next. Own work.
-/
import Derived.Test.YtgchgbbldhpgeaaFrRef
import Derived.Test.YtgchgbbldhpgeaaFrCuts
namespace Go.Proofs.Ytgchgbbldhpgeaa
open Go.RowKit

theorem take_two (xs : List Int) (s : Nat) (h : s + 2 ≤ xs.length) : (xs.drop s).take 2 = [xs.getD s 0, xs.getD (s + 1) 0] := by
  apply List.ext_getElem
  · simp; omega
  · intro i h1 h2
    have : i = 0 ∨ i = 1 := by simp at h2; omega
    rcases this with rfl | rfl
    · simp [List.getD, show s < xs.length by omega]
    · simp [List.getD, show s + 1 < xs.length by omega]
theorem lenF_eq (bs : List Int) (h : 4 ≤ bs.length) (hx : ∀ c ∈ bs, 0 ≤ c ∧ c < 256) : (lenF bs : Int) = bs.getD 2 0 * 256 + bs.getD 3 0 := by
  unfold lenF
  rw [take_two bs 2 (by omega)]
  have h2 := getD_byte hx 2
  have h3 := getD_byte hx 3
  rw [show bs.getD (2 + 1) 0 = bs.getD 3 0 from rfl]
  show ((valB ([] ++ [bs.getD 2 0] ++ [bs.getD 3 0]) : Nat) : Int) = _
  rw [valB_snoc, valB_snoc]
  simp only [valB, List.foldl_nil]
  omega
/-- A pair of bytes as a slice's literal makes it. -/
theorem two_cell (w : World) (a b : Int) (k : Nat) (hk : k < 2) : (w.alloc (.cells #[.int .u8 a, .int .u8 b] 5)).cell? ⟨w.heap.size, k, none⟩ = some (.int .u8 ([a, b].getD k 0)) := by
  have h2 : k = 0 ∨ k = 1 := by omega
  rcases h2 with rfl | rfl
  · simp [List.getD]
  · simp [List.getD]
theorem below_two (w : World) (o : Obj) : Below w.heap.size w (w.alloc o) := (Below.refl w.heap.size w).alloc (Nat.le_refl _) o
/-- What the mark's bytes say. -/
theorem next_mark (bs : List Int) (k : Nat) (hk : k < 2) (hp : 0 < bs.length) (hl : k ≤ bs.length) (hm : ∀ t, t < k → bs.getD t 0 = [167, 94].getD t 0) :
    (bs.length = k → nextF bs = ([], 0, 4)) ∧ (k < bs.length → bs.getD k 0 ≠ [167, 94].getD k 0 → nextF bs = ([], 0, 3)) := by
  have h2 : k = 0 ∨ k = 1 := by omega
  unfold nextF
  rcases h2 with rfl | rfl
  · refine ⟨fun h => by omega, fun _ h => ?_⟩
    rw [if_neg (by omega), if_pos (show bs.getD 0 0 ≠ 167 from h)]
  · have h0 : bs.getD 0 0 = 167 := hm 0 (by omega)
    refine ⟨fun h => ?_, fun hlt h => ?_⟩
    · rw [if_neg (by omega), if_neg (by rw [h0]; simp), if_pos h]
    · rw [if_neg (by omega), if_neg (by rw [h0]; simp), if_neg (by omega), if_pos (show bs.getD 1 0 ≠ 94 from h)]
theorem next_rest (bs : List Int) (hl : 2 ≤ bs.length) (hm : ∀ t, t < 2 → bs.getD t 0 = [167, 94].getD t 0) :
    nextF bs = if bs.length < 4 then ([], 0, 4)
      else if 4096 < lenF bs then ([], 0, 3)
      else if bs.length < 8 + lenF bs then ([], 0, 4)
      else if valB ((bs.drop 4).take 4) ≠ sumF ((bs.drop 2).take 2) ((bs.drop 8).take (lenF bs)) then ([], 0, 8)
      else ((bs.drop 8).take (lenF bs), 8 + lenF bs, 0) := by
  have h0 : bs.getD 0 0 = 167 := hm 0 (by omega)
  have h1 : bs.getD 1 0 = 94 := hm 1 (by omega)
  rw [nextF, if_neg (by omega), if_neg (by rw [h0]; simp), if_neg (by omega), if_neg (by rw [h1]; simp)]
set_option maxRecDepth 100000 in
set_option maxHeartbeats 3200000 in
theorem r4next_any (v : Value) (bs : List Int) (w : World) (h : Lies .u8 w v bs) (hx : ∀ c ∈ bs, 0 ≤ c ∧ c < 256) :
    Calls Try.prog 17 #[v] w fun e w' => ∃ v', e = .returned (.tuple #[v', .int .i64 (nextF bs).2.1, .int .i64 (nextF bs).2.2]) ∧ w'.ownsRow w.heap.size 5 1 v' (nextF bs).1.length ((nextF bs).1.map (Value.int .u8)) ∧ Below w.heap.size w w' := by
  have hmx := h.len
  unfold maxLen at hmx
  rcases h with ⟨rfl, ao, cap, rfl, _⟩ | ⟨hne, b, off, cap, rfl, hb, hcl, hcm, hc⟩
  · go_enter Try.func17, Try.ntmps17
    go_wp2
    go_rounds 1
    go_ret3
    exact ⟨_, rfl, World.ownsRow_nil _ _ _ _, below_two _ _⟩
  · have H : Hid (Lies .u8 w (.slice (some ⟨b, off, none⟩) bs.length cap) bs) := hide (.inr ⟨hne, b, off, cap, rfl, hb, hcl, hcm, hc⟩)
    have hpos : 0 < bs.length := List.length_pos_iff.2 hne
    have HX := hide hx
    have hmem : b < (w.alloc (.cells #[.int .u8 167, .int .u8 94] 5)).heap.size := by simp; omega
    have hmem2 : w.heap.size < (w.alloc (.cells #[.int .u8 167, .int .u8 94] 5)).heap.size := by simp
    have HB1 := hide (below_two w (.cells #[.int .u8 167, .int .u8 94] 5))
    have HM : Hid (∀ wr, Below (w.alloc (.cells #[.int .u8 167, .int .u8 94] 5)).heap.size (w.alloc (.cells #[.int .u8 167, .int .u8 94] 5)) wr → ∀ k, k < 2 → wr.cell? ⟨w.heap.size, k, none⟩ = some (.int .u8 ([167, 94].getD k 0))) :=
      hide fun wr hB k hk => (hB.cell (p := ⟨w.heap.size, k, none⟩) hmem2).trans (two_cell w 167 94 k hk)
    have HC : Hid (∀ wr, Below (w.alloc (.cells #[.int .u8 167, .int .u8 94] 5)).heap.size (w.alloc (.cells #[.int .u8 167, .int .u8 94] 5)) wr → ∀ t, t < bs.length → wr.cell? ⟨b, off + t, none⟩ = some (.int .u8 (bs.getD t 0))) :=
      hide fun wr hB t ht => (hB.cell (p := ⟨b, off + t, none⟩) hmem).trans ((HB1.out.cell (p := ⟨b, off + t, none⟩) hb).trans (hc t ht))
    have HBB : Hid (∀ wr, Below (w.alloc (.cells #[.int .u8 167, .int .u8 94] 5)).heap.size (w.alloc (.cells #[.int .u8 167, .int .u8 94] 5)) wr → Below w.heap.size w wr) :=
      hide fun wr hB => HB1.out.trans (hB.mono (Nat.le_of_lt hmem2))
    have HR0 : Hid (Below (w.alloc (.cells #[.int .u8 167, .int .u8 94] 5)).heap.size (w.alloc (.cells #[.int .u8 167, .int .u8 94] 5)) (w.alloc (.cells #[.int .u8 167, .int .u8 94] 5))) := hide (Below.refl _ _)
    clear hc hx hne hmem hmem2
    go_enter Try.func17, Try.ntmps17
    go_wp2
    generalize (w.alloc (.cells #[.int .u8 167, .int .u8 94] 5)) = w1 at *
    go_loopw [6] (fun i wr => ∃ k : Nat, k ≤ 2 ∧ k ≤ bs.length ∧ i = .int .i64 k ∧ Hid (∀ t, t < k → bs.getD t 0 = [167, 94].getD t 0) ∧ Hid (Below w1.heap.size w1 wr)) (fun i _ => 2 - (intOf i).toNat)
    case atStart => exact ⟨0, by omega, by omega, rfl, hide fun t ht => by omega, HR0⟩
    case round =>
      obtain ⟨k, hk2, hkl, rfl, HK, HR⟩ := hrel
      by_cases h2 : k < 2
      · obtain ⟨ha, hb'⟩ := next_mark bs k h2 hpos hkl HK.out
        by_cases hlen : bs.length = k
        · have HN := hide (ha hlen)
          clear ha hb'
          subst hlen
          go_wp2
          go_ret3
          exact ⟨_, by rw [HN.out]; rfl, by rw [HN.out]; exact World.ownsRow_nil _ _ _ _, HBB.out _ HR.out⟩
        · have hlt : k < bs.length := by omega
          have hcell := HC.out _ HR.out k hlt
          have hmark := HM.out _ HR.out k h2
          by_cases heq : bs.getD k 0 = [167, 94].getD k 0
          · have HK' : Hid (∀ t, t < k + 1 → bs.getD t 0 = [167, 94].getD t 0) := hide fun t ht => by
              rcases Nat.lt_succ_iff_lt_or_eq.1 ht with h | rfl
              · exact HK.out t h
              · exact heq
            rw [heq] at hcell
            clear ha hb' heq
            generalize ([167, 94] : List Int).getD k 0 = c at *
            have hcc : (c != c) = false := by simp
            go_wp2
            go_quiet (fail)
            go_wp2
            go_roundw
            case rel => exact ⟨k + 1, by omega, by omega, by go_num, HK', hide (below_drewN HR.out nq)⟩
            case measure => simp [intOf]; omega
          · have HN := hide (hb' hlt heq)
            clear ha hb'
            generalize ([167, 94] : List Int).getD k 0 = c at *
            generalize bs.getD k 0 = d at *
            have hcc : (d != c) = true := by simpa using heq
            go_wp2
            go_quiet (fail)
            go_wp2
            go_ret3
            exact ⟨_, by rw [HN.out]; rfl, by rw [HN.out]; exact World.ownsRow_nil _ _ _ _, HBB.out _ (below_drewN HR.out nq)⟩
      · obtain rfl : k = 2 := by omega
        have hN := next_rest bs hkl HK.out
        clear HK HM
        by_cases h4 : bs.length < 4
        · rw [if_pos h4] at hN
          have HN := hide hN
          clear hN
          have h4' : (bs.length : Int) < 4 := by omega
          go_wp2
          go_ret3
          exact ⟨_, by rw [HN.out]; rfl, by rw [HN.out]; exact World.ownsRow_nil _ _ _ _, HBB.out _ HR.out⟩
        · rw [if_neg h4] at hN
          have h4' : (4 : Int) ≤ bs.length := by omega
          have c2 := HC.out _ HR.out 2 (by omega)
          have c3 := HC.out _ HR.out 3 (by omega)
          have hlf := lenF_eq bs (by omega) HX.out
          have hb2 := getD_byte HX.out 2
          have hb3 := getD_byte HX.out 3
          have HN := hide hN
          clear hN HC
          generalize bs.getD 2 0 = x2 at *
          generalize bs.getD 3 0 = x3 at *
          generalize lenF bs = N at *
          have hN' : N < 65536 := by omega
          go_wp2
          go_quiet (fail)
          rw [← hlf]
          have HR2 : Hid (Below w1.heap.size w1 (wr.drewN nq)) := hide (below_drewN HR.out nq)
          clear hlf c2 c3 hb2 hb3 HR
          generalize wr.drewN nq = w2 at *
          have HB2 := hide (HBB.out _ HR2.out)
          have HL2 := hide (H.out.below HB2.out)
          have hN := HN.out
          clear HN
          by_cases hbig : 4096 < N
          · rw [if_pos hbig] at hN
            have HN := hide hN
            clear hN
            have hbig' : (4096 : Int) < N := by omega
            go_wp2
            go_ret3
            exact ⟨_, by rw [HN.out]; rfl, by rw [HN.out]; exact World.ownsRow_nil _ _ _ _, HB2.out⟩
          · rw [if_neg hbig] at hN
            have hbig' : (N : Int) ≤ 4096 := by omega
            by_cases hend : bs.length < 8 + N
            · rw [if_pos hend] at hN
              have HN := hide hN
              clear hN
              have hend' : (bs.length : Int) < 8 + N := by omega
              go_wp2
              go_ret3
              exact ⟨_, by rw [HN.out]; rfl, by rw [HN.out]; exact World.ownsRow_nil _ _ _ _, HB2.out⟩
            · rw [if_neg hend] at hN
              have hend' : (8 + N : Int) ≤ bs.length := by omega
              have hs4 : (bs.drop 4).length = bs.length - 4 := by simp
              have hv : valB ((bs.drop 4).take 4) < 4294967296 := valB_lt (bs.drop 4) (fun c hc => HX.out c (List.mem_of_mem_drop hc)) 4 (by omega)
              have HG : Hid (getS (bs.drop 4) 4 = (((valB ((bs.drop 4).take 4) : Nat) : Int), 0)) := hide (by
                unfold getS
                rw [if_neg (by omega), if_neg (by omega)]
                rfl)
              have HX2 : Hid (∀ c ∈ (bs.drop 2).take 2, 0 ≤ c ∧ c < 256) := hide fun c hc => HX.out c (List.mem_of_mem_drop (List.mem_of_mem_take hc))
              have HX4 : Hid (∀ c ∈ bs.drop 4, 0 ≤ c ∧ c < 256) := hide fun c hc => HX.out c (List.mem_of_mem_drop hc)
              have HX8 : Hid (∀ c ∈ (bs.drop 8).take N, 0 ≤ c ∧ c < 256) := hide fun c hc => HX.out c (List.mem_of_mem_drop (List.mem_of_mem_take hc))
              have hm0 : moreI 0 ((bs.drop 2).take 2) < 4294967296 := moreI_lt (by decide) HX2.out
              have hm1 : moreI (moreI 0 ((bs.drop 2).take 2)) ((bs.drop 8).take N) < 4294967296 := moreI_lt hm0 HX8.out
              have hs8 : ((bs.drop 8).take N).length = N := by simp; omega
              have HN := hide hN
              clear hN hs4
              go_wp2_with (first
                | (refine wp_from _ rfl _ _ rfl _ bs rfl HL2.out 4 rfl (by omega) ?_; intro a4 c4 hL4; have HL4 := hide hL4; clear hL4)
                | (refine wp_mid _ rfl _ _ _ rfl _ bs rfl HL2.out .i64 .i64 8 (8 + N) rfl (by show Value.int _ _ = Value.int _ _; congr 1) (by omega) (by omega) ?_; intro a8 c8 hL8; rw [Nat.add_sub_cancel_left] at hL8 ⊢; have HL8 := hide hL8; clear hL8))
              refine (rget_any _ (bs.drop 4) 4 w2 HL4.out HX4.out).mono ?_
              rintro e w3 ⟨rfl, rfl⟩
              rw [HG.out]
              generalize valB ((bs.drop 4).take 4) = sv at *
              clear HG
              go_wp2_with (refine wp_mid _ rfl _ _ _ rfl _ bs rfl HL2.out .i64 .i64 2 4 rfl rfl (by omega) (by omega) ?_; intro a5 c5 hL5; have HL5 := hide hL5; clear hL5)
              refine (rmore_any 0 _ ((bs.drop 2).take 2) _ (by decide) HL5.out HX2.out).mono ?_
              rintro e w3 ⟨rfl, rfl⟩
              go_wp2_with fail
              refine (rmore_any _ _ ((bs.drop 8).take N) _ hm0 HL8.out HX8.out).mono ?_
              rintro e w3 ⟨rfl, rfl⟩
              unfold sumF at HN
              generalize moreI (moreI 0 ((bs.drop 2).take 2)) ((bs.drop 8).take N) = sm at *
              by_cases hsum : sv = sm
              · subst hsum
                have hN := HN.out
                rw [if_neg (by simp)] at hN
                have HN := hide hN
                have HS8 := hide hs8
                have hl8 : ((bs.drop 8).take N).length ≤ 4096 := by omega
                clear hN hs8
                go_wp2_with (at_builtin; refine append_lies _ rfl _ _ rfl w.heap.size _ _ 0 [] ((bs.drop 8).take N) rfl (World.ownsRow_nil _ _ _ _) rfl HL8.out (by omega) HB2.out.size ?_; intro v6 w6 hown6 hgrow6; simp only [Nat.zero_add, List.nil_append] at hown6; have H6 := hide hown6; have HB6 := hide (HB2.out.grown hgrow6 HB2.out.size (fun k hk => by cases hk)); clear hown6 hgrow6)
                go_ret3
                exact ⟨_, by rw [HN.out]; rfl, by rw [HN.out]; exact H6.out, HB6.out⟩
              · have hN := HN.out
                rw [if_pos hsum] at hN
                have HN := hide hN
                clear hN
                have hsum' : ¬ (sv : Int) = sm := by omega
                go_wp2
                go_ret3
                exact ⟨_, by rw [HN.out]; rfl, by rw [HN.out]; exact World.ownsRow_nil _ _ _ _, HB2.out⟩
end Go.Proofs.Ytgchgbbldhpgeaa
