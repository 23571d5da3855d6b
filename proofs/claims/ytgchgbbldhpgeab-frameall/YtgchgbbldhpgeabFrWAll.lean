/-
  Walk of the law FrameAll, from what package frame must answer. Own work.
-/
import Derived.Test.YtgchgbbldhpgeabFrFacts
import Derived.Test.YtgchgbbldhpgeabAppStep
import Derived.Deep.RegionHeldLaw
namespace Go.Proofs.Ytgchgbbldhpgeab
open Go.RowKit

namespace all4
def framesF (ls : List (List Int)) : List Int := (ls.map frameF).flatten
theorem frames_len : ∀ (ls : List (List Int)), (∀ l ∈ ls, l.length ≤ 150) → (framesF ls).length ≤ 158 * ls.length
  | [], _ => by simp [framesF]
  | l :: ls, h => by
    have h1 := h l (List.mem_cons_self ..)
    have h2 := frames_len ls (fun k hk => h k (List.mem_cons_of_mem _ hk))
    have h3 : framesF (l :: ls) = frameF l ++ framesF ls := by simp [framesF]
    rw [h3, List.length_append, frameF_length, List.length_cons]
    omega
theorem frames_take (ls : List (List Int)) (k : Nat) (h : k < ls.length) : framesF (ls.take (k + 1)) = framesF (ls.take k) ++ frameF (ls.getD k []) := by
  have e : ls.getD k [] = ls[k] := by simp [List.getD, h]
  unfold framesF
  rw [List.take_succ_eq_append_getElem h, e]
  simp only [List.map_append, List.flatten_append, List.map_cons, List.map_nil, List.flatten_cons, List.flatten_nil, List.append_nil]
theorem getD_all {xss : List (List Int)} (hx : ∀ xs ∈ xss, ∀ c ∈ xs, 0 ≤ c ∧ c < 256) (k : Nat) : ∀ c ∈ xss.getD k [], 0 ≤ c ∧ c < 256 := by
  by_cases h : k < xss.length
  · exact hx _ (by simp [List.getD, h])
  · simp [List.getD, List.getElem?_eq_none (Nat.le_of_not_lt h)]
theorem frames_bytes (ls : List (List Int)) (h : ∀ l ∈ ls, ∀ c ∈ l, 0 ≤ c ∧ c < 256) : ∀ c ∈ framesF ls, 0 ≤ c ∧ c < 256 := by
  intro c hc
  unfold framesF at hc
  obtain ⟨f, hf, hc⟩ := List.mem_flatten.1 hc
  obtain ⟨l, hl, rfl⟩ := List.mem_map.1 hf
  exact frameF_bytes l (h l hl) c hc
theorem take_small {ls : List (List Int)} {k : Nat} (h : k < ls.length) (h1 : ∀ l ∈ ls.take k, l.length ≤ 150) (h2 : (ls.getD k []).length ≤ 150) : ∀ l ∈ ls.take (k + 1), l.length ≤ 150 := by
  intro l hl
  rw [List.take_succ_eq_append_getElem h] at hl
  rcases List.mem_append.1 hl with hl | hl
  · exact h1 l hl
  · simp at hl
    subst hl
    simpa [List.getD, h] using h2
set_option maxRecDepth 100000 in
set_option maxHeartbeats 3200000 in
theorem walkN (P : PutOK) (N : NextOK) (S : ScanOK) (A : AllOK) (va vl : Value) (xss : List (List Int)) (ys : List Int) (p : Int) (w : World) (ha : LiesL w va xss) (hL : Lies .u8 w vl ys) (hxs : ∀ l ∈ xss, ∀ c ∈ l, 0 ≤ c ∧ c < 256) (hy : ∀ c ∈ ys, 0 ≤ c ∧ c < 256) :
    Calls Try.prog 3 #[va, vl, .int .i64 p] w fun e w' => e = .returned (.bool true) ∧ Below w.heap.size w w' := by
  obtain ⟨al, cl, rfl⟩ := hL.shape
  have HL := hide hL
  have HY := hide hy
  have HXS := hide hxs
  have HA := hide ha
  clear hL hy hxs
  have hva : ∃ (aa : Option Addr) (ca : Nat), va = .slice aa xss.length ca := by
    rcases ha with ⟨rfl, ao, cap, rfl⟩ | ⟨_, b, off, cap, rfl, _⟩
    · exact ⟨ao, cap, rfl⟩
    · exact ⟨_, cap, rfl⟩
  obtain ⟨aa, ca, rfl⟩ := hva
  clear ha
  by_cases h40 : 40 < xss.length
  · have h40' : (40 : Int) < xss.length := by omega
    go_enter Try.func3, Try.ntmps3
    go_wp2_with fail
    refine (fralive_of P N _).mono ?_
    rintro e w2 ⟨rfl, hB2⟩
    have HB2 := hide hB2
    clear hB2
    go_wp2_with fail
    go_ret
    exact ⟨rfl, HB2.out⟩
  · have h40' : (xss.length : Int) ≤ 40 := by omega
    go_enter Try.func3, Try.ntmps3
    go_wp2_with fail
    go_loopw [7, 24] (fun b i wr => ∃ k : Nat, k ≤ xss.length ∧ i = .int .i64 k ∧ Hid (∀ l ∈ xss.take k, l.length ≤ 150) ∧ Hid (Lies .u8 wr b (framesF (xss.take k))) ∧ Hid (Below w.heap.size w wr)) (fun _ i _ => xss.length - (intOf i).toNat)
    case atStart => exact ⟨0, Nat.zero_le _, rfl, hide (by simp), hide (Lies.nil _ _), hide (Below.refl _ _)⟩
    case round =>
      obtain ⟨k, hk, rfl, HS, HF, HB⟩ := hrel
      by_cases hlt : k < xss.length
      · have hltI : (k : Int) < xss.length := by omega
        rcases HA.out with ⟨hnil, _⟩ | ⟨_, ba, off, cap, ev, hb, hm, hc⟩
        · rw [hnil] at hlt; simp at hlt
        · cases ev
          obtain ⟨u, hcell, hu⟩ := hc k hlt
          have hcell := (HB.out.cell (p := ⟨ba, off + k, none⟩) hb).trans hcell
          have HU := hide (hu.below HB.out)
          obtain ⟨au, cu, eu⟩ := hu.shape
          subst eu
          clear hc hu
          have HUB : Hid (∀ c ∈ xss.getD k [], 0 ≤ c ∧ c < 256) := hide (getD_all HXS.out k)
          have HT := hide (frames_take xss k hlt)
          have hfl := frames_len _ HS.out
          have htl : (xss.take k).length = k := by simp; omega
          have HSM := hide (fun h => take_small hlt HS.out h)
          generalize xss.getD k [] = ld at *
          obtain ⟨af, cf, ef⟩ := HF.out.shape
          subst ef
          by_cases h150 : ld.length ≤ 150
          · have h150' : (ld.length : Int) ≤ 150 := by omega
            go_wp2_with fail
            refine (P _ _ (framesF (xss.take k)) ld _ HF.out HU.out HUB.out (by omega)).mono ?_
            rintro e w1 ⟨v1, rfl, ho1, hB1⟩
            have hpf : putF (framesF (xss.take k)) ld = (framesF (xss.take (k + 1)), 0) := by
              unfold putF
              rw [if_pos (by omega), HT.out]
            rw [hpf] at ho1 ⊢
            have HF1 := hide (Lies.of_own ho1)
            have HB1 := hide (HB.out.trans (hB1.mono HB.out.size))
            clear ho1 hB1 hpf
            dsimp only
            go_wp2_with fail
            go_roundw
            case rel => exact ⟨k + 1, by omega, by go_num, hide (HSM.out h150), HF1, HB1⟩
            case measure => simp [intOf]; omega
          · have h150' : (150 : Int) < (ld.length : Int) := by omega
            go_wp2_with fail
            refine (fralive_of P N _).mono ?_
            rintro e w2 ⟨rfl, hB2⟩
            have HB2 := hide (HB.out.trans (hB2.mono HB.out.size))
            clear hB2
            go_wp2_with fail
            go_ret
            exact ⟨rfl, HB2.out⟩
      · obtain rfl : k = xss.length := by omega
        rw [List.take_length] at HS HF
        have hfl := frames_len _ HS.out
        have HFB := hide (frames_bytes xss HXS.out)
        have HOK : Hid (∀ l ∈ xss, l.length ≤ 4096 ∧ ∀ c ∈ l, 0 ≤ c ∧ c < 256) := hide fun l hl => ⟨Nat.le_trans (HS.out l hl) (by decide), HXS.out l hl⟩
        have HALL : Hid (allF (framesF xss) = (xss, 0)) := hide (all_frames xss HOK.out)
        have HSC : Hid (∀ zs, scanF zs = ([], 0) → scanF (framesF xss ++ zs) = (xss, (framesF xss).length)) := hide fun zs hz => by
          have := scan_frames zs xss HOK.out
          rw [hz] at this
          simpa [framesF] using this
        generalize framesF xss = fr at *
        obtain ⟨af, cf, ef⟩ := HF.out.shape
        subst ef
        have hfr : fr.length ≤ 6320 := by omega
        clear hfl
        go_wp2_with fail
        refine (A _ fr _ HF.out HFB.out (by omega)).mono ?_
        rintro e w1 ⟨v1, rfl, hL1, hB1⟩
        rw [HALL.out] at hL1 ⊢
        have HL1 := hide hL1
        have HF1 := hide (HF.out.below hB1)
        have HB1 := hide (HB.out.trans (hB1.mono HB.out.size))
        clear hL1 hB1
        dsimp only
        go_wp2_with fail
        refine (r4lists_true _ _ xss _ HL1.out (HA.out.below HB1.out)).mono ?_
        rintro e w2 ⟨rfl, hB2⟩
        have HF2 := hide (HF1.out.below hB2)
        have HB2 := hide (HB1.out.trans (hB2.mono HB1.out.size))
        clear hB2
        go_wp2_with fail
        refine (P _ _ [] ys _ (Lies.nil _ _) (HL.out.below HB2.out) HY.out (by simp)).mono ?_
        rintro e w3 ⟨v3, rfl, ho3, hB3⟩
        have HO3 := hide ho3
        have HF3 := hide (HF2.out.below hB3)
        have HB3 := hide (HB2.out.trans (hB3.mono HB2.out.size))
        clear ho3 hB3
        go_wp2_with fail
        refine (frlong_any _ _ _ _).mono ?_
        rintro e w4 ⟨rfl, h1⟩
        rw [h1]
        clear h1
        by_cases hll : 6000 < ys.length
        · have d1 : decide ((6000 : Int) < (ys.length : Int)) = true := by simp; omega
          rw [d1]
          go_wp2_with fail
          refine (fralive_of P N _).mono ?_
          rintro e w5 ⟨rfl, hB5⟩
          have HB5 := hide (HB3.out.trans (hB5.mono HB3.out.size))
          clear hB5
          go_wp2_with fail
          go_ret
          exact ⟨rfl, HB5.out⟩
        · have d1 : decide ((6000 : Int) < (ys.length : Int)) = false := by simp; omega
          rw [d1]
          by_cases h4 : ys.length ≤ 4096
          · have ho3 := HO3.out
            rw [put_ok ys h4] at ho3 ⊢
            have hyl := frameF_length ys
            have HYB := hide (frameF_bytes ys HY.out)
            dsimp only at ho3 ⊢
            obtain ⟨a3, c3, e3⟩ := (Lies.of_own ho3).shape
            subst e3
            have HL3 := hide (Lies.of_own ho3)
            clear ho3 HO3
            obtain ⟨k, hk', hat⟩ := at_index4 p (frameF ys).length (by omega) (by omega)
            have HCUT := hide (HSC.out _ (scan_cut ys h4 HY.out k (by omega)))
            have hyr : (frameF ys).length ≤ 4104 := by omega
            have hyr0 : 8 ≤ (frameF ys).length := by omega
            clear hyl
            generalize frameF ys = yf at *
            have hne : ¬ ((yf.length : Int) = 0) := by omega
            have htk : (yf.take k).length = k := by simp; omega
            have HTB : Hid (∀ c ∈ fr ++ yf.take k, 0 ≤ c ∧ c < 256) := hide fun c hc => by
              rcases List.mem_append.1 hc with hc | hc
              · exact HFB.out c hc
              · exact HYB.out c (List.mem_of_mem_take hc)
            obtain ⟨y6, hy6⟩ : ∃ y, y = fr ++ yf.take k := ⟨_, rfl⟩
            have hy6l : y6.length ≤ 20000 := by rw [hy6, List.length_append]; omega
            rw [← hy6] at HTB HCUT
            have Y6 := hide hy6
            clear hy6
            have hcap : yf.length ≤ c3 := HL3.out.cap
            have hrun := fun w' => run_to w' .i64 a3 yf.length c3 k (by omega)
            have HFd := hide (HF3.out.below (Below.refl w3.heap.size w3).drew)
            have HTd := hide ((HL3.out.take (n := k) (by omega)).below (Below.refl w3.heap.size w3).drew)
            have HB3d := hide HB3.out.drew
            have HS3d := hide HB3.out.drew.size
            go_wp2_with fail
            go_region_held_law (fun _ => True) (trivial) ((first
              | (go_at_call 9; refine (S _ y6 _ (Lies.of_own HO6.out) HTB.out (by omega)).mono ?_; rintro e w7 ⟨v7, rfl, hL7, hB7⟩; rw [HCUT.out] at hL7 ⊢; have HL7 := hide hL7; have HB7 := hide (HB6.out.trans (hB7.mono HB6.out.size)); clear hL7 hB7)
              | (refine step_lies _ rfl _ _ rfl w.heap.size _ _ _ fr (yf.take k) rfl HO5.out rfl HT5.out (by omega) HS5.out ?_; intro v6 w6 hown6 hgrow6; have hown6 := owns_as hown6 Y6.out; have HO6 := hide hown6; have HB6 := hide (HB5.out.grown hgrow6 HS5.out (fun k hk => (HO5.out.lt k hk).1)); obtain ⟨a6, c6, e6⟩ := (Lies.of_own hown6).shape; subst e6; clear hown6 hgrow6)
              | (refine step_lies _ rfl _ _ rfl w.heap.size _ _ 0 [] fr rfl (World.ownsRow_nil _ _ _ _) rfl HFd.out (by omega) HS3d.out ?_; intro v5 w5 hown5 hgrow5; simp only [Nat.zero_add, List.nil_append] at hown5; have HO5 := hide hown5; have hB5 := HB3d.out.grown hgrow5 HS3d.out (fun k hk => by cases hk); have HB5 := hide hB5; have HT5 := hide (HTd.out.below ((Below.refl w3.drew.heap.size w3.drew).grown hgrow5 (Nat.le_refl _) (fun k hk => by cases hk))); have HS5 := hide hB5.size; obtain ⟨a5, c5, e5⟩ := (Lies.of_own hown5).shape; subst e5; clear hown5 hgrow5 hB5)))
            have q1 : ((fr.length : Int) == (fr.length : Int)) = true := by simp
            go_wp2_with fail
            refine (r4lists_true _ _ xss _ HL7.out (HA.out.below HB7.out)).mono ?_
            rintro e w8 ⟨rfl, hB8⟩
            have HB8 := hide (HB7.out.trans (hB8.mono HB7.out.size))
            clear hB8
            go_wp2_with fail
            refine (fralive_of P N _).mono ?_
            rintro e w9 ⟨rfl, hB9⟩
            have HB9 := hide (HB8.out.trans (hB9.mono HB8.out.size))
            clear hB9
            go_wp2_with fail
            go_ret
            exact ⟨rfl, HB9.out⟩
          · rw [put_no [] ys h4]
            have ho3 := HO3.out
            rw [put_no [] ys h4] at ho3
            dsimp only at ho3 ⊢
            obtain ⟨a3, c3, e3⟩ := (Lies.of_own ho3).shape
            subst e3
            clear ho3 HO3
            go_wp2_with fail
            refine (fralive_of P N _).mono ?_
            rintro e w5 ⟨rfl, hB5⟩
            have HB5 := hide (HB3.out.trans (hB5.mono HB3.out.size))
            clear hB5
            go_wp2_with fail
            go_ret
            exact ⟨rfl, HB5.out⟩
end all4
end Go.Proofs.Ytgchgbbldhpgeab
