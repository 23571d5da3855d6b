/-
  The program's Put. Own work.
-/
import Derived.Test.YtgchgbbldhpgeabFNext
import Derived.Test.YtgchgbbldhpgeabFrSpec
namespace Go.Proofs.Ytgchgbbldhpgeab
open Go.RowKit

set_option maxRecDepth 100000 in
set_option maxHeartbeats 1600000 in
theorem fput_any : PutOK := by
  intro vb vl bs load w hb hL hx hbl
  have hmx := hL.len
  unfold maxLen at hmx
  obtain ⟨al, cl, rfl⟩ := hL.shape
  obtain ⟨ab, cb, rfl⟩ := hb.shape
  by_cases h4 : load.length ≤ 4096
  · have hput : putF bs load = (bs ++ frameF load, 0) := by unfold putF; rw [if_pos h4]
    rw [hput]
    have h4' : (load.length : Int) ≤ 4096 := by omega
    have hblI : (bs.length : Int) ≤ 100000 := by omega
    have C1 := hide (begin_any _ load w hL hx h4)
    have CS := fun w => fsize_any load.length w (by omega) (by omega)
    rw [show sizeF (load.length : Int) = 8 + (load.length : Int) by unfold sizeF; rw [if_neg (by omega)]] at CS
    have HCS := hide CS
    have HL := hide hL
    have HB := hide hb
    have hh8 : (headF load).length = 8 := headF_length load
    have HSZ : Hid ((Try.prog.info? 39).map (·.size) = some (cells8 (headF load)).size) := hide (by rw [cells8_size, hh8]; exact sizeBegin)
    have HZZ : Hid ((cells8 zero8).size = (cells8 (headF load)).size) := hide (by rw [cells8_size, cells8_size, hh8]; rfl)
    have HO := hide (cells8_one (headF load))
    obtain ⟨y4, hy4⟩ : ∃ y, y = bs ++ headF load := ⟨_, rfl⟩
    have hn4 : y4.length ≤ 100008 := by rw [hy4, List.length_append, hh8]; omega
    have HFP : Hid (bs ++ frameF load = y4 ++ load) := hide (by rw [hy4]; simp [frameF])
    have Y4 := hide hy4
    clear hb hL hx hy4 CS hput
    go_enter Try.func5, Try.ntmps5
    go_wp2_with fail
    refine C1.out.mono ?_
    rintro e w1 ⟨rfl, hB1⟩
    have HB1 := hide hB1
    have HBX1 : Hid (Box (w1.alloc (.cells #[.int .u8 0, .int .u8 0, .int .u8 0, .int .u8 0, .int .u8 0, .int .u8 0, .int .u8 0, .int .u8 0] 39)) w1.heap.size (cells8 zero8) 39) := hide (box_new w1 _ _)
    have HC1 : Hid (Below w1.heap.size w1 (w1.alloc (.cells #[.int .u8 0, .int .u8 0, .int .u8 0, .int .u8 0, .int .u8 0, .int .u8 0, .int .u8 0, .int .u8 0] 39))) := hide (below_two w1 _)
    clear hB1 C1
    go_wp2_with (refine wp_store_box rfl rfl _ _ rfl w1.heap.size rfl rfl HBX1.out HZZ.out HSZ.out HO.out ?_; intro w2 hb2 hk2; have HBX2 := hide hb2; have HC2 := hide (HC1.out.trans (hk2.below HC1.out.size (fun k hk => by rw [hk]; exact Nat.le_refl _))); clear hb2 hk2)
    have HL2 := hide ((HL.out.below HB1.out).below HC2.out)
    have HBS2 := hide ((HB.out.below HB1.out).below HC2.out)
    have HH2 := hide (lies_box HBX2.out (by omega))
    rw [hh8] at HH2
    have HBW := hide (HB1.out.trans (HC2.out.mono HB1.out.size))
    have HWS := hide (Nat.le_trans HB1.out.size HC2.out.size)
    obtain ⟨i0, hi, hz0, hz1, hz2⟩ := info_parts info5
    clear HC1 HBX1 HSZ HZZ HO HL HB HBX2 HC2 HB1
    refine (HCS.out _).mono ?_
    rintro e w3 ⟨rfl, hw3⟩
    rw [hw3]
    clear hw3 w3 HCS
    have HR : Hid ((bs.length : Int) + (8 + (load.length : Int)) = ((bs.length + (8 + load.length) : Nat) : Int)) := hide (by omega)
    go_wp2_with (first
      | (at_make; refine wpList_make_own _ rfl _ _ 23 rfl w2.heap.size 5 i0 (.int .u8 0) 1 Try.underlying23 hi hz0 hz1 _ _ _ (bs.length + (8 + load.length)) rfl rfl (by omega) (by rw [hz2]; omega) (by unfold maxLen; omega) (Nat.le_refl _) ?_; intro w4 hown4 hgrow4; have H4 : Hid (w4.ownsRow w2.heap.size 5 1 (.slice (some ⟨w2.heap.size, 0, none⟩) 0 (bs.length + (8 + load.length))) 0 (([] : List Int).map (Value.int .u8))) := hide hown4; have hB4 := (Below.refl w2.heap.size w2).grown hgrow4 (Nat.le_refl _) (fun k h => by cases h); have HB4 := hide hB4; have HS4 := hide hB4.size; have HL4 := hide (HBS2.out.below hB4); clear hown4 hgrow4 hB4)
      | (at_builtin; refine append_lies _ rfl _ _ rfl w2.heap.size _ _ _ y4 load rfl H6.out rfl (HL2.out.below HB6.out) (by omega) HS6.out ?_; intro v7 w7 hown7 hgrow7; have hown7 := owns_as hown7 HFP.out; have H7 := hide (owns_base hown7 HWS.out); have HB7 := hide (HB6.out.grown hgrow7 HS6.out (fun k hk => (H6.out.lt k hk).1)); clear hown7 hgrow7)
      | (at_builtin; refine append_lies _ rfl _ _ rfl w2.heap.size _ _ _ bs (headF load) rfl H5.out rfl (HH2.out.below HB5.out) (by omega) HS5.out ?_; intro v6 w6 hown6 hgrow6; have hown6 := owns_as hown6 Y4.out; have H6 := hide hown6; have hB6 := HB5.out.grown hgrow6 HS5.out (fun k hk => (H5.out.lt k hk).1); have HB6 := hide hB6; have HS6 := hide hB6.size; obtain ⟨a6, c6, e6⟩ := (Lies.of_own hown6).shape; subst e6; clear hown6 hgrow6 hB6)
      | (at_builtin; refine append_lies _ rfl _ _ rfl w2.heap.size _ _ 0 [] bs rfl H4.out rfl HL4.out (by omega) HS4.out ?_; intro v5 w5 hown5 hgrow5; simp only [Nat.zero_add, List.nil_append] at hown5; have H5 := hide hown5; have hB5 := HB4.out.grown hgrow5 HS4.out (fun k hk => by cases hk; exact Nat.le_refl _); have HB5 := hide hB5; have HS5 := hide hB5.size; obtain ⟨a5, c5, e5⟩ := (Lies.of_own hown5).shape; subst e5; clear hown5 hgrow5 hB5))
    go_ret2
    exact ⟨_, rfl, H7.out, HBW.out.trans (HB7.out.mono HBW.out.size)⟩
  · have hput : putF bs load = ([], 5) := by unfold putF; rw [if_neg h4]
    rw [hput]
    have h4' : (4096 : Int) < (load.length : Int) := by omega
    clear hL hb hx hput
    generalize load.length = n at *
    go_enter Try.func5, Try.ntmps5
    go_wp2_with fail
    go_ret2
    exact ⟨_, rfl, World.ownsRow_nil _ _ _ _, Below.refl _ _⟩
end Go.Proofs.Ytgchgbbldhpgeab
