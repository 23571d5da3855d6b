/-
  Proved: the bytes of a message, or its refusal, are the document's: whatever comes. For every input of the form's own reach. Own work.
-/
import Derived.Test.YtoppdelljjapoaaGreatG24
import Derived.Test.YtoppdelljjapoaaGreatGMay
import Derived.Test.YtoppdelljjapoaaGreatG26
import Derived.Test.YtoppdelljjapoaaGreatG41
import Derived.Test.YtoppdelljjapoaaGreatGA
import Derived.SizedLaws
import Derived.ChangeArms
namespace Go.Proofs.YtoppdelljjapoaaGreat
section
open Go.RowKit Classical

theorem encFs_takeW (m : MsgP) (fs : List Nat) (k : Nat) : (encFs (fs.take k) m).length ≤ (encFs fs m).length := by
  have : encFs fs m = encFs (fs.take k) m ++ encFs (fs.drop k) m := by
    unfold encFs
    rw [← List.flatMap_append, List.take_append_drop]
  rw [this, List.length_append]
  omega
theorem encFs_next (m : MsgP) {fs : List Nat} {k : Nat} (h : k < fs.length) : encFs (fs.take (k + 1)) m = encFs (fs.take k) m ++ encF fs[k] m := by
  unfold encFs
  rw [List.take_succ_eq_append_getElem h, List.flatMap_append]
  simp
theorem may_fields {m : MsgP} (h : mayM m = true) : ∀ f ∈ fieldsN m.kind, mayF m f = true := by
  unfold mayM at h
  simp only [Bool.and_eq_true] at h
  exact List.all_eq_true.1 h.2
theorem infoRW10 : (Tryz.prog.info? 63).map (·.size) = some 1 := by kernel_rfl
set_option maxRecDepth 100000 in
set_option maxHeartbeats 6400000 in
theorem rencode_any (m : MsgP) (ao : Option Addr) (l c : Nat) (w : World) (hm : MsgOk m) (hs : RSrc wrE w (.slice ao l c) m.wr) (hi : m.item.val.length ≤ 9223372036854775807) (hv : ∀ x ∈ m.wr, x.it.val.length ≤ 9223372036854775807) (hl : m.wr.length ≤ 100000) :
    Calls Tryz.prog 21 #[.agg (msgA m (.slice ao l c))] w fun e w' => ∃ u, e = .returned (.tuple #[u, .int .i64 (if mayM m then 0 else 1)]) ∧ Lies .u8 w' u (if mayM m then encM m else []) ∧ Below w.heap.size w w' := by
  have hA := alloc_below10 w (.cells (msgA m (.slice ao l c)) 35)
  have hX := box_new w (msgA m (.slice ao l c)) 35
  obtain ⟨wb, hwb⟩ : ∃ wb, wb = w.alloc (.cells (msgA m (.slice ao l c)) 35) := ⟨_, rfl⟩
  rw [← hwb] at hA hX
  have hW := hwb.symm
  have HA := hide hA
  have HX := hide hX
  have hsb := hs.below hA
  have CM := hide (rmsgMay_any m ao l c wb hm hsb hi hv hl)
  cases hmy : mayM m with
  | false =>
    rw [hmy] at CM
    clear hA hX hwb hsb hm hs hi hv hl hmy
    go_enter Tryz.func21, Tryz.ntmps21
    go_wp2_with (first | (refine wp_load_box rfl _ rfl w.heap.size rfl HX.out Tryz.underlying35 rfl infoRMsg ?_) | (go_at_call 13; refine CM.out.mono ?_; rintro e w2 ⟨rfl, hB2⟩; have HB2 := hide hB2; clear hB2))
    go_ret2
    exact ⟨_, rfl, Lies.nil _ _, HA.out.trans (HB2.out.mono HA.out.size)⟩
  | true =>
    rw [hmy] at CM
    have HOF : Hid (∀ f ∈ fieldsN m.kind, okF f m) := hide (fun f hf => may_ok hm ((fields_facts m.kind).2 f hf) (may_fields hmy f hf))
    have HLN : Hid ((encFs (fieldsN m.kind) m).length ≤ 4096) := hide (by
      have := enc_len hm hmy
      unfold encM at this
      rw [List.length_cons] at this
      omega)
    have HL : Hid (∀ f ∈ fieldsN m.kind, f < 10) := hide (fields_facts m.kind).2
    have HI : Hid (∀ k (h : k < (fieldsN m.kind).length) W, (Instr.index 9 (.string (strOfNums (lettersF m.kind))) (.int .i64 (k : Int))).run Tryz.prog W = .ok (.int .u8 (letterF (fieldsN m.kind)[k])) W) := hide (fun k h W => letters_at h W)
    have C := hide (fun W => rfields_any m.kind W)
    have HS : Hid ((strOfNums (lettersF m.kind)).size = (fieldsN m.kind).length) := hide (by rw [strOf_size10]; simp [lettersF])
    have hLM : (fieldsN m.kind).length ≤ 6 := by unfold fieldsN; repeat' split
                                                 all_goals decide
    have HEM : Hid (encM m = [(m.kind : Int)] ++ encFs (fieldsN m.kind) m) := hide rfl
    obtain ⟨s, hsd⟩ : ∃ s, s = strOfNums (lettersF m.kind) := ⟨_, rfl⟩
    rw [← hsd] at HI C HS
    obtain ⟨fs, hfs⟩ : ∃ fs, fs = fieldsN m.kind := ⟨_, rfl⟩
    rw [← hfs] at HI HS HL hLM HOF HLN HEM
    obtain ⟨L, hLd⟩ : ∃ L, L = fs.length := ⟨_, rfl⟩
    have hsz : s.size = L := by rw [HS.out, hLd]
    rw [← hLd] at hLM
    have HLd := hide hLd
    have HSB := hide hsb
    have HMO := hide hm
    have x0 := hX.cell 0 (.int .u8 (m.kind : Int)) rfl
    clear hA hX hwb hsb hm hs hi hv hl hmy HS hLd hsd hfs
    go_enter Tryz.func21, Tryz.ntmps21
    go_wp2_with (first
      | (refine wp_load_box rfl _ rfl w.heap.size rfl HX.out Tryz.underlying35 rfl infoRMsg ?_)
      | (go_at_call 13; refine CM.out.mono ?_; rintro e w2 ⟨rfl, hB2⟩; have HB2 := hide hB2; have HN2 := hide (box_new w2 #[.slice none 0 0] 63); have HA2 := hide (alloc_below10 w2 (.cells #[.slice none 0 0] 63)); clear hB2)
      | (refine wp_store_box (cs' := #[.slice none 0 0]) rfl rfl _ _ rfl w2.heap.size rfl rfl HN2.out rfl infoRW10 (by simp [Value.oneCell']) ?_; intro w4 hb4 hk4; have W4 : Hid (WBl wb w4 w2.heap.size (.slice none 0 0) []) := hide ⟨⟨hb4, World.ownsRow_nil _ _ _ _⟩, HB2.out.trans ((HA2.out.trans (hk4.below HA2.out.size (fun k e => Nat.le_of_eq e.symm))).mono HB2.out.size), HB2.out.size, fun g e => by cases e⟩; have y0 := (HX.out.belowI W4.out.bl).cell 0 (.int .u8 (m.kind : Int)) rfl; clear hb4 hk4 CM HB2 HN2 HA2)
      | (go_at_call 56; refine (rwbyte_any w2.heap.size (.slice none 0 0) [] (m.kind : Int) w4 W4.out.wr (by simp)).mono ?_; rintro e w5 ⟨rfl, v5, h5⟩; have W5 := hide (W4.out.step h5); have z0 := (HX.out.belowI W5.out.bl).cell 0 (.int .u8 (m.kind : Int)) rfl; clear h5 W4 y0)
      | (go_at_call 44; refine (C.out _).mono ?_; rintro e w6 ⟨rfl, hw6⟩; have hw7 := hw6.symm; subst hw7))
    obtain ⟨p, hp⟩ : ∃ p, w2.heap.size = p := ⟨_, rfl⟩
    simp only [hp] at W5 ⊢
    clear x0 z0 C
    go_loopg [6] L (fun g i wr => ∃ (k : Nat) (vk : Value), k + g = L ∧ i = .int .i64 k ∧ Hid (WBl wb wr p vk ([(m.kind : Int)] ++ encFs (fs.take k) m)))
    case atStart => exact ⟨0, v5, by omega, rfl, hide (by rw [List.take_zero]; exact W5.out)⟩
    case round =>
      clear W5
      obtain ⟨k, vk, hk, rfl, WK⟩ := hrel
      cases gk with
      | zero =>
        obtain rfl : k = L := by omega
        have hz : ¬ ((k : Int) < (k : Int)) := by omega
        have yk := WK.out.wr.box.cell 0 vk rfl
        go_wp2_with fail
        go_ret2
        refine ⟨vk, rfl, ?_, HA.out.trans (WK.out.bl.mono HA.out.size)⟩
        have hw := WK.out.wr.own
        rw [HLd.out, List.take_length, ← HEM.out] at hw
        exact Lies.of_own hw
      | succ g =>
        have hz : (k : Int) < (L : Int) := by omega
        have hkl : k < fs.length := by rw [← HLd.out]; omega
        obtain ⟨f, hf⟩ : ∃ f, f = fs[k] := ⟨_, rfl⟩
        have hix := HI.out k hkl
        have h10 := HL.out _ (List.getElem_mem hkl)
        have hof := HOF.out _ (List.getElem_mem hkl)
        have hnx := encFs_next m hkl
        have hzl := encFs_takeW m fs k
        have hz2 := HLN.out
        rw [← hf] at hix h10 hof hnx
        obtain ⟨zs, hzs⟩ : ∃ zs, zs = [(m.kind : Int)] ++ encFs (fs.take k) m := ⟨_, rfl⟩
        have hzn : zs.length ≤ 4100 := by rw [hzs, List.length_append]; simp only [List.length_cons, List.length_nil]; omega
        have HN : Hid (zs ++ encF f m = [(m.kind : Int)] ++ encFs (fs.take (k + 1)) m) := hide (by rw [hnx, hzs, List.append_assoc])
        rw [← hzs] at WK
        have HOK := hide hof
        have HXr := hide (HX.out.belowI WK.out.bl)
        clear hzl hz2 hnx hzs hf hkl HI HL HOF HLN HLd hof
        have hc : f = 0 ∨ f = 1 ∨ f = 2 ∨ f = 3 ∨ f = 4 ∨ f = 5 ∨ f = 6 ∨ f = 7 ∨ f = 8 ∨ f = 9 := by omega
        clear h10
        rcases hc with rfl | rfl | rfl | rfl | rfl | rfl | rfl | rfl | rfl | rfl
        · have hidx : ∀ W, (Instr.index 9 (.string s) (.int .i64 (k : Int))).run Tryz.prog W = .ok (.int .u8 116) W := hix
          clear hix
          have x1 := HXr.out.cell 1 _ rfl
          have x2 := HXr.out.cell 2 _ rfl
          have x3 := HXr.out.cell 3 _ rfl
          go_wp2_with fail
          refine (rputTx_any p vk zs m.tx wr WK.out.wr (by omega) HMO.out.tx.2.1 HMO.out.tx.2.2).mono ?_
          rintro e w5 ⟨rfl, v5, h5⟩
          have W5 : Hid (WBl wb w5 p v5 (zs ++ encF 0 m)) := hide (WK.out.step h5)
          clear h5 x1 x2 x3
          rw [HN.out] at W5
          go_wp2_with fail
          go_roundg g
          case measure => omega
          case rel => exact ⟨k + 1, v5, by omega, by first | rfl | go_num, W5⟩
        · have hidx : ∀ W, (Instr.index 9 (.string s) (.int .i64 (k : Int))).run Tryz.prog W = .ok (.int .u8 99) W := hix
          clear hix
          have hlt : m.time < 18446744073709551616 := by have := HMO.out.time; omega
          have ew := wrap32 HMO.out.time
          have x4 := HXr.out.cell 4 _ rfl
          go_wp2_with fail
          refine (rwnum_any p vk zs m.time wr WK.out.wr (by omega) hlt).mono ?_
          rintro e w5 ⟨rfl, v5, h5⟩
          have W5 : Hid (WBl wb w5 p v5 (zs ++ encF 1 m)) := hide (WK.out.step h5)
          clear h5 x4
          rw [HN.out] at W5
          go_wp2_with fail
          go_roundg g
          case measure => omega
          case rel => exact ⟨k + 1, v5, by omega, by first | rfl | go_num, W5⟩
        · have hidx : ∀ W, (Instr.index 9 (.string s) (.int .i64 (k : Int))).run Tryz.prog W = .ok (.int .u8 103) W := hix
          clear hix
          have x5 := HXr.out.cell 5 _ rfl
          have x6 := HXr.out.cell 6 _ rfl
          go_wp2_with fail
          refine (rputReg_any p vk zs m.reg wr WK.out.wr (by omega) HMO.out.reg.1 HMO.out.reg.2).mono ?_
          rintro e w5 ⟨rfl, v5, h5⟩
          have W5 : Hid (WBl wb w5 p v5 (zs ++ encF 2 m)) := hide (WK.out.step h5)
          clear h5 x5 x6
          rw [HN.out] at W5
          go_wp2_with fail
          go_roundg g
          case measure => omega
          case rel => exact ⟨k + 1, v5, by omega, by first | rfl | go_num, W5⟩
        · have hidx : ∀ W, (Instr.index 9 (.string s) (.int .i64 (k : Int))).run Tryz.prog W = .ok (.int .u8 107) W := hix
          clear hix
          have x7 := HXr.out.cell 7 _ rfl
          have x8 := HXr.out.cell 8 _ rfl
          have x9 := HXr.out.cell 9 _ rfl
          have x10 := HXr.out.cell 10 _ rfl
          have x11 := HXr.out.cell 11 _ rfl
          have x12 := HXr.out.cell 12 _ rfl
          have x13 := HXr.out.cell 13 _ rfl
          have x14 := HXr.out.cell 14 _ rfl
          go_wp2_with fail
          refine (rkeyI_any p vk zs m.key wr HMO.out.key.l WK.out.wr (by omega)).mono ?_
          rintro e w5 ⟨rfl, v5, h5⟩
          have W5 : Hid (WBl wb w5 p v5 (zs ++ encF 3 m)) := hide (WK.out.step h5)
          clear h5 x7 x8 x9 x10 x11 x12 x13 x14
          rw [HN.out] at W5
          go_wp2_with fail
          go_roundg g
          case measure => omega
          case rel => exact ⟨k + 1, v5, by omega, by first | rfl | go_num, W5⟩
        · have hidx : ∀ W, (Instr.index 9 (.string s) (.int .i64 (k : Int))).run Tryz.prog W = .ok (.int .u8 109) W := hix
          clear hix
          have x15 := HXr.out.cell 15 _ rfl
          go_wp2_with fail
          refine (rwbyte_any p vk zs (m.mode : Int) wr WK.out.wr (by omega)).mono ?_
          rintro e w5 ⟨rfl, v5, h5⟩
          have W5 : Hid (WBl wb w5 p v5 (zs ++ encF 4 m)) := hide (WK.out.step h5)
          clear h5 x15
          rw [HN.out] at W5
          go_wp2_with fail
          go_roundg g
          case measure => omega
          case rel => exact ⟨k + 1, v5, by omega, by first | rfl | go_num, W5⟩
        · have hidx : ∀ W, (Instr.index 9 (.string s) (.int .i64 (k : Int))).run Tryz.prog W = .ok (.int .u8 110) W := hix
          clear hix
          have hlt : m.no < 18446744073709551616 := by have := HMO.out.no; omega
          have ew := wrap32 HMO.out.no
          have x16 := HXr.out.cell 16 _ rfl
          go_wp2_with fail
          refine (rwnum_any p vk zs m.no wr WK.out.wr (by omega) hlt).mono ?_
          rintro e w5 ⟨rfl, v5, h5⟩
          have W5 : Hid (WBl wb w5 p v5 (zs ++ encF 5 m)) := hide (WK.out.step h5)
          clear h5 x16
          rw [HN.out] at W5
          go_wp2_with fail
          go_roundg g
          case measure => omega
          case rel => exact ⟨k + 1, v5, by omega, by first | rfl | go_num, W5⟩
        · have hidx : ∀ W, (Instr.index 9 (.string s) (.int .i64 (k : Int))).run Tryz.prog W = .ok (.int .u8 119) W := hix
          clear hix
          have hlt : m.why < 18446744073709551616 := by have := HMO.out.why; omega
          have ew := wrap32 (n := m.why) (by have := HMO.out.why; omega)
          have x17 := HXr.out.cell 17 _ rfl
          go_wp2_with fail
          refine (rwnum_any p vk zs m.why wr WK.out.wr (by omega) hlt).mono ?_
          rintro e w5 ⟨rfl, v5, h5⟩
          have W5 : Hid (WBl wb w5 p v5 (zs ++ encF 6 m)) := hide (WK.out.step h5)
          clear h5 x17
          rw [HN.out] at W5
          go_wp2_with fail
          go_roundg g
          case measure => omega
          case rel => exact ⟨k + 1, v5, by omega, by first | rfl | go_num, W5⟩
        · have hidx : ∀ W, (Instr.index 9 (.string s) (.int .i64 (k : Int))).run Tryz.prog W = .ok (.int .u8 121) W := hix
          clear hix
          have x18 := HXr.out.cell 18 _ rfl
          go_wp2_with fail
          refine (rwbyte_any p vk zs (m.yes : Int) wr WK.out.wr (by omega)).mono ?_
          rintro e w5 ⟨rfl, v5, h5⟩
          have W5 : Hid (WBl wb w5 p v5 (zs ++ encF 7 m)) := hide (WK.out.step h5)
          clear h5 x18
          rw [HN.out] at W5
          go_wp2_with fail
          go_roundg g
          case measure => omega
          case rel => exact ⟨k + 1, v5, by omega, by first | rfl | go_num, W5⟩
        · have hidx : ∀ W, (Instr.index 9 (.string s) (.int .i64 (k : Int))).run Tryz.prog W = .ok (.int .u8 105) W := hix
          clear hix
          have hil : m.item.val.length ≤ 64 := (show itOk m.item from HOK.out).2.1
          have x19 := HXr.out.cell 19 _ rfl
          have x20 := HXr.out.cell 20 _ rfl
          have x21 := HXr.out.cell 21 _ rfl
          have x22 := HXr.out.cell 22 _ rfl
          have x23 := HXr.out.cell 23 _ rfl
          have x24 := HXr.out.cell 24 _ rfl
          have x25 := HXr.out.cell 25 _ rfl
          have x26 := HXr.out.cell 26 _ rfl
          have x27 := HXr.out.cell 27 _ rfl
          have x28 := HXr.out.cell 28 _ rfl
          have x29 := HXr.out.cell 29 _ rfl
          have x30 := HXr.out.cell 30 _ rfl
          have x31 := HXr.out.cell 31 _ rfl
          go_wp2_with fail
          refine (rputItem_any p vk zs m.item wr WK.out.wr (by omega) HMO.out.item (by omega)).mono ?_
          rintro e w5 ⟨rfl, v5, h5⟩
          have W5 : Hid (WBl wb w5 p v5 (zs ++ encF 8 m)) := hide (WK.out.step h5)
          clear h5 x19 x20 x21 x22 x23 x24 x25 x26 x27 x28 x29 x30 x31
          rw [HN.out] at W5
          go_wp2_with fail
          go_roundg g
          case measure => omega
          case rel => exact ⟨k + 1, v5, by omega, by first | rfl | go_num, W5⟩
        · have hidx : ∀ W, (Instr.index 9 (.string s) (.int .i64 (k : Int))).run Tryz.prog W = .ok (.int .u8 108) W := hix
          clear hix
          have x32 := HXr.out.cell 32 _ rfl
          go_wp2_with fail
          refine (rputWrites_any wb p vk zs ao l c m.wr wr WK.out HSB.out (by omega) HMO.out.wr (show m.wr.length ≤ 16 ∧ ∀ x ∈ m.wr, wrOk x from HOK.out).2 (show m.wr.length ≤ 16 ∧ ∀ x ∈ m.wr, wrOk x from HOK.out).1).mono ?_
          rintro e w5 ⟨rfl, v5, h5⟩
          have W5 : Hid (WBl wb w5 p v5 (zs ++ encF 9 m)) := hide (h5)
          clear h5 x32
          rw [HN.out] at W5
          go_wp2_with fail
          go_roundg g
          case measure => omega
          case rel => exact ⟨k + 1, v5, by omega, by first | rfl | go_num, W5⟩
end
section
open Go.RowKit Classical

theorem few_of2 {m : MsgP} (h : longB m = false) : m.wr.length ≤ 40 := by
  unfold longB at h
  simp only [Bool.or_eq_false_iff, decide_eq_false_iff_not] at h
  omega
set_option maxRecDepth 100000 in
set_option maxHeartbeats 6400000 in
theorem walkC10 (H : MsgDo) (m : MsgP) (ao : Option Addr) (cap : Nat) (w : World) (hok : MsgOk m) (h : RSrc wrE w (.slice ao m.wr.length cap) m.wr) (hv : m.item.val.length ≤ 140737488355328) (hwv : ∀ x ∈ m.wr, x.it.val.length ≤ 9223372036854775807) :
    Calls Tryz.prog 4 #[.agg (msgA m (.slice ao m.wr.length cap))] w fun e w' => e = .returned (.bool true) ∧ Below w.heap.size w w' := by
  have hA := alloc_below10 w (.cells (msgA m (.slice ao m.wr.length cap)) 35)
  have hX := box_new w (msgA m (.slice ao m.wr.length cap)) 35
  obtain ⟨w1, hw1⟩ : ∃ w1, w1 = w.alloc (.cells (msgA m (.slice ao m.wr.length cap)) 35) := ⟨_, rfl⟩
  rw [← hw1] at hA hX
  have CL := hide (long_any10 m ao cap w1 (h.below hA) hv)
  have HA := hide hA
  have HX := hide hX
  have HR := hide (h.below hA)
  have HOK := hide hok
  have hW := hw1.symm
  have HAL := hide (fun w => alive_by10 H w)
  obtain ⟨LN, hLN⟩ : ∃ LN, LN = m.wr.length := ⟨_, rfl⟩
  rw [← hLN] at CL HX HR hW ⊢
  have HLN := hide hLN
  have HV := hide (And.intro hv hwv)
  clear h hA hX hw1 hok hLN hv hwv
  cases hlg : longB m with
  | true =>
    rw [hlg] at CL
    clear hlg
    go_enter Tryz.func4, Tryz.ntmps4
    go_wp2_with (first | (refine wp_load_box rfl _ rfl w.heap.size rfl HX.out Tryz.underlying35 rfl infoRMsg ?_) | (go_at_call 9; refine CL.out.mono ?_; rintro e w2 ⟨rfl, hB2⟩; have HB2 := hide hB2; clear hB2) | (go_at_call 10; refine (HAL.out _).mono ?_; rintro e w3 ⟨rfl, hB3⟩; have HB3 := hide hB3; clear hB3))
    go_ret
    exact ⟨rfl, HA.out.trans ((HB2.out.trans (HB3.out.mono HB2.out.size)).mono HA.out.size)⟩
  | false =>
    have hfew := few_of2 hlg
    rw [hlg] at CL
    clear hlg
    have CT := hide (fun w => theirs_any m ao LN cap w)
    obtain ⟨E, hE⟩ : ∃ E : Int, E = if mayM m then 0 else 1 := ⟨_, rfl⟩
    obtain ⟨X, hXd⟩ : ∃ X, X = if mayM m then encM m else [] := ⟨_, rfl⟩
    have CE : Hid (∀ W, Below w1.heap.size w1 W → Calls Tryz.prog 20 #[.agg (msgA m (.slice ao LN cap))] W fun e w' => ∃ u, e = .returned (.tuple #[u, .int .i64 E]) ∧ Lies .u8 w' u X ∧ Below W.heap.size W w') := hide (fun W hB => by
      have hz := HR.out.below hB
      have := H.enc (w := W) HOK.out (⟨ao, cap, rfl, by rw [← HLN.out]; exact hz⟩ : MgLies W (.agg (msgA m (.slice ao m.wr.length cap))) m)
      rw [← HLN.out, ← hE, ← hXd] at this
      exact this)
    have CR : Hid (∀ W, Below w1.heap.size w1 W → Calls Tryz.prog 21 #[.agg (msgA m (.slice ao LN cap))] W fun e w' => ∃ u, e = .returned (.tuple #[u, .int .i64 E]) ∧ Lies .u8 w' u X ∧ Below W.heap.size W w') := hide (fun W hB => by
      have := rencode_any m ao LN cap W HOK.out (HR.out.below hB) (by have := HV.out.1; omega) HV.out.2 (by omega)
      rw [← hE, ← hXd] at this
      exact this)
    clear hE hXd hfew
    obtain ⟨XL, hXL⟩ : ∃ XL, XL = X.length := ⟨_, rfl⟩
    have HXL := hide hXL
    clear hXL
    go_enter Tryz.func4, Tryz.ntmps4
    go_wp2_with (first
      | (refine wp_load_box rfl _ rfl w.heap.size rfl HX.out Tryz.underlying35 rfl infoRMsg ?_)
      | (go_at_call 9; refine CL.out.mono ?_; rintro e w2 ⟨rfl, hB2⟩; have HB2 := hide hB2; have HX2 := hide (HX.out.belowI hB2); clear hB2 HX CL)
      | (refine wp_load_box rfl _ rfl w.heap.size rfl HX2.out Tryz.underlying35 rfl infoRMsg ?_)
      | (go_at_call 12; refine (CT.out w2).mono ?_; rintro e w3 ⟨rfl, hB3⟩; have HB3 := hide (HB2.out.trans (hB3.mono HB2.out.size)); have HX3 := hide (HX2.out.belowI hB3); clear hB3 HX2 CT HB2)
      | (go_at_call 20; refine (CE.out w3 HB3.out).mono ?_; rintro e w4 ⟨u4, rfl, hL4, hB4⟩; obtain ⟨a4, c4, rfl⟩ := hL4.shape; rw [← HXL.out]; have HL4 := hide hL4; have HB4 := hide (HB3.out.trans (hB4.mono HB3.out.size)); have HX4 := hide (HX3.out.belowI hB4); clear hL4 hB4 HX3 CE HB3)
      | (refine wp_load_box rfl _ rfl w.heap.size rfl HX4.out Tryz.underlying35 rfl infoRMsg ?_)
      | (go_at_call 21; refine (CR.out w4 HB4.out).mono ?_; rintro e w5 ⟨u5, rfl, hL5, hB5⟩; obtain ⟨a5, c5, rfl⟩ := hL5.shape; rw [← HXL.out]; have HL5 := hide hL5; have HL45 := hide (HL4.out.below hB5); have HB5 := hide (HB4.out.trans (hB5.mono HB4.out.size)); clear hL5 hB5 HX4 CR HB4 HL4)
      | (go_at_call 22; refine (same_any _ _ X w5 (by rw [HXL.out]; exact HL45.out) (by rw [HXL.out]; exact HL5.out)).mono ?_; rintro e w6 ⟨rfl, hw6⟩; have hw7 := hw6.symm; subst hw7)
      | (go_at_call 10; refine (HAL.out _).mono ?_; rintro e w8 ⟨rfl, hB8⟩; have HB8 := hide hB8; clear hB8))
    go_ret
    exact ⟨rfl, HA.out.trans ((HB5.out.trans (HB8.out.mono HB5.out.size)).mono HA.out.size)⟩
end
section
open Go.RowKit Go.ChangeShapes Go.WideShapes Go.ChangeAt

namespace codes10
set_option maxRecDepth 100000 in
theorem lifted (os : Os) (started : os.Started) (H : Type) (enc : TypeId × Value → H) :
    ReturnsInHanded {} Tryz.checked os 4 .any (Rows.msgCodesSpec.pre6 enc Tryz.prog Tryz.f4 Rows.msgCodesRow.domain false) (Rows.msgCodesSpec.post enc Tryz.prog Tryz.f4 false true false false) := by
  refine returnsInHanded_of_change_sized (C := Tryz.checked) own started (by kernel_rfl) Tryz.func4
    (ChangeSpec.witness6 (enc := enc) (C := Tryz.checked) false ⟨#[], #[.agg (msgA (zeroM 0) (.slice none 0 0))], []⟩ 8 (by kernel_rfl) (by kernel_rfl) (by kernel_rfl) (by kernel_rfl)) ?_
  intro W base args ds gs before hval0 hW hcnd hsz _
  have hval : ∀ (j : Nat) t v, Tryz.f4.params[j]? = some t → args[j]? = some v → Value.okWide Tryz.prog W .any base t v := hval0
  have hW' := hW
  obtain ⟨p, q, hA0, hV, rfl, hfz, hnd⟩ := hW
  have hA : DataW.TrodAll enc Tryz.prog W 0 (fun _ => true) true Tryz.f4.params.toList args.toList ds p := hA0
  have hsz2 : ∀ (j : Nat) (t : TypeId) (d : DataW H), Tryz.f4.params.toList[j]? = some t → ds[j]? = some d → ∀ n ∈ d.weights Tryz.prog t, n ≤ 140737488351232 := fun j t d ht hd n hn => by
    have h1 := List.all_eq_true.1 hsz n (DataW.weights_mem_each (j := j) (t := t) (d := d) (by rw [List.getElem?_append_left (List.getElem?_eq_some_iff.1 ht).1]; exact ht) (by rw [List.getElem?_append_left (List.getElem?_eq_some_iff.1 hd).1]; exact hd) n hn)
    have h2 : n ≤ reachBytes := by simpa using h1
    have h3 : reachBytes = 140737488351232 := rfl
    omega
  rw [Tryz.params4] at hA hval hsz2
  obtain ⟨v0, vs0, d0, ds0, p0, q0, hargs, rfl, rfl, h0, r0⟩ := trodAll_cons hA
  obtain ⟨rfl, rfl, rfl⟩ := trodAll_nil r0
  obtain rfl : args = #[v0] := by cases args; simp_all
  obtain ⟨rfl, rfl⟩ := trodVars_none hV
  have k0 := h0
  have lt0 : ∀ x ∈ p0, x.block < W.heap.size := by obtain ⟨m, hm⟩ := k0; exact DataW.trod_lt m _ _ _ hm
  obtain ⟨mg0, pv0, rfl, ok0, src0, wt0, wv0⟩ := rmsg_of_trod (hval 0 35 v0 rfl rfl) h0
  have sz0 : mg0.item.val.length ≤ 140737488351232 := hsz2 0 35 d0 rfl rfl _ wt0
  obtain ⟨ao0, cp0, hp0, _, _⟩ := src0.shape
  subst hp0
  clear hA0 hval0
  refine (walkC10 mg_do mg0 ao0 cp0 W ok0 src0 (by omega) wv0).mono fun e W' ⟨he, bel⟩ => ?_
  subst he
  exact ⟨_, rfl, _, _, _, [], _, [], hW', trodAll_mk1 (shut_bool Tryz.underlying4 _), (trodAll_cons_mk (Below.trod laidOut (by kernel_rfl) (of_decide_eq_true (by kernel_rfl)) k0 bel lt0) trodAll_mk0), rfl, bel.frame _, fun h => by cases h⟩

theorem over : Rows.msgCodesRow.holds Tryz.pinned (OpenSpec.ofChange Rows.msgCodesSpec) :=
  OpenClaim.holds_of_wide 4 Tryz.f4 rfl rfl rfl rfl rfl rfl rfl ⟨rfl, rfl, rfl, rfl, rfl⟩ rfl rfl rfl rfl rfl (by kernel_rfl) Tryz.func4 (by kernel_rfl)
    (of_decide_eq_true (by kernel_rfl)) (by unfold Func.isWrapper; first | (rw [if_pos (by decide +kernel)]; kernel_rfl) | (rw [if_neg (by decide +kernel)]; exact ⟨rfl, rfl⟩))
    (fun os started H enc _ => lifted os started H enc)
end codes10

/-- THE STATEMENT. -/
theorem msgCodes_holds : Rows.MsgCodesSaid := codes10.over
#print axioms msgCodes_holds
end
end Go.Proofs.YtoppdelljjapoaaGreat
