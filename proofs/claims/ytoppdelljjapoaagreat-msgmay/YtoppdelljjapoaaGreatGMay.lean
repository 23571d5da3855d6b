/-
  Proved: what may be a message, an item, writes, and which are the same, are the document's: whatever comes. For every input of the form's own reach. Own work.
-/
import Derived.Test.YtoppdelljjapoaaGreatG32
import Derived.Test.YtoppdelljjapoaaGreatG26
import Derived.Test.YtoppdelljjapoaaGreatG41
import Derived.Test.YtoppdelljjapoaaGreatGA
import Derived.SizedLaws
import Derived.ChangeArms
namespace Go.Proofs.YtoppdelljjapoaaGreat
section
open Go.RowKit Classical

theorem ok_putF {m a : MsgP} (hm : MsgOk m) (ha : MsgOk a) {f : Nat} (hf : f < 10) : MsgOk (putF f m a) := by
  refine ten (P := fun f => MsgOk (putF f m a)) hf ?_ ?_ ?_ ?_ ?_ ?_ ?_ ?_ ?_ ?_
  · exact { ha with tx := hm.tx }
  · exact { ha with time := hm.time }
  · exact { ha with reg := hm.reg }
  · exact { ha with key := hm.key }
  · exact { ha with mode := hm.mode }
  · exact { ha with no := hm.no }
  · exact { ha with why := hm.why }
  · exact { ha with yes := hm.yes }
  · exact { ha with item := hm.item }
  · exact { ha with wr := hm.wr }
theorem ok_putFs {m : MsgP} (hm : MsgOk m) : ∀ (fs : List Nat), (∀ f ∈ fs, f < 10) → ∀ a, MsgOk a → MsgOk (putFs fs m a)
  | [], _, _, ha => ha
  | f :: fs, hf, _, ha => ok_putFs hm fs (fun g hg => hf g (List.mem_cons_of_mem _ hg)) _ (ok_putF hm ha (hf f (List.mem_cons_self ..)))
theorem zeroM_ok {k : Nat} (h : k < 256) : MsgOk (zeroM k) := by
  refine ⟨h, by simp [zeroM], by simp [zeroM], by simp [zeroM], ⟨rfl, ?_⟩, by simp [zeroM], by simp [zeroM], by simp [zeroM], by simp [zeroM], ⟨by simp [zeroM, zeroIt], by simp [zeroM, zeroIt], ?_⟩, by simp [zeroM]⟩
  · intro c hc; simp [zeroM] at hc; omega
  · refine ⟨?_, ?_, ?_, ?_, ?_⟩ <;> simp [zeroM, zeroIt, zeroCf]
theorem kept_iff (m : MsgP) : keptB m = decide (putFs (fieldsN m.kind) m (zeroM m.kind) = m) := by
  rw [Bool.eq_iff_iff, decide_eq_true_eq]
  constructor
  · exact kept_put
  · intro h
    unfold keptB
    rw [List.all_eq_true]
    intro g hg
    have hg10 : g < 10 := by simpa using hg
    by_cases hc : g ∈ fieldsN m.kind
    · simp [hc]
    · have := putFs_other m hg10 (fieldsN m.kind) (fields_facts m.kind).2 hc (zeroM m.kind)
      rw [h] at this
      rw [(zeroB_eq hg10 m m.kind).2 this, Bool.or_true]
theorem eql_letters (kind : Nat) (w : World) : (binOp .eql 9 (.string (strOfNums (lettersF kind))) (.string ⟨#[]⟩)).run Tryz.prog w = .ok (.bool (fieldsN kind).isEmpty) w := by
  by_cases h : fieldsN kind = []
  · unfold lettersF
    rw [h]
    kernel_rfl
  · rcases fields_kind h with rfl | rfl | rfl | rfl | rfl | rfl | rfl | rfl | rfl | rfl | rfl
    all_goals kernel_rfl
section
variable {P : Program} {ρ : Operand → Value} {w : World} {dst : Option Tmp} {ty : TypeId} {pos : String} {aft : Array Edge} {gd : Option (Nat × Bool)}
theorem y_index (t : TypeId) (x y : Operand) {a b v : Value} (hx : ρ x = a) (hy : ρ y = b) (hr : (Instr.index t a b).run P w = .ok v w) : (execOp ρ ⟨dst, .index t x y, ty, pos, aft, gd⟩).run P w = .ok (.value v) w := by
  subst hx
  subst hy
  simp [execOp, hr]
end
theorem en10_rkept : ∀ args w, (callFunc 45 args).run Tryz.prog w = .ok (.enter 45 args) w := enters_of Tryz.func45 (by kernel_rfl) rfl
theorem en10_rsame : ∀ args w, (callFunc 19 args).run Tryz.prog w = .ok (.enter 19 args) w := enters_of Tryz.func19 (by kernel_rfl) rfl
theorem en10_rfield : ∀ args w, (callFunc 46 args).run Tryz.prog w = .ok (.enter 46 args) w := enters_of Tryz.func46 (by kernel_rfl) rfl
theorem nil_src (w : World) : RSrc wrE w (.slice none 0 0) [] := RSrc.nil w
set_option maxRecDepth 100000 in
set_option maxHeartbeats 6400000 in
theorem rmsgMay_any (m : MsgP) (ao : Option Addr) (l c : Nat) (w : World) (hm : MsgOk m) (hs : RSrc wrE w (.slice ao l c) m.wr) (hi : m.item.val.length ≤ 9223372036854775807) (hv : ∀ x ∈ m.wr, x.it.val.length ≤ 9223372036854775807) (hl : m.wr.length ≤ 100000) : Calls Tryz.prog 13 #[.agg (msgA m (.slice ao l c))] w fun e w' => e = .returned (.bool (mayM m)) ∧ Below w.heap.size w w' := by
  have hA := alloc_below10 w (.cells (msgA m (.slice ao l c)) 35)
  have hX := box_new w (msgA m (.slice ao l c)) 35
  obtain ⟨wb, hwb⟩ : ∃ wb, wb = w.alloc (.cells (msgA m (.slice ao l c)) 35) := ⟨_, rfl⟩
  rw [← hwb] at hA hX
  have hW := hwb.symm
  have HA := hide hA
  have HX := hide hX
  have hsb := hs.below hA
  have x0 := hX.cell 0 (.int .u8 (m.kind : Int)) rfl
  have HL : Hid (∀ f ∈ fieldsN m.kind, f < 10) := hide (fields_facts m.kind).2
  have HI : Hid (∀ k (h : k < (fieldsN m.kind).length) W, (Instr.index 9 (.string (strOfNums (lettersF m.kind))) (.int .i64 (k : Int))).run Tryz.prog W = .ok (.int .u8 (letterF (fieldsN m.kind)[k])) W) := hide (fun k h W => letters_at h W)
  have C := hide (fun W => rfields_any m.kind W)
  have HS : Hid ((strOfNums (lettersF m.kind)).size = (fieldsN m.kind).length) := hide (by rw [strOf_size10]; simp [lettersF])
  have HQ := hide (fun W => eql_letters m.kind W)
  have hLM : (fieldsN m.kind).length ≤ 6 := by unfold fieldsN; repeat' split
                                               all_goals decide
  have HR : Hid (mayM m = (!(fieldsN m.kind).isEmpty && decide (putFs (fieldsN m.kind) m (zeroM m.kind) = m) && (fieldsN m.kind).all (mayF m))) := hide (by unfold mayM; rw [kept_iff])
  have hKo := ok_putFs hm (fieldsN m.kind) HL.out (zeroM m.kind) (zeroM_ok hm.kind)
  have hKs := putS_src hsb (fieldsN m.kind) HL.out (.slice none 0 0) (zeroM m.kind) (nil_src wb)
  have CK := hide (fun W => rkept_any m ao l c W)
  have CF : Hid (∀ W, Below wb.heap.size wb W → ∀ f, f < 10 → Calls Tryz.prog 46 #[.agg (msgA m (.slice ao l c)), .int .u8 (letterF f)] W fun e w' => e = .returned (.bool (mayF m f)) ∧ Below W.heap.size W w') := hide (fun W hW f hf => rfield_any m ao l c W hm (hsb.below hW) hi hv hl hf)
  obtain ⟨s, hsd⟩ : ∃ s, s = strOfNums (lettersF m.kind) := ⟨_, rfl⟩
  rw [← hsd] at HI C HS HQ
  obtain ⟨fs, hfs⟩ : ∃ fs, fs = fieldsN m.kind := ⟨_, rfl⟩
  rw [← hfs] at HI HS HL hLM HR HQ hKo hKs CK
  obtain ⟨KM, hKM⟩ : ∃ KM, KM = putFs fs m (zeroM m.kind) := ⟨_, rfl⟩
  obtain ⟨KS, hKS⟩ : ∃ KS, KS = putS fs (.slice ao l c) (.slice none 0 0) := ⟨_, rfl⟩
  rw [← hKM] at HR hKo hKs CK
  rw [← hKS] at hKs CK
  obtain ⟨ka, kc, rfl, -, -⟩ := hKs.shape
  have CS : Hid (∀ W, Below wb.heap.size wb W → Calls Tryz.prog 19 #[.agg (msgA KM (.slice ka KM.wr.length kc)), .agg (msgA m (.slice ao l c))] W fun e w' => e = .returned (.bool (decide (KM = m))) ∧ Below W.heap.size W w') := hide (fun W hB => rsame_any KM m ka ao KM.wr.length kc l c W hKo hm (hKs.below hB) (hsb.below hB))
  obtain ⟨kl, hkl⟩ : ∃ kl, kl = KM.wr.length := ⟨_, rfl⟩
  rw [← hkl] at CS CK
  obtain ⟨L, hL⟩ : ∃ L, L = fs.length := ⟨_, rfl⟩
  have hsz : s.size = L := by rw [HS.out, hL]
  rw [← hL] at hLM
  have HLn := hide hL
  obtain ⟨R, hRd⟩ : ∃ R, R = mayM m := ⟨_, rfl⟩
  rw [← hRd] at HR
  rw [← hRd]
  clear hA hX hwb hsb hm hs hi hv hl hKo hKs hKM hKS hkl hRd hfs hsd HS hL
  by_cases hE : fs = []
  · subst hE
    have HE : Hid (R = false) := hide (by rw [HR.out]; rfl)
    have HQ : Hid (∀ W, (binOp .eql 9 (.string s) (.string ⟨#[]⟩)).run Tryz.prog W = .ok (.bool true) W) := hide HQ.out
    go_enter Tryz.func13, Tryz.ntmps13
    go_wp2_with (go_at_call 44; refine (C.out _).mono ?_; rintro e w4 ⟨rfl, hw4⟩; have hw5 := hw4.symm; subst hw5)
    refine wp_region_vals (by kernel_rfl) [(8, .string s), (9, .bool true), (10, .bool true), (11, undef), (12, undef), (13, undef), (14, undef), (15, undef), (16, .bool true)] (by kernel_rfl) rfl ?_ ?_
    · intro i o hi A w1 hB hold hdeps
      have hlt : i < 9 := (Array.getElem?_eq_some_iff.1 hi).1
      have hc : i = 0 ∨ i = 1 ∨ i = 2 ∨ i = 3 ∨ i = 4 ∨ i = 5 ∨ i = 6 ∨ i = 7 ∨ i = 8 := by omega
      clear hlt
      rcases hc with rfl | rfl | rfl | rfl | rfl | rfl | rfl | rfl | rfl
      · obtain rfl := Option.some.inj hi
        have s3 : A.tmps.getD 3 undef = .string s := hold 3 (by kernel_rfl)
        exact r_pure hi rfl rfl (y_move _ s3)
      · obtain rfl := Option.some.inj hi
        have s8 : A.tmps.getD 8 undef = .string s := dep_of hdeps 0 (by kernel_rfl)
        exact r_pure hi rfl rfl (y_bin _ _ _ _ _ s8 rfl (HQ.out w1) (by kernel_rfl))
      · obtain rfl := Option.some.inj hi
        have s9 : A.tmps.getD 9 undef = .bool true := dep_of hdeps 1 (by kernel_rfl)
        exact r_pure hi rfl rfl (y_move _ s9)
      · obtain rfl := Option.some.inj hi
        have g3 : A.tmps.getD 10 undef = .bool true := dep_of hdeps 2 (by kernel_rfl)
        exact each_skip hi rfl rfl (fun e => absurd (g3.symm.trans e) (by simp)) rfl
      · obtain rfl := Option.some.inj hi
        have g4 : A.tmps.getD 10 undef = .bool true := dep_of hdeps 2 (by kernel_rfl)
        exact each_skip hi rfl rfl (fun e => absurd (g4.symm.trans e) (by simp)) rfl
      · obtain rfl := Option.some.inj hi
        have g5 : A.tmps.getD 10 undef = .bool true := dep_of hdeps 2 (by kernel_rfl)
        exact each_skip hi rfl rfl (fun e => absurd (g5.symm.trans e) (by simp)) rfl
      · obtain rfl := Option.some.inj hi
        have g6 : A.tmps.getD 10 undef = .bool true := dep_of hdeps 2 (by kernel_rfl)
        exact each_skip hi rfl rfl (fun e => absurd (g6.symm.trans e) (by simp)) rfl
      · obtain rfl := Option.some.inj hi
        have g7 : A.tmps.getD 10 undef = .bool true := dep_of hdeps 2 (by kernel_rfl)
        exact each_skip hi rfl rfl (fun e => absurd (g7.symm.trans e) (by simp)) rfl
      · obtain rfl := Option.some.inj hi
        have s10 : A.tmps.getD 10 undef = .bool true := dep_of hdeps 2 (by kernel_rfl)
        exact r_pure hi rfl rfl (y_pickT _ _ _ s10 rfl)
    · intro w8 hB8
      simp only [putAll, Act.put, List.setIfInBounds_toArray, List.set_cons_succ, List.set_cons_zero]
      have HB8 := hide hB8
      clear hB8
      go_wp2_with fail
      go_ret
      exact ⟨by rw [HE.out]; rfl, HA.out.trans (HB8.out.mono HA.out.size)⟩
  · have hie : fs.isEmpty = false := by cases fs with | nil => exact absurd rfl hE | cons _ _ => rfl
    have HQ : Hid (∀ W, (binOp .eql 9 (.string s) (.string ⟨#[]⟩)).run Tryz.prog W = .ok (.bool false) W) := hide (fun W => by rw [← hie]; exact HQ.out W)
    have HIE := hide hie
    clear hE hie
    by_cases hKm : KM = m
    · have CS : Hid (∀ W, Below wb.heap.size wb W → Calls Tryz.prog 19 #[.agg (msgA KM (.slice ka kl kc)), .agg (msgA m (.slice ao l c))] W fun e w' => e = .returned (.bool true) ∧ Below W.heap.size W w') := hide (fun W hB => by have := CS.out W hB; rw [decide_eq_true hKm] at this; exact this)
      have HE : Hid (R = fs.all (mayF m)) := hide (by rw [HR.out, HIE.out, decide_eq_true hKm]; rfl)
      clear hKm HR
      go_enter Tryz.func13, Tryz.ntmps13
      go_wp2_with (go_at_call 44; refine (C.out _).mono ?_; rintro e w4 ⟨rfl, hw4⟩; have hw5 := hw4.symm; subst hw5)
      refine wp_region_vals (by kernel_rfl) [(8, .string s), (9, .bool false), (10, .bool false), (11, .agg (msgA m (.slice ao l c))), (12, .agg (msgA KM (.slice ka kl kc))), (13, .agg (msgA m (.slice ao l c))), (14, .bool true), (15, .bool false), (16, .bool false)] (by kernel_rfl) rfl ?_ ?_
      · intro i o hi A w1 hB hold hdeps
        have hlt : i < 9 := (Array.getElem?_eq_some_iff.1 hi).1
        have hc : i = 0 ∨ i = 1 ∨ i = 2 ∨ i = 3 ∨ i = 4 ∨ i = 5 ∨ i = 6 ∨ i = 7 ∨ i = 8 := by omega
        clear hlt
        rcases hc with rfl | rfl | rfl | rfl | rfl | rfl | rfl | rfl | rfl
        · obtain rfl := Option.some.inj hi
          have s3 : A.tmps.getD 3 undef = .string s := hold 3 (by kernel_rfl)
          exact r_pure hi rfl rfl (y_move _ s3)
        · obtain rfl := Option.some.inj hi
          have s8 : A.tmps.getD 8 undef = .string s := dep_of hdeps 0 (by kernel_rfl)
          exact r_pure hi rfl rfl (y_bin _ _ _ _ _ s8 rfl (HQ.out w1) (by kernel_rfl))
        · obtain rfl := Option.some.inj hi
          have s9 : A.tmps.getD 9 undef = .bool false := dep_of hdeps 1 (by kernel_rfl)
          exact r_pure hi rfl rfl (y_move _ s9)
        · obtain rfl := Option.some.inj hi
          have g3 : A.tmps.getD 10 undef = .bool false := dep_of hdeps 2 (by kernel_rfl)
          have s1 : A.tmps.getD 1 undef = .pointer (some ⟨w.heap.size, 0, none⟩) := hold 1 (by kernel_rfl)
          exact r_pure hi (wanted_not rfl rfl g3) rfl (y_load _ _ s1 (HX.out.belowI hB) Tryz.underlying35 rfl infoRMsg)
        · obtain rfl := Option.some.inj hi
          have g4 : A.tmps.getD 10 undef = .bool false := dep_of hdeps 2 (by kernel_rfl)
          have s11 : A.tmps.getD 11 undef = .agg (msgA m (.slice ao l c)) := dep_of hdeps 3 (by kernel_rfl)
          exact r_enter hi (wanted_not rfl rfl g4) rfl (y_call 45 _ #[.agg (msgA m (.slice ao l c))] _ rfl (by simp only [List.map_toArray, List.map_cons, List.map_nil, show A.eval (.tmp 11) = .agg (msgA m (.slice ao l c)) from s11]; try rfl) en10_rkept) (CK.out w1)
        · obtain rfl := Option.some.inj hi
          have g5 : A.tmps.getD 10 undef = .bool false := dep_of hdeps 2 (by kernel_rfl)
          have s1 : A.tmps.getD 1 undef = .pointer (some ⟨w.heap.size, 0, none⟩) := hold 1 (by kernel_rfl)
          exact r_pure hi (wanted_not rfl rfl g5) rfl (y_load _ _ s1 (HX.out.belowI hB) Tryz.underlying35 rfl infoRMsg)
        · obtain rfl := Option.some.inj hi
          have g6 : A.tmps.getD 10 undef = .bool false := dep_of hdeps 2 (by kernel_rfl)
          have s12 : A.tmps.getD 12 undef = .agg (msgA KM (.slice ka kl kc)) := dep_of hdeps 4 (by kernel_rfl)
          have s13 : A.tmps.getD 13 undef = .agg (msgA m (.slice ao l c)) := dep_of hdeps 5 (by kernel_rfl)
          exact r_enter hi (wanted_not rfl rfl g6) rfl (y_call 19 _ #[.agg (msgA KM (.slice ka kl kc)), .agg (msgA m (.slice ao l c))] _ rfl (by simp only [List.map_toArray, List.map_cons, List.map_nil, show A.eval (.tmp 12) = .agg (msgA KM (.slice ka kl kc)) from s12, show A.eval (.tmp 13) = .agg (msgA m (.slice ao l c)) from s13]; try rfl) en10_rsame) (CS.out w1 hB)
        · obtain rfl := Option.some.inj hi
          have g7 : A.tmps.getD 10 undef = .bool false := dep_of hdeps 2 (by kernel_rfl)
          have s14 : A.tmps.getD 14 undef = .bool true := dep_of hdeps 6 (by kernel_rfl)
          exact r_pure hi (wanted_not rfl rfl g7) rfl (y_not (a := true) _ _ s14)
        · obtain rfl := Option.some.inj hi
          have s10 : A.tmps.getD 10 undef = .bool false := dep_of hdeps 2 (by kernel_rfl)
          have s15 : A.tmps.getD 15 undef = .bool false := dep_of hdeps 7 (by kernel_rfl)
          exact r_pure hi rfl rfl (y_pickF _ _ _ s10 s15)
      · intro w8 hB8
        simp only [putAll, Act.put, List.setIfInBounds_toArray, List.set_cons_succ, List.set_cons_zero]
        have HB8 := hide hB8
        clear hB8
        go_wp2_with fail
        go_loopg [4] L (fun g i wr => ∃ k : Nat, k + g = L ∧ i = .int .i64 k ∧ Hid (Below wb.heap.size wb wr) ∧ Hid ((fs.take k).all (mayF m) = true))
        case atStart => exact ⟨0, by omega, rfl, HB8, hide rfl⟩
        case round =>
          clear HB8 CS CK C HQ
          obtain ⟨k, hk, rfl, HBW, HT⟩ := hrel
          cases gk with
          | zero =>
            obtain rfl : k = L := by omega
            have hz : ¬ ((k : Int) < (k : Int)) := by omega
            have HE2 : Hid (R = true) := hide (by rw [HE.out, ← HT.out, HLn.out, List.take_length])
            go_wp2_with fail
            go_ret
            exact ⟨by rw [HE2.out]; rfl, HA.out.trans (HBW.out.mono HA.out.size)⟩
          | succ g =>
            have hz : (k : Int) < (L : Int) := by omega
            have hkf : k < fs.length := by rw [← HLn.out]; omega
            obtain ⟨f, hf⟩ : ∃ f, f = fs[k] := ⟨_, rfl⟩
            have HIX := hide (HI.out k hkf)
            have h10 := HL.out _ (List.getElem_mem hkf)
            rw [← hf] at HIX h10
            have HXr := hide (HX.out.belowI HBW.out)
            have CG := hide (fun W hB => CF.out W (HBW.out.trans (Below.mono hB HBW.out.size)) f h10)
            have HF : Hid (f = fs[k]) := hide hf
            have hkf2 := hide hkf
            clear hf h10
            by_cases hmf : mayF m f = true
            · have CG : Hid (∀ W, Below wr.heap.size wr W → Calls Tryz.prog 46 #[.agg (msgA m (.slice ao l c)), .int .u8 (letterF f)] W fun e w' => e = .returned (.bool true) ∧ Below W.heap.size W w') := hide (fun W hB => by have := CG.out W hB; rw [hmf] at this; exact this)
              have HT2 : Hid ((fs.take (k + 1)).all (mayF m) = true) := hide (by rw [List.take_succ_eq_append_getElem hkf, List.all_append, HT.out, ← HF.out]; simp [hmf])
              clear hmf
              go_wp2_with fail
              refine wp_region_vals (by kernel_rfl) [(23, .agg (msgA m (.slice ao l c))), (24, .string s), (25, .int .i64 (k : Int)), (26, .int .u8 (letterF f)), (27, .bool true), (28, .bool false)] (by kernel_rfl) rfl ?_ ?_
              · intro i o hi A w1 hB hold hdeps
                have hlt : i < 6 := (Array.getElem?_eq_some_iff.1 hi).1
                have hc : i = 0 ∨ i = 1 ∨ i = 2 ∨ i = 3 ∨ i = 4 ∨ i = 5 := by omega
                clear hlt
                rcases hc with rfl | rfl | rfl | rfl | rfl | rfl
                · obtain rfl := Option.some.inj hi
                  have s1 : A.tmps.getD 1 undef = .pointer (some ⟨w.heap.size, 0, none⟩) := hold 1 (by kernel_rfl)
                  exact r_pure hi rfl rfl (y_load _ _ s1 (HXr.out.belowI hB) Tryz.underlying35 rfl infoRMsg)
                · obtain rfl := Option.some.inj hi
                  have s3 : A.tmps.getD 3 undef = .string s := hold 3 (by kernel_rfl)
                  exact r_pure hi rfl rfl (y_move _ s3)
                · obtain rfl := Option.some.inj hi
                  have s4 : A.tmps.getD 4 undef = .int .i64 (k : Int) := hold 4 (by kernel_rfl)
                  exact r_pure hi rfl rfl (y_move _ s4)
                · obtain rfl := Option.some.inj hi
                  have s24 : A.tmps.getD 24 undef = .string s := dep_of hdeps 1 (by kernel_rfl)
                  have s25 : A.tmps.getD 25 undef = .int .i64 (k : Int) := dep_of hdeps 2 (by kernel_rfl)
                  exact r_pure hi rfl rfl (y_index _ _ _ s24 s25 (HIX.out w1))
                · obtain rfl := Option.some.inj hi
                  have s23 : A.tmps.getD 23 undef = .agg (msgA m (.slice ao l c)) := dep_of hdeps 0 (by kernel_rfl)
                  have s26 : A.tmps.getD 26 undef = .int .u8 (letterF f) := dep_of hdeps 3 (by kernel_rfl)
                  exact r_enter hi rfl rfl (y_call 46 _ #[.agg (msgA m (.slice ao l c)), .int .u8 (letterF f)] _ rfl (by simp only [List.map_toArray, List.map_cons, List.map_nil, show A.eval (.tmp 23) = .agg (msgA m (.slice ao l c)) from s23, show A.eval (.tmp 26) = .int .u8 (letterF f) from s26]; try rfl) en10_rfield) (CG.out w1 hB)
                · obtain rfl := Option.some.inj hi
                  have s27 : A.tmps.getD 27 undef = .bool true := dep_of hdeps 4 (by kernel_rfl)
                  exact r_pure hi rfl rfl (y_not (a := true) _ _ s27)
              · intro w9 hB9
                simp only [putAll, Act.put, List.setIfInBounds_toArray, List.set_cons_succ, List.set_cons_zero]
                have HB9 := hide hB9
                clear hB9
                go_wp2_with fail
                go_roundg g
                case measure => omega
                case rel => exact ⟨k + 1, by omega, by first | rfl | go_num, hide (HBW.out.trans (HB9.out.mono HBW.out.size)), HT2⟩
            · have CG : Hid (∀ W, Below wr.heap.size wr W → Calls Tryz.prog 46 #[.agg (msgA m (.slice ao l c)), .int .u8 (letterF f)] W fun e w' => e = .returned (.bool false) ∧ Below W.heap.size W w') := hide (fun W hB => by have := CG.out W hB; rw [Bool.eq_false_iff.2 hmf] at this; exact this)
              have HE2 : Hid (R = false) := hide (by
                rw [HE.out, Bool.eq_false_iff]
                intro h
                rw [List.all_eq_true] at h
                exact hmf (by rw [HF.out]; exact h _ (List.getElem_mem hkf)))
              clear hmf
              go_wp2_with fail
              refine wp_region_vals (by kernel_rfl) [(23, .agg (msgA m (.slice ao l c))), (24, .string s), (25, .int .i64 (k : Int)), (26, .int .u8 (letterF f)), (27, .bool false), (28, .bool true)] (by kernel_rfl) rfl ?_ ?_
              · intro i o hi A w1 hB hold hdeps
                have hlt : i < 6 := (Array.getElem?_eq_some_iff.1 hi).1
                have hc : i = 0 ∨ i = 1 ∨ i = 2 ∨ i = 3 ∨ i = 4 ∨ i = 5 := by omega
                clear hlt
                rcases hc with rfl | rfl | rfl | rfl | rfl | rfl
                · obtain rfl := Option.some.inj hi
                  have s1 : A.tmps.getD 1 undef = .pointer (some ⟨w.heap.size, 0, none⟩) := hold 1 (by kernel_rfl)
                  exact r_pure hi rfl rfl (y_load _ _ s1 (HXr.out.belowI hB) Tryz.underlying35 rfl infoRMsg)
                · obtain rfl := Option.some.inj hi
                  have s3 : A.tmps.getD 3 undef = .string s := hold 3 (by kernel_rfl)
                  exact r_pure hi rfl rfl (y_move _ s3)
                · obtain rfl := Option.some.inj hi
                  have s4 : A.tmps.getD 4 undef = .int .i64 (k : Int) := hold 4 (by kernel_rfl)
                  exact r_pure hi rfl rfl (y_move _ s4)
                · obtain rfl := Option.some.inj hi
                  have s24 : A.tmps.getD 24 undef = .string s := dep_of hdeps 1 (by kernel_rfl)
                  have s25 : A.tmps.getD 25 undef = .int .i64 (k : Int) := dep_of hdeps 2 (by kernel_rfl)
                  exact r_pure hi rfl rfl (y_index _ _ _ s24 s25 (HIX.out w1))
                · obtain rfl := Option.some.inj hi
                  have s23 : A.tmps.getD 23 undef = .agg (msgA m (.slice ao l c)) := dep_of hdeps 0 (by kernel_rfl)
                  have s26 : A.tmps.getD 26 undef = .int .u8 (letterF f) := dep_of hdeps 3 (by kernel_rfl)
                  exact r_enter hi rfl rfl (y_call 46 _ #[.agg (msgA m (.slice ao l c)), .int .u8 (letterF f)] _ rfl (by simp only [List.map_toArray, List.map_cons, List.map_nil, show A.eval (.tmp 23) = .agg (msgA m (.slice ao l c)) from s23, show A.eval (.tmp 26) = .int .u8 (letterF f) from s26]; try rfl) en10_rfield) (CG.out w1 hB)
                · obtain rfl := Option.some.inj hi
                  have s27 : A.tmps.getD 27 undef = .bool false := dep_of hdeps 4 (by kernel_rfl)
                  exact r_pure hi rfl rfl (y_not (a := false) _ _ s27)
              · intro w9 hB9
                simp only [putAll, Act.put, List.setIfInBounds_toArray, List.set_cons_succ, List.set_cons_zero]
                have HB9 := hide hB9
                clear hB9
                go_wp2_with fail
                go_ret
                exact ⟨by rw [HE2.out]; rfl, HA.out.trans ((HBW.out.trans (HB9.out.mono HBW.out.size)).mono HA.out.size)⟩
    · have CS : Hid (∀ W, Below wb.heap.size wb W → Calls Tryz.prog 19 #[.agg (msgA KM (.slice ka kl kc)), .agg (msgA m (.slice ao l c))] W fun e w' => e = .returned (.bool false) ∧ Below W.heap.size W w') := hide (fun W hB => by have := CS.out W hB; rw [decide_eq_false hKm] at this; exact this)
      have HE : Hid (R = false) := hide (by rw [HR.out, HIE.out, decide_eq_false hKm]; rfl)
      clear hKm HR
      go_enter Tryz.func13, Tryz.ntmps13
      go_wp2_with (go_at_call 44; refine (C.out _).mono ?_; rintro e w4 ⟨rfl, hw4⟩; have hw5 := hw4.symm; subst hw5)
      refine wp_region_vals (by kernel_rfl) [(8, .string s), (9, .bool false), (10, .bool false), (11, .agg (msgA m (.slice ao l c))), (12, .agg (msgA KM (.slice ka kl kc))), (13, .agg (msgA m (.slice ao l c))), (14, .bool false), (15, .bool true), (16, .bool true)] (by kernel_rfl) rfl ?_ ?_
      · intro i o hi A w1 hB hold hdeps
        have hlt : i < 9 := (Array.getElem?_eq_some_iff.1 hi).1
        have hc : i = 0 ∨ i = 1 ∨ i = 2 ∨ i = 3 ∨ i = 4 ∨ i = 5 ∨ i = 6 ∨ i = 7 ∨ i = 8 := by omega
        clear hlt
        rcases hc with rfl | rfl | rfl | rfl | rfl | rfl | rfl | rfl | rfl
        · obtain rfl := Option.some.inj hi
          have s3 : A.tmps.getD 3 undef = .string s := hold 3 (by kernel_rfl)
          exact r_pure hi rfl rfl (y_move _ s3)
        · obtain rfl := Option.some.inj hi
          have s8 : A.tmps.getD 8 undef = .string s := dep_of hdeps 0 (by kernel_rfl)
          exact r_pure hi rfl rfl (y_bin _ _ _ _ _ s8 rfl (HQ.out w1) (by kernel_rfl))
        · obtain rfl := Option.some.inj hi
          have s9 : A.tmps.getD 9 undef = .bool false := dep_of hdeps 1 (by kernel_rfl)
          exact r_pure hi rfl rfl (y_move _ s9)
        · obtain rfl := Option.some.inj hi
          have g3 : A.tmps.getD 10 undef = .bool false := dep_of hdeps 2 (by kernel_rfl)
          have s1 : A.tmps.getD 1 undef = .pointer (some ⟨w.heap.size, 0, none⟩) := hold 1 (by kernel_rfl)
          exact r_pure hi (wanted_not rfl rfl g3) rfl (y_load _ _ s1 (HX.out.belowI hB) Tryz.underlying35 rfl infoRMsg)
        · obtain rfl := Option.some.inj hi
          have g4 : A.tmps.getD 10 undef = .bool false := dep_of hdeps 2 (by kernel_rfl)
          have s11 : A.tmps.getD 11 undef = .agg (msgA m (.slice ao l c)) := dep_of hdeps 3 (by kernel_rfl)
          exact r_enter hi (wanted_not rfl rfl g4) rfl (y_call 45 _ #[.agg (msgA m (.slice ao l c))] _ rfl (by simp only [List.map_toArray, List.map_cons, List.map_nil, show A.eval (.tmp 11) = .agg (msgA m (.slice ao l c)) from s11]; try rfl) en10_rkept) (CK.out w1)
        · obtain rfl := Option.some.inj hi
          have g5 : A.tmps.getD 10 undef = .bool false := dep_of hdeps 2 (by kernel_rfl)
          have s1 : A.tmps.getD 1 undef = .pointer (some ⟨w.heap.size, 0, none⟩) := hold 1 (by kernel_rfl)
          exact r_pure hi (wanted_not rfl rfl g5) rfl (y_load _ _ s1 (HX.out.belowI hB) Tryz.underlying35 rfl infoRMsg)
        · obtain rfl := Option.some.inj hi
          have g6 : A.tmps.getD 10 undef = .bool false := dep_of hdeps 2 (by kernel_rfl)
          have s12 : A.tmps.getD 12 undef = .agg (msgA KM (.slice ka kl kc)) := dep_of hdeps 4 (by kernel_rfl)
          have s13 : A.tmps.getD 13 undef = .agg (msgA m (.slice ao l c)) := dep_of hdeps 5 (by kernel_rfl)
          exact r_enter hi (wanted_not rfl rfl g6) rfl (y_call 19 _ #[.agg (msgA KM (.slice ka kl kc)), .agg (msgA m (.slice ao l c))] _ rfl (by simp only [List.map_toArray, List.map_cons, List.map_nil, show A.eval (.tmp 12) = .agg (msgA KM (.slice ka kl kc)) from s12, show A.eval (.tmp 13) = .agg (msgA m (.slice ao l c)) from s13]; try rfl) en10_rsame) (CS.out w1 hB)
        · obtain rfl := Option.some.inj hi
          have g7 : A.tmps.getD 10 undef = .bool false := dep_of hdeps 2 (by kernel_rfl)
          have s14 : A.tmps.getD 14 undef = .bool false := dep_of hdeps 6 (by kernel_rfl)
          exact r_pure hi (wanted_not rfl rfl g7) rfl (y_not (a := false) _ _ s14)
        · obtain rfl := Option.some.inj hi
          have s10 : A.tmps.getD 10 undef = .bool false := dep_of hdeps 2 (by kernel_rfl)
          have s15 : A.tmps.getD 15 undef = .bool true := dep_of hdeps 7 (by kernel_rfl)
          exact r_pure hi rfl rfl (y_pickF _ _ _ s10 s15)
      · intro w8 hB8
        simp only [putAll, Act.put, List.setIfInBounds_toArray, List.set_cons_succ, List.set_cons_zero]
        have HB8 := hide hB8
        clear hB8
        go_wp2_with fail
        go_ret
        exact ⟨by rw [HE.out]; rfl, HA.out.trans (HB8.out.mono HA.out.size)⟩
end
section
open Go.RowKit Classical

theorem enM_theirs : ∀ args w, (callFunc 12 args).run Tryz.prog w = .ok (.enter 12 args) w := enters_of Tryz.func12 (by kernel_rfl) rfl
theorem enM_may : ∀ args w, (callFunc 11 args).run Tryz.prog w = .ok (.enter 11 args) w := enters_of Tryz.func11 (by kernel_rfl) rfl
theorem enM_item : ∀ args w, (callFunc 14 args).run Tryz.prog w = .ok (.enter 14 args) w := enters_of Tryz.func14 (by kernel_rfl) rfl
theorem enM_writes : ∀ args w, (callFunc 16 args).run Tryz.prog w = .ok (.enter 16 args) w := enters_of Tryz.func16 (by kernel_rfl) rfl
theorem enM_same : ∀ args w, (callFunc 18 args).run Tryz.prog w = .ok (.enter 18 args) w := enters_of Tryz.func18 (by kernel_rfl) rfl
theorem enM_alive : ∀ args w, (callFunc 10 args).run Tryz.prog w = .ok (.enter 10 args) w := enters_of Tryz.func10 (by kernel_rfl) rfl
theorem enM_rmay : ∀ args w, (callFunc 13 args).run Tryz.prog w = .ok (.enter 13 args) w := enters_of Tryz.func13 (by kernel_rfl) rfl
theorem enM_ritem : ∀ args w, (callFunc 15 args).run Tryz.prog w = .ok (.enter 15 args) w := enters_of Tryz.func15 (by kernel_rfl) rfl
theorem enM_rwrites : ∀ args w, (callFunc 17 args).run Tryz.prog w = .ok (.enter 17 args) w := enters_of Tryz.func17 (by kernel_rfl) rfl
theorem enM_rsame : ∀ args w, (callFunc 19 args).run Tryz.prog w = .ok (.enter 19 args) w := enters_of Tryz.func19 (by kernel_rfl) rfl
theorem eql_bool10 (b : Bool) (w : World) : (binOp .eql 4 (.bool b) (.bool b)).run Tryz.prog w = .ok (.bool true) w := by cases b <;> kernel_rfl
theorem few_of {m : MsgP} (h : longB m = false) : m.wr.length ≤ 40 := by
  unfold longB at h
  simp only [Bool.or_eq_false_iff, decide_eq_false_iff_not] at h
  omega
set_option maxRecDepth 100000 in
set_option maxHeartbeats 6400000 in
theorem walkM10 (H : MsgDo) (m k : MsgP) (a1 a2 : Option Addr) (c1 c2 : Nat) (w : World) (hok1 : MsgOk m) (hok2 : MsgOk k) (h1 : RSrc wrE w (.slice a1 m.wr.length c1) m.wr) (h2 : RSrc wrE w (.slice a2 k.wr.length c2) k.wr) (hv1 : m.item.val.length ≤ 140737488355328) (hv2 : k.item.val.length ≤ 140737488355328) (hw : ∀ x ∈ m.wr, x.it.val.length ≤ 9223372036854775807) :
    Calls Tryz.prog 3 #[.agg (msgA m (.slice a1 m.wr.length c1)), .agg (msgA k (.slice a2 k.wr.length c2))] w fun e w' => e = .returned (.bool true) ∧ Below w.heap.size w w' := by
  obtain ⟨L1, hL1⟩ : ∃ L1, L1 = m.wr.length := ⟨_, rfl⟩
  obtain ⟨L2, hL2⟩ : ∃ L2, L2 = k.wr.length := ⟨_, rfl⟩
  rw [← hL1] at h1 ⊢
  rw [← hL2] at h2 ⊢
  have hA := ((Below.refl w.heap.size w).alloc (Nat.le_refl _) (.cells (msgA m (.slice a1 L1 c1)) 35)).alloc (by simp) (.cells (msgA k (.slice a2 L2 c2)) 35)
  have hX := (box_new w (msgA m (.slice a1 L1 c1)) 35).belowI (alloc_below10 _ (.cells (msgA k (.slice a2 L2 c2)) 35))
  have hY := box_new (w.alloc (.cells (msgA m (.slice a1 L1 c1)) 35)) (msgA k (.slice a2 L2 c2)) 35
  rw [World.size_alloc] at hY
  obtain ⟨w2, hw2⟩ : ∃ w2, w2 = (w.alloc (.cells (msgA m (.slice a1 L1 c1)) 35)).alloc (.cells (msgA k (.slice a2 L2 c2)) 35) := ⟨_, rfl⟩
  rw [← hw2] at hA hX hY
  have hW := hw2.symm
  have HA := hide hA
  have HX := hide hX
  have HY := hide hY
  have h1 := h1.below hA
  have h2 := h2.below hA
  have CL1 : Hid (∀ W, Below w2.heap.size w2 W → Calls Tryz.prog 9 #[.agg (msgA m (.slice a1 L1 c1))] W fun e w' => e = .returned (.bool (longB m)) ∧ Below W.heap.size W w') := hide (fun W hB => by have h := h1.below hB; rw [hL1] at h ⊢; exact long_any10 m a1 c1 W h hv1)
  have CL2 : Hid (∀ W, Below w2.heap.size w2 W → Calls Tryz.prog 9 #[.agg (msgA k (.slice a2 L2 c2))] W fun e w' => e = .returned (.bool (longB k)) ∧ Below W.heap.size W w') := hide (fun W hB => by have h := h2.below hB; rw [hL2] at h ⊢; exact long_any10 k a2 c2 W h hv2)
  have HAL := hide (fun w => alive_by10 H w)
  have H1 := hide h1
  have H2 := hide h2
  have HO1 := hide hok1
  have HO2 := hide hok2
  have HL1 := hide hL1
  have HL2 := hide hL2
  have HV := hide (And.intro hv1 hw)
  clear h1 h2 hA hX hY hw2 hok1 hok2 hL1 hL2 hv1 hv2 hw
  have CT1 := hide (fun w => theirs_any m a1 L1 c1 w)
  have CT2 := hide (fun w => theirs_any k a2 L2 c2 w)
  cases hl1 : longB m with
  | true =>
    rw [hl1] at CL1
    clear hl1 CL2
    go_enter Tryz.func3, Tryz.ntmps3
    go_wp2_with (first | (refine wp_load_box rfl _ rfl w.heap.size rfl HX.out Tryz.underlying35 rfl infoRMsg ?_) | (go_at_call 9; refine (CL1.out w2 (Below.refl _ _)).mono ?_; rintro e w3 ⟨rfl, hB3⟩; have HB3 := hide hB3; clear hB3) | (go_at_call 10; refine (HAL.out _).mono ?_; rintro e w5 ⟨rfl, hB5⟩; have HB5 := hide hB5; clear hB5))
    go_ret
    exact ⟨rfl, HA.out.trans ((HB3.out.trans (HB5.out.mono HB3.out.size)).mono HA.out.size)⟩
  | false =>
    have HF1 := hide (few_of hl1)
    rw [hl1] at CL1
    clear hl1
    cases hl2 : longB k with
    | true =>
      rw [hl2] at CL2
      clear hl2
      go_enter Tryz.func3, Tryz.ntmps3
      go_wp2_with (first | (refine wp_load_box rfl _ rfl w.heap.size rfl HX.out Tryz.underlying35 rfl infoRMsg ?_) | (go_at_call 9; refine (CL1.out w2 (Below.refl _ _)).mono ?_; rintro e w3 ⟨rfl, hB3⟩; have HB3 := hide hB3; have HY3 := hide (HY.out.belowI hB3); clear hB3 CL1 HX) | (refine wp_load_box_g rfl _ rfl (w.heap.size + 1) rfl HY3.out Tryz.underlying35 rfl infoRMsg ?_) | (go_at_call 9; refine (CL2.out w3 HB3.out).mono ?_; rintro e w4 ⟨rfl, hB4⟩; have HB4 := hide (HB3.out.trans (hB4.mono HB3.out.size)); clear hB4) | (go_at_call 10; refine (HAL.out _).mono ?_; rintro e w5 ⟨rfl, hB5⟩; have HB5 := hide hB5; clear hB5))
      go_ret
      exact ⟨rfl, HA.out.trans ((HB4.out.trans (HB5.out.mono HB4.out.size)).mono HA.out.size)⟩
    | false =>
      rw [hl2] at CL2
      clear hl2
      obtain ⟨b1, hb1⟩ : ∃ b, b = mayM m := ⟨_, rfl⟩
      obtain ⟨b2, hb2⟩ : ∃ b, b = itMayB m.item := ⟨_, rfl⟩
      obtain ⟨b3, hb3⟩ : ∃ b, b = wsMayB m.wr := ⟨_, rfl⟩
      obtain ⟨b4, hb4⟩ : ∃ b, b = decide (m = k) := ⟨_, rfl⟩
      have HLM : Hid (∀ W, Below w2.heap.size w2 W → MgLies W (.agg (msgA m (.slice a1 L1 c1))) m) := hide (fun W hB => ⟨a1, c1, by rw [HL1.out], by rw [← HL1.out]; exact H1.out.below hB⟩)
      have HLK : Hid (∀ W, Below w2.heap.size w2 W → MgLies W (.agg (msgA k (.slice a2 L2 c2))) k) := hide (fun W hB => ⟨a2, c2, by rw [HL2.out], by rw [← HL2.out]; exact H2.out.below hB⟩)
      have CM := hide (fun W hB => H.may HO1.out (HLM.out W hB))
      have CI := hide (fun W => H.item W HO1.out.item)
      have CW := hide (fun W hB => H.writes HO1.out.wr (H1.out.below (w' := W) hB))
      have CS := hide (fun W hB => H.same HO1.out HO2.out (HLM.out W hB) (HLK.out W hB))
      have CU : Hid (∀ W, Below w2.heap.size w2 W → Calls Tryz.prog 18 #[.agg (msgA m (.slice a1 L1 c1)), .agg (msgA m (.slice a1 L1 c1))] W fun e w' => e = .returned (.bool true) ∧ Below W.heap.size W w') := hide (fun W hB => by have := H.same HO1.out HO1.out (HLM.out W hB) (HLM.out W hB); rw [decide_eq_true rfl] at this; exact this)
      have CN := hide (fun W hB => rmsgMay_any m a1 L1 c1 W HO1.out (H1.out.below hB) (by have := HV.out.1; omega) HV.out.2 (by have := HF1.out; omega))
      have CJ := hide (fun W => ritem_any m.item HO1.out.item (by have := HV.out.1; omega) W)
      have CV := hide (fun W hB => rwrites_any _ m.wr W (H1.out.below hB) HO1.out.wr HV.out.2 (by have := HF1.out; omega))
      have CQ := hide (fun W hB => rsame_any m k a1 a2 L1 c1 L2 c2 W HO1.out HO2.out (H1.out.below hB) (H2.out.below hB))
      rw [← hb1] at CM CN
      rw [← hb2] at CI CJ
      rw [← hb3] at CW CV
      rw [← hb4] at CS CQ
      clear hb1 hb2 hb3 hb4
      go_enter Tryz.func3, Tryz.ntmps3
      go_wp2_with (first | (refine wp_load_box rfl _ rfl w.heap.size rfl HX.out Tryz.underlying35 rfl infoRMsg ?_) | (go_at_call 9; refine (CL1.out w2 (Below.refl _ _)).mono ?_; rintro e w3 ⟨rfl, hB3⟩; have HB3 := hide hB3; have HY3 := hide (HY.out.belowI hB3); have HX3 := hide (HX.out.belowI hB3); clear hB3 CL1 HX) | (refine wp_load_box_g rfl _ rfl (w.heap.size + 1) rfl HY3.out Tryz.underlying35 rfl infoRMsg ?_) | (go_at_call 9; refine (CL2.out w3 HB3.out).mono ?_; rintro e w4 ⟨rfl, hB4⟩; have HB4 := hide (HB3.out.trans (hB4.mono HB3.out.size)); have HX4 := hide (HX3.out.belowI hB4); have HY4 := hide (HY3.out.belowI hB4); clear hB4))
      refine wp_region_vals (by kernel_rfl) [(12, .agg (msgA m (.slice a1 L1 c1))), (13, .agg (msgA m (.slice a1 L1 c1))), (14, .bool b1), (15, .agg (msgA m (.slice a1 L1 c1))), (16, .bool b1), (17, .bool true), (18, .bool true), (19, .pointer (some ⟨w.heap.size, 19, none⟩)), (20, .agg (itA m.item)), (21, .bool b2), (22, .pointer (some ⟨w.heap.size, 19, none⟩)), (23, .agg (itA m.item)), (24, .bool b2), (25, .bool true), (26, .bool true), (27, .bool true), (28, .pointer (some ⟨w.heap.size, 32, none⟩)), (29, .slice a1 L1 c1), (30, .bool b3), (31, .pointer (some ⟨w.heap.size, 32, none⟩)), (32, .slice a1 L1 c1), (33, .bool b3), (34, .bool true), (35, .bool true), (36, .bool true), (37, .agg (msgA m (.slice a1 L1 c1))), (38, .agg (msgA m (.slice a1 L1 c1))), (39, .agg (msgA k (.slice a2 L2 c2))), (40, .agg (msgA k (.slice a2 L2 c2))), (41, .bool b4), (42, .agg (msgA m (.slice a1 L1 c1))), (43, .agg (msgA k (.slice a2 L2 c2))), (44, .bool b4), (45, .bool true), (46, .bool true), (47, .bool true), (48, .agg (msgA m (.slice a1 L1 c1))), (49, .agg (msgA m (.slice a1 L1 c1))), (50, .agg (msgA m (.slice a1 L1 c1))), (51, .agg (msgA m (.slice a1 L1 c1))), (52, .bool true), (53, .bool true), (54, .bool true), (55, .bool true), (56, .bool true), (4, .bool true)] (by kernel_rfl) rfl ?_ ?_
      · intro i o hi A w1 hB hold hdeps
        have hlt : i < 46 := (Array.getElem?_eq_some_iff.1 hi).1
        have hc : i = 0 ∨ i = 1 ∨ i = 2 ∨ i = 3 ∨ i = 4 ∨ i = 5 ∨ i = 6 ∨ i = 7 ∨ i = 8 ∨ i = 9 ∨ i = 10 ∨ i = 11 ∨ i = 12 ∨ i = 13 ∨ i = 14 ∨ i = 15 ∨ i = 16 ∨ i = 17 ∨ i = 18 ∨ i = 19 ∨ i = 20 ∨ i = 21 ∨ i = 22 ∨ i = 23 ∨ i = 24 ∨ i = 25 ∨ i = 26 ∨ i = 27 ∨ i = 28 ∨ i = 29 ∨ i = 30 ∨ i = 31 ∨ i = 32 ∨ i = 33 ∨ i = 34 ∨ i = 35 ∨ i = 36 ∨ i = 37 ∨ i = 38 ∨ i = 39 ∨ i = 40 ∨ i = 41 ∨ i = 42 ∨ i = 43 ∨ i = 44 ∨ i = 45 := by omega
        clear hlt
        rcases hc with rfl | rfl | rfl | rfl | rfl | rfl | rfl | rfl | rfl | rfl | rfl | rfl | rfl | rfl | rfl | rfl | rfl | rfl | rfl | rfl | rfl | rfl | rfl | rfl | rfl | rfl | rfl | rfl | rfl | rfl | rfl | rfl | rfl | rfl | rfl | rfl | rfl | rfl | rfl | rfl | rfl | rfl | rfl | rfl | rfl | rfl
        · obtain rfl := Option.some.inj hi
          have s2 : A.tmps.getD 2 undef = .pointer (some ⟨w.heap.size, 0, none⟩) := hold 2 (by kernel_rfl)
          exact r_pure hi rfl rfl (y_load _ _ s2 (HX4.out.belowI hB) Tryz.underlying35 rfl infoRMsg)
        · obtain rfl := Option.some.inj hi
          have s12 : A.tmps.getD 12 undef = .agg (msgA m (.slice a1 L1 c1)) := dep_of hdeps 0 (by kernel_rfl)
          exact r_enter hi rfl rfl (y_call 12 _ #[.agg (msgA m (.slice a1 L1 c1))] _ rfl (by simp only [List.map_toArray, List.map_cons, List.map_nil, show A.eval (.tmp 12) = .agg (msgA m (.slice a1 L1 c1)) from s12]; try rfl) enM_theirs) (CT1.out w1)
        · obtain rfl := Option.some.inj hi
          have s13 : A.tmps.getD 13 undef = .agg (msgA m (.slice a1 L1 c1)) := dep_of hdeps 1 (by kernel_rfl)
          exact r_enter hi rfl rfl (y_call 11 _ #[.agg (msgA m (.slice a1 L1 c1))] _ rfl (by simp only [List.map_toArray, List.map_cons, List.map_nil, show A.eval (.tmp 13) = .agg (msgA m (.slice a1 L1 c1)) from s13]; try rfl) enM_may) (CM.out w1 (HB4.out.trans (hB.mono HB4.out.size)))
        · obtain rfl := Option.some.inj hi
          have s2 : A.tmps.getD 2 undef = .pointer (some ⟨w.heap.size, 0, none⟩) := hold 2 (by kernel_rfl)
          exact r_pure hi rfl rfl (y_load _ _ s2 (HX4.out.belowI hB) Tryz.underlying35 rfl infoRMsg)
        · obtain rfl := Option.some.inj hi
          have s15 : A.tmps.getD 15 undef = .agg (msgA m (.slice a1 L1 c1)) := dep_of hdeps 3 (by kernel_rfl)
          exact r_enter hi rfl rfl (y_call 13 _ #[.agg (msgA m (.slice a1 L1 c1))] _ rfl (by simp only [List.map_toArray, List.map_cons, List.map_nil, show A.eval (.tmp 15) = .agg (msgA m (.slice a1 L1 c1)) from s15]; try rfl) enM_rmay) (CN.out w1 (HB4.out.trans (hB.mono HB4.out.size)))
        · obtain rfl := Option.some.inj hi
          have s14 : A.tmps.getD 14 undef = .bool b1 := dep_of hdeps 2 (by kernel_rfl)
          have s16 : A.tmps.getD 16 undef = .bool b1 := dep_of hdeps 4 (by kernel_rfl)
          exact r_pure hi rfl rfl (y_bin _ _ _ _ _ s14 s16 (eql_bool10 b1 w1) (by kernel_rfl))
        · obtain rfl := Option.some.inj hi
          have s17 : A.tmps.getD 17 undef = .bool true := dep_of hdeps 5 (by kernel_rfl)
          exact r_pure hi rfl rfl (y_move _ s17)
        · obtain rfl := Option.some.inj hi
          have g7 : A.tmps.getD 18 undef = .bool true := dep_of hdeps 6 (by kernel_rfl)
          have s2 : A.tmps.getD 2 undef = .pointer (some ⟨w.heap.size, 0, none⟩) := hold 2 (by kernel_rfl)
          exact r_pure hi (wanted_of rfl rfl g7) rfl (y_fldM9 _ s2)
        · obtain rfl := Option.some.inj hi
          have g8 : A.tmps.getD 18 undef = .bool true := dep_of hdeps 6 (by kernel_rfl)
          have s19 : A.tmps.getD 19 undef = .pointer (some ⟨w.heap.size, 19, none⟩) := dep_of hdeps 7 (by kernel_rfl)
          exact r_pure hi (wanted_of rfl rfl g8) rfl (y_loadMid _ _ s19 (msg_item (HX4.out.belowI hB)) Tryz.underlying32 rfl infoItem)
        · obtain rfl := Option.some.inj hi
          have g9 : A.tmps.getD 18 undef = .bool true := dep_of hdeps 6 (by kernel_rfl)
          have s20 : A.tmps.getD 20 undef = .agg (itA m.item) := dep_of hdeps 8 (by kernel_rfl)
          exact r_enter hi (wanted_of rfl rfl g9) rfl (y_call 14 _ #[.agg (itA m.item)] _ rfl (by simp only [List.map_toArray, List.map_cons, List.map_nil, show A.eval (.tmp 20) = .agg (itA m.item) from s20]; try rfl) enM_item) (CI.out w1)
        · obtain rfl := Option.some.inj hi
          have g10 : A.tmps.getD 18 undef = .bool true := dep_of hdeps 6 (by kernel_rfl)
          have s2 : A.tmps.getD 2 undef = .pointer (some ⟨w.heap.size, 0, none⟩) := hold 2 (by kernel_rfl)
          exact r_pure hi (wanted_of rfl rfl g10) rfl (y_fldM9 _ s2)
        · obtain rfl := Option.some.inj hi
          have g11 : A.tmps.getD 18 undef = .bool true := dep_of hdeps 6 (by kernel_rfl)
          have s22 : A.tmps.getD 22 undef = .pointer (some ⟨w.heap.size, 19, none⟩) := dep_of hdeps 10 (by kernel_rfl)
          exact r_pure hi (wanted_of rfl rfl g11) rfl (y_loadMid _ _ s22 (msg_item (HX4.out.belowI hB)) Tryz.underlying32 rfl infoItem)
        · obtain rfl := Option.some.inj hi
          have g12 : A.tmps.getD 18 undef = .bool true := dep_of hdeps 6 (by kernel_rfl)
          have s23 : A.tmps.getD 23 undef = .agg (itA m.item) := dep_of hdeps 11 (by kernel_rfl)
          exact r_enter hi (wanted_of rfl rfl g12) rfl (y_call 15 _ #[.agg (itA m.item)] _ rfl (by simp only [List.map_toArray, List.map_cons, List.map_nil, show A.eval (.tmp 23) = .agg (itA m.item) from s23]; try rfl) enM_ritem) (CJ.out w1)
        · obtain rfl := Option.some.inj hi
          have g13 : A.tmps.getD 18 undef = .bool true := dep_of hdeps 6 (by kernel_rfl)
          have s21 : A.tmps.getD 21 undef = .bool b2 := dep_of hdeps 9 (by kernel_rfl)
          have s24 : A.tmps.getD 24 undef = .bool b2 := dep_of hdeps 12 (by kernel_rfl)
          exact r_pure hi (wanted_of rfl rfl g13) rfl (y_bin _ _ _ _ _ s21 s24 (eql_bool10 b2 w1) (by kernel_rfl))
        · obtain rfl := Option.some.inj hi
          have s18 : A.tmps.getD 18 undef = .bool true := dep_of hdeps 6 (by kernel_rfl)
          have s25 : A.tmps.getD 25 undef = .bool true := dep_of hdeps 13 (by kernel_rfl)
          exact r_pure hi rfl rfl (y_pickT _ _ _ s18 s25)
        · obtain rfl := Option.some.inj hi
          have s26 : A.tmps.getD 26 undef = .bool true := dep_of hdeps 14 (by kernel_rfl)
          exact r_pure hi rfl rfl (y_move _ s26)
        · obtain rfl := Option.some.inj hi
          have g16 : A.tmps.getD 27 undef = .bool true := dep_of hdeps 15 (by kernel_rfl)
          have s2 : A.tmps.getD 2 undef = .pointer (some ⟨w.heap.size, 0, none⟩) := hold 2 (by kernel_rfl)
          exact r_pure hi (wanted_of rfl rfl g16) rfl (y_fldM10 _ s2)
        · obtain rfl := Option.some.inj hi
          have g17 : A.tmps.getD 27 undef = .bool true := dep_of hdeps 15 (by kernel_rfl)
          have s28 : A.tmps.getD 28 undef = .pointer (some ⟨w.heap.size, 32, none⟩) := dep_of hdeps 16 (by kernel_rfl)
          exact r_pure hi (wanted_of rfl rfl g17) rfl (y_cell_awrites _ s28 ((HX4.out.belowI hB).cell 32 (.slice a1 L1 c1) rfl))
        · obtain rfl := Option.some.inj hi
          have g18 : A.tmps.getD 27 undef = .bool true := dep_of hdeps 15 (by kernel_rfl)
          have s29 : A.tmps.getD 29 undef = .slice a1 L1 c1 := dep_of hdeps 17 (by kernel_rfl)
          exact r_enter hi (wanted_of rfl rfl g18) rfl (y_call 16 _ #[.slice a1 L1 c1] _ rfl (by simp only [List.map_toArray, List.map_cons, List.map_nil, show A.eval (.tmp 29) = .slice a1 L1 c1 from s29]; try rfl) enM_writes) (CW.out w1 (HB4.out.trans (hB.mono HB4.out.size)))
        · obtain rfl := Option.some.inj hi
          have g19 : A.tmps.getD 27 undef = .bool true := dep_of hdeps 15 (by kernel_rfl)
          have s2 : A.tmps.getD 2 undef = .pointer (some ⟨w.heap.size, 0, none⟩) := hold 2 (by kernel_rfl)
          exact r_pure hi (wanted_of rfl rfl g19) rfl (y_fldM10 _ s2)
        · obtain rfl := Option.some.inj hi
          have g20 : A.tmps.getD 27 undef = .bool true := dep_of hdeps 15 (by kernel_rfl)
          have s31 : A.tmps.getD 31 undef = .pointer (some ⟨w.heap.size, 32, none⟩) := dep_of hdeps 19 (by kernel_rfl)
          exact r_pure hi (wanted_of rfl rfl g20) rfl (y_cell_awrites _ s31 ((HX4.out.belowI hB).cell 32 (.slice a1 L1 c1) rfl))
        · obtain rfl := Option.some.inj hi
          have g21 : A.tmps.getD 27 undef = .bool true := dep_of hdeps 15 (by kernel_rfl)
          have s32 : A.tmps.getD 32 undef = .slice a1 L1 c1 := dep_of hdeps 20 (by kernel_rfl)
          exact r_enter hi (wanted_of rfl rfl g21) rfl (y_call 17 _ #[.slice a1 L1 c1] _ rfl (by simp only [List.map_toArray, List.map_cons, List.map_nil, show A.eval (.tmp 32) = .slice a1 L1 c1 from s32]; try rfl) enM_rwrites) (CV.out w1 (HB4.out.trans (hB.mono HB4.out.size)))
        · obtain rfl := Option.some.inj hi
          have g22 : A.tmps.getD 27 undef = .bool true := dep_of hdeps 15 (by kernel_rfl)
          have s30 : A.tmps.getD 30 undef = .bool b3 := dep_of hdeps 18 (by kernel_rfl)
          have s33 : A.tmps.getD 33 undef = .bool b3 := dep_of hdeps 21 (by kernel_rfl)
          exact r_pure hi (wanted_of rfl rfl g22) rfl (y_bin _ _ _ _ _ s30 s33 (eql_bool10 b3 w1) (by kernel_rfl))
        · obtain rfl := Option.some.inj hi
          have s27 : A.tmps.getD 27 undef = .bool true := dep_of hdeps 15 (by kernel_rfl)
          have s34 : A.tmps.getD 34 undef = .bool true := dep_of hdeps 22 (by kernel_rfl)
          exact r_pure hi rfl rfl (y_pickT _ _ _ s27 s34)
        · obtain rfl := Option.some.inj hi
          have s35 : A.tmps.getD 35 undef = .bool true := dep_of hdeps 23 (by kernel_rfl)
          exact r_pure hi rfl rfl (y_move _ s35)
        · obtain rfl := Option.some.inj hi
          have g25 : A.tmps.getD 36 undef = .bool true := dep_of hdeps 24 (by kernel_rfl)
          have s2 : A.tmps.getD 2 undef = .pointer (some ⟨w.heap.size, 0, none⟩) := hold 2 (by kernel_rfl)
          exact r_pure hi (wanted_of rfl rfl g25) rfl (y_load _ _ s2 (HX4.out.belowI hB) Tryz.underlying35 rfl infoRMsg)
        · obtain rfl := Option.some.inj hi
          have g26 : A.tmps.getD 36 undef = .bool true := dep_of hdeps 24 (by kernel_rfl)
          have s37 : A.tmps.getD 37 undef = .agg (msgA m (.slice a1 L1 c1)) := dep_of hdeps 25 (by kernel_rfl)
          exact r_enter hi (wanted_of rfl rfl g26) rfl (y_call 12 _ #[.agg (msgA m (.slice a1 L1 c1))] _ rfl (by simp only [List.map_toArray, List.map_cons, List.map_nil, show A.eval (.tmp 37) = .agg (msgA m (.slice a1 L1 c1)) from s37]; try rfl) enM_theirs) (CT1.out w1)
        · obtain rfl := Option.some.inj hi
          have g27 : A.tmps.getD 36 undef = .bool true := dep_of hdeps 24 (by kernel_rfl)
          have s3 : A.tmps.getD 3 undef = .pointer (some ⟨w.heap.size + 1, 0, none⟩) := hold 3 (by kernel_rfl)
          exact r_pure hi (wanted_of rfl rfl g27) rfl (y_load _ _ s3 (HY4.out.belowI hB) Tryz.underlying35 rfl infoRMsg)
        · obtain rfl := Option.some.inj hi
          have g28 : A.tmps.getD 36 undef = .bool true := dep_of hdeps 24 (by kernel_rfl)
          have s39 : A.tmps.getD 39 undef = .agg (msgA k (.slice a2 L2 c2)) := dep_of hdeps 27 (by kernel_rfl)
          exact r_enter hi (wanted_of rfl rfl g28) rfl (y_call 12 _ #[.agg (msgA k (.slice a2 L2 c2))] _ rfl (by simp only [List.map_toArray, List.map_cons, List.map_nil, show A.eval (.tmp 39) = .agg (msgA k (.slice a2 L2 c2)) from s39]; try rfl) enM_theirs) (CT2.out w1)
        · obtain rfl := Option.some.inj hi
          have g29 : A.tmps.getD 36 undef = .bool true := dep_of hdeps 24 (by kernel_rfl)
          have s38 : A.tmps.getD 38 undef = .agg (msgA m (.slice a1 L1 c1)) := dep_of hdeps 26 (by kernel_rfl)
          have s40 : A.tmps.getD 40 undef = .agg (msgA k (.slice a2 L2 c2)) := dep_of hdeps 28 (by kernel_rfl)
          exact r_enter hi (wanted_of rfl rfl g29) rfl (y_call 18 _ #[.agg (msgA m (.slice a1 L1 c1)), .agg (msgA k (.slice a2 L2 c2))] _ rfl (by simp only [List.map_toArray, List.map_cons, List.map_nil, show A.eval (.tmp 38) = .agg (msgA m (.slice a1 L1 c1)) from s38, show A.eval (.tmp 40) = .agg (msgA k (.slice a2 L2 c2)) from s40]; try rfl) enM_same) (CS.out w1 (HB4.out.trans (hB.mono HB4.out.size)))
        · obtain rfl := Option.some.inj hi
          have g30 : A.tmps.getD 36 undef = .bool true := dep_of hdeps 24 (by kernel_rfl)
          have s2 : A.tmps.getD 2 undef = .pointer (some ⟨w.heap.size, 0, none⟩) := hold 2 (by kernel_rfl)
          exact r_pure hi (wanted_of rfl rfl g30) rfl (y_load _ _ s2 (HX4.out.belowI hB) Tryz.underlying35 rfl infoRMsg)
        · obtain rfl := Option.some.inj hi
          have g31 : A.tmps.getD 36 undef = .bool true := dep_of hdeps 24 (by kernel_rfl)
          have s3 : A.tmps.getD 3 undef = .pointer (some ⟨w.heap.size + 1, 0, none⟩) := hold 3 (by kernel_rfl)
          exact r_pure hi (wanted_of rfl rfl g31) rfl (y_load _ _ s3 (HY4.out.belowI hB) Tryz.underlying35 rfl infoRMsg)
        · obtain rfl := Option.some.inj hi
          have g32 : A.tmps.getD 36 undef = .bool true := dep_of hdeps 24 (by kernel_rfl)
          have s42 : A.tmps.getD 42 undef = .agg (msgA m (.slice a1 L1 c1)) := dep_of hdeps 30 (by kernel_rfl)
          have s43 : A.tmps.getD 43 undef = .agg (msgA k (.slice a2 L2 c2)) := dep_of hdeps 31 (by kernel_rfl)
          exact r_enter hi (wanted_of rfl rfl g32) rfl (y_call 19 _ #[.agg (msgA m (.slice a1 L1 c1)), .agg (msgA k (.slice a2 L2 c2))] _ rfl (by simp only [List.map_toArray, List.map_cons, List.map_nil, show A.eval (.tmp 42) = .agg (msgA m (.slice a1 L1 c1)) from s42, show A.eval (.tmp 43) = .agg (msgA k (.slice a2 L2 c2)) from s43]; try rfl) enM_rsame) (CQ.out w1 (HB4.out.trans (hB.mono HB4.out.size)))
        · obtain rfl := Option.some.inj hi
          have g33 : A.tmps.getD 36 undef = .bool true := dep_of hdeps 24 (by kernel_rfl)
          have s41 : A.tmps.getD 41 undef = .bool b4 := dep_of hdeps 29 (by kernel_rfl)
          have s44 : A.tmps.getD 44 undef = .bool b4 := dep_of hdeps 32 (by kernel_rfl)
          exact r_pure hi (wanted_of rfl rfl g33) rfl (y_bin _ _ _ _ _ s41 s44 (eql_bool10 b4 w1) (by kernel_rfl))
        · obtain rfl := Option.some.inj hi
          have s36 : A.tmps.getD 36 undef = .bool true := dep_of hdeps 24 (by kernel_rfl)
          have s45 : A.tmps.getD 45 undef = .bool true := dep_of hdeps 33 (by kernel_rfl)
          exact r_pure hi rfl rfl (y_pickT _ _ _ s36 s45)
        · obtain rfl := Option.some.inj hi
          have s46 : A.tmps.getD 46 undef = .bool true := dep_of hdeps 34 (by kernel_rfl)
          exact r_pure hi rfl rfl (y_move _ s46)
        · obtain rfl := Option.some.inj hi
          have g36 : A.tmps.getD 47 undef = .bool true := dep_of hdeps 35 (by kernel_rfl)
          have s2 : A.tmps.getD 2 undef = .pointer (some ⟨w.heap.size, 0, none⟩) := hold 2 (by kernel_rfl)
          exact r_pure hi (wanted_of rfl rfl g36) rfl (y_load _ _ s2 (HX4.out.belowI hB) Tryz.underlying35 rfl infoRMsg)
        · obtain rfl := Option.some.inj hi
          have g37 : A.tmps.getD 47 undef = .bool true := dep_of hdeps 35 (by kernel_rfl)
          have s48 : A.tmps.getD 48 undef = .agg (msgA m (.slice a1 L1 c1)) := dep_of hdeps 36 (by kernel_rfl)
          exact r_enter hi (wanted_of rfl rfl g37) rfl (y_call 12 _ #[.agg (msgA m (.slice a1 L1 c1))] _ rfl (by simp only [List.map_toArray, List.map_cons, List.map_nil, show A.eval (.tmp 48) = .agg (msgA m (.slice a1 L1 c1)) from s48]; try rfl) enM_theirs) (CT1.out w1)
        · obtain rfl := Option.some.inj hi
          have g38 : A.tmps.getD 47 undef = .bool true := dep_of hdeps 35 (by kernel_rfl)
          have s2 : A.tmps.getD 2 undef = .pointer (some ⟨w.heap.size, 0, none⟩) := hold 2 (by kernel_rfl)
          exact r_pure hi (wanted_of rfl rfl g38) rfl (y_load _ _ s2 (HX4.out.belowI hB) Tryz.underlying35 rfl infoRMsg)
        · obtain rfl := Option.some.inj hi
          have g39 : A.tmps.getD 47 undef = .bool true := dep_of hdeps 35 (by kernel_rfl)
          have s50 : A.tmps.getD 50 undef = .agg (msgA m (.slice a1 L1 c1)) := dep_of hdeps 38 (by kernel_rfl)
          exact r_enter hi (wanted_of rfl rfl g39) rfl (y_call 12 _ #[.agg (msgA m (.slice a1 L1 c1))] _ rfl (by simp only [List.map_toArray, List.map_cons, List.map_nil, show A.eval (.tmp 50) = .agg (msgA m (.slice a1 L1 c1)) from s50]; try rfl) enM_theirs) (CT1.out w1)
        · obtain rfl := Option.some.inj hi
          have g40 : A.tmps.getD 47 undef = .bool true := dep_of hdeps 35 (by kernel_rfl)
          have s49 : A.tmps.getD 49 undef = .agg (msgA m (.slice a1 L1 c1)) := dep_of hdeps 37 (by kernel_rfl)
          have s51 : A.tmps.getD 51 undef = .agg (msgA m (.slice a1 L1 c1)) := dep_of hdeps 39 (by kernel_rfl)
          exact r_enter hi (wanted_of rfl rfl g40) rfl (y_call 18 _ #[.agg (msgA m (.slice a1 L1 c1)), .agg (msgA m (.slice a1 L1 c1))] _ rfl (by simp only [List.map_toArray, List.map_cons, List.map_nil, show A.eval (.tmp 49) = .agg (msgA m (.slice a1 L1 c1)) from s49, show A.eval (.tmp 51) = .agg (msgA m (.slice a1 L1 c1)) from s51]; try rfl) enM_same) (CU.out w1 (HB4.out.trans (hB.mono HB4.out.size)))
        · obtain rfl := Option.some.inj hi
          have s47 : A.tmps.getD 47 undef = .bool true := dep_of hdeps 35 (by kernel_rfl)
          have s52 : A.tmps.getD 52 undef = .bool true := dep_of hdeps 40 (by kernel_rfl)
          exact r_pure hi rfl rfl (y_pickT _ _ _ s47 s52)
        · obtain rfl := Option.some.inj hi
          have s53 : A.tmps.getD 53 undef = .bool true := dep_of hdeps 41 (by kernel_rfl)
          exact r_pure hi rfl rfl (y_move _ s53)
        · obtain rfl := Option.some.inj hi
          have g43 : A.tmps.getD 54 undef = .bool true := dep_of hdeps 42 (by kernel_rfl)
          exact r_enter hi (wanted_of rfl rfl g43) rfl (y_call 10 _ #[] _ rfl (by simp) enM_alive) (HAL.out w1)
        · obtain rfl := Option.some.inj hi
          have s54 : A.tmps.getD 54 undef = .bool true := dep_of hdeps 42 (by kernel_rfl)
          have s55 : A.tmps.getD 55 undef = .bool true := dep_of hdeps 43 (by kernel_rfl)
          exact r_pure hi rfl rfl (y_pickT _ _ _ s54 s55)
        · obtain rfl := Option.some.inj hi
          have s56 : A.tmps.getD 56 undef = .bool true := dep_of hdeps 44 (by kernel_rfl)
          exact r_pure hi rfl rfl (y_assign _ s56)
      · intro w8 hB8
        simp only [putAll, Act.put, List.setIfInBounds_toArray, List.set_cons_succ, List.set_cons_zero]
        have HB8 := hide (HB4.out.trans (hB8.mono HB4.out.size))
        clear hB8
        go_wp2_with fail
        go_ret
        exact ⟨rfl, HA.out.trans (HB8.out.mono HA.out.size)⟩
end
section
open Go.RowKit Go.ChangeShapes Go.WideShapes Go.ChangeAt

namespace may10
set_option maxRecDepth 100000 in
theorem lifted (os : Os) (started : os.Started) (H : Type) (enc : TypeId × Value → H) :
    ReturnsInHanded {} Tryz.checked os 3 .any (Rows.msgMaySpec.pre6 enc Tryz.prog Tryz.f3 Rows.msgMayRow.domain false) (Rows.msgMaySpec.post enc Tryz.prog Tryz.f3 false true false false) := by
  refine returnsInHanded_of_change_sized (C := Tryz.checked) own started (by kernel_rfl) Tryz.func3
    (ChangeSpec.witness6 (enc := enc) (C := Tryz.checked) false ⟨#[], #[.agg (msgA (zeroM 0) (.slice none 0 0)), .agg (msgA (zeroM 0) (.slice none 0 0))], []⟩ 8 (by kernel_rfl) (by kernel_rfl) (by kernel_rfl) (by kernel_rfl)) ?_
  intro W base args ds gs before hval0 hW hcnd hsz _
  have hval : ∀ (j : Nat) t v, Tryz.f3.params[j]? = some t → args[j]? = some v → Value.okWide Tryz.prog W .any base t v := hval0
  have hW' := hW
  obtain ⟨p, q, hA0, hV, rfl, hfz, hnd⟩ := hW
  have hA : DataW.TrodAll enc Tryz.prog W 0 (fun _ => true) true Tryz.f3.params.toList args.toList ds p := hA0
  have hsz2 : ∀ (j : Nat) (t : TypeId) (d : DataW H), Tryz.f3.params.toList[j]? = some t → ds[j]? = some d → ∀ n ∈ d.weights Tryz.prog t, n ≤ 140737488351232 := fun j t d ht hd n hn => by
    have h1 := List.all_eq_true.1 hsz n (DataW.weights_mem_each (j := j) (t := t) (d := d) (by rw [List.getElem?_append_left (List.getElem?_eq_some_iff.1 ht).1]; exact ht) (by rw [List.getElem?_append_left (List.getElem?_eq_some_iff.1 hd).1]; exact hd) n hn)
    have h2 : n ≤ reachBytes := by simpa using h1
    have h3 : reachBytes = 140737488351232 := rfl
    omega
  rw [Tryz.params3] at hA hval hsz2
  obtain ⟨v0, vs0, d0, ds0, p0, q0, hargs, rfl, rfl, h0, r0⟩ := trodAll_cons hA
  obtain ⟨v1, vs1, d1, ds1, p1, q1, rfl, rfl, rfl, h1, r1⟩ := trodAll_cons r0
  obtain ⟨rfl, rfl, rfl⟩ := trodAll_nil r1
  obtain rfl : args = #[v0, v1] := by cases args; simp_all
  obtain ⟨rfl, rfl⟩ := trodVars_none hV
  have k0 := h0
  have lt0 : ∀ x ∈ p0, x.block < W.heap.size := by obtain ⟨m, hm⟩ := k0; exact DataW.trod_lt m _ _ _ hm
  obtain ⟨mg0, pv0, rfl, ok0, src0, wt0, wv0⟩ := rmsg_of_trod (hval 0 35 v0 rfl rfl) h0
  have sz0 : mg0.item.val.length ≤ 140737488351232 := hsz2 0 35 d0 rfl rfl _ wt0
  obtain ⟨ao0, cp0, hp0, _, _⟩ := src0.shape
  subst hp0
  have k1 := h1
  have lt1 : ∀ x ∈ p1, x.block < W.heap.size := by obtain ⟨m, hm⟩ := k1; exact DataW.trod_lt m _ _ _ hm
  obtain ⟨mg1, pv1, rfl, ok1, src1, wt1, wv1⟩ := rmsg_of_trod (hval 1 35 v1 rfl rfl) h1
  have sz1 : mg1.item.val.length ≤ 140737488351232 := hsz2 1 35 d1 rfl rfl _ wt1
  obtain ⟨ao1, cp1, hp1, _, _⟩ := src1.shape
  subst hp1
  clear hA0 hval0
  refine (walkM10 mg_do mg0 mg1 ao0 ao1 cp0 cp1 W ok0 ok1 src0 src1 (by omega) (by omega) wv0).mono fun e W' ⟨he, bel⟩ => ?_
  subst he
  exact ⟨_, rfl, _, _, _, [], _, [], hW', trodAll_mk1 (shut_bool Tryz.underlying4 _), (trodAll_cons_mk (Below.trod laidOut (by kernel_rfl) (of_decide_eq_true (by kernel_rfl)) k0 bel lt0) (trodAll_cons_mk (Below.trod laidOut (by kernel_rfl) (of_decide_eq_true (by kernel_rfl)) k1 bel lt1) trodAll_mk0)), rfl, bel.frame _, fun h => by cases h⟩

theorem over : Rows.msgMayRow.holds Tryz.pinned (OpenSpec.ofChange Rows.msgMaySpec) :=
  OpenClaim.holds_of_wide 3 Tryz.f3 rfl rfl rfl rfl rfl rfl rfl ⟨rfl, rfl, rfl, rfl, rfl⟩ rfl rfl rfl rfl rfl (by kernel_rfl) Tryz.func3 (by kernel_rfl)
    (of_decide_eq_true (by kernel_rfl)) (by unfold Func.isWrapper; first | (rw [if_pos (by decide +kernel)]; kernel_rfl) | (rw [if_neg (by decide +kernel)]; exact ⟨rfl, rfl⟩))
    (fun os started H enc _ => lifted os started H enc)
end may10

/-- THE STATEMENT. -/
theorem msgMay_holds : Rows.MsgMaySaid := may10.over
#print axioms msgMay_holds
end
end Go.Proofs.YtoppdelljjapoaaGreat
