/-
  Own texts put together: RpMay. Own work.
-/
import Derived.Test.YtlegliimgjmphaaGreatG33
import Derived.Shelf.Abstract
import Derived.Shelf.RegionOpen
import Derived.WalkKit
import Derived.OwnWalkIn
import Derived.TacticsInMore
import Derived.LoopNIn
import Derived.LoopIn
namespace Go.Proofs.YtlegliimgjmphaaGreat
section
open Go.RowKit Go.Shelf Classical
attribute [local go_sem] Oper.semAt_some
section StoreIn
variable {F : Fence} {n : Nat} {P : Program} {ops : Array Oper} {Q : Exit → Act → World → Prop} {rest : List Oper} {op : Oper} {a : Act} {w : World}
theorem wpIn_store_boxR {t t0 : TypeId} (hgd : op.guard = none) (hdst : op.dst = none) (x y : Operand) (ho : op.op = .store t x y)
  (p : Nat) (hx : a.eval x = .pointer (some ⟨p, 0, none⟩)) {cs cs' : Array Value} (hy : a.eval y = .agg cs') (hb : Box w p cs t0) (hsz : cs.size = cs'.size) (hi : (P.info? t).map (·.size) = some cs'.size) (h1 : cs'.all (·.oneCell') = true)
  (h : ∀ w', Box w' p cs' t0 → KeepBut (fun k => k = p) w w' → wpListIn F n P ops Q rest a w') : wpListIn F n P ops Q (op :: rest) a w := by
 refine wpListIn_plain hgd fun K hK => ?_
 have hr := run_storeVar_row (P := P) w p t0 t cs cs' hb hi hsz h1
 unfold Oper.wpIn
 refine ⟨by simp [Oper.about, ho], ?_⟩
 rw [Oper.semAt_plain F _ _ (by rw [ho]; intro c hc'; cases hc')]
 unfold execOp
 simp only [ho, hx, hy, Instr.storeAt, Instr.sureAddr, Sem.run_bind, Sem.run_pure, Result.andThen_ok, hr]
 show K (a.put op.dst undef) _
 rw [hdst]
 refine hK _ _ (h _ ?_ ?_)
 ·exact setRow_heap w p cs cs' t0 (0, 0) hb
 ·exact ⟨rfl, rfl, rfl, by simp [World.setRow], fun k _ hS => setRow_other w p k cs' hS⟩
end StoreIn
theorem en_iter : ∀ args w, (callFunc 108 args).run Tryz.prog w = .ok (.enter 108 args) w := enters_of Tryz.func108 (by kernel_rfl) rfl
theorem fieldsIn11_any (q : Nat) (w : World) : Calls Tryz.prog 80 #[.pointer (some ⟨q, 0, none⟩)] w fun e w' => e = .returned (.func (.func 108) #[] #[.pointer (some ⟨w.heap.size, 0, none⟩)]) ∧ w' = w.alloc (.cells #[.pointer (some ⟨q, 0, none⟩)] 133) := by
 have hmf := make_fn
 go_enter Tryz.func80, Tryz.ntmps80
 go_wp2_with fail
 go_ret
 exact ⟨rfl, rfl⟩
theorem results_bool {fn : Func} {q : Tmp} (h : fn.results = #[.cell q 4]) (tmps : Array Value) (w : World) (p : Nat) (b : Bool) (hq : tmps.getD q undef = .pointer (some ⟨p, 0, none⟩)) (hb : Box w p #[.bool b] 4) : (results fn tmps).run Tryz.prog w = .ok (.bool b) w := by
 have hc := hb.cell 0 _ rfl
 have hq' : tmps[q]?.getD undef = .pointer (some ⟨p, 0, none⟩) := by rw [← Array.getD_eq_getD_getElem?]; exact hq
 simp only [results, h]
 simp [go_sem, hq', asAddr, hc]
theorem vf_inj {a : Array Value} {fs : List Value} {b b' : Bool} (h : (#[.agg a, .bool b] : Array Value) = #[.agg fs.toArray, .bool b']) : fs = a.toList ∧ b = b' := by
 have h1 : Value.agg a = Value.agg fs.toArray := congrArg (fun x : Array Value => x.getD 0 undef) h
 have h2 : Value.bool b = Value.bool b' := congrArg (fun x : Array Value => x.getD 1 undef) h
 injection h1 with h1
 injection h2 with h2
 exact ⟨by rw [h1], h2⟩
def okRn (m : RecP) (j : Nat) : Bool := if (fieldsR m.kind).contains j then mayRf m j else zeroRB j m
theorem mayR_iff {m : RecP} (h : fieldsR m.kind ≠ []) : mayR m = true ↔ ∀ j, j < 8 → okRn m j = true := by
 unfold mayR keptR
 have he : (fieldsR m.kind).isEmpty = false := by
  cases hf : fieldsR m.kind with
  | nil => exact absurd hf h
  | cons a l => rfl
 rw [he, Bool.not_false, Bool.true_and, Bool.and_eq_true, List.all_eq_true, List.all_eq_true]
 constructor
 ·rintro ⟨h1, h2⟩ j hj
  unfold okRn
  split
  ·rename_i hc
   exact h2 j (by simpa using hc)
  ·rename_i hc
   have := h1 j (List.mem_range.2 hj)
   rw [Bool.or_eq_true] at this
   rcases this with e | e
   ·exact absurd e hc
   ·exact e
 ·intro hj
  refine ⟨fun g hg => ?_, fun f hf => ?_⟩
  ·have := hj g (List.mem_range.1 hg)
   unfold okRn at this
   rw [Bool.or_eq_true]
   by_cases hc : (fieldsR m.kind).contains g = true
   ·exact .inl hc
   ·rw [if_neg hc] at this
    exact .inr this
  ·have := hj f ((fieldsR_facts m.kind).2 f hf)
   unfold okRn at this
   rw [if_pos (by simpa using hf)] at this
   exact this
theorem mayR_no11 {m : RecP} {j : Nat} (hj : j < 8) (h : okRn m j = false) : mayR m = false := by
 cases hq : mayR m with
 | false => rfl
 | true =>
  by_cases hf : fieldsR m.kind = []
  ·unfold mayR at hq
   rw [hf] at hq
   cases hq
  ·have := (mayR_iff hf).1 hq j hj
   rw [h] at this
   cases this
set_option maxRecDepth 100000 in
set_option maxHeartbeats 1600000 in
theorem pmay11_any {w : World} {v : Value} {m : RecP} (hm : RecOk m) (hv : RcLies w v m) : Calls Tryz.prog 78 #[v] w fun e w' => e = .returned (.bool (mayR m)) ∧ Below w.heap.size w w' := by
 obtain ⟨ao, bo, c, d, rfl, hs, hl⟩ := hv
 have hX := (box_new w (recA m (.slice ao m.wr.length c) (.slice bo m.mis.length d)) 87).belowI (alloc_below10 _ (.cells #[.bool false] 4))
 have hY := box_new (w.alloc (.cells (recA m (.slice ao m.wr.length c) (.slice bo m.mis.length d)) 87)) #[.bool false] 4
 rw [World.size_alloc] at hY
 have hA := ((Below.refl w.heap.size w).alloc (Nat.le_refl _) (.cells (recA m (.slice ao m.wr.length c) (.slice bo m.mis.length d)) 87)).alloc (by simp) (.cells #[.bool false] 4)
 obtain ⟨w1, hw1⟩ : ∃ w1, w1 = (w.alloc (.cells (recA m (.slice ao m.wr.length c) (.slice bo m.mis.length d)) 87)).alloc (.cells #[.bool false] 4) := ⟨_, rfl⟩
 rw [← hw1] at hA hX hY
 have HX := hide hX
 have HY := hide hY
 have HA := hide hA
 have x0 := hX.cell 0 _ rfl
 have y0 := hY.cell 0 _ rfl
 have y1 := hY.frozen 0
 have hW := hw1.symm
 have C1 := hide (kindMay_any m.kind w1)
 obtain ⟨kb, hkb⟩ : ∃ kb, kb = kindB m.kind := ⟨_, rfl⟩
 rw [← hkb] at C1
 have HKB := hide hkb
 clear hA hX hY hw1 hkb
 refine callsIn_wide.1 (callsIn_of_wp_marks (n := 0) Tryz.func78 rfl trivial (wpIn_wide.2 ?_) rfl)
 simp only [Tryz.ntmps78, List.size_toArray, List.length_cons, List.length_nil, Nat.reduceAdd, Nat.reduceSub, Array.replicate_succ, Array.replicate_zero, List.push_toArray, List.append_toArray, List.nil_append, List.cons_append]
 go_wp2_with fail
 refine C1.out.mono ?_
 rintro e w2 ⟨rfl, rfl⟩
 cases kb with
 | false =>
  have HE : Hid (mayR m = false) := hide (by
   unfold mayR
   rw [← kindB_fields, ← HKB.out, Bool.false_and, Bool.false_and])
  go_wp2_with fail
  refine ⟨_, results_bool rfl _ _ (w.heap.size + 1) false rfl (HY.out.set (i := 0) (v := .bool false)), by rw [HE.out], ?_⟩
  exact HA.out.setCell (p := ⟨w.heap.size + 1, 0, none⟩) (by simp) _
 | true =>
  have HM := hide hm
  have HS := hide (hs.below HA.out)
  have HL := hide (hl.below HA.out)
  clear hm hs hl C1
  go_wp2_with fail
  refine (fieldsIn11_any w.heap.size w2).mono ?_
  rintro e w3 ⟨rfl, hw3⟩
  have hA3 := alloc_below10 w2 (.cells #[.pointer (some ⟨w.heap.size, 0, none⟩)] 133)
  have hb3 := box_new w2 #[.pointer (some ⟨w.heap.size, 0, none⟩)] 133
  rw [← hw3] at hA3 hb3
  have HA3 := hide hA3
  have HB3 := hide hb3
  have HX3 := hide (HX.out.belowI hA3)
  have HY3 := hide (HY.out.belowI hA3)
  have HS3 := hide (HS.out.below hA3)
  have HL3 := hide (HL.out.below hA3)
  have hlq := HX3.out.lt
  have hly := HY3.out.lt
  have HBW := hide (HA.out.trans (hA3.mono HA.out.size))
  obtain ⟨br, hbr⟩ : ∃ br, br = w2.heap.size := ⟨_, rfl⟩
  rw [← hbr] at HB3 ⊢
  clear hA3 hb3 hw3 HX HY HS HL x0 y0 y1 hW hbr
  go_wp2_with fail
  refine wpIn_wide.1 (wpIn_range11 (n := 0) (N := 8) (V := VF m.kind w.heap.size) (Pre := fun A => Box A br #[.pointer (some ⟨w.heap.size, 0, none⟩)] 133) rfl en_iter
   (fun W _ hB => iter_gives w.heap.size br m.kind W (HB3.out.belowI hB) ((hB.cell (p := ⟨w.heap.size, 0, none⟩) hlq).trans (HX3.out.cell 0 _ rfl)) (Nat.lt_of_lt_of_le hlq hB.size))
   (fun k H A vs ⟨fs, e, _⟩ => by rw [e]; rfl) (fun k H A A' vs ⟨fs, e, hf⟩ hc => ⟨fs, e, hf.calm hc⟩)
   (fun k A => Below w3.heap.size w3 A ∧ ∀ j, j < k → okRn m j = true)
   (fun A => Below w.heap.size w A ∧ Box A (w.heap.size + 1) #[.bool false] 4 ∧ mayR m = false)
   (fun k A A' h hc => ⟨h.1.trans (hc.below (Nat.le_refl _) h.1.size), h.2⟩)
   (fun A A' h hc => ⟨h.1.trans (hc.below (by have := HBW.out.size; omega) h.1.size), hc.box h.2.1, h.2.2⟩)
   (fun k A h => HB3.out.belowI h.1) ⟨Below.refl _ _, fun j h => absurd h (Nat.not_lt_zero _)⟩
   (fun vs a' A => ∃ bf f0 f1 f2 f3 c0 c1 c2 c3 b, vs = #[.agg #[.func f0 #[] c0, .func f1 #[] c1, .func f2 #[] c2, .func f3 #[] c3], .bool b] ∧ Box A bf #[.func f0 #[] c0, .func f1 #[] c1, .func f2 #[] c2, .func f3 #[] c3] 137 ∧ a' = { tmps := #[.agg (recA m (.slice ao m.wr.length c) (.slice bo m.mis.length d)), .pointer (some ⟨w.heap.size, 0, none⟩), .pointer (some ⟨w.heap.size + 1, 0, none⟩), .pointer (some ⟨bf, 0, none⟩), .bool b, .pointer (some ⟨w.heap.size, 0, none⟩), .int .u8 (m.kind : Int), .bool true, .bool false, .func (.func 108) #[] #[.pointer (some ⟨br, 0, none⟩)], .agg #[.func f0 #[] c0, .func f1 #[] c1, .func f2 #[] c2, .func f3 #[] c3], .bool b, undef, undef, undef, undef, undef, undef, undef, undef, undef, undef, undef, undef, undef, undef, undef, undef, undef], defers := [] })
   (fun vs a' A A' ⟨bf, f0, f1, f2, f3, c0, c1, c2, c3, b, e, hb, ha⟩ hc => ⟨bf, f0, f1, f2, f3, c0, c1, c2, c3, b, e, hc.box hb, ha⟩) ?assign ?body ?done ?stop)
  case assign =>
   rintro l k vs A K ⟨fs, rfl, hf⟩ hK
   obtain ⟨f0, f1, f2, f3, c0, c1, c2, c3, rfl⟩ := hf.fns
   have HZ := hide (box_new A #[.nilFunc, .nilFunc, .nilFunc, .nilFunc] 137)
   have HBA := hide (alloc_below10 A (.cells #[.nilFunc, .nilFunc, .nilFunc, .nilFunc] 137))
   have HIF := hide infoFld
   clear hf
   generalize (fieldsR m.kind).contains k = cb at *
   gi_wp2_with (refine wpIn_store_boxR rfl rfl _ _ rfl A.heap.size rfl (cs' := #[.func f0 #[] c0, .func f1 #[] c1, .func f2 #[] c2, .func f3 #[] c3]) rfl HZ.out rfl HIF.out (fld_one _ _ _ _ _ _ _ _) ?_; intro w4 hb4 hk4; have HB4 := hide hb4; have HK4 : Hid (Below A.heap.size A w4) := hide (HBA.out.trans (hk4.below HBA.out.size (fun k e => by omega))); clear hb4 hk4)
   exact hK _ _ HK4.out ⟨A.heap.size, f0, f1, f2, f3, c0, c1, c2, c3, _, rfl, HB4.out, rfl⟩
  case body =>
   rintro l k vs a' A hk hsz hI ⟨fs, e1, hf⟩ ⟨bf, f0, f1, f2, f3, c0, c1, c2, c3, b, rfl, hb, rfl⟩
   obtain ⟨rfl, rfl⟩ := vf_inj e1
   have hbx := HX3.out.belowI hI.1
   have hS := HS3.out.below hI.1
   have hL := HL3.out.below hI.1
   have HI := hide hI
   have z0 := hb.cell 0 _ rfl
   have z1 := hb.cell 1 _ rfl
   have hyb := HY3.out.belowI hI.1
   have y0 := hyb.cell 0 _ rfl
   have y1 := hyb.frozen 0
   cases hc : (fieldsR m.kind).contains k with
   | true =>
    obtain ⟨f, cap, e2, he, hC⟩ := hf.may_any HM.out hbx hS hL hk
    have HOK : Hid (okRn m k = mayRf m k) := hide (by unfold okRn; rw [if_pos hc])
    cases e2
    have HC := hide hC
    unfold FnOk at he
    clear hC hc hbx hS hL hf hI
    gi_wp2_with fail
    refine ⟨trivial, rfl, (CallsIn.inRound l (callsIn_wide.2 HC.out)).mono ?_⟩
    rintro e w6 ⟨rfl, hB6⟩
    have HB6 := hide hB6
    have y06 := (hyb.belowI hB6).cell 0 _ rfl
    have y16 := (hyb.belowI hB6).frozen 0
    have HYB := hide (hyb.belowI hB6)
    clear hB6 HC he y0 y1 hyb z0 z1 hb
    cases hv : mayRf m k with
    | false =>
     have HE : Hid (mayR m = false) := hide (mayR_no11 hk (by rw [HOK.out, hv]))
     clear hv
     gi_wp2_with fail
     all_goals (try exact absurd ‹some undef = some (Value.bool _)› (by simp [undef]))
     refine ⟨fun _ h => (by cases h), ?_⟩
     gi_wp2_with fail
     refine ⟨(KeepBut.of_below _ HB6.out).setCell (p := ⟨w.heap.size + 1, 0, none⟩) (.inl (.inl hly)) _, ?_, HYB.out.set (i := 0) (v := .bool false), HE.out⟩
     have h1 : Below w.heap.size w w6 := (HBW.out.trans (HI.out.1.mono HBW.out.size)).trans (HB6.out.mono (Nat.le_trans HBW.out.size HI.out.1.size))
     exact h1.setCell (p := ⟨w.heap.size + 1, 0, none⟩) (Nat.le_succ _) _
    | true =>
     have HT2 : Hid (∀ j, j < k + 1 → okRn m j = true) := hide (fun j hj => by
      rcases Nat.lt_or_ge j k with h | h
      ·exact HI.out.2 j h
      ·obtain rfl : j = k := by omega
       rw [HOK.out, hv])
     clear hv
     gi_wp2_with fail
     refine ⟨fun _ h => (by cases h), ?_⟩
     gi_wp2_with fail
     exact ⟨KeepBut.of_below _ HB6.out, HI.out.1.trans (HB6.out.mono HI.out.1.size), HT2.out⟩
   | false =>
    obtain ⟨f, cap, e2, he, hC⟩ := hf.none_any HM.out hbx hk
    have HOK : Hid (okRn m k = zeroRB k m) := hide (by unfold okRn; rw [if_neg (by rw [hc]; simp)])
    cases e2
    have HC := hide hC
    unfold FnOk at he
    clear hC hc hbx hS hL hf hI
    gi_wp2_with fail
    refine ⟨fun _ h => (by cases h), ?_⟩
    gi_wp2_with fail
    refine ⟨trivial, rfl, (CallsIn.inRound l (callsIn_wide.2 HC.out)).mono ?_⟩
    rintro e w6 ⟨rfl, hB6⟩
    have HB6 := hide hB6
    have y06 := (hyb.belowI hB6).cell 0 _ rfl
    have y16 := (hyb.belowI hB6).frozen 0
    have HYB := hide (hyb.belowI hB6)
    clear hB6 HC he y0 y1 hyb z0 z1 hb
    cases hv : zeroRB k m with
    | false =>
     have HE : Hid (mayR m = false) := hide (mayR_no11 hk (by rw [HOK.out, hv]))
     clear hv
     gi_wp2_with fail
     refine ⟨(KeepBut.of_below _ HB6.out).setCell (p := ⟨w.heap.size + 1, 0, none⟩) (.inl (.inl hly)) _, ?_, HYB.out.set (i := 0) (v := .bool false), HE.out⟩
     have h1 : Below w.heap.size w w6 := (HBW.out.trans (HI.out.1.mono HBW.out.size)).trans (HB6.out.mono (Nat.le_trans HBW.out.size HI.out.1.size))
     exact h1.setCell (p := ⟨w.heap.size + 1, 0, none⟩) (Nat.le_succ _) _
    | true =>
     have HT2 : Hid (∀ j, j < k + 1 → okRn m j = true) := hide (fun j hj => by
      rcases Nat.lt_or_ge j k with h | h
      ·exact HI.out.2 j h
      ·obtain rfl : j = k := by omega
       rw [HOK.out, hv])
     clear hv
     gi_wp2_with fail
     exact ⟨KeepBut.of_below _ HB6.out, HI.out.1.trans (HB6.out.mono HI.out.1.size), HT2.out⟩
  case done =>
   rintro D W hD hI hK
   have HE : Hid (mayR m = true) := hide ((mayR_iff (fun h => by have := kindB_fields m.kind; rw [h, ← HKB.out] at this; cases this)).2 (fun j hj => hI.2 j hj))
   have HI := hide hI
   have hyb := HY3.out.belowI hI.1
   have y0 := hyb.cell 0 _ rfl
   have y1 := hyb.frozen 0
   have HYB := hide hyb
   have hK2 : (W.setCell ⟨w.heap.size + 1, 0, none⟩ (.bool true)).heap[D]? = some (.deferred (some [])) := (KeepsOthers.setCell W ⟨w.heap.size + 1, 0, none⟩ (.bool true)).same D _ hK rfl
   clear hI hyb
   go_wp2_with fail
   refine ⟨by simp, .inl ⟨_, _, rfl, run_takeDeferred hK2, ?_⟩⟩
   have hcm := Calm.putObj (B := w.heap.size) hK2 rfl (by have := HBW.out.size; omega) (.deferred none)
   refine ⟨_, results_bool rfl _ _ (w.heap.size + 1) true rfl (hcm.box (HYB.out.set (i := 0) (v := .bool true))), by rw [HE.out], ?_⟩
   have h1 : Below w.heap.size w W := HBW.out.trans (HI.out.1.mono HBW.out.size)
   have h2 : Below w.heap.size w (W.setCell ⟨w.heap.size + 1, 0, none⟩ (.bool true)) := h1.setCell (p := ⟨w.heap.size + 1, 0, none⟩) (Nat.le_succ _) _
   exact h2.trans (hcm.below (Nat.le_refl _) h2.size)
  case stop =>
   rintro D W hD hI hK
   have HI := hide hI
   clear hI
   refine wpIn_wide.2 ?_
   go_wp2_with fail
   refine ⟨by simp, .inl ⟨_, _, rfl, run_takeDeferred hK, ?_⟩⟩
   have hcm := Calm.putObj (B := w.heap.size) hK rfl (by have := HBW.out.size; omega) (.deferred none)
   exact ⟨_, results_bool rfl _ _ (w.heap.size + 1) false rfl (hcm.box HI.out.2.1), by rw [HI.out.2.2], HI.out.1.trans (hcm.below (Nat.le_refl _) HI.out.1.size)⟩
end
end Go.Proofs.YtlegliimgjmphaaGreat
