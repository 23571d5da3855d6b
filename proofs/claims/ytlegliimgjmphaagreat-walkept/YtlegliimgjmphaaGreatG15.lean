/-
  Own texts put together: WlAct, MpReg, RgReg, RgLaw, IdVals. Own work.
-/
import Derived.Test.YtlegliimgjmphaaGreatG13
import Derived.Test.YtlegliimgjmphaaGreatG14
import Derived.Test.YtlegliimgjmphaaGreatG03
import Derived.Test.YtlegliimgjmphaaGreatG01
import Derived.Test.YtlegliimgjmphaaGreatG05
import Derived.OrdersIn
import Derived.RangeFuncNested
import Derived.Laws.StructEq
namespace Go.Proofs.YtlegliimgjmphaaGreat
section
open Go.RowKit
structure WalDo (D : World → Nat → (Nat → Prop) → Dk → Prop) : Prop where
 dsk : DiskDo D
 enc : EncOK
 dec : DecOK
 put : PutOK
 siz : SizeOK
 scn : ScanOK
theorem LogI.rea {d : Dk} {f p : List RecP} (h : LogI d f p) : reaB d = framesR (f ++ p) := by
 unfold reaB
 rw [h.on, h.b, h.bs]
 simp
theorem logI_open {d : Dk} {f p : List RecP} (h : LogI d f p) : (recsF (reaB d)).1 = f ++ p ∧ opnD d = d := by
 unfold opnD
 rw [h.rea, recs_whole h.good]
 refine ⟨rfl, if_neg (Nat.lt_irrefl _)⟩
theorem logI_room (n : Nat) (h1 : 1 ≤ n) (h2 : n ≤ 65536) : LogI (newD n) [] [] := ⟨newD_ok _ h1 h2, rfl, rfl, rfl, rfl, rfl, rfl, fun m hm => by cases hm⟩
def bootM : RecP := { zeroR 1 with n := 1 }
theorem boot_ok : RecOk bootM := ⟨by decide, by decide, by decide, by decide, by decide, (fun x hx => by cases hx), (fun x hx => by cases hx), ⟨by decide, by decide⟩, ⟨by decide, by decide, ⟨by decide, by decide, by decide, by decide, by decide⟩⟩⟩
theorem boot_may : mayR bootM = true := by decide
theorem boot_len : (framesR [bootM]).length = 10 := by
 have h : encRec bootM = [1, 1] := by decide
 rw [framesR_cons, List.length_append, frR_len, h]
 rfl
theorem boot_app : wapA (newD 200) [bootM] = 0 := by
 unfold wapA
 rw [if_pos (by decide)]
 unfold appA
 rw [boot_len]
 rfl
theorem wact_shape {W : World} {a : WAct} (h : WaOk W a) : ∃ ro rc to tc, a.rv = .slice ro a.recs.length rc ∧ a.tv = .slice to a.tail.length tc := by
 obtain ⟨ro, rc, e1, _⟩ := h.src.shape
 obtain ⟨to, tc, e2⟩ := h.tl.shape
 exact ⟨ro, rc, to, tc, e1, e2⟩
theorem RvOk.below {w w' : World} {a : RecV} (h : RvOk w a) (hB : Below w.heap.size w w') : RvOk w' a := ⟨h.ok, h.src.below hB, h.lie.below hB, h.iv, h.wv⟩
theorem WaOk.below {w w' : World} {a : WAct} (h : WaOk w a) (hB : Below w.heap.size w w') : WaOk w' a := ⟨h.kind, h.src.below hB, fun r hr => (h.ok r hr).below hB, h.f, h.k, h.tl.below hB, h.by8⟩
section
variable {D : World → Nat → (Nat → Prop) → Dk → Prop}
set_option maxRecDepth 100000 in
set_option maxHeartbeats 3200000 in
theorem wdoes_any (H : WalDo D) {w : World} {p q : Nat} {F : Nat → Prop} {d : Dk} (h : WL D w p q F d) (hbl : d.bs.length ≤ 100000000) (a : WAct) (ha : WaOk w a) (hl : a.recs.length ≤ 8) :
  Calls Tryz.prog 16 #[.pointer (some ⟨p, 0, none⟩), .agg (wactA a)] w fun e w' => e = .returned (.int .i64 (wacA d (a.kind % 7) (rows a.recs) a.keep)) ∧ WDid D w w' p q F (wacD d (a.kind % 7) (rows a.recs) a.keep) := by
 obtain ⟨ro, rc, to, tc, e1, e2⟩ := wact_shape ha
 obtain ⟨kind, recs, fuse, keep, cut, tail, rv, tv⟩ := a
 dsimp only at e1 e2 hl
 subst e1; subst e2
 have hk := ha.kind
 dsimp only at hk
 have hkp := ha.k
 dsimp only at hkp
 have hB0 := alloc_below12 w (.cells (wactA ⟨kind, recs, fuse, keep, cut, tail, .slice ro recs.length rc, .slice to tail.length tc⟩) 46)
 have HB0 := hide hB0
 have HW0 := hide (h.below H.dsk hB0)
 have HS0 : Hid (RSrc recVE (w.alloc (.cells (wactA ⟨kind, recs, fuse, keep, cut, tail, .slice ro recs.length rc, .slice to tail.length tc⟩) 46)) (.slice ro recs.length rc) recs) := hide (ha.src.below hB0)
 have HO0 : Hid (∀ r ∈ recs, RvLie (w.alloc (.cells (wactA ⟨kind, recs, fuse, keep, cut, tail, .slice ro recs.length rc, .slice to tail.length tc⟩) 46)) r) := hide (fun r hr => ((ha.ok r hr).below hB0).lies)
 have HSL : Hid (∀ r ∈ recs, SlOk r) := hide (fun r hr => (ha.ok r hr).sl)
 have hrem : (kind : Int).tmod 7 = ((kind % 7 : Nat) : Int) := by
  rw [Int.tmod_eq_emod_of_nonneg (by omega)]; omega
 have HAK : Hid (∀ r, wacA d r (rows recs) keep = if r = 1 then forA d else if r = 2 then agnA d (rows recs) else if r = 5 then cutA d (plcW d keep) else if r = 6 then cutA d (plcW d keep) else if r = 4 then 0 else wapA d (rows recs)) := hide (fun _ => rfl)
 have HDK : Hid (∀ r, wacD d r (rows recs) keep = if r = 1 then forD d else if r = 2 then agnD d (rows recs) else if r = 5 then cutD d (plcW d keep) else if r = 6 then triD d (plcW d keep) else if r = 4 then d else wapD d (rows recs)) := hide (fun _ => rfl)
 have hr7 : kind % 7 < 7 := Nat.mod_lt _ (by decide)
 dsimp only
 generalize kind % 7 = r at *
 clear h ha hB0
 have hcs : r = 1 ∨ r = 5 ∨ r = 6 ∨ r = 4 ∨ r = 2 ∨ (r = 0 ∨ r = 3) := by omega
 clear hr7
 rcases hcs with rfl | rfl | rfl | rfl | rfl | hr
 ·have HA := hide (HAK.out 1)
  have HD := hide (HDK.out 1)
  simp only [if_true] at HA HD
  clear HAK HDK
  go_enter Tryz.func16, Tryz.ntmps16
  go_wp2_with fail
  refine (wforce_any H.dsk HW0.out).mono ?_
  rintro e w1 ⟨rfl, h1⟩
  have H1 := hide (WDid.before HB0.out h1)
  clear h1
  go_wp2_with fail
  go_ret
  rw [HA.out, HD.out]
  exact ⟨rfl, H1.out⟩
 ·have HA := hide (HAK.out 5)
  have HD := hide (HDK.out 5)
  simp only [Nat.reduceEqDiff, if_true, if_false] at HA HD
  clear HAK HDK
  go_enter Tryz.func16, Tryz.ntmps16
  go_wp2_with fail
  refine (wdrop_any H.dsk HW0.out hbl keep hkp.1 hkp.2).mono ?_
  rintro e w1 ⟨rfl, h1⟩
  have H1 := hide (WDid.before HB0.out h1)
  clear h1
  go_wp2_with fail
  go_ret
  rw [HA.out, HD.out]
  exact ⟨rfl, H1.out⟩
 ·have HA := hide (HAK.out 6)
  have HD := hide (HDK.out 6)
  simp only [Nat.reduceEqDiff, if_true, if_false] at HA HD
  clear HAK HDK
  go_enter Tryz.func16, Tryz.ntmps16
  go_wp2_with fail
  refine (wtrim_any H.dsk HW0.out hbl keep hkp.1 hkp.2).mono ?_
  rintro e w1 ⟨rfl, h1⟩
  have H1 := hide (WDid.before HB0.out h1)
  clear h1
  go_wp2_with fail
  go_ret
  rw [HA.out, HD.out]
  exact ⟨rfl, H1.out⟩
 ·have HA := hide (HAK.out 4)
  have HD := hide (HDK.out 4)
  simp only [Nat.reduceEqDiff, if_true, if_false] at HA HD
  clear HAK HDK
  go_enter Tryz.func16, Tryz.ntmps16
  go_wp2_with fail
  go_ret
  rw [HA.out, HD.out]
  exact ⟨rfl, F, HW0.out, KeepBut.of_below F HB0.out, fun k hk => .inl hk⟩
 ·have HA := hide (HAK.out 2)
  have HD := hide (HDK.out 2)
  simp only [Nat.reduceEqDiff, if_true, if_false] at HA HD
  clear HAK HDK
  go_enter Tryz.func16, Tryz.ntmps16
  go_wp2_with fail
  refine (theirs12_any _ recs _ HS0.out HSL.out (by omega)).mono ?_
  rintro e w1 ⟨v1, rfl, ho1, hB1⟩
  have HR1 := hide (RSrc.of_own ho1)
  have HO1 : Hid (∀ r ∈ recs, RvLie w1 r) := hide (fun r hr => (HO0.out r hr).below hB1)
  have HW1 := hide (HW0.out.below H.dsk hB1)
  have HB1 := hide (HB0.out.trans (hB1.mono HB0.out.size))
  obtain ⟨a1, c1, e1, _⟩ := owns_shapeR ho1
  subst e1
  clear ho1 hB1
  go_wp2_with fail
  refine (wagain_any H.dsk H.enc H.put HW1.out hbl _ recs HR1.out HO1.out (by omega)).mono ?_
  rintro e w2 ⟨rfl, h2⟩
  have H2 := hide (WDid.before HB1.out h2)
  clear h2
  go_wp2_with fail
  go_ret
  rw [HA.out, HD.out]
  exact ⟨rfl, H2.out⟩
 ·have HA : Hid (wacA d r (rows recs) keep = wapA d (rows recs)) := hide (by rw [HAK.out]; rcases hr with rfl | rfl <;> simp)
  have HD : Hid (wacD d r (rows recs) keep = wapD d (rows recs)) := hide (by rw [HDK.out]; rcases hr with rfl | rfl <;> simp)
  have n1 : ¬ r = 1 := by omega
  have n2 : ¬ r = 2 := by omega
  have n5 : ¬ r = 5 := by omega
  have n6 : ¬ r = 6 := by omega
  have n4 : ¬ r = 4 := by omega
  have b1 : ((r : Int) == 1) = false := by simp; omega
  have b2 : ((r : Int) == 2) = false := by simp; omega
  have b5 : ((r : Int) == 5) = false := by simp; omega
  have b6 : ((r : Int) == 6) = false := by simp; omega
  have b4 : ((r : Int) == 4) = false := by simp; omega
  clear HAK HDK hr n1 n2 n5 n6 n4
  go_enter Tryz.func16, Tryz.ntmps16
  go_wp2_with fail
  refine (theirs12_any _ recs _ HS0.out HSL.out (by omega)).mono ?_
  rintro e w1 ⟨v1, rfl, ho1, hB1⟩
  have HR1 := hide (RSrc.of_own ho1)
  have HO1 : Hid (∀ r ∈ recs, RvLie w1 r) := hide (fun r hr => (HO0.out r hr).below hB1)
  have HW1 := hide (HW0.out.below H.dsk hB1)
  have HB1 := hide (HB0.out.trans (hB1.mono HB0.out.size))
  obtain ⟨a1, c1, e1, _⟩ := owns_shapeR ho1
  subst e1
  clear ho1 hB1
  go_wp2_with fail
  refine (wappend_any H.dsk H.enc H.put HW1.out hbl _ recs HR1.out HO1.out (by omega)).mono ?_
  rintro e w2 ⟨rfl, h2⟩
  have H2 := hide (WDid.before HB1.out h2)
  clear h2
  go_wp2_with fail
  go_ret
  rw [HA.out, HD.out]
  exact ⟨rfl, H2.out⟩
end
end
section
open Go Go.RowKit
section
variable {P : Program} {ops : Array Oper} {Q : Exit → Act → World → Prop}
def dst? (ops : Array Oper) (i : Nat) : Option Tmp := (ops[i]?).bind (·.dst)
def valOf (ops : Array Oper) (a : Act) (i : Nat) : Value := match dst? ops i with
 | some d => a.tmps.getD d undef
 | none => undef
structure Now (ops : Array Oper) (listed : Array Bool) (i : Nat) (o : Oper) : Prop where
 un : listed.getD i true = false
 cl : ∀ (j : Nat) (u : Oper), ops[j]? = some u → listed.getD j true = true → ∀ e ∈ u.after, Region.binds .any e = true → listed.getD e.on true = true
 dl : ∀ e ∈ o.after, Region.binds .any e = true → listed.getD e.on true = true
def hangs (ops : Array Oper) : Nat → Nat → Nat → Bool
 | 0, _, _ => false
 | n + 1, j, i => match ops[j]? with
  | none => false
  | some u => u.after.any fun e => Region.binds .any e && (e.on == i || hangs ops n e.on i)
theorem unlisted_of {ops : Array Oper} {listed : Array Bool} {i : Nat} (hun : listed.getD i true = false) (hcl : ∀ (j : Nat) (u : Oper), ops[j]? = some u → listed.getD j true = true → ∀ e ∈ u.after, Region.binds .any e = true → listed.getD e.on true = true) : ∀ (n j : Nat), hangs ops n j i = true → listed.getD j true = false
 | 0, _, h => by cases h
 | n + 1, j, h => by
  unfold hangs at h
  cases hu : ops[j]? with
  | none => rw [hu] at h; cases h
  | some u =>
   rw [hu] at h
   simp only [Array.any_eq_true'] at h
   obtain ⟨e, he, h2⟩ := h
   rw [Bool.and_eq_true, Bool.or_eq_true] at h2
   cases hl : listed.getD j true with
   | false => rfl
   | true =>
    have h3 := hcl j u hu hl e he h2.1
    rcases h2.2 with h4 | h4
    ·have h4 : e.on = i := by simpa using h4
     rw [h4, hun] at h3
     cases h3
    ·rw [unlisted_of hun hcl n e.on h4] at h3
     cases h3
structure Each3 (ops : Array Oper) (I : Nat → Value → World → Prop) (S : Array Bool → World → Prop) (a0 : Act) (listed : Array Bool) (a : Act) (w : World) : Prop where
 s : S listed w
 sz : a.tmps.size = a0.tmps.size
 df : a.defers = a0.defers
 old : ∀ t, (∀ j, j < ops.size → dst? ops j ≠ some t) → a.tmps.getD t undef = a0.tmps.getD t undef
 new : ∀ i, i < ops.size → listed.getD i true = true → I i (valOf ops a i) w
 cl : ∀ (j : Nat) (u : Oper), ops[j]? = some u → listed.getD j true = true → ∀ e ∈ u.after, Region.binds .any e = true → listed.getD e.on true = true
theorem each_any3 (a0 : Act) (I : Nat → Value → World → Prop) (S : Array Bool → World → Prop) (R : Nat → World → World → Prop)
  (hdst : ∀ (i : Nat) (d : Tmp), dst? ops i = some d → d < a0.tmps.size)
  (hinj : ∀ i j d, i < ops.size → j < ops.size → dst? ops i = some d → dst? ops j = some d → i = j)
  (hac : ∀ (i : Nat) (o : Oper), ops[i]? = some o → ∀ e ∈ o.after, Region.binds .any e = true → e.on < i)
  (hI : ∀ i j v w w', i ≠ j → I j v w → R i w w' → I j v w')
  (hstep : ∀ (i : Nat) (o : Oper), ops[i]? = some o → ∀ (listed : Array Bool) (a : Act) (w : World), listed.size = ops.size → Now ops listed i o → S listed w → (∀ t, (∀ j, j < ops.size → dst? ops j ≠ some t) → a.tmps.getD t undef = a0.tmps.getD t undef) →
   (∀ e ∈ o.after, Region.binds .any e = true → I e.on (valOf ops a e.on) w) →
   wpOp P ops Q i (fun a' w' => S (listed.setIfInBounds i true) w' ∧ R i w w' ∧ ∃ v, I i v w' ∧ a' = a.put o.dst v ∧ (o.dst = none → v = undef)) a w)
  (hend : ∀ (listed : Array Bool) (a : Act) (w : World), (∀ i, i < ops.size → listed.getD i true = true) → S listed w → a.tmps.size = a0.tmps.size → a.defers = a0.defers → (∀ t, (∀ j, j < ops.size → dst? ops j ≠ some t) → a.tmps.getD t undef = a0.tmps.getD t undef) →
   (∀ i, i < ops.size → I i (valOf ops a i) w) → Q .normal a w) :
  ∀ (fuel : Nat) (listed : Array Bool) (a : Act) (w : World), listed.size = ops.size → openCount ops listed ≤ fuel → Each3 ops I S a0 listed a w → wpAny P .any ops Q fuel listed a w := by
 have hfin : ∀ (listed : Array Bool) (a : Act) (w : World), openCount ops listed = 0 → Each3 ops I S a0 listed a w → Q .normal a w := fun listed a w h0 hE =>
  hend listed a w (fun i hi => open_zero h0 hi) hE.s hE.sz hE.df hE.old fun i hi => hE.new i hi (open_zero h0 hi)
 have hready : ∀ (listed : Array Bool), listed.size = ops.size → Region.ready .any ops listed = [] → openCount ops listed = 0 := by
  intro listed hs hr
  have hall : ∀ n i, i < n → i < ops.size → listed.getD i true = true := by
   intro n
   induction n with
   | zero => intro i h; omega
   | succ n ih =>
    intro i h1 h2
    by_cases hlt : i < n
    ·exact ih i hlt h2
    ·obtain rfl : i = n := by omega
     cases hl : listed.getD i true with
     | true => rfl
     | false =>
      exfalso
      have : i ∈ Region.ready .any ops listed := by
       unfold Region.ready
       rw [List.mem_filter]
       refine ⟨by simpa using h2, ?_⟩
       have ho : ops[i]? = some ops[i] := by simp [h2]
       rw [hl, ho]
       simp only [Bool.not_false, Option.map_some, Option.getD_some, Bool.true_and, Array.all_eq_true_iff_forall_mem]
       intro e he
       cases hbe : Region.binds .any e with
       | false => simp
       | true =>
        have hlt := hac i _ ho e he hbe
        have h3 := ih e.on hlt (by omega)
        have h4 : listed.getD e.on false = true := by
         have hlt2 : e.on < listed.size := by omega
         simp only [Array.getD_eq_getD_getElem?, Array.getElem?_eq_getElem hlt2, Option.getD_some] at h3 ⊢
         exact h3
        rw [h4]
        simp
      rw [hr] at this
      cases this
  unfold openCount
  rw [List.length_eq_zero_iff, List.filter_eq_nil_iff]
  intro i hi
  have hi' : i < ops.size := by simpa using hi
  simp [hall (i + 1) i (by omega) hi']
 intro fuel
 induction fuel with
 | zero =>
  intro listed a w hs hc hE
  have h0 : openCount ops listed = 0 := by omega
  refine ⟨?_, hfin listed a w h0 hE⟩
  unfold Region.ready
  rw [List.filter_eq_nil_iff]
  intro i hi
  have hi' : i < ops.size := by simpa using hi
  simp [open_zero h0 hi']
 | succ fuel ih =>
  intro listed a w hs hc hE
  refine ⟨fun hr => hfin listed a w (hready listed hs hr) hE, fun i hi => ?_⟩
  unfold Region.ready at hi
  rw [List.mem_filter] at hi
  obtain ⟨hi1, hi2⟩ := hi
  have hin : i < ops.size := by simpa using hi1
  have ho : ops[i]? = some ops[i] := by simp [hin]
  have hdo : dst? ops i = ops[i].dst := by unfold dst?; rw [ho]; rfl
  rw [ho] at hi2
  simp only [Option.map_some, Option.getD_some, Bool.and_eq_true, Bool.not_eq_true', Array.all_eq_true_iff_forall_mem] at hi2
  obtain ⟨hl, hdeps⟩ := hi2
  have hdl : ∀ e ∈ ops[i].after, Region.binds .any e = true → listed.getD e.on true = true := fun e he hb => by
   have h1 := hdeps e he
   rw [hb] at h1
   simp only [Bool.not_true, Bool.false_or] at h1
   have hon := hac i _ ho e he hb
   have hlt2 : e.on < listed.size := by omega
   simp only [Array.getD_eq_getD_getElem?, Array.getElem?_eq_getElem hlt2, Option.getD_some] at h1 ⊢
   exact h1
  have hst := hstep i _ ho listed a w hs ⟨hl, hE.cl, hdl⟩ hE.s hE.old (fun e he hb => hE.new e.on (by have := hac i _ ho e he hb; omega) (hdl e he hb))
  refine wpOp_mono (fun a' w' h => ?_) hst
  obtain ⟨hS', hB', v, hv, rfl, hnone⟩ := h
  have hcount := open_step hin hs hl
  refine ih _ _ _ (by simp [hs]) (by omega) ⟨hS', ?_, ?_, ?_, ?_, ?_⟩
  ·cases hd : ops[i].dst <;> simp [Act.put, hE.sz]
  ·cases hd : ops[i].dst <;> exact hE.df
  ·intro t ht
   rw [← hE.old t ht]
   have hne := ht i hin
   rw [hdo] at hne
   cases hd : ops[i].dst with
   | none => rfl
   | some d =>
    have hne : d ≠ t := fun e => hne (by rw [hd, e])
    simp [Act.put, Array.getD_eq_getD_getElem?, Array.getElem?_setIfInBounds_ne hne]
  ·intro j hj hlj
   by_cases e : i = j
   ·subst e
    have : valOf ops (a.put ops[i].dst v) i = v := by
     unfold valOf
     rw [hdo]
     cases hd : ops[i].dst with
     | none => exact (hnone hd).symm
     | some d =>
      have hlt := hdst i d (by rw [hdo, hd])
      simp [Act.put, Array.getD_eq_getD_getElem?, hE.sz, hlt]
    rw [this]
    exact hv
   ·have h1 : valOf ops (a.put ops[i].dst v) j = valOf ops a j := by
     unfold valOf
     cases hj2 : dst? ops j with
     | none => rfl
     | some dj =>
      cases hd : ops[i].dst with
      | none => rfl
      | some d =>
       have hne : d ≠ dj := fun h => e (hinj i j d hin hj (by rw [hdo, hd]) (by rw [hj2, h]))
       simp [Act.put, Array.getD_eq_getD_getElem?, Array.getElem?_setIfInBounds_ne hne]
    rw [h1]
    have h2 : listed.getD j true = true := by
     simpa [Array.getD_eq_getD_getElem?, Array.getElem?_setIfInBounds_ne e] using hlj
    exact hI i j _ w w' e (hE.new j hj h2) hB'
  ·intro j u hu hlj e he hb
   by_cases ei : i = e.on
   ·rw [← ei]
    by_cases h : i < listed.size <;> simp [Array.getD_eq_getD_getElem?, h]
   ·have h1 : (listed.setIfInBounds i true).getD e.on true = listed.getD e.on true := by simp [Array.getD_eq_getD_getElem?, Array.getElem?_setIfInBounds_ne ei]
    rw [h1]
    by_cases ej : i = j
    ·subst ej
     rw [ho] at hu
     cases hu
     exact hdl e he hb
    ·exact hE.cl j u hu (by simpa [Array.getD_eq_getD_getElem?, Array.getElem?_setIfInBounds_ne ej] using hlj) e he hb
def eachOk3 (ops : Array Oper) (n : Nat) : Bool :=
 (List.range ops.size).all fun i => match ops[i]? with
  | none => false
  | some o => (match o.dst with | none => true | some d => decide (d < n)) && o.after.all (fun e => !Region.binds .any e || decide (e.on < i)) && (List.range ops.size).all fun j => i == j || dst? ops i == none || dst? ops i != dst? ops j
def offOps3 (ops : Array Oper) (t : Nat) : Bool := (List.range ops.size).all fun j => dst? ops j != some t
theorem offOps3_spec {t : Nat} (h : offOps3 ops t = true) : ∀ j, j < ops.size → dst? ops j ≠ some t := by
 intro j hj
 unfold offOps3 at h
 rw [List.all_eq_true] at h
 have := h j (by simpa using hj)
 simpa using this
theorem eachOk3_spec {n : Nat} (h : eachOk3 ops n = true) :
  (∀ (i : Nat) (d : Tmp), dst? ops i = some d → d < n) ∧
  (∀ i j d, i < ops.size → j < ops.size → dst? ops i = some d → dst? ops j = some d → i = j) ∧
  (∀ (i : Nat) (o : Oper), ops[i]? = some o → ∀ e ∈ o.after, Region.binds .any e = true → e.on < i) := by
 unfold eachOk3 at h
 rw [List.all_eq_true] at h
 have key : ∀ (i : Nat) (o : Oper), ops[i]? = some o → (∀ d, o.dst = some d → d < n) ∧ (∀ e ∈ o.after, Region.binds .any e = true → e.on < i) ∧ ∀ j, j < ops.size → (i = j ∨ dst? ops i = none) ∨ dst? ops i ≠ dst? ops j := by
  intro i o ho
  have hi : i < ops.size := (Array.getElem?_eq_some_iff.1 ho).1
  have := h i (by simpa using hi)
  rw [ho] at this
  simp only [Bool.and_eq_true, beq_iff_eq, Array.all_eq_true_iff_forall_mem, List.all_eq_true, Bool.or_eq_true, bne_iff_ne, List.mem_range, Bool.not_eq_true', decide_eq_true_eq] at this
  refine ⟨fun d hd => ?_, fun e he hb => ?_, this.2⟩
  ·have h1 := this.1.1
   rw [hd] at h1
   simpa using h1
  ·rcases this.1.2 e he with h1 | h1
   ·rw [h1] at hb; cases hb
   ·exact h1
 refine ⟨fun i d hd => ?_, fun i j d hi hj h1 h2 => ?_, fun i o ho => (key i o ho).2.1⟩
 ·unfold dst? at hd
  cases ho : ops[i]? with
  | none => rw [ho] at hd; cases hd
  | some o => rw [ho] at hd; exact (key i o ho).1 d hd
 ·rcases (key i ops[i] (by simp [hi])).2.2 j hj with (h3 | h3) | h3
  ·exact h3
  ·rw [h1] at h3; cases h3
  ·exact absurd (h1.trans h2.symm) h3
theorem wp_region_each3 {id : Nat} {a0 : Act} {w : World} (hm : P.follows .mixedOrders = true) (I : Nat → Value → World → Prop) (S : Array Bool → World → Prop) (R : Nat → World → World → Prop) (hok : eachOk3 ops a0.tmps.size = true)
  (hI : ∀ i j v w w', i ≠ j → I j v w → R i w w' → I j v w')
  (hS : S (Array.replicate ops.size false) w.drew)
  (hstep : ∀ (i : Nat) (o : Oper), ops[i]? = some o → ∀ (listed : Array Bool) (a : Act) (w : World), listed.size = ops.size → Now ops listed i o → S listed w → (∀ t, offOps3 ops t = true → a.tmps.getD t undef = a0.tmps.getD t undef) →
   (∀ e ∈ o.after, Region.binds .any e = true → I e.on (valOf ops a e.on) w) →
   wpOp P ops Q i (fun a' w' => S (listed.setIfInBounds i true) w' ∧ R i w w' ∧ ∃ v, I i v w' ∧ a' = a.put o.dst v ∧ (o.dst = none → v = undef)) a w)
  (hend : ∀ (listed : Array Bool) (a : Act) (w : World), (∀ i, i < ops.size → listed.getD i true = true) → S listed w → a.tmps.size = a0.tmps.size → a.defers = a0.defers → (∀ t, offOps3 ops t = true → a.tmps.getD t undef = a0.tmps.getD t undef) →
   (∀ i, i < ops.size → I i (valOf ops a i) w) → Q .normal a w) :
  (Code.region id ops true).wp P Q a0 w := by
 obtain ⟨h1, h2, h3⟩ := eachOk3_spec hok
 refine wp_region_any hm (each_any3 a0 I S R h1 h2 h3 hI ?_ ?_ ops.size _ a0 _ (by simp) ?_ ⟨hS, rfl, rfl, fun _ _ => rfl, ?_, ?_⟩)
 ·intro i o ho listed a w1 hs hl hS1 hold hdeps
  exact hstep i o ho listed a w1 hs hl hS1 (fun t ht => hold t (offOps3_spec ht)) hdeps
 ·intro listed a w1 hall hS1 hs hd hold hnew
  exact hend listed a w1 hall hS1 hs hd (fun t ht => hold t (offOps3_spec ht)) hnew
 ·unfold openCount
  exact Nat.le_trans (List.length_filter_le _ _) (by simp)
 ·intro i hi h
  simp [Array.getD_eq_getD_getElem?, hi] at h
 ·intro j u hu h
  have hj : j < ops.size := (Array.getElem?_eq_some_iff.1 hu).1
  simp [Array.getD_eq_getD_getElem?, hj] at h
theorem dep3_of {I : Nat → Value → World → Prop} {o : Oper} {a : Act} {w : World} (hdeps : ∀ e ∈ o.after, Region.binds .any e = true → I e.on (valOf ops a e.on) w) (j : Nat)
  (h : (o.after.toList.any fun e => e.on == j && Region.binds .any e) = true) : I j (valOf ops a j) w := by
 rw [List.any_eq_true] at h
 obtain ⟨e, he, h2⟩ := h
 simp only [Bool.and_eq_true, beq_iff_eq] at h2
 obtain ⟨rfl, hb⟩ := h2
 exact hdeps e (by simpa using he) hb
theorem t_value {i : Nat} {o : Oper} {a : Act} {w w' : World} {v : Value} {S : World → Prop} {R : World → Prop} {I : Nat → Value → World → Prop} (hi : ops[i]? = some o) (hw : Region.wanted o (yielded ops a.tmps) = true) {d : Tmp} (hd : o.dst = some d)
  (hr : (execOp a.eval o).run P w = .ok (.value v) w') (hS : S w') (hR : R w') (hv : I i v w') : wpOp P ops Q i (fun a' w' => S w' ∧ R w' ∧ ∃ v, I i v w' ∧ a' = a.put o.dst v ∧ (o.dst = none → v = undef)) a w :=
 each_value hi hw hr ⟨hS, hR, v, hv, rfl, fun h => by rw [hd] at h; cases h⟩
theorem t_store {i : Nat} {o : Oper} {a : Act} {w w' : World} {S : World → Prop} {R : World → Prop} {I : Nat → Value → World → Prop} (hi : ops[i]? = some o) (hw : Region.wanted o (yielded ops a.tmps) = true)
  (hr : (execOp a.eval o).run P w = .ok .skip w') (hS : S w') (hR : R w') (hv : I i undef w') : wpOp P ops Q i (fun a' w' => S w' ∧ R w' ∧ ∃ v, I i v w' ∧ a' = a.put o.dst v ∧ (o.dst = none → v = undef)) a w := by
 unfold wpOp
 simp only [hi, hw, if_true]
 refine .inl ?_
 unfold Oper.wp
 rw [hr]
 exact ⟨hS, hR, undef, hv, rfl, fun _ => rfl⟩
theorem t_enter {i : Nat} {o : Oper} {a : Act} {w : World} {f : FuncId} {args : Array Value} {S : World → Prop} {R : World → Prop} {I : Nat → Value → World → Prop} (hi : ops[i]? = some o) (hw : Region.wanted o (yielded ops a.tmps) = true) {d : Tmp} (hd : o.dst = some d)
  (hr : (execOp a.eval o).run P w = .ok (.enter f args) w) (h : Calls P f args w fun e w' => ∃ v, e = .returned v ∧ S w' ∧ R w' ∧ I i v w') : wpOp P ops Q i (fun a' w' => S w' ∧ R w' ∧ ∃ v, I i v w' ∧ a' = a.put o.dst v ∧ (o.dst = none → v = undef)) a w :=
 each_call hi hw hr (Calls.mono h fun _ _ ⟨v, he, hS, hR, hv⟩ => ⟨v, he, hS, hR, v, hv, rfl, fun h => by rw [hd] at h; cases h⟩)
def pvO (ps : List (Option Tmp × Value)) (i : Nat) : Value := (ps.getD i (none, undef)).2
def slots (ps : List (Option Tmp × Value)) : List (Nat × Value) := ps.filterMap fun x => x.1.map fun d => (d, x.2)
def InvO (ps : List (Option Tmp × Value)) (i : Nat) (v : Value) (_ : World) : Prop := v = pvO ps i
theorem wp_region_vals3 {id : Nat} {a0 : Act} {w : World} (hm : P.follows .mixedOrders = true) (ps : List (Option Tmp × Value)) (qs : List (Nat × Value)) (S : Array Bool → World → Prop) (hok : eachOk3 ops a0.tmps.size = true)
  (hds : ps.map (·.1) = (List.range ops.size).map (dst? ops)) (hq : slots ps = qs)
  (hS : S (Array.replicate ops.size false) w.drew)
  (hstep : ∀ (i : Nat) (o : Oper), ops[i]? = some o → ∀ (listed : Array Bool) (a : Act) (w : World), listed.size = ops.size → Now ops listed i o → S listed w → (∀ t, offOps3 ops t = true → a.tmps.getD t undef = a0.tmps.getD t undef) →
   (∀ e ∈ o.after, Region.binds .any e = true → InvO ps e.on (valOf ops a e.on) w) →
   wpOp P ops Q i (fun a' w' => S (listed.setIfInBounds i true) w' ∧ True ∧ ∃ v, InvO ps i v w' ∧ a' = a.put o.dst v ∧ (o.dst = none → v = undef)) a w)
  (hend : ∀ (listed : Array Bool) (w : World), (∀ i, i < ops.size → listed.getD i true = true) → S listed w → Q .normal (putAll a0 qs) w) :
  (Code.region id ops true).wp P Q a0 w := by
 subst hq
 refine wp_region_each3 hm (InvO ps) S (fun _ _ _ => True) hok (fun i j v w w' _ h _ => h) hS hstep (fun listed a w1 hall hS1 hs hd hold hnew => ?_)
 have hlen : ps.length = ops.size := by
  have := congrArg List.length hds
  simpa using this
 obtain ⟨k1, k2, _⟩ := eachOk3_spec hok
 have hat : ∀ i, i < ops.size → ps[i]? = some (dst? ops i, pvO ps i) := by
  intro i hi
  have h1 : i < ps.length := by omega
  have h2 : (ps.map (·.1))[i]? = some (dst? ops i) := by rw [hds]; simp [hi]
  have h3 : ps[i]? = some (ps[i]) := by simp [h1]
  rw [List.getElem?_map, h3] at h2
  simp only [Option.map_some, Option.some.injEq] at h2
  have h4 : pvO ps i = (ps[i]).2 := by simp [pvO, h1]
  rw [h3, h4, ← h2]
 have hpi : ∀ i d, i < ops.size → dst? ops i = some d → (d, pvO ps i) ∈ slots ps := by
  intro i d hi hd
  unfold slots
  rw [List.mem_filterMap]
  exact ⟨_, List.mem_of_getElem? (hat i hi), by rw [hd]; rfl⟩
 have hfst : (slots ps).map (·.1) = (List.range ops.size).filterMap (dst? ops) := by
  have h1 : (slots ps).map (·.1) = (ps.map (·.1)).filterMap (fun x => x) := by
   unfold slots
   rw [List.map_filterMap, List.filterMap_map]
   congr 1
   funext x
   cases hx : x.1 <;> simp [hx]
  rw [h1, hds, List.filterMap_map]
  rfl
 have hnd : ((slots ps).map (·.1)).Nodup := by
  rw [hfst]
  unfold List.Nodup
  rw [List.pairwise_filterMap]
  refine (List.nodup_range (n := ops.size)).imp_of_mem (fun {i j} hi hj hne b hb b' hb' e => ?_)
  subst e
  exact hne (k2 i j b (by simpa using hi) (by simpa using hj) hb hb')
 have e : a = putAll a0 (slots ps) := by
  have ht : a.tmps = (putAll a0 (slots ps)).tmps := by
   refine Array.ext (by rw [hs, putAll_size]) (fun t h1 h2 => ?_)
   have key : a.tmps.getD t undef = (putAll a0 (slots ps)).tmps.getD t undef := by
    by_cases hoff : offOps3 ops t = true
    ·rw [hold t hoff, putAll_off t (slots ps) a0 (fun x hx e => ?_)]
     have hm : x.1 ∈ (slots ps).map (·.1) := List.mem_map_of_mem hx
     rw [hfst, List.mem_filterMap] at hm
     obtain ⟨j, hj, hj2⟩ := hm
     exact offOps3_spec hoff j (by simpa using hj) (by rw [hj2, e])
    ·unfold offOps3 at hoff
     rw [List.all_eq_true] at hoff
     have hex : ∃ j, j < ops.size ∧ dst? ops j = some t := by
      refine Classical.byContradiction fun hno => hoff (fun j hj => ?_)
      by_cases e : dst? ops j = some t
      ·exact absurd ⟨j, by simpa using hj, e⟩ hno
      ·simpa using e
     obtain ⟨j, hj, hjt⟩ := hex
     have hv := hnew j hj
     unfold InvO valOf at hv
     rw [hjt] at hv
     simp only at hv
     rw [hv, putAll_at _ (pvO ps j) (slots ps) a0 (by omega) hnd (hpi j t hj hjt)]
   simpa [Array.getD_eq_getD_getElem?, h1, h2] using key
  have hd2 := putAll_defers (slots ps) a0
  cases a with
  | mk t d =>
   cases hp : putAll a0 (slots ps) with
   | mk t2 d2 =>
    rw [hp] at ht hd2
    simp only at ht hd hd2
    rw [ht, hd, hd2]
 rw [e]
 exact hend listed w1 hall hS1
theorem o_pure {i : Nat} {o : Oper} {a : Act} {w : World} {v : Value} {S : World → Prop} {ps : List (Option Tmp × Value)} (hi : ops[i]? = some o) (hw : Region.wanted o (yielded ops a.tmps) = true) {d : Tmp} (hd : o.dst = some d)
  (hv : pvO ps i = v) (hr : (execOp a.eval o).run P w = .ok (.value v) w) (hS : S w) : wpOp P ops Q i (fun a' w' => S w' ∧ True ∧ ∃ v, InvO ps i v w' ∧ a' = a.put o.dst v ∧ (o.dst = none → v = undef)) a w :=
 t_value (I := InvO ps) (R := fun _ => True) hi hw hd hr hS trivial hv.symm
theorem o_enter {i : Nat} {o : Oper} {a : Act} {w : World} {v : Value} {f : FuncId} {args : Array Value} {S : World → Prop} {ps : List (Option Tmp × Value)} (hi : ops[i]? = some o) (hw : Region.wanted o (yielded ops a.tmps) = true) {d : Tmp} (hd : o.dst = some d)
  (hv : pvO ps i = v) (hr : (execOp a.eval o).run P w = .ok (.enter f args) w) (h : Calls P f args w fun e w' => e = .returned v ∧ S w') : wpOp P ops Q i (fun a' w' => S w' ∧ True ∧ ∃ v, InvO ps i v w' ∧ a' = a.put o.dst v ∧ (o.dst = none → v = undef)) a w :=
 t_enter (I := InvO ps) (R := fun _ => True) hi hw hd hr (Calls.mono h fun _ _ ⟨he, hS⟩ => ⟨v, he, hS, trivial, hv.symm⟩)
theorem o_store {i : Nat} {o : Oper} {a : Act} {w w' : World} {S : World → Prop} {ps : List (Option Tmp × Value)} (hi : ops[i]? = some o) (hw : Region.wanted o (yielded ops a.tmps) = true)
  (hv : pvO ps i = undef) (hr : (execOp a.eval o).run P w = .ok .skip w') (hS : S w') : wpOp P ops Q i (fun a' w' => S w' ∧ True ∧ ∃ v, InvO ps i v w' ∧ a' = a.put o.dst v ∧ (o.dst = none → v = undef)) a w :=
 t_store (I := InvO ps) (R := fun _ => True) hi hw hr hS trivial hv.symm
theorem slot_of {ps : List (Option Tmp × Value)} {o : Oper} {a : Act} {w : World} (hdeps : ∀ e ∈ o.after, Region.binds .any e = true → InvO ps e.on (valOf ops a e.on) w) (j : Nat) {d : Tmp} (hd : dst? ops j = some d)
  (h : (o.after.toList.any fun e => e.on == j && Region.binds .any e) = true) : a.tmps.getD d undef = pvO ps j := by
 have := dep3_of hdeps j h
 unfold InvO valOf at this
 rw [hd] at this
 exact this
theorem listed_dep {listed : Array Bool} {i : Nat} {o : Oper} (hN : Now ops listed i o) (j : Nat) (h : (o.after.toList.any fun e => e.on == j && Region.binds .any e) = true) : listed.getD j true = true := by
 rw [List.any_eq_true] at h
 obtain ⟨e, he, h2⟩ := h
 simp only [Bool.and_eq_true, beq_iff_eq] at h2
 obtain ⟨rfl, hb⟩ := h2
 exact hN.dl e (by simpa using he) hb
theorem listed_ne {l : Array Bool} {i j : Nat} (h : i ≠ j) : (l.setIfInBounds i true).getD j true = l.getD j true := by
 simp [Array.getD_eq_getD_getElem?, Array.getElem?_setIfInBounds_ne h]
theorem listed_at {l : Array Bool} {i : Nat} : (l.setIfInBounds i true).getD i true = true := by
 by_cases h : i < l.size <;> simp [Array.getD_eq_getD_getElem?, h]
end
end
section
open Go Go.RowKit
section
variable {P : Program} {ops : Array Oper} {Q : Exit → Act → World → Prop} {n : Nat}
theorem each_any4 (a0 : Act) (I : Nat → Value → World → Prop) (S : Array Bool → World → Prop) (R : Nat → World → World → Prop)
  (hdst : ∀ (i : Nat) (d : Tmp), dst? ops i = some d → d < a0.tmps.size)
  (hinj : ∀ i j d, i < ops.size → j < ops.size → dst? ops i = some d → dst? ops j = some d → i = j)
  (hac : ∀ (i : Nat) (o : Oper), ops[i]? = some o → ∀ e ∈ o.after, Region.binds .any e = true → e.on < i)
  (hI : ∀ i j v w w', i ≠ j → (∀ m, hangs ops m j i = false) → I j v w → R i w w' → I j v w')
  (hstep : ∀ (i : Nat) (o : Oper), ops[i]? = some o → ∀ (listed : Array Bool) (a : Act) (w : World), listed.size = ops.size → Now ops listed i o → S listed w → (∀ t, (∀ j, j < ops.size → dst? ops j ≠ some t) → a.tmps.getD t undef = a0.tmps.getD t undef) →
   (∀ e ∈ o.after, Region.binds .any e = true → I e.on (valOf ops a e.on) w) →
   wpOpIn Fence.wide n P ops Q i (fun a' w' => S (listed.setIfInBounds i true) w' ∧ R i w w' ∧ ∃ v, I i v w' ∧ a' = a.put o.dst v ∧ (o.dst = none → v = undef)) a w)
  (hend : ∀ (listed : Array Bool) (a : Act) (w : World), (∀ i, i < ops.size → listed.getD i true = true) → S listed w → a.tmps.size = a0.tmps.size → a.defers = a0.defers → (∀ t, (∀ j, j < ops.size → dst? ops j ≠ some t) → a.tmps.getD t undef = a0.tmps.getD t undef) →
   (∀ i, i < ops.size → I i (valOf ops a i) w) → Q .normal a w) :
  ∀ (fuel : Nat) (listed : Array Bool) (a : Act) (w : World), listed.size = ops.size → openCount ops listed ≤ fuel → Each3 ops I S a0 listed a w → wpAnyIn Fence.wide n P .any ops Q fuel listed a w := by
 have hfin : ∀ (listed : Array Bool) (a : Act) (w : World), openCount ops listed = 0 → Each3 ops I S a0 listed a w → Q .normal a w := fun listed a w h0 hE =>
  hend listed a w (fun i hi => open_zero h0 hi) hE.s hE.sz hE.df hE.old fun i hi => hE.new i hi (open_zero h0 hi)
 have hready : ∀ (listed : Array Bool), listed.size = ops.size → Region.ready .any ops listed = [] → openCount ops listed = 0 := by
  intro listed hs hr
  have hall : ∀ m i, i < m → i < ops.size → listed.getD i true = true := by
   intro m
   induction m with
   | zero => intro i h; omega
   | succ m ih =>
    intro i h1 h2
    by_cases hlt : i < m
    ·exact ih i hlt h2
    ·obtain rfl : i = m := by omega
     cases hl : listed.getD i true with
     | true => rfl
     | false =>
      exfalso
      have : i ∈ Region.ready .any ops listed := by
       unfold Region.ready
       rw [List.mem_filter]
       refine ⟨by simpa using h2, ?_⟩
       have ho : ops[i]? = some ops[i] := by simp [h2]
       rw [hl, ho]
       simp only [Bool.not_false, Option.map_some, Option.getD_some, Bool.true_and, Array.all_eq_true_iff_forall_mem]
       intro e he
       cases hbe : Region.binds .any e with
       | false => simp
       | true =>
        have hlt := hac i _ ho e he hbe
        have h3 := ih e.on hlt (by omega)
        have h4 : listed.getD e.on false = true := by
         have hlt2 : e.on < listed.size := by omega
         simp only [Array.getD_eq_getD_getElem?, Array.getElem?_eq_getElem hlt2, Option.getD_some] at h3 ⊢
         exact h3
        rw [h4]
        simp
      rw [hr] at this
      cases this
  unfold openCount
  rw [List.length_eq_zero_iff, List.filter_eq_nil_iff]
  intro i hi
  have hi' : i < ops.size := by simpa using hi
  simp [hall (i + 1) i (by omega) hi']
 intro fuel
 induction fuel with
 | zero =>
  intro listed a w hs hc hE
  have h0 : openCount ops listed = 0 := by omega
  refine ⟨?_, hfin listed a w h0 hE⟩
  unfold Region.ready
  rw [List.filter_eq_nil_iff]
  intro i hi
  have hi' : i < ops.size := by simpa using hi
  simp [open_zero h0 hi']
 | succ fuel ih =>
  intro listed a w hs hc hE
  refine ⟨fun hr => hfin listed a w (hready listed hs hr) hE, fun i hi => ?_⟩
  unfold Region.ready at hi
  rw [List.mem_filter] at hi
  obtain ⟨hi1, hi2⟩ := hi
  have hin : i < ops.size := by simpa using hi1
  have ho : ops[i]? = some ops[i] := by simp [hin]
  have hdo : dst? ops i = ops[i].dst := by unfold dst?; rw [ho]; rfl
  rw [ho] at hi2
  simp only [Option.map_some, Option.getD_some, Bool.and_eq_true, Bool.not_eq_true', Array.all_eq_true_iff_forall_mem] at hi2
  obtain ⟨hl, hdeps⟩ := hi2
  have hdl : ∀ e ∈ ops[i].after, Region.binds .any e = true → listed.getD e.on true = true := fun e he hb => by
   have h1 := hdeps e he
   rw [hb] at h1
   simp only [Bool.not_true, Bool.false_or] at h1
   have hon := hac i _ ho e he hb
   have hlt2 : e.on < listed.size := by omega
   simp only [Array.getD_eq_getD_getElem?, Array.getElem?_eq_getElem hlt2, Option.getD_some] at h1 ⊢
   exact h1
  have hst := hstep i _ ho listed a w hs ⟨hl, hE.cl, hdl⟩ hE.s hE.old (fun e he hb => hE.new e.on (by have := hac i _ ho e he hb; omega) (hdl e he hb))
  refine wpOpIn_mono (fun a' w' h => ?_) hst
  obtain ⟨hS', hB', v, hv, rfl, hnone⟩ := h
  have hcount := open_step hin hs hl
  refine ih _ _ _ (by simp [hs]) (by omega) ⟨hS', ?_, ?_, ?_, ?_, ?_⟩
  ·cases hd : ops[i].dst <;> simp [Act.put, hE.sz]
  ·cases hd : ops[i].dst <;> exact hE.df
  ·intro t ht
   rw [← hE.old t ht]
   have hne := ht i hin
   rw [hdo] at hne
   cases hd : ops[i].dst with
   | none => rfl
   | some d =>
    have hne : d ≠ t := fun e => hne (by rw [hd, e])
    simp [Act.put, Array.getD_eq_getD_getElem?, Array.getElem?_setIfInBounds_ne hne]
  ·intro j hj hlj
   by_cases e : i = j
   ·subst e
    have : valOf ops (a.put ops[i].dst v) i = v := by
     unfold valOf
     rw [hdo]
     cases hd : ops[i].dst with
     | none => exact (hnone hd).symm
     | some d =>
      have hlt := hdst i d (by rw [hdo, hd])
      simp [Act.put, Array.getD_eq_getD_getElem?, hE.sz, hlt]
    rw [this]
    exact hv
   ·have h1 : valOf ops (a.put ops[i].dst v) j = valOf ops a j := by
     unfold valOf
     cases hj2 : dst? ops j with
     | none => rfl
     | some dj =>
      cases hd : ops[i].dst with
      | none => rfl
      | some d =>
       have hne : d ≠ dj := fun h => e (hinj i j d hin hj (by rw [hdo, hd]) (by rw [hj2, h]))
       simp [Act.put, Array.getD_eq_getD_getElem?, Array.getElem?_setIfInBounds_ne hne]
    rw [h1]
    have h2 : listed.getD j true = true := by
     simpa [Array.getD_eq_getD_getElem?, Array.getElem?_setIfInBounds_ne e] using hlj
    exact hI i j _ w w' e (fun m => by cases hh : hangs ops m j i with | false => rfl | true => (rw [unlisted_of hl hE.cl m j hh] at h2; cases h2)) (hE.new j hj h2) hB'
  ·intro j u hu hlj e he hb
   by_cases ei : i = e.on
   ·rw [← ei]
    by_cases h : i < listed.size <;> simp [Array.getD_eq_getD_getElem?, h]
   ·have h1 : (listed.setIfInBounds i true).getD e.on true = listed.getD e.on true := by simp [Array.getD_eq_getD_getElem?, Array.getElem?_setIfInBounds_ne ei]
    rw [h1]
    by_cases ej : i = j
    ·subst ej
     rw [ho] at hu
     cases hu
     exact hdl e he hb
    ·exact hE.cl j u hu (by simpa [Array.getD_eq_getD_getElem?, Array.getElem?_setIfInBounds_ne ej] using hlj) e he hb
theorem wpIn_region_each4 {id : Nat} {a0 : Act} {w : World} (hm : P.follows .mixedOrders = true) (I : Nat → Value → World → Prop) (S : Array Bool → World → Prop) (R : Nat → World → World → Prop) (hok : eachOk3 ops a0.tmps.size = true)
  (hI : ∀ i j v w w', i ≠ j → (∀ m, hangs ops m j i = false) → I j v w → R i w w' → I j v w')
  (hS : S (Array.replicate ops.size false) w.drew)
  (hstep : ∀ (i : Nat) (o : Oper), ops[i]? = some o → ∀ (listed : Array Bool) (a : Act) (w : World), listed.size = ops.size → Now ops listed i o → S listed w → (∀ t, offOps3 ops t = true → a.tmps.getD t undef = a0.tmps.getD t undef) →
   (∀ e ∈ o.after, Region.binds .any e = true → I e.on (valOf ops a e.on) w) →
   wpOpIn Fence.wide n P ops Q i (fun a' w' => S (listed.setIfInBounds i true) w' ∧ R i w w' ∧ ∃ v, I i v w' ∧ a' = a.put o.dst v ∧ (o.dst = none → v = undef)) a w)
  (hend : ∀ (listed : Array Bool) (a : Act) (w : World), (∀ i, i < ops.size → listed.getD i true = true) → S listed w → a.tmps.size = a0.tmps.size → a.defers = a0.defers → (∀ t, offOps3 ops t = true → a.tmps.getD t undef = a0.tmps.getD t undef) →
   (∀ i, i < ops.size → I i (valOf ops a i) w) → Q .normal a w) :
  (Code.region id ops true).wpIn Fence.wide n P Q a0 w := by
 obtain ⟨h1, h2, h3⟩ := eachOk3_spec hok
 refine wpIn_region_any hm (each_any4 a0 I S R h1 h2 h3 hI ?_ ?_ ops.size _ a0 _ (by simp) ?_ ⟨hS, rfl, rfl, fun _ _ => rfl, ?_, ?_⟩)
 ·intro i o ho listed a w1 hs hl hS1 hold hdeps
  exact hstep i o ho listed a w1 hs hl hS1 (fun t ht => hold t (offOps3_spec ht)) hdeps
 ·intro listed a w1 hall hS1 hs hd hold hnew
  exact hend listed a w1 hall hS1 hs hd (fun t ht => hold t (offOps3_spec ht)) hnew
 ·unfold openCount
  exact Nat.le_trans (List.length_filter_le _ _) (by simp)
 ·intro i hi h
  simp [Array.getD_eq_getD_getElem?, hi] at h
 ·intro j u hu h
  have hj : j < ops.size := (Array.getElem?_eq_some_iff.1 hu).1
  simp [Array.getD_eq_getD_getElem?, hj] at h
theorem semAt_wide (o : Oper) (ρ : Operand → Value) : o.semAt Fence.wide.round ρ = execOp ρ o := rfl
theorem wide_deep {p : Prop} : Fence.wide.depth.isSome = true → p := fun h => by cases h
theorem u_value {i : Nat} {o : Oper} {a : Act} {w w' : World} {v : Value} {S : World → Prop} {R : World → Prop} {I : Nat → Value → World → Prop} (hi : ops[i]? = some o) (hw : Region.wanted o (yielded ops a.tmps) = true) {d : Tmp} (hd : o.dst = some d)
  (hr : (execOp a.eval o).run P w = .ok (.value v) w') (hS : S w') (hR : R w') (hv : I i v w') : wpOpIn Fence.wide n P ops Q i (fun a' w' => S w' ∧ R w' ∧ ∃ v, I i v w' ∧ a' = a.put o.dst v ∧ (o.dst = none → v = undef)) a w := by
 unfold wpOpIn
 simp only [hi, hw, if_true]
 refine ⟨fun _ _ => trivial, ?_⟩
 rw [semAt_wide, hr]
 exact ⟨hS, hR, v, hv, rfl, fun h => by rw [hd] at h; cases h⟩
theorem u_enter {i : Nat} {o : Oper} {a : Act} {w : World} {f : FuncId} {args : Array Value} {S : World → Prop} {R : World → Prop} {I : Nat → Value → World → Prop} (hi : ops[i]? = some o) (hw : Region.wanted o (yielded ops a.tmps) = true) {d : Tmp} (hd : o.dst = some d)
  (hr : (execOp a.eval o).run P w = .ok (.enter f args) w) (h : Calls P f args w fun e w' => ∃ v, e = .returned v ∧ S w' ∧ R w' ∧ I i v w') : wpOpIn Fence.wide n P ops Q i (fun a' w' => S w' ∧ R w' ∧ ∃ v, I i v w' ∧ a' = a.put o.dst v ∧ (o.dst = none → v = undef)) a w := by
 unfold wpOpIn
 simp only [hi, hw, if_true]
 refine ⟨fun _ _ => trivial, ?_⟩
 rw [semAt_wide, hr]
 refine ⟨wide_deep, (callsIn_wide.2 h).mono ?_⟩
 rintro e w' ⟨v, rfl, hS, hR, hv⟩
 exact ⟨hS, hR, v, hv, rfl, fun h => by rw [hd] at h; cases h⟩
theorem u_round {i : Nat} {o : Oper} {a : Act} {w : World} {l : Nat} {f : FuncId} {tmps : Array Value} {assign body : Code} {S : World → Prop} {R : World → Prop} {I : Nat → Value → World → Prop} (hi : ops[i]? = some o) (hw : Region.wanted o (yielded ops a.tmps) = true) {d : Tmp} (hd : o.dst = some d)
  (hr : (execOp a.eval o).run P w = .ok (.round l f tmps assign body) w) {m : Nat} (h : RoundIn Fence.wide m P l f tmps assign body w fun e w' => ∃ v, e = .returned v ∧ S w' ∧ R w' ∧ I i v w') : wpOpIn Fence.wide n P ops Q i (fun a' w' => S w' ∧ R w' ∧ ∃ v, I i v w' ∧ a' = a.put o.dst v ∧ (o.dst = none → v = undef)) a w := by
 unfold wpOpIn
 simp only [hi, hw, if_true]
 refine ⟨fun _ _ => trivial, ?_⟩
 rw [semAt_wide, hr]
 have h2 : RoundIn Fence.wide (n - 1) P l f tmps assign body w fun e w' => ∃ v, e = .returned v ∧ S w' ∧ R w' ∧ I i v w' := ⟨h.1, fun c cs _ => h.2 c cs (room_wide _)⟩
 refine ⟨wide_deep, h2.mono ?_⟩
 rintro e w' ⟨v, rfl, hS, hR, hv⟩
 exact ⟨hS, hR, v, hv, rfl, fun h => by rw [hd] at h; cases h⟩
end
end
section
open Go Go.RowKit
def Calm (B : Nat) (A A' : World) : Prop := KeepBut (fun b => B ≤ b ∧ ∃ o : Obj, A.heap[b]? = some o ∧ o.isCells = false) A A'
theorem Calm.of_below {B : Nat} {A A' : World} (h : Below A.heap.size A A') : Calm B A A' := KeepBut.of_below _ h
theorem Calm.putObj {B b : Nat} {A : World} {o : Obj} (hb : A.heap[b]? = some o) (ho : o.isCells = false) (hB : B ≤ b) (o' : Obj) : Calm B A (A.putObj b o') :=
 ⟨rfl, rfl, rfl, by simp, fun k _ hS => World.putObj_heap_other (fun e => hS (by subst e; exact ⟨hB, o, hb, ho⟩))⟩
theorem Calm.box {B p : Nat} {A A' : World} {cs : Array Value} {t : TypeId} (h : Calm B A A') (hb : Box A p cs t) : Box A' p cs t := hb.keep h (fun ⟨_, o, ho, hc⟩ => by
 have hb2 : A.heap[p]? = _ := hb
 rw [hb2] at ho
 cases ho
 cases hc)
theorem Calm.below {B C : Nat} {A A' : World} (h : Calm B A A') (hC : C ≤ B) (hA : C ≤ A.heap.size) : Below C A A' := KeepBut.below h hA (fun _ hk => by have := hk.1; omega)
def Gives (P : Program) (gf : FuncId) (lb : Array Value) (N : Nat) (V : Nat → Nat → World → Array Value → Prop) (Pre : World → Prop) (W : World) : Prop :=
 ∀ (l : Nat) (J : Nat → World → Prop) (Jx : World → Prop),
  (∀ k A B, J k A → Below A.heap.size A B → J k B) → (∀ A B, Jx A → Below A.heap.size A B → Jx B) → (∀ k A, J k A → Pre A) →
  (∀ k A vs, k < N → J k A → W.heap.size + 3 ≤ A.heap.size → V k W.heap.size A vs → YieldAt Fence.wide 0 P l vs A fun e B => (e = .returned (.bool true) ∧ J (k + 1) B ∧ KeepBut (fun b => b < W.heap.size ∨ W.heap.size + 3 ≤ b) A B) ∨ (e = .returned (.bool false) ∧ Jx B)) →
  J 0 W → Calls P gf (#[.func (.yield l) #[] #[]] ++ lb) W fun e W' => (∃ v, e = .returned v) ∧ (J N W' ∨ Jx W')
def post11 (B : Nat) (In Ix : World → Prop) (A : World) : Exit → Act → World → Prop
 | .normal, _, A' => KeepBut (fun b => b < B ∨ B + 5 ≤ b) A A' ∧ In A'
 | .ret, _, A' => KeepBut (fun b => b < B ∨ B + 5 ≤ b) A A' ∧ Ix A'
 | _, _, _ => False
theorem wpIn_range11 {P : Program} {gf : FuncId} {lb : Array Value} {N : Nat} {V : Nat → Nat → World → Array Value → Prop} {Pre : World → Prop} {g : Operand} {ps : Array Tmp} {assign body : Code} {Q : Exit → Act → World → Prop} {a : Act} {w : World} {n : Nat}
  (hg : a.eval g = .func (.func gf) #[] lb) (eg : ∀ args w, (callFunc gf args).run P w = .ok (.enter gf args) w)
  (hseq : ∀ W, W.heap.size = w.heap.size + 2 → Below w.heap.size w W → Gives P gf lb N V Pre W)
  (hV : ∀ k H A vs, V k H A vs → vs.size = ps.size) (hVc : ∀ k H A A' vs, V k H A vs → Calm w.heap.size A A' → V k H A' vs)
  (I : Nat → World → Prop) (Ix : World → Prop) (hI : ∀ k A A', I k A → Calm w.heap.size A A' → I k A') (hIx : ∀ A A', Ix A → Calm w.heap.size A A' → Ix A') (hPre : ∀ k A, I k A → Pre A) (h0 : I 0 w)
  (Ax : Array Value → Act → World → Prop) (hAx : ∀ vs a' A A', Ax vs a' A → Calm w.heap.size A A' → Ax vs a' A')
  (hassign : ∀ (l k : Nat) (vs : Array Value) (A : World) (K : Act → World → Prop), V k (w.heap.size + 2) A vs → (∀ a' A', Below A.heap.size A A' → Ax vs a' A' → K a' A') →
   assign.wpIn (Fence.wide.inRound l) 0 P (Exit.then K (fun _ _ _ => False)) { tmps := (ps.zip vs).foldl (fun t (p, v) => t.setIfInBounds p v) a.tmps, defers := [] } A)
  (hbody : ∀ (l k : Nat) (vs : Array Value) (a' : Act) (A : World), k < N → w.heap.size + 5 ≤ A.heap.size → I k A → V k (w.heap.size + 2) A vs → Ax vs a' A →
   body.wpIn (Fence.wide.inRound l) 0 P (post11 w.heap.size (I (k + 1)) Ix A) a' A)
  (hdone : ∀ (D : Nat) (W : World), w.heap.size ≤ D → I N W → W.heap[D]? = some (.deferred (some [])) → Q .normal { a with defers := { target := .collected D, args := #[] } :: a.defers } W)
  (hstop : ∀ (D : Nat) (W : World), w.heap.size ≤ D → Ix W → W.heap[D]? = some (.deferred (some [])) → Code.ret.wpIn Fence.wide n P Q { a with defers := { target := .collected D, args := #[] } :: a.defers } W) :
  (Code.rangeFunc g ps assign body).wpIn Fence.wide n P Q a w := by
 refine wpIn_rangeFunc ?_
 intro fn _
 obtain ⟨rec, hrec⟩ : ∃ rec : LoopState → Option Code → Loop, rec = fun st pe => { state := st, pending := pe, fn, tmps := a.tmps, params := ps, assign, body, defers := w.heap.size } := ⟨_, rfl⟩
 obtain ⟨W1, hW1⟩ : ∃ W1, (w.alloc (.deferred (some []))).alloc (.loop (rec .ready none)) = W1 := ⟨_, rfl⟩
 have hsz : W1.heap.size = w.heap.size + 2 := by rw [← hW1]; simp
 have hL1 : W1.heap[w.heap.size + 1]? = some (.loop (rec .ready none)) := by
  rw [← hW1]; have := World.alloc_heap_new (w.alloc (.deferred (some []))) (.loop (rec .ready none)); rwa [World.size_alloc] at this
 have hK1 : W1.heap[w.heap.size]? = some (.deferred (some [])) := by
  rw [← hW1]; exact (Below.heap_alloc _ _ _ (by simp)).trans (World.alloc_heap_new w _)
 have hb1 : Below w.heap.size w W1 := by
  rw [← hW1]; exact ((Below.refl _ w).alloc (Nat.le_refl _) _).alloc (by simp) _
 have hI1 : I 0 W1 := hI 0 w W1 h0 (Calm.of_below hb1)
 refine ⟨w.heap.size + 1, [{ target := .collected w.heap.size, args := #[] }], W1, { target := .fn (.func gf) lb, args := #[.func (.yield (w.heap.size + 1)) #[] #[]] }, W1, gf,
  #[.func (.yield (w.heap.size + 1)) #[] #[]] ++ lb, W1, ?_, ?_, fun _ _ => trivial, ?_, wide_deep, ?_⟩
 ·rw [← hW1, hrec]; exact run_enterLoop_outer _ _ _ _ _
 ·simp only [resolve, hg]
  simp [go_sem]
 ·simp [invoke, go_sem, eg]
 ·have hkeep : ∀ {A B : World} {b : Nat} {o : Obj}, A.heap[b]? = some o → Below A.heap.size A B → B.heap[b]? = some o := fun hb hB => (hB.block _ (Array.getElem?_eq_some_iff.1 hb).1).trans hb
  refine callsIn_wide.2 ((hseq W1 hsz hb1 (w.heap.size + 1)
   (fun k W => I k W ∧ W.heap[w.heap.size + 1]? = some (.loop (rec .ready none)) ∧ W.heap[w.heap.size]? = some (.deferred (some [])))
   (fun W => Ix W ∧ W.heap[w.heap.size + 1]? = some (.loop (rec .done (some .ret))) ∧ W.heap[w.heap.size]? = some (.deferred (some [])))
   (fun k A B h hB => ⟨hI k A B h.1 (Calm.of_below hB), hkeep h.2.1 hB, hkeep h.2.2 hB⟩)
   (fun A B h hB => ⟨hIx A B h.1 (Calm.of_below hB), hkeep h.2.1 hB, hkeep h.2.2 hB⟩)
   (fun k A h => hPre k A h.1) ?_ ⟨hI1, hL1, hK1⟩).mono ?_)
  ·rintro k A vs hk ⟨hi, hl, hd⟩ hA hv
   rw [hsz] at hA hv ⊢
   have hy := run_yield (P := P) (args := vs) hl (by rw [hrec]; exact hV k _ A vs hv)
   rw [hrec] at hy
   refine ⟨fn, _, assign, body, hy, roundIn_of_wpIn trivial (hassign _ k vs A _ hv ?_)⟩
   clear hy
   intro a' A1 hB1 hax
   have hl1 := hkeep hl hB1
   have hd1 := hkeep hd hB1
   have hi1 := hI k A A1 hi (Calm.of_below hB1)
   have hv1 := hVc k _ A A1 vs hv (Calm.of_below hB1)
   have hlt : w.heap.size + 1 < A1.heap.size := (Array.getElem?_eq_some_iff.1 hl1).1
   refine ⟨_, run_beginRound hl1 (by rw [hrec]), ?_⟩
   obtain ⟨A2, hA2⟩ : ∃ A2, A1.putObj (w.heap.size + 1) (.loop { rec .ready none with state := .busy }) = A2 := ⟨_, rfl⟩
   have hc2 : Calm w.heap.size A1 A2 := by rw [← hA2]; exact Calm.putObj hl1 rfl (by omega) _
   have hl2 : A2.heap[w.heap.size + 1]? = some (.loop { rec .ready none with state := .busy }) := by rw [← hA2]; exact World.putObj_heap_same hlt
   have hd2 : A2.heap[w.heap.size]? = some (.deferred (some [])) := by rw [← hA2]; exact (World.putObj_heap_other (by omega)).trans hd1
   have hk2 : KeepBut (fun b => b = w.heap.size + 1) A1 A2 := by rw [← hA2]; exact ⟨rfl, rfl, rfl, by simp, fun j _ hS => World.putObj_heap_other hS⟩
   have hs2 : A1.heap.size ≤ A2.heap.size := hk2.size
   rw [hA2]
   refine wpIn_mono (hbody _ k vs a' A2 hk (by have := hB1.size; omega) (hI k A1 A2 hi1 hc2) (hVc k _ A1 A2 vs hv1 hc2) (hAx vs a' A1 A2 hax hc2)) ?_
   have fin : ∀ (jump : Option Code) (A3 : World), KeepBut (fun b => b < w.heap.size ∨ w.heap.size + 5 ≤ b) A2 A3 →
     (Instr.endRound (w.heap.size + 1) jump).run P A3 = .ok (.bool jump.isNone) (A3.putObj (w.heap.size + 1) (.loop (rec (if jump.isNone then .ready else .done) jump))) ∧
     A3.heap[w.heap.size + 1]? = some (.loop { rec .ready none with state := .busy }) ∧
     (A3.putObj (w.heap.size + 1) (.loop (rec (if jump.isNone then .ready else .done) jump))).heap[w.heap.size + 1]? = some (.loop (rec (if jump.isNone then .ready else .done) jump)) ∧
     (A3.putObj (w.heap.size + 1) (.loop (rec (if jump.isNone then .ready else .done) jump))).heap[w.heap.size]? = some (.deferred (some [])) := fun jump A3 hk3 => by
    have hl3 : A3.heap[w.heap.size + 1]? = _ := (hk3.block _ (Array.getElem?_eq_some_iff.1 hl2).1 (by omega)).trans hl2
    have hd3 : A3.heap[w.heap.size]? = _ := (hk3.block _ (Array.getElem?_eq_some_iff.1 hd2).1 (by omega)).trans hd2
    have := run_endRound (P := P) jump hl3
    rw [hrec] at this ⊢
    exact ⟨this, by rw [hrec] at hl3; exact hl3, World.putObj_heap_same (Array.getElem?_eq_some_iff.1 hl3).1, (World.putObj_heap_other (by omega)).trans hd3⟩
   rintro e a3 A3 hp
   cases e with
   | normal =>
    obtain ⟨hk3, hi3⟩ := hp
    obtain ⟨hr, hl3, hl4, hd4⟩ := fin none A3 hk3
    refine ⟨_, _, hr, .inl ⟨rfl, ⟨hI _ _ _ hi3 (Calm.putObj hl3 rfl (by omega) _), hl4, hd4⟩, ?_⟩⟩
    have hk4 : KeepBut (fun b => b = w.heap.size + 1) A3 (A3.putObj (w.heap.size + 1) (.loop (rec (if (none : Option Code).isNone then .ready else .done) none))) := ⟨rfl, rfl, rfl, by simp, fun j _ hS => World.putObj_heap_other hS⟩
    refine (((KeepBut.of_below (fun b => b < w.heap.size + 2 ∨ w.heap.size + 2 + 3 ≤ b) hB1).trans hk2 (fun b _ h => .inl (by omega))).trans hk3 (fun b _ h => ?_)).trans hk4 (fun b _ h => .inl (by omega))
    omega
   | ret =>
    obtain ⟨hk3, hi3⟩ := hp
    obtain ⟨hr, hl3, hl4, hd4⟩ := fin (some .ret) A3 hk3
    exact ⟨_, _, hr, .inr ⟨rfl, hIx _ _ hi3 (Calm.putObj hl3 rfl (by omega) _), hl4, hd4⟩⟩
   | exit id => exact hp.elim
   | goto t => exact hp.elim
   | panic ch => exact hp.elim
   | outgrown => exact hp.elim
  ·rintro e W2 ⟨⟨v, rfl⟩, (⟨hi, hl, hd⟩ | ⟨hi, hl, hd⟩)⟩
   ·exact ⟨none, _, by have := run_endLoop (P := P) hl (by rw [hrec]; simp); rw [hrec] at this; exact this, hdone _ _ (Nat.le_refl _) (hI _ _ _ hi (Calm.putObj hl rfl (by omega) _)) ((World.putObj_heap_other (by omega)).trans hd)⟩
   ·exact ⟨some .ret, _, by have := run_endLoop (P := P) hl (by rw [hrec]; simp); rw [hrec] at this; exact this, hstop _ _ (Nat.le_refl _) (hIx _ _ hi (Calm.putObj hl rfl (by omega) _)) ((World.putObj_heap_other (by omega)).trans hd)⟩
end
section
open Go.RowKit
theorem eq_tx (a b c d e f : Int) (w : World) : (Op.equalIn 10000 74 (.agg #[.int .u8 a, .int .u32 b, .int .u32 c]) (.agg #[.int .u8 d, .int .u32 e, .int .u32 f])).run Tryz.prog w = .ok (a == d && b == e && c == f) w := by
 have hS : Tryz.prog.underlying 74 = some (.struct (Tryz.prog.fieldsOf 74)) := by kernel_rfl
 rw [show (10000 : Nat) = 9999 + 1 from rfl, run_equalIn_agg w 9999 74 _ _ hS (by kernel_rfl)]
 simp only [Program.fieldsOf, Tryz.underlying74]
 go_simp
 by_cases h1 : a = d <;> by_cases h2 : b = e <;> by_cases h3 : c = f <;> simp [h1, h2, h3]
theorem eql_tx (a b c d e f : Int) (w : World) : (binOp .eql 74 (.agg #[.int .u8 a, .int .u32 b, .int .u32 c]) (.agg #[.int .u8 d, .int .u32 e, .int .u32 f])).run Tryz.prog w = .ok (.bool (a == d && b == e && c == f)) w := by
 rw [run_eql_struct, eq_tx]; rfl
theorem eq_reg (a b d e : Int) (w : World) : (Op.equalIn 10000 76 (.agg #[.int .u32 a, .int .u32 b]) (.agg #[.int .u32 d, .int .u32 e])).run Tryz.prog w = .ok (a == d && b == e) w := by
 have hS : Tryz.prog.underlying 76 = some (.struct (Tryz.prog.fieldsOf 76)) := by kernel_rfl
 rw [show (10000 : Nat) = 9999 + 1 from rfl, run_equalIn_agg w 9999 76 _ _ hS (by kernel_rfl)]
 simp only [Program.fieldsOf, Tryz.underlying76]
 go_simp
 by_cases h1 : a = d <;> by_cases h2 : b = e <;> simp [h1, h2]
theorem eql_reg (a b d e : Int) (w : World) : (binOp .eql 76 (.agg #[.int .u32 a, .int .u32 b]) (.agg #[.int .u32 d, .int .u32 e])).run Tryz.prog w = .ok (.bool (a == d && b == e)) w := by
 rw [run_eql_struct, eq_reg]; rfl
theorem eqi_key (a0 a1 a2 a3 a4 a5 a6 a7 b0 b1 b2 b3 b4 b5 b6 b7 : Int) (w : World) :
  (Op.equalIn 10000 81 (.agg #[.int .u8 a0, .int .u8 a1, .int .u8 a2, .int .u8 a3, .int .u8 a4, .int .u8 a5, .int .u8 a6, .int .u8 a7]) (.agg #[.int .u8 b0, .int .u8 b1, .int .u8 b2, .int .u8 b3, .int .u8 b4, .int .u8 b5, .int .u8 b6, .int .u8 b7])).run Tryz.prog w
   = .ok (decide ([a0, a1, a2, a3, a4, a5, a6, a7] = [b0, b1, b2, b3, b4, b5, b6, b7])) w := by
 rw [show (10000 : Nat) = 9999 + 1 from rfl, Op.equalIn]
 simp only [Sem.run_bind, run_underlying Tryz.underlying81, Result.andThen_ok]
 simp only [Std.Legacy.Range.forIn_eq_forIn_range', Std.Legacy.Range.size, Nat.sub_zero, Nat.add_sub_cancel, Nat.div_one, List.range'_succ, List.range'_zero, List.forIn_cons, List.forIn_nil]
 go_simp
 by_cases h0 : a0 = b0
 ·by_cases h1 : a1 = b1
  ·by_cases h2 : a2 = b2
   ·by_cases h3 : a3 = b3
    ·by_cases h4 : a4 = b4
     ·by_cases h5 : a5 = b5
      ·by_cases h6 : a6 = b6
       ·by_cases h7 : a7 = b7 <;> simp [h0, h1, h2, h3, h4, h5, h6, h7]
       ·simp [h0, h1, h2, h3, h4, h5, h6]
      ·simp [h0, h1, h2, h3, h4, h5]
     ·simp [h0, h1, h2, h3, h4]
    ·simp [h0, h1, h2, h3]
   ·simp [h0, h1, h2]
  ·simp [h0, h1]
 ·simp [h0]
theorem eqli_key (a0 a1 a2 a3 a4 a5 a6 a7 b0 b1 b2 b3 b4 b5 b6 b7 : Int) (w : World) :
  (binOp .eql 81 (.agg #[.int .u8 a0, .int .u8 a1, .int .u8 a2, .int .u8 a3, .int .u8 a4, .int .u8 a5, .int .u8 a6, .int .u8 a7]) (.agg #[.int .u8 b0, .int .u8 b1, .int .u8 b2, .int .u8 b3, .int .u8 b4, .int .u8 b5, .int .u8 b6, .int .u8 b7])).run Tryz.prog w
   = .ok (.bool (decide ([a0, a1, a2, a3, a4, a5, a6, a7] = [b0, b1, b2, b3, b4, b5, b6, b7]))) w := by
 rw [run_eql_struct, eqi_key]; rfl
theorem neqi_key (a0 a1 a2 a3 a4 a5 a6 a7 b0 b1 b2 b3 b4 b5 b6 b7 : Int) (w : World) :
  (binOp .neq 81 (.agg #[.int .u8 a0, .int .u8 a1, .int .u8 a2, .int .u8 a3, .int .u8 a4, .int .u8 a5, .int .u8 a6, .int .u8 a7]) (.agg #[.int .u8 b0, .int .u8 b1, .int .u8 b2, .int .u8 b3, .int .u8 b4, .int .u8 b5, .int .u8 b6, .int .u8 b7])).run Tryz.prog w
   = .ok (.bool (!decide ([a0, a1, a2, a3, a4, a5, a6, a7] = [b0, b1, b2, b3, b4, b5, b6, b7]))) w := by
 rw [run_neq_struct, eqi_key]; rfl
end
end Go.Proofs.YtlegliimgjmphaaGreat
