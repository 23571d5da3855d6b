/-
  Own texts put together: MpReg. Own work.
-/
import Derived.Test.YtiloagmkkhlfjaaGreatG02
import Derived.Test.YtiloagmkkhlfjaaGreatG01
namespace Go.Proofs.YtiloagmkkhlfjaaGreat
section
open Go Go.RowKit
section
variable {P : Program} {ops : Array Oper} {Q : Exit → Act → World → Prop}
def dst? (ops : Array Oper) (i : Nat) : Option Tmp := (ops[i]?).bind (·.dst)
def iN (ops : Array Oper) (a : Act) (i : Nat) : Value := match dst? ops i with
 | some d => a.tmps.getD d undef
 | none => undef
structure Now (ops : Array Oper) (listed : Array Bool) (i : Nat) (o : Oper) : Prop where
 un : listed.getD i true = false
 cl : ∀ (j : Nat) (u : Oper), ops[j]? = some u → listed.getD j true = true → ∀ e ∈ u.after, Region.binds .any e = true → listed.getD e.on true = true
 dl : ∀ e ∈ o.after, Region.binds .any e = true → listed.getD e.on true = true
def hangs (ops : Array Oper) : Nat → Nat → Nat → Bool
 | 0, _, _ => false
 | n + 1, j, i => match ops[j]? with
  | none => false
  | some u => u.after.any fun e => Region.binds .any e && (e.on == i || hangs ops n e.on i)
theorem unlisted_of {ops : Array Oper} {listed : Array Bool} {i : Nat} (hun : listed.getD i true = false) (hcl : ∀ (j : Nat) (u : Oper), ops[j]? = some u → listed.getD j true = true → ∀ e ∈ u.after, Region.binds .any e = true → listed.getD e.on true = true) : ∀ (n j : Nat), hangs ops n j i = true → listed.getD j true = false
 | 0, _, h => by cases h
 | n + 1, j, h => by
  unfold hangs at h
  cases hu : ops[j]? with
  | none => rw [hu] at h; cases h
  | some u =>
   rw [hu] at h
   simp only [Array.any_eq_true'] at h
   obtain ⟨e, he, h2⟩ := h
   rw [Bool.and_eq_true, Bool.or_eq_true] at h2
   cases hl : listed.getD j true with
   | false => rfl
   | true =>
    have h3 := hcl j u hu hl e he h2.1
    rcases h2.2 with h4 | h4
    ·have h4 : e.on = i := by simpa using h4
     rw [h4, hun] at h3
     cases h3
    ·rw [unlisted_of hun hcl n e.on h4] at h3
     cases h3
structure Each3 (ops : Array Oper) (I : Nat → Value → World → Prop) (S : Array Bool → World → Prop) (a0 : Act) (listed : Array Bool) (a : Act) (w : World) : Prop where
 s : S listed w
 sz : a.tmps.size = a0.tmps.size
 df : a.defers = a0.defers
 old : ∀ t, (∀ j, j < ops.size → dst? ops j ≠ some t) → a.tmps.getD t undef = a0.tmps.getD t undef
 new : ∀ i, i < ops.size → listed.getD i true = true → I i (iN ops a i) w
 cl : ∀ (j : Nat) (u : Oper), ops[j]? = some u → listed.getD j true = true → ∀ e ∈ u.after, Region.binds .any e = true → listed.getD e.on true = true
theorem each_any3 (a0 : Act) (I : Nat → Value → World → Prop) (S : Array Bool → World → Prop) (R : Nat → World → World → Prop)
  (hdst : ∀ (i : Nat) (d : Tmp), dst? ops i = some d → d < a0.tmps.size)
  (hinj : ∀ i j d, i < ops.size → j < ops.size → dst? ops i = some d → dst? ops j = some d → i = j)
  (hac : ∀ (i : Nat) (o : Oper), ops[i]? = some o → ∀ e ∈ o.after, Region.binds .any e = true → e.on < i)
  (hI : ∀ i j v w w', i ≠ j → I j v w → R i w w' → I j v w')
  (hstep : ∀ (i : Nat) (o : Oper), ops[i]? = some o → ∀ (listed : Array Bool) (a : Act) (w : World), listed.size = ops.size → Now ops listed i o → S listed w → (∀ t, (∀ j, j < ops.size → dst? ops j ≠ some t) → a.tmps.getD t undef = a0.tmps.getD t undef) →
   (∀ e ∈ o.after, Region.binds .any e = true → I e.on (iN ops a e.on) w) →
   wpOp P ops Q i (fun a' w' => S (listed.setIfInBounds i true) w' ∧ R i w w' ∧ ∃ v, I i v w' ∧ a' = a.put o.dst v ∧ (o.dst = none → v = undef)) a w)
  (hend : ∀ (listed : Array Bool) (a : Act) (w : World), (∀ i, i < ops.size → listed.getD i true = true) → S listed w → a.tmps.size = a0.tmps.size → a.defers = a0.defers → (∀ t, (∀ j, j < ops.size → dst? ops j ≠ some t) → a.tmps.getD t undef = a0.tmps.getD t undef) →
   (∀ i, i < ops.size → I i (iN ops a i) w) → Q .normal a w) :
  ∀ (fuel : Nat) (listed : Array Bool) (a : Act) (w : World), listed.size = ops.size → cP ops listed ≤ fuel → Each3 ops I S a0 listed a w → wpAny P .any ops Q fuel listed a w := by
 have hfin : ∀ (listed : Array Bool) (a : Act) (w : World), cP ops listed = 0 → Each3 ops I S a0 listed a w → Q .normal a w := fun listed a w h0 hE =>
  hend listed a w (fun i hi => jX h0 hi) hE.s hE.sz hE.df hE.old fun i hi => hE.new i hi (jX h0 hi)
 have hready : ∀ (listed : Array Bool), listed.size = ops.size → Region.ready .any ops listed = [] → cP ops listed = 0 := by
  intro listed hs hr
  have hall : ∀ n i, i < n → i < ops.size → listed.getD i true = true := by
   intro n
   induction n with
   | zero => intro i h; omega
   | succ n ih =>
    intro i h1 h2
    by_cases hlt : i < n
    ·exact ih i hlt h2
    ·obtain rfl : i = n := by omega
     cases hl : listed.getD i true with
     | true => rfl
     | false =>
      exfalso
      have : i ∈ Region.ready .any ops listed := by
       unfold Region.ready
       rw [List.mem_filter]
       refine ⟨by simpa using h2, ?_⟩
       have ho : ops[i]? = some ops[i] := by simp [h2]
       rw [hl, ho]
       simp only [Bool.not_false, Option.map_some, Option.getD_some, Bool.true_and, Array.all_eq_true_iff_forall_mem]
       intro e he
       cases hbe : Region.binds .any e with
       | false => simp
       | true =>
        have hlt := hac i _ ho e he hbe
        have h3 := ih e.on hlt (by omega)
        have h4 : listed.getD e.on false = true := by
         have hlt2 : e.on < listed.size := by omega
         simp only [Array.getD_eq_getD_getElem?, Array.getElem?_eq_getElem hlt2, Option.getD_some] at h3 ⊢
         exact h3
        rw [h4]
        simp
      rw [hr] at this
      cases this
  unfold cP
  rw [List.length_eq_zero_iff, List.filter_eq_nil_iff]
  intro i hi
  have hi' : i < ops.size := by simpa using hi
  simp [hall (i + 1) i (by omega) hi']
 intro fuel
 induction fuel with
 | zero =>
  intro listed a w hs hc hE
  have h0 : cP ops listed = 0 := by omega
  refine ⟨?_, hfin listed a w h0 hE⟩
  unfold Region.ready
  rw [List.filter_eq_nil_iff]
  intro i hi
  have hi' : i < ops.size := by simpa using hi
  simp [jX h0 hi']
 | succ fuel ih =>
  intro listed a w hs hc hE
  refine ⟨fun hr => hfin listed a w (hready listed hs hr) hE, fun i hi => ?_⟩
  unfold Region.ready at hi
  rw [List.mem_filter] at hi
  obtain ⟨hi1, hi2⟩ := hi
  have hin : i < ops.size := by simpa using hi1
  have ho : ops[i]? = some ops[i] := by simp [hin]
  have hdo : dst? ops i = ops[i].dst := by unfold dst?; rw [ho]; rfl
  rw [ho] at hi2
  simp only [Option.map_some, Option.getD_some, Bool.and_eq_true, Bool.not_eq_true', Array.all_eq_true_iff_forall_mem] at hi2
  obtain ⟨hl, hdeps⟩ := hi2
  have hdl : ∀ e ∈ ops[i].after, Region.binds .any e = true → listed.getD e.on true = true := fun e he hb => by
   have h1 := hdeps e he
   rw [hb] at h1
   simp only [Bool.not_true, Bool.false_or] at h1
   have hon := hac i _ ho e he hb
   have hlt2 : e.on < listed.size := by omega
   simp only [Array.getD_eq_getD_getElem?, Array.getElem?_eq_getElem hlt2, Option.getD_some] at h1 ⊢
   exact h1
  have hst := hstep i _ ho listed a w hs ⟨hl, hE.cl, hdl⟩ hE.s hE.old (fun e he hb => hE.new e.on (by have := hac i _ ho e he hb; omega) (hdl e he hb))
  refine wpOp_mono (fun a' w' h => ?_) hst
  obtain ⟨hS', hB', v, hv, rfl, hnone⟩ := h
  have hcount := open_step hin hs hl
  refine ih _ _ _ (by simp [hs]) (by omega) ⟨hS', ?_, ?_, ?_, ?_, ?_⟩
  ·cases hd : ops[i].dst <;> simp [Act.put, hE.sz]
  ·cases hd : ops[i].dst <;> exact hE.df
  ·intro t ht
   rw [← hE.old t ht]
   have hne := ht i hin
   rw [hdo] at hne
   cases hd : ops[i].dst with
   | none => rfl
   | some d =>
    have hne : d ≠ t := fun e => hne (by rw [hd, e])
    simp [Act.put, Array.getD_eq_getD_getElem?, Array.getElem?_setIfInBounds_ne hne]
  ·intro j hj hlj
   by_cases e : i = j
   ·subst e
    have : iN ops (a.put ops[i].dst v) i = v := by
     unfold iN
     rw [hdo]
     cases hd : ops[i].dst with
     | none => exact (hnone hd).symm
     | some d =>
      have hlt := hdst i d (by rw [hdo, hd])
      simp [Act.put, Array.getD_eq_getD_getElem?, hE.sz, hlt]
    rw [this]
    exact hv
   ·have h1 : iN ops (a.put ops[i].dst v) j = iN ops a j := by
     unfold iN
     cases hj2 : dst? ops j with
     | none => rfl
     | some dj =>
      cases hd : ops[i].dst with
      | none => rfl
      | some d =>
       have hne : d ≠ dj := fun h => e (hinj i j d hin hj (by rw [hdo, hd]) (by rw [hj2, h]))
       simp [Act.put, Array.getD_eq_getD_getElem?, Array.getElem?_setIfInBounds_ne hne]
    rw [h1]
    have h2 : listed.getD j true = true := by
     simpa [Array.getD_eq_getD_getElem?, Array.getElem?_setIfInBounds_ne e] using hlj
    exact hI i j _ w w' e (hE.new j hj h2) hB'
  ·intro j u hu hlj e he hb
   by_cases ei : i = e.on
   ·rw [← ei]
    by_cases h : i < listed.size <;> simp [Array.getD_eq_getD_getElem?, h]
   ·have h1 : (listed.setIfInBounds i true).getD e.on true = listed.getD e.on true := by simp [Array.getD_eq_getD_getElem?, Array.getElem?_setIfInBounds_ne ei]
    rw [h1]
    by_cases ej : i = j
    ·subst ej
     rw [ho] at hu
     cases hu
     exact hdl e he hb
    ·exact hE.cl j u hu (by simpa [Array.getD_eq_getD_getElem?, Array.getElem?_setIfInBounds_ne ej] using hlj) e he hb
def eachOk3 (ops : Array Oper) (n : Nat) : Bool :=
 (List.range ops.size).all fun i => match ops[i]? with
  | none => false
  | some o => (match o.dst with | none => true | some d => decide (d < n)) && o.after.all (fun e => !Region.binds .any e || decide (e.on < i)) && (List.range ops.size).all fun j => i == j || dst? ops i == none || dst? ops i != dst? ops j
def lB (ops : Array Oper) (t : Nat) : Bool := (List.range ops.size).all fun j => dst? ops j != some t
theorem lC {t : Nat} (h : lB ops t = true) : ∀ j, j < ops.size → dst? ops j ≠ some t := by
 intro j hj
 unfold lB at h
 rw [List.all_eq_true] at h
 have := h j (by simpa using hj)
 simpa using this
theorem eachOk3_spec {n : Nat} (h : eachOk3 ops n = true) :
  (∀ (i : Nat) (d : Tmp), dst? ops i = some d → d < n) ∧
  (∀ i j d, i < ops.size → j < ops.size → dst? ops i = some d → dst? ops j = some d → i = j) ∧
  (∀ (i : Nat) (o : Oper), ops[i]? = some o → ∀ e ∈ o.after, Region.binds .any e = true → e.on < i) := by
 unfold eachOk3 at h
 rw [List.all_eq_true] at h
 have key : ∀ (i : Nat) (o : Oper), ops[i]? = some o → (∀ d, o.dst = some d → d < n) ∧ (∀ e ∈ o.after, Region.binds .any e = true → e.on < i) ∧ ∀ j, j < ops.size → (i = j ∨ dst? ops i = none) ∨ dst? ops i ≠ dst? ops j := by
  intro i o ho
  have hi : i < ops.size := (Array.getElem?_eq_some_iff.1 ho).1
  have := h i (by simpa using hi)
  rw [ho] at this
  simp only [Bool.and_eq_true, beq_iff_eq, Array.all_eq_true_iff_forall_mem, List.all_eq_true, Bool.or_eq_true, bne_iff_ne, List.mem_range, Bool.not_eq_true', decide_eq_true_eq] at this
  refine ⟨fun d hd => ?_, fun e he hb => ?_, this.2⟩
  ·have h1 := this.1.1
   rw [hd] at h1
   simpa using h1
  ·rcases this.1.2 e he with h1 | h1
   ·rw [h1] at hb; cases hb
   ·exact h1
 refine ⟨fun i d hd => ?_, fun i j d hi hj h1 h2 => ?_, fun i o ho => (key i o ho).2.1⟩
 ·unfold dst? at hd
  cases ho : ops[i]? with
  | none => rw [ho] at hd; cases hd
  | some o => rw [ho] at hd; exact (key i o ho).1 d hd
 ·rcases (key i ops[i] (by simp [hi])).2.2 j hj with (h3 | h3) | h3
  ·exact h3
  ·rw [h1] at h3; cases h3
  ·exact absurd (h1.trans h2.symm) h3
theorem wp_region_each3 {id : Nat} {a0 : Act} {w : World} (hm : P.follows .mixedOrders = true) (I : Nat → Value → World → Prop) (S : Array Bool → World → Prop) (R : Nat → World → World → Prop) (hok : eachOk3 ops a0.tmps.size = true)
  (hI : ∀ i j v w w', i ≠ j → I j v w → R i w w' → I j v w')
  (hS : S (Array.replicate ops.size false) w.drew)
  (hstep : ∀ (i : Nat) (o : Oper), ops[i]? = some o → ∀ (listed : Array Bool) (a : Act) (w : World), listed.size = ops.size → Now ops listed i o → S listed w → (∀ t, lB ops t = true → a.tmps.getD t undef = a0.tmps.getD t undef) →
   (∀ e ∈ o.after, Region.binds .any e = true → I e.on (iN ops a e.on) w) →
   wpOp P ops Q i (fun a' w' => S (listed.setIfInBounds i true) w' ∧ R i w w' ∧ ∃ v, I i v w' ∧ a' = a.put o.dst v ∧ (o.dst = none → v = undef)) a w)
  (hend : ∀ (listed : Array Bool) (a : Act) (w : World), (∀ i, i < ops.size → listed.getD i true = true) → S listed w → a.tmps.size = a0.tmps.size → a.defers = a0.defers → (∀ t, lB ops t = true → a.tmps.getD t undef = a0.tmps.getD t undef) →
   (∀ i, i < ops.size → I i (iN ops a i) w) → Q .normal a w) :
  (Code.region id ops true).wp P Q a0 w := by
 obtain ⟨h1, h2, h3⟩ := eachOk3_spec hok
 refine wp_region_any hm (each_any3 a0 I S R h1 h2 h3 hI ?_ ?_ ops.size _ a0 _ (by simp) ?_ ⟨hS, rfl, rfl, fun _ _ => rfl, ?_, ?_⟩)
 ·intro i o ho listed a w1 hs hl hS1 hold hdeps
  exact hstep i o ho listed a w1 hs hl hS1 (fun t ht => hold t (lC ht)) hdeps
 ·intro listed a w1 hall hS1 hs hd hold hnew
  exact hend listed a w1 hall hS1 hs hd (fun t ht => hold t (lC ht)) hnew
 ·unfold cP
  exact Nat.le_trans (List.length_filter_le _ _) (by simp)
 ·intro i hi h
  simp [Array.getD_eq_getD_getElem?, hi] at h
 ·intro j u hu h
  have hj : j < ops.size := (Array.getElem?_eq_some_iff.1 hu).1
  simp [Array.getD_eq_getD_getElem?, hj] at h
theorem bC {I : Nat → Value → World → Prop} {o : Oper} {a : Act} {w : World} (hdeps : ∀ e ∈ o.after, Region.binds .any e = true → I e.on (iN ops a e.on) w) (j : Nat)
  (h : (o.after.toList.any fun e => e.on == j && Region.binds .any e) = true) : I j (iN ops a j) w := by
 rw [List.any_eq_true] at h
 obtain ⟨e, he, h2⟩ := h
 simp only [Bool.and_eq_true, beq_iff_eq] at h2
 obtain ⟨rfl, hb⟩ := h2
 exact hdeps e (by simpa using he) hb
theorem eA {i : Nat} {o : Oper} {a : Act} {w w' : World} {v : Value} {S : World → Prop} {R : World → Prop} {I : Nat → Value → World → Prop} (hi : ops[i]? = some o) (hw : Region.wanted o (yielded ops a.tmps) = true) {d : Tmp} (hd : o.dst = some d)
  (hr : (execOp a.eval o).run P w = .ok (.value v) w') (hS : S w') (hR : R w') (hv : I i v w') : wpOp P ops Q i (fun a' w' => S w' ∧ R w' ∧ ∃ v, I i v w' ∧ a' = a.put o.dst v ∧ (o.dst = none → v = undef)) a w :=
 each_value hi hw hr ⟨hS, hR, v, hv, rfl, fun h => by rw [hd] at h; cases h⟩
theorem t_store {i : Nat} {o : Oper} {a : Act} {w w' : World} {S : World → Prop} {R : World → Prop} {I : Nat → Value → World → Prop} (hi : ops[i]? = some o) (hw : Region.wanted o (yielded ops a.tmps) = true)
  (hr : (execOp a.eval o).run P w = .ok .skip w') (hS : S w') (hR : R w') (hv : I i undef w') : wpOp P ops Q i (fun a' w' => S w' ∧ R w' ∧ ∃ v, I i v w' ∧ a' = a.put o.dst v ∧ (o.dst = none → v = undef)) a w := by
 unfold wpOp
 simp only [hi, hw, if_true]
 refine .inl ?_
 unfold Oper.wp
 rw [hr]
 exact ⟨hS, hR, undef, hv, rfl, fun _ => rfl⟩
theorem t_enter {i : Nat} {o : Oper} {a : Act} {w : World} {f : FuncId} {args : Array Value} {S : World → Prop} {R : World → Prop} {I : Nat → Value → World → Prop} (hi : ops[i]? = some o) (hw : Region.wanted o (yielded ops a.tmps) = true) {d : Tmp} (hd : o.dst = some d)
  (hr : (execOp a.eval o).run P w = .ok (.enter f args) w) (h : Calls P f args w fun e w' => ∃ v, e = .returned v ∧ S w' ∧ R w' ∧ I i v w') : wpOp P ops Q i (fun a' w' => S w' ∧ R w' ∧ ∃ v, I i v w' ∧ a' = a.put o.dst v ∧ (o.dst = none → v = undef)) a w :=
 each_call hi hw hr (Calls.mono h fun _ _ ⟨v, he, hS, hR, hv⟩ => ⟨v, he, hS, hR, v, hv, rfl, fun h => by rw [hd] at h; cases h⟩)
def pvO (ps : List (Option Tmp × Value)) (i : Nat) : Value := (ps.getD i (none, undef)).2
def jK (ps : List (Option Tmp × Value)) : List (Nat × Value) := ps.filterMap fun x => x.1.map fun d => (d, x.2)
def InvO (ps : List (Option Tmp × Value)) (i : Nat) (v : Value) (_ : World) : Prop := v = pvO ps i
end
end
end Go.Proofs.YtiloagmkkhlfjaaGreat
