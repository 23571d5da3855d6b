/-
  Own texts put together: MpReg, AppStr, Plain. Own work.
-/
import Derived.Test.YtoppdelljjapoaaGreatG01
import Derived.Lib.AppendStr
import Derived.Maps.AppendAt
import Derived.Laws.BitsAllLaws
import Derived.Laws.Bits64
import Derived.Lib.TrailingZeros
namespace Go.Proofs.YtoppdelljjapoaaGreat
section
open Go Go.RowKit

section
variable {P : Program} {ops : Array Oper} {Q : Exit → Act → World → Prop}

def dst? (ops : Array Oper) (i : Nat) : Option Tmp := (ops[i]?).bind (·.dst)
/-- What operation number i has left in its slot. -/
def valOf (ops : Array Oper) (a : Act) (i : Nat) : Value := match dst? ops i with
  | some d => a.tmps.getD d undef
  | none => undef
/-- What is known of the listing when operation number i comes up. -/
structure Now (ops : Array Oper) (listed : Array Bool) (i : Nat) (o : Oper) : Prop where
  un : listed.getD i true = false
  cl : ∀ (j : Nat) (u : Oper), ops[j]? = some u → listed.getD j true = true → ∀ e ∈ u.after, Region.binds .any e = true → listed.getD e.on true = true
  dl : ∀ e ∈ o.after, Region.binds .any e = true → listed.getD e.on true = true
/-- Number j hangs on number i. -/
def hangs (ops : Array Oper) : Nat → Nat → Nat → Bool
  | 0, _, _ => false
  | n + 1, j, i => match ops[j]? with
    | none => false
    | some u => u.after.any fun e => Region.binds .any e && (e.on == i || hangs ops n e.on i)
theorem unlisted_of {ops : Array Oper} {listed : Array Bool} {i : Nat} (hun : listed.getD i true = false) (hcl : ∀ (j : Nat) (u : Oper), ops[j]? = some u → listed.getD j true = true → ∀ e ∈ u.after, Region.binds .any e = true → listed.getD e.on true = true) : ∀ (n j : Nat), hangs ops n j i = true → listed.getD j true = false
  | 0, _, h => by cases h
  | n + 1, j, h => by
    unfold hangs at h
    cases hu : ops[j]? with
    | none => rw [hu] at h; cases h
    | some u =>
      rw [hu] at h
      simp only [Array.any_eq_true'] at h
      obtain ⟨e, he, h2⟩ := h
      rw [Bool.and_eq_true, Bool.or_eq_true] at h2
      cases hl : listed.getD j true with
      | false => rfl
      | true =>
        have h3 := hcl j u hu hl e he h2.1
        rcases h2.2 with h4 | h4
        · have h4 : e.on = i := by simpa using h4
          rw [h4, hun] at h3
          cases h3
        · rw [unlisted_of hun hcl n e.on h4] at h3
          cases h3
structure Each3 (ops : Array Oper) (I : Nat → Value → World → Prop) (S : Array Bool → World → Prop) (a0 : Act) (listed : Array Bool) (a : Act) (w : World) : Prop where
  s : S listed w
  sz : a.tmps.size = a0.tmps.size
  df : a.defers = a0.defers
  old : ∀ t, (∀ j, j < ops.size → dst? ops j ≠ some t) → a.tmps.getD t undef = a0.tmps.getD t undef
  new : ∀ i, i < ops.size → listed.getD i true = true → I i (valOf ops a i) w
  cl : ∀ (j : Nat) (u : Oper), ops[j]? = some u → listed.getD j true = true → ∀ e ∈ u.after, Region.binds .any e = true → listed.getD e.on true = true

theorem each_any3 (a0 : Act) (I : Nat → Value → World → Prop) (S : Array Bool → World → Prop) (R : Nat → World → World → Prop)
    (hdst : ∀ (i : Nat) (d : Tmp), dst? ops i = some d → d < a0.tmps.size)
    (hinj : ∀ i j d, i < ops.size → j < ops.size → dst? ops i = some d → dst? ops j = some d → i = j)
    (hac : ∀ (i : Nat) (o : Oper), ops[i]? = some o → ∀ e ∈ o.after, Region.binds .any e = true → e.on < i)
    (hI : ∀ i j v w w', i ≠ j → I j v w → R i w w' → I j v w')
    (hstep : ∀ (i : Nat) (o : Oper), ops[i]? = some o → ∀ (listed : Array Bool) (a : Act) (w : World), listed.size = ops.size → Now ops listed i o → S listed w → (∀ t, (∀ j, j < ops.size → dst? ops j ≠ some t) → a.tmps.getD t undef = a0.tmps.getD t undef) →
      (∀ e ∈ o.after, Region.binds .any e = true → I e.on (valOf ops a e.on) w) →
      wpOp P ops Q i (fun a' w' => S (listed.setIfInBounds i true) w' ∧ R i w w' ∧ ∃ v, I i v w' ∧ a' = a.put o.dst v ∧ (o.dst = none → v = undef)) a w)
    (hend : ∀ (listed : Array Bool) (a : Act) (w : World), (∀ i, i < ops.size → listed.getD i true = true) → S listed w → a.tmps.size = a0.tmps.size → a.defers = a0.defers → (∀ t, (∀ j, j < ops.size → dst? ops j ≠ some t) → a.tmps.getD t undef = a0.tmps.getD t undef) →
      (∀ i, i < ops.size → I i (valOf ops a i) w) → Q .normal a w) :
    ∀ (fuel : Nat) (listed : Array Bool) (a : Act) (w : World), listed.size = ops.size → openCount ops listed ≤ fuel → Each3 ops I S a0 listed a w → wpAny P .any ops Q fuel listed a w := by
  have hfin : ∀ (listed : Array Bool) (a : Act) (w : World), openCount ops listed = 0 → Each3 ops I S a0 listed a w → Q .normal a w := fun listed a w h0 hE =>
    hend listed a w (fun i hi => open_zero h0 hi) hE.s hE.sz hE.df hE.old fun i hi => hE.new i hi (open_zero h0 hi)
  -- where nothing may come up, all has come up: the first that has not waits for earlier ones alone
  have hready : ∀ (listed : Array Bool), listed.size = ops.size → Region.ready .any ops listed = [] → openCount ops listed = 0 := by
    intro listed hs hr
    have hall : ∀ n i, i < n → i < ops.size → listed.getD i true = true := by
      intro n
      induction n with
      | zero => intro i h; omega
      | succ n ih =>
        intro i h1 h2
        by_cases hlt : i < n
        · exact ih i hlt h2
        · obtain rfl : i = n := by omega
          cases hl : listed.getD i true with
          | true => rfl
          | false =>
            exfalso
            have : i ∈ Region.ready .any ops listed := by
              unfold Region.ready
              rw [List.mem_filter]
              refine ⟨by simpa using h2, ?_⟩
              have ho : ops[i]? = some ops[i] := by simp [h2]
              rw [hl, ho]
              simp only [Bool.not_false, Option.map_some, Option.getD_some, Bool.true_and, Array.all_eq_true_iff_forall_mem]
              intro e he
              cases hbe : Region.binds .any e with
              | false => simp
              | true =>
                have hlt := hac i _ ho e he hbe
                have h3 := ih e.on hlt (by omega)
                have h4 : listed.getD e.on false = true := by
                  have hlt2 : e.on < listed.size := by omega
                  simp only [Array.getD_eq_getD_getElem?, Array.getElem?_eq_getElem hlt2, Option.getD_some] at h3 ⊢
                  exact h3
                rw [h4]
                simp
            rw [hr] at this
            cases this
    unfold openCount
    rw [List.length_eq_zero_iff, List.filter_eq_nil_iff]
    intro i hi
    have hi' : i < ops.size := by simpa using hi
    simp [hall (i + 1) i (by omega) hi']
  intro fuel
  induction fuel with
  | zero =>
    intro listed a w hs hc hE
    have h0 : openCount ops listed = 0 := by omega
    refine ⟨?_, hfin listed a w h0 hE⟩
    unfold Region.ready
    rw [List.filter_eq_nil_iff]
    intro i hi
    have hi' : i < ops.size := by simpa using hi
    simp [open_zero h0 hi']
  | succ fuel ih =>
    intro listed a w hs hc hE
    refine ⟨fun hr => hfin listed a w (hready listed hs hr) hE, fun i hi => ?_⟩
    unfold Region.ready at hi
    rw [List.mem_filter] at hi
    obtain ⟨hi1, hi2⟩ := hi
    have hin : i < ops.size := by simpa using hi1
    have ho : ops[i]? = some ops[i] := by simp [hin]
    have hdo : dst? ops i = ops[i].dst := by unfold dst?; rw [ho]; rfl
    rw [ho] at hi2
    simp only [Option.map_some, Option.getD_some, Bool.and_eq_true, Bool.not_eq_true', Array.all_eq_true_iff_forall_mem] at hi2
    obtain ⟨hl, hdeps⟩ := hi2
    have hdl : ∀ e ∈ ops[i].after, Region.binds .any e = true → listed.getD e.on true = true := fun e he hb => by
      have h1 := hdeps e he
      rw [hb] at h1
      simp only [Bool.not_true, Bool.false_or] at h1
      have hon := hac i _ ho e he hb
      have hlt2 : e.on < listed.size := by omega
      simp only [Array.getD_eq_getD_getElem?, Array.getElem?_eq_getElem hlt2, Option.getD_some] at h1 ⊢
      exact h1
    have hst := hstep i _ ho listed a w hs ⟨hl, hE.cl, hdl⟩ hE.s hE.old (fun e he hb => hE.new e.on (by have := hac i _ ho e he hb; omega) (hdl e he hb))
    refine wpOp_mono (fun a' w' h => ?_) hst
    obtain ⟨hS', hB', v, hv, rfl, hnone⟩ := h
    have hcount := open_step hin hs hl
    refine ih _ _ _ (by simp [hs]) (by omega) ⟨hS', ?_, ?_, ?_, ?_, ?_⟩
    · cases hd : ops[i].dst <;> simp [Act.put, hE.sz]
    · cases hd : ops[i].dst <;> exact hE.df
    · intro t ht
      rw [← hE.old t ht]
      have hne := ht i hin
      rw [hdo] at hne
      cases hd : ops[i].dst with
      | none => rfl
      | some d =>
        have hne : d ≠ t := fun e => hne (by rw [hd, e])
        simp [Act.put, Array.getD_eq_getD_getElem?, Array.getElem?_setIfInBounds_ne hne]
    · intro j hj hlj
      by_cases e : i = j
      · subst e
        have : valOf ops (a.put ops[i].dst v) i = v := by
          unfold valOf
          rw [hdo]
          cases hd : ops[i].dst with
          | none => exact (hnone hd).symm
          | some d =>
            have hlt := hdst i d (by rw [hdo, hd])
            simp [Act.put, Array.getD_eq_getD_getElem?, hE.sz, hlt]
        rw [this]
        exact hv
      · have h1 : valOf ops (a.put ops[i].dst v) j = valOf ops a j := by
          unfold valOf
          cases hj2 : dst? ops j with
          | none => rfl
          | some dj =>
            cases hd : ops[i].dst with
            | none => rfl
            | some d =>
              have hne : d ≠ dj := fun h => e (hinj i j d hin hj (by rw [hdo, hd]) (by rw [hj2, h]))
              simp [Act.put, Array.getD_eq_getD_getElem?, Array.getElem?_setIfInBounds_ne hne]
        rw [h1]
        have h2 : listed.getD j true = true := by
          simpa [Array.getD_eq_getD_getElem?, Array.getElem?_setIfInBounds_ne e] using hlj
        exact hI i j _ w w' e (hE.new j hj h2) hB'
    · intro j u hu hlj e he hb
      by_cases ei : i = e.on
      · rw [← ei]
        by_cases h : i < listed.size <;> simp [Array.getD_eq_getD_getElem?, h]
      · have h1 : (listed.setIfInBounds i true).getD e.on true = listed.getD e.on true := by simp [Array.getD_eq_getD_getElem?, Array.getElem?_setIfInBounds_ne ei]
        rw [h1]
        by_cases ej : i = j
        · subst ej
          rw [ho] at hu
          cases hu
          exact hdl e he hb
        · exact hE.cl j u hu (by simpa [Array.getD_eq_getD_getElem?, Array.getElem?_setIfInBounds_ne ej] using hlj) e he hb

/-- The closed conditions, as one test. -/
def eachOk3 (ops : Array Oper) (n : Nat) : Bool :=
  (List.range ops.size).all fun i => match ops[i]? with
    | none => false
    | some o => (match o.dst with | none => true | some d => decide (d < n)) && o.after.all (fun e => !Region.binds .any e || decide (e.on < i)) && (List.range ops.size).all fun j => i == j || dst? ops i == none || dst? ops i != dst? ops j
def offOps3 (ops : Array Oper) (t : Nat) : Bool := (List.range ops.size).all fun j => dst? ops j != some t
theorem offOps3_spec {t : Nat} (h : offOps3 ops t = true) : ∀ j, j < ops.size → dst? ops j ≠ some t := by
  intro j hj
  unfold offOps3 at h
  rw [List.all_eq_true] at h
  have := h j (by simpa using hj)
  simpa using this
theorem eachOk3_spec {n : Nat} (h : eachOk3 ops n = true) :
    (∀ (i : Nat) (d : Tmp), dst? ops i = some d → d < n) ∧
    (∀ i j d, i < ops.size → j < ops.size → dst? ops i = some d → dst? ops j = some d → i = j) ∧
    (∀ (i : Nat) (o : Oper), ops[i]? = some o → ∀ e ∈ o.after, Region.binds .any e = true → e.on < i) := by
  unfold eachOk3 at h
  rw [List.all_eq_true] at h
  have key : ∀ (i : Nat) (o : Oper), ops[i]? = some o → (∀ d, o.dst = some d → d < n) ∧ (∀ e ∈ o.after, Region.binds .any e = true → e.on < i) ∧ ∀ j, j < ops.size → (i = j ∨ dst? ops i = none) ∨ dst? ops i ≠ dst? ops j := by
    intro i o ho
    have hi : i < ops.size := (Array.getElem?_eq_some_iff.1 ho).1
    have := h i (by simpa using hi)
    rw [ho] at this
    simp only [Bool.and_eq_true, beq_iff_eq, Array.all_eq_true_iff_forall_mem, List.all_eq_true, Bool.or_eq_true, bne_iff_ne, List.mem_range, Bool.not_eq_true', decide_eq_true_eq] at this
    refine ⟨fun d hd => ?_, fun e he hb => ?_, this.2⟩
    · have h1 := this.1.1
      rw [hd] at h1
      simpa using h1
    · rcases this.1.2 e he with h1 | h1
      · rw [h1] at hb; cases hb
      · exact h1
  refine ⟨fun i d hd => ?_, fun i j d hi hj h1 h2 => ?_, fun i o ho => (key i o ho).2.1⟩
  · unfold dst? at hd
    cases ho : ops[i]? with
    | none => rw [ho] at hd; cases hd
    | some o => rw [ho] at hd; exact (key i o ho).1 d hd
  · rcases (key i ops[i] (by simp [hi])).2.2 j hj with (h3 | h3) | h3
    · exact h3
    · rw [h1] at h3; cases h3
    · exact absurd (h1.trans h2.symm) h3

/-- THE LAW: a region that draws, by what each of its operations leaves and does. -/
theorem wp_region_each3 {id : Nat} {a0 : Act} {w : World} (hm : P.follows .mixedOrders = true) (I : Nat → Value → World → Prop) (S : Array Bool → World → Prop) (R : Nat → World → World → Prop) (hok : eachOk3 ops a0.tmps.size = true)
    (hI : ∀ i j v w w', i ≠ j → I j v w → R i w w' → I j v w')
    (hS : S (Array.replicate ops.size false) w.drew)
    (hstep : ∀ (i : Nat) (o : Oper), ops[i]? = some o → ∀ (listed : Array Bool) (a : Act) (w : World), listed.size = ops.size → Now ops listed i o → S listed w → (∀ t, offOps3 ops t = true → a.tmps.getD t undef = a0.tmps.getD t undef) →
      (∀ e ∈ o.after, Region.binds .any e = true → I e.on (valOf ops a e.on) w) →
      wpOp P ops Q i (fun a' w' => S (listed.setIfInBounds i true) w' ∧ R i w w' ∧ ∃ v, I i v w' ∧ a' = a.put o.dst v ∧ (o.dst = none → v = undef)) a w)
    (hend : ∀ (listed : Array Bool) (a : Act) (w : World), (∀ i, i < ops.size → listed.getD i true = true) → S listed w → a.tmps.size = a0.tmps.size → a.defers = a0.defers → (∀ t, offOps3 ops t = true → a.tmps.getD t undef = a0.tmps.getD t undef) →
      (∀ i, i < ops.size → I i (valOf ops a i) w) → Q .normal a w) :
    (Code.region id ops true).wp P Q a0 w := by
  obtain ⟨h1, h2, h3⟩ := eachOk3_spec hok
  refine wp_region_any hm (each_any3 a0 I S R h1 h2 h3 hI ?_ ?_ ops.size _ a0 _ (by simp) ?_ ⟨hS, rfl, rfl, fun _ _ => rfl, ?_, ?_⟩)
  · intro i o ho listed a w1 hs hl hS1 hold hdeps
    exact hstep i o ho listed a w1 hs hl hS1 (fun t ht => hold t (offOps3_spec ht)) hdeps
  · intro listed a w1 hall hS1 hs hd hold hnew
    exact hend listed a w1 hall hS1 hs hd (fun t ht => hold t (offOps3_spec ht)) hnew
  · unfold openCount
    exact Nat.le_trans (List.length_filter_le _ _) (by simp)
  · intro i hi h
    simp [Array.getD_eq_getD_getElem?, hi] at h
  · intro j u hu h
    have hj : j < ops.size := (Array.getElem?_eq_some_iff.1 hu).1
    simp [Array.getD_eq_getD_getElem?, hj] at h
theorem dep3_of {I : Nat → Value → World → Prop} {o : Oper} {a : Act} {w : World} (hdeps : ∀ e ∈ o.after, Region.binds .any e = true → I e.on (valOf ops a e.on) w) (j : Nat)
    (h : (o.after.toList.any fun e => e.on == j && Region.binds .any e) = true) : I j (valOf ops a j) w := by
  rw [List.any_eq_true] at h
  obtain ⟨e, he, h2⟩ := h
  simp only [Bool.and_eq_true, beq_iff_eq] at h2
  obtain ⟨rfl, hb⟩ := h2
  exact hdeps e (by simpa using he) hb
/-- An operation with a slot that leaves a value. -/
theorem t_value {i : Nat} {o : Oper} {a : Act} {w w' : World} {v : Value} {S : World → Prop} {R : World → Prop} {I : Nat → Value → World → Prop} (hi : ops[i]? = some o) (hw : Region.wanted o (yielded ops a.tmps) = true) {d : Tmp} (hd : o.dst = some d)
    (hr : (execOp a.eval o).run P w = .ok (.value v) w') (hS : S w') (hR : R w') (hv : I i v w') : wpOp P ops Q i (fun a' w' => S w' ∧ R w' ∧ ∃ v, I i v w' ∧ a' = a.put o.dst v ∧ (o.dst = none → v = undef)) a w :=
  each_value hi hw hr ⟨hS, hR, v, hv, rfl, fun h => by rw [hd] at h; cases h⟩
/-- One without a slot. -/
theorem t_store {i : Nat} {o : Oper} {a : Act} {w w' : World} {S : World → Prop} {R : World → Prop} {I : Nat → Value → World → Prop} (hi : ops[i]? = some o) (hw : Region.wanted o (yielded ops a.tmps) = true)
    (hr : (execOp a.eval o).run P w = .ok .skip w') (hS : S w') (hR : R w') (hv : I i undef w') : wpOp P ops Q i (fun a' w' => S w' ∧ R w' ∧ ∃ v, I i v w' ∧ a' = a.put o.dst v ∧ (o.dst = none → v = undef)) a w := by
  unfold wpOp
  simp only [hi, hw, if_true]
  refine .inl ?_
  unfold Oper.wp
  rw [hr]
  exact ⟨hS, hR, undef, hv, rfl, fun _ => rfl⟩
theorem t_enter {i : Nat} {o : Oper} {a : Act} {w : World} {f : FuncId} {args : Array Value} {S : World → Prop} {R : World → Prop} {I : Nat → Value → World → Prop} (hi : ops[i]? = some o) (hw : Region.wanted o (yielded ops a.tmps) = true) {d : Tmp} (hd : o.dst = some d)
    (hr : (execOp a.eval o).run P w = .ok (.enter f args) w) (h : Calls P f args w fun e w' => ∃ v, e = .returned v ∧ S w' ∧ R w' ∧ I i v w') : wpOp P ops Q i (fun a' w' => S w' ∧ R w' ∧ ∃ v, I i v w' ∧ a' = a.put o.dst v ∧ (o.dst = none → v = undef)) a w :=
  each_call hi hw hr (Calls.mono h fun _ _ ⟨v, he, hS, hR, hv⟩ => ⟨v, he, hS, hR, v, hv, rfl, fun h => by rw [hd] at h; cases h⟩)
/-- What number i leaves, and the slots that are filled. -/
def pvO (ps : List (Option Tmp × Value)) (i : Nat) : Value := (ps.getD i (none, undef)).2
def slots (ps : List (Option Tmp × Value)) : List (Nat × Value) := ps.filterMap fun x => x.1.map fun d => (d, x.2)
def InvO (ps : List (Option Tmp × Value)) (i : Nat) (v : Value) (_ : World) : Prop := v = pvO ps i
/-- THE LAW where each operation leaves one value, whatever it does to the world. -/
theorem wp_region_vals3 {id : Nat} {a0 : Act} {w : World} (hm : P.follows .mixedOrders = true) (ps : List (Option Tmp × Value)) (qs : List (Nat × Value)) (S : Array Bool → World → Prop) (hok : eachOk3 ops a0.tmps.size = true)
    (hds : ps.map (·.1) = (List.range ops.size).map (dst? ops)) (hq : slots ps = qs)
    (hS : S (Array.replicate ops.size false) w.drew)
    (hstep : ∀ (i : Nat) (o : Oper), ops[i]? = some o → ∀ (listed : Array Bool) (a : Act) (w : World), listed.size = ops.size → Now ops listed i o → S listed w → (∀ t, offOps3 ops t = true → a.tmps.getD t undef = a0.tmps.getD t undef) →
      (∀ e ∈ o.after, Region.binds .any e = true → InvO ps e.on (valOf ops a e.on) w) →
      wpOp P ops Q i (fun a' w' => S (listed.setIfInBounds i true) w' ∧ True ∧ ∃ v, InvO ps i v w' ∧ a' = a.put o.dst v ∧ (o.dst = none → v = undef)) a w)
    (hend : ∀ (listed : Array Bool) (w : World), (∀ i, i < ops.size → listed.getD i true = true) → S listed w → Q .normal (putAll a0 qs) w) :
    (Code.region id ops true).wp P Q a0 w := by
  subst hq
  refine wp_region_each3 hm (InvO ps) S (fun _ _ _ => True) hok (fun i j v w w' _ h _ => h) hS hstep (fun listed a w1 hall hS1 hs hd hold hnew => ?_)
  have hlen : ps.length = ops.size := by
    have := congrArg List.length hds
    simpa using this
  obtain ⟨k1, k2, _⟩ := eachOk3_spec hok
  have hat : ∀ i, i < ops.size → ps[i]? = some (dst? ops i, pvO ps i) := by
    intro i hi
    have h1 : i < ps.length := by omega
    have h2 : (ps.map (·.1))[i]? = some (dst? ops i) := by rw [hds]; simp [hi]
    have h3 : ps[i]? = some (ps[i]) := by simp [h1]
    rw [List.getElem?_map, h3] at h2
    simp only [Option.map_some, Option.some.injEq] at h2
    have h4 : pvO ps i = (ps[i]).2 := by simp [pvO, h1]
    rw [h3, h4, ← h2]
  have hpi : ∀ i d, i < ops.size → dst? ops i = some d → (d, pvO ps i) ∈ slots ps := by
    intro i d hi hd
    unfold slots
    rw [List.mem_filterMap]
    exact ⟨_, List.mem_of_getElem? (hat i hi), by rw [hd]; rfl⟩
  have hfst : (slots ps).map (·.1) = (List.range ops.size).filterMap (dst? ops) := by
    have h1 : (slots ps).map (·.1) = (ps.map (·.1)).filterMap (fun x => x) := by
      unfold slots
      rw [List.map_filterMap, List.filterMap_map]
      congr 1
      funext x
      cases hx : x.1 <;> simp [hx]
    rw [h1, hds, List.filterMap_map]
    rfl
  have hnd : ((slots ps).map (·.1)).Nodup := by
    rw [hfst]
    unfold List.Nodup
    rw [List.pairwise_filterMap]
    refine (List.nodup_range (n := ops.size)).imp_of_mem (fun {i j} hi hj hne b hb b' hb' e => ?_)
    subst e
    exact hne (k2 i j b (by simpa using hi) (by simpa using hj) hb hb')
  have e : a = putAll a0 (slots ps) := by
    have ht : a.tmps = (putAll a0 (slots ps)).tmps := by
      refine Array.ext (by rw [hs, putAll_size]) (fun t h1 h2 => ?_)
      have key : a.tmps.getD t undef = (putAll a0 (slots ps)).tmps.getD t undef := by
        by_cases hoff : offOps3 ops t = true
        · rw [hold t hoff, putAll_off t (slots ps) a0 (fun x hx e => ?_)]
          have hm : x.1 ∈ (slots ps).map (·.1) := List.mem_map_of_mem hx
          rw [hfst, List.mem_filterMap] at hm
          obtain ⟨j, hj, hj2⟩ := hm
          exact offOps3_spec hoff j (by simpa using hj) (by rw [hj2, e])
        · unfold offOps3 at hoff
          rw [List.all_eq_true] at hoff
          have hex : ∃ j, j < ops.size ∧ dst? ops j = some t := by
            refine Classical.byContradiction fun hno => hoff (fun j hj => ?_)
            by_cases e : dst? ops j = some t
            · exact absurd ⟨j, by simpa using hj, e⟩ hno
            · simpa using e
          obtain ⟨j, hj, hjt⟩ := hex
          have hv := hnew j hj
          unfold InvO valOf at hv
          rw [hjt] at hv
          simp only at hv
          rw [hv, putAll_at _ (pvO ps j) (slots ps) a0 (by omega) hnd (hpi j t hj hjt)]
      simpa [Array.getD_eq_getD_getElem?, h1, h2] using key
    have hd2 := putAll_defers (slots ps) a0
    cases a with
    | mk t d =>
      cases hp : putAll a0 (slots ps) with
      | mk t2 d2 =>
        rw [hp] at ht hd2
        simp only at ht hd hd2
        rw [ht, hd, hd2]
  rw [e]
  exact hend listed w1 hall hS1
theorem o_pure {i : Nat} {o : Oper} {a : Act} {w : World} {v : Value} {S : World → Prop} {ps : List (Option Tmp × Value)} (hi : ops[i]? = some o) (hw : Region.wanted o (yielded ops a.tmps) = true) {d : Tmp} (hd : o.dst = some d)
    (hv : pvO ps i = v) (hr : (execOp a.eval o).run P w = .ok (.value v) w) (hS : S w) : wpOp P ops Q i (fun a' w' => S w' ∧ True ∧ ∃ v, InvO ps i v w' ∧ a' = a.put o.dst v ∧ (o.dst = none → v = undef)) a w :=
  t_value (I := InvO ps) (R := fun _ => True) hi hw hd hr hS trivial hv.symm
theorem o_enter {i : Nat} {o : Oper} {a : Act} {w : World} {v : Value} {f : FuncId} {args : Array Value} {S : World → Prop} {ps : List (Option Tmp × Value)} (hi : ops[i]? = some o) (hw : Region.wanted o (yielded ops a.tmps) = true) {d : Tmp} (hd : o.dst = some d)
    (hv : pvO ps i = v) (hr : (execOp a.eval o).run P w = .ok (.enter f args) w) (h : Calls P f args w fun e w' => e = .returned v ∧ S w') : wpOp P ops Q i (fun a' w' => S w' ∧ True ∧ ∃ v, InvO ps i v w' ∧ a' = a.put o.dst v ∧ (o.dst = none → v = undef)) a w :=
  t_enter (I := InvO ps) (R := fun _ => True) hi hw hd hr (Calls.mono h fun _ _ ⟨he, hS⟩ => ⟨v, he, hS, trivial, hv.symm⟩)
theorem o_store {i : Nat} {o : Oper} {a : Act} {w w' : World} {S : World → Prop} {ps : List (Option Tmp × Value)} (hi : ops[i]? = some o) (hw : Region.wanted o (yielded ops a.tmps) = true)
    (hv : pvO ps i = undef) (hr : (execOp a.eval o).run P w = .ok .skip w') (hS : S w') : wpOp P ops Q i (fun a' w' => S w' ∧ True ∧ ∃ v, InvO ps i v w' ∧ a' = a.put o.dst v ∧ (o.dst = none → v = undef)) a w :=
  t_store (I := InvO ps) (R := fun _ => True) hi hw hr hS trivial hv.symm
/-- What number j left, at a slot. -/
theorem slot_of {ps : List (Option Tmp × Value)} {o : Oper} {a : Act} {w : World} (hdeps : ∀ e ∈ o.after, Region.binds .any e = true → InvO ps e.on (valOf ops a e.on) w) (j : Nat) {d : Tmp} (hd : dst? ops j = some d)
    (h : (o.after.toList.any fun e => e.on == j && Region.binds .any e) = true) : a.tmps.getD d undef = pvO ps j := by
  have := dep3_of hdeps j h
  unfold InvO valOf at this
  rw [hd] at this
  exact this
theorem listed_dep {listed : Array Bool} {i : Nat} {o : Oper} (hN : Now ops listed i o) (j : Nat) (h : (o.after.toList.any fun e => e.on == j && Region.binds .any e) = true) : listed.getD j true = true := by
  rw [List.any_eq_true] at h
  obtain ⟨e, he, h2⟩ := h
  simp only [Bool.and_eq_true, beq_iff_eq] at h2
  obtain ⟨rfl, hb⟩ := h2
  exact hN.dl e (by simpa using he) hb
theorem listed_ne {l : Array Bool} {i j : Nat} (h : i ≠ j) : (l.setIfInBounds i true).getD j true = l.getD j true := by
  simp [Array.getD_eq_getD_getElem?, Array.getElem?_setIfInBounds_ne h]
theorem listed_at {l : Array Bool} {i : Nat} : (l.setIfInBounds i true).getD i true = true := by
  by_cases h : i < l.size <;> simp [Array.getD_eq_getD_getElem?, h]
end
end
section
open Go.RowKit

/-- A text's bytes as numbers. -/
def strI (s : ByteArray) : List Int := s.data.toList.map fun b => (b.toNat : Int)
theorem strI_length (s : ByteArray) : (strI s).length = s.size := by simp [strI]
theorem strI_cells (s : ByteArray) : Lib.strCells s = (strI s).map (Value.int .u8) := by simp [Lib.strCells, strI, List.map_map, Function.comp_def]
theorem strI_byte (s : ByteArray) : ∀ c ∈ strI s, 0 ≤ c ∧ c < 256 := by
  intro c hc
  unfold strI at hc
  rw [List.mem_map] at hc
  obtain ⟨b, _, rfl⟩ := hc
  have := UInt8.toNat_lt b
  omega
/-- Where the new row lies: where the old one lay, or in a new block. -/
theorem str_block (w : World) (ty : TypeId) (v : Value) (n : Nat) (xs : List Value) (hown : w.ownsRow 0 5 1 v n xs) (s : ByteArray) (hb : n + s.size ≤ 140737488355328) (v' : Value) (w' : World)
    (hr : (Builtin.append_ #[45, 9] ty #[v, .string s]).run Tryz.prog w = .ok v' w') : v'.ownBlock = v.ownBlock ∨ v'.ownBlock = some w.heap.size := by
  obtain ⟨i0, hi, hz0, hz1, hz2⟩ := info_parts info5
  have hxl : xs.length = n := by simpa using hown.1
  rcases hown.2 with ⟨rfl, rfl⟩ | ⟨g, cap, cur, rfl, _, hg, hnc, hcm, hcs, htake⟩
  · obtain ⟨v2, w2, hr2, _, _, h4⟩ := Lib.run_append_own_string (P := Tryz.prog) w w.heap.size 45 9 ty 5 i0 Tryz.underlying45 Tryz.underlying9 hi hz0 hz1 hz2 (.slice none 0 0) 0 [] (World.ownsRow_nil _ _ _ _) s (by unfold maxLen; omega) (by omega) (Nat.le_refl _)
    by_cases h0 : s.size = 0
    · rw [hr2] at hr
      cases hr
      rw [h4.2 ⟨rfl, h0⟩]
      exact .inl rfl
    · have h1 := run_append_nil_string (P := Tryz.prog) w 45 9 ty 5 i0 (.int .u8 0) Tryz.underlying45 Tryz.underlying9 hi hz0 s (by omega) (by omega) (by rw [hz2]; omega)
      rw [h1] at hr
      cases hr
      exact .inr rfl
  · by_cases hroom : n + s.size ≤ cap
    · have h1 := Lib.run_append_room_string (P := Tryz.prog) w 45 9 ty 5 i0 Tryz.underlying45 Tryz.underlying9 hi hz1 g n cap cur hg s hroom (by omega)
      rw [h1] at hr
      cases hr
      exact .inl rfl
    · have holds : ∀ j u, xs[j]? = some u → w.cell? ((⟨g, 0, none⟩ : Addr).add j) = some u := hown.cells (g := g) rfl
      have h1 := Lib.run_append_grow_string (P := Tryz.prog) w 45 9 ty 5 i0 (.int .u8 0) Tryz.underlying45 Tryz.underlying9 hi hz0 ⟨g, 0, none⟩ n cap xs (by rw [hz1]; simpa using hxl) holds s (by omega) (by omega) (by rw [hz2]; exact growslice_fits (by omega) (by omega))
      rw [h1] at hr
      cases hr
      exact .inr rfl
/-- 'append(v, s...)', s a text. -/
theorem append_str {ops : Array Oper} {rest : List Oper} {o : Oper} {a : Act} {Q : Exit → Act → World → Prop} (w : World) (hgd : o.guard = none) (sl x : Operand)
    (ho : o.op = .call { callee := .builtin .append, args := #[sl, x], argTypes := #[45, 9] })
    (v : Value) (n : Nat) (ys : List Int) (hs : a.eval sl = v) (hown : w.ownsRow 0 5 1 v n (ys.map (Value.int .u8))) (s : ByteArray) (hx : a.eval x = .string s) (hb : n + s.size ≤ 140737488355328)
    (h : ∀ v' w', w'.ownsRow 0 5 1 v' (n + s.size) ((ys ++ strI s).map (Value.int .u8)) → w.grownBy w' v.ownBlock → (v'.ownBlock = v.ownBlock ∨ v'.ownBlock = some w.heap.size) → wpList Tryz.prog ops Q rest (a.put o.dst v') w') :
    wpList Tryz.prog ops Q (o :: rest) a w := by
  obtain ⟨i0, hi, hz0, hz1, hz2⟩ := info_parts info5
  refine wpList_plain hgd fun K hK => ?_
  obtain ⟨v', w', hr, h2, h3, _⟩ := Lib.run_append_own_string (P := Tryz.prog) w 0 45 9 o.type 5 i0 Tryz.underlying45 Tryz.underlying9 hi hz0 hz1 hz2 v n _ hown s (by unfold maxLen; omega) hb (Nat.zero_le _)
  have h5 := str_block w o.type v n _ hown s hb v' w' hr
  unfold Oper.wp execOp
  simp only [ho, resolve, invoke, builtin, Sem.run_bind, Sem.run_pure, Result.andThen_ok, List.map_toArray, List.map_cons, List.map_nil, hs, hx, hr]
  exact hK _ _ (h v' w' (by rw [List.map_append, ← strI_cells]; exact h2) h3 h5)
/-- 'append(v, c)', c one byte that lies in a new block. -/
theorem grown_keep {w w' : World} {v : Value} {S : Nat → Prop} (hg : w.grownBy w' v.ownBlock) (hS : ∀ g, v.ownBlock = some g → S g) : KeepBut S w w' :=
  ⟨hg.os, hg.tape, hg.output, hg.size, fun k hk hn => hg.block k hk (fun e => hn (hS k e.symm))⟩
end
section
open Go

/-- 2 to the k, in 64 bits. -/
def pw (k : Nat) : Int := (2 : Int) ^ k % 18446744073709551616
theorem pw_zero : pw 0 = 1 := by decide
theorem pw_succ (k : Nat) : IntKind.u64.wrap (pw k * 2) = pw (k + 1) := by
  rw [IntKind.wrap_u64]
  unfold pw
  rw [Int.pow_succ]
  omega
theorem pw_lt (k : Nat) (h : k < 64) : pw k = ((2 ^ k : Nat) : Int) := by
  unfold pw
  have : (2 : Nat) ^ k < 2 ^ 64 := Nat.pow_lt_pow_right (by decide) h
  rw [Int.emod_eq_of_lt]
  · simp
  · exact Int.pow_nonneg (by decide)
  · have e : ((2 ^ k : Nat) : Int) = (2 : Int) ^ k := by simp
    rw [← e]; omega
theorem pw_nonneg (k : Nat) : 0 ≤ pw k ∧ pw k ≤ 18446744073709551615 := by unfold pw; omega
theorem pw_ge (k : Nat) (h : 64 ≤ k) : pw k = 0 := by
  unfold pw
  obtain ⟨d, rfl⟩ : ∃ d, k = 64 + d := ⟨k - 64, by omega⟩
  rw [Int.pow_add]
  exact Int.mul_emod_right _ _

/-- A number folded. -/
def foldS (n : Int) : Int := if 0 ≤ n then 2 * n else -2 * n - 1
theorem foldS_pos {n : Int} (h : 0 ≤ n) : foldS n = 2 * n := by simp [foldS, h]
theorem foldS_neg {n : Int} (h : n < 0) : foldS n = 2 * -(n + 1) + 1 := by unfold foldS; rw [if_neg (by omega)]; omega
theorem foldS_bd (n : Int) (h1 : -9223372036854775808 ≤ n) (h2 : n ≤ 9223372036854775807) : 0 ≤ foldS n ∧ foldS n ≤ 18446744073709551615 := by
  unfold foldS; split <;> omega
/-- And unfolded. -/
def unfoldS (n : Int) : Int := if n % 2 = 0 then n / 2 else -(n / 2) - 1
theorem unfoldS_bd (n : Int) (h1 : 0 ≤ n) (h2 : n ≤ 18446744073709551615) : -9223372036854775808 ≤ unfoldS n ∧ unfoldS n ≤ 9223372036854775807 := by
  unfold unfoldS; split <;> omega
theorem fold_unfold (n : Int) (h1 : 0 ≤ n) : foldS (unfoldS n) = n := by
  unfold unfoldS foldS
  split
  · rw [if_pos (by omega)]; omega
  · rw [if_neg (by omega)]; omega

theorem nat_xor_ones (x : Nat) (h : x < 18446744073709551616) : x ^^^ 18446744073709551615 = 18446744073709551615 - x := by
  apply Nat.eq_of_testBit_eq
  intro i
  have e : 18446744073709551615 - x = 2 ^ 64 - (x + 1) := by omega
  rw [e, Nat.testBit_two_pow_sub_succ (by omega), Nat.testBit_xor]
  have e2 : (18446744073709551615 : Nat) = 2 ^ 64 - 1 := by decide
  rw [e2, Nat.testBit_two_pow_sub_one]
  by_cases hi : i < 64
  · simp [hi]
  · have : x.testBit i = false := Nat.testBit_lt_two_pow (Nat.lt_of_lt_of_le (by omega : x < 2 ^ 64) (Nat.pow_le_pow_right (by decide) (by omega)))
    simp [hi, this]

theorem fold_bits (n : Int) (h1 : -9223372036854775808 ≤ n) (h2 : n ≤ 9223372036854775807) :
    bits BinOp.xor IntKind.u64 (IntKind.u64.wrap (IntKind.u64.wrap n * 2)) (IntKind.u64.wrap (n / 9223372036854775808)) = foldS n := by
  rw [u64_xor _ _ (by rw [IntKind.wrap_u64]; omega) (by rw [IntKind.wrap_u64]; omega) (by rw [IntKind.wrap_u64]; omega) (by rw [IntKind.wrap_u64]; omega)]
  simp only [IntKind.wrap_u64]
  by_cases h : 0 ≤ n
  · have e1 : (n / 9223372036854775808 % 18446744073709551616).toNat = 0 := by omega
    rw [e1, Nat.xor_zero, foldS_pos h]
    omega
  · have e1 : (n / 9223372036854775808 % 18446744073709551616).toNat = 18446744073709551615 := by omega
    rw [e1, nat_xor_ones _ (by omega), foldS_neg (by omega)]
    omega

theorem unfold_bits (n : Int) (h1 : 0 ≤ n) (h2 : n ≤ 18446744073709551615) :
    (bits BinOp.xor IntKind.u64 (n / 2) (IntKind.u64.wrap (-bits BinOp.and IntKind.u64 n 1)) + 9223372036854775808) % 18446744073709551616 - 9223372036854775808 = unfoldS n := by
  have ea : bits BinOp.and IntKind.u64 n 1 = n % 2 := by
    rw [u64_and n 1 h1 (by omega) (by decide) (by decide)]
    have := nat_mask1 n.toNat
    show ((n.toNat &&& 1 : Nat) : Int) = _
    rw [this]; omega
  rw [ea, u64_xor _ _ (by omega) (by omega) (by rw [IntKind.wrap_u64]; omega) (by rw [IntKind.wrap_u64]; omega), IntKind.wrap_u64]
  unfold unfoldS
  by_cases h : n % 2 = 0
  · have e1 : (-(n % 2) % 18446744073709551616).toNat = 0 := by omega
    rw [e1, Nat.xor_zero, if_pos h]
    omega
  · have e1 : (-(n % 2) % 18446744073709551616).toNat = 18446744073709551615 := by omega
    rw [e1, nat_xor_ones _ (by omega), if_neg h]
    omega

/-- A number's 64 bits, k places turned to the left. -/
def rotl (n k : Nat) : Nat := n * 2 ^ k % 18446744073709551616 + n / 2 ^ (64 - k)
theorem rotl_zero (n : Nat) (h : n < 18446744073709551616) : rotl n 0 = n := by
  unfold rotl
  simp
  omega
/-- How it looks from the inside: the a upper bits, b the others. -/
theorem rotl_parts (a b k : Nat) (hk : k ≤ 64) (_ha : a < 2 ^ k) (hb : b < 2 ^ (64 - k)) : rotl (a * 2 ^ (64 - k) + b) k = b * 2 ^ k + a := by
  have h64 : 2 ^ (64 - k) * 2 ^ k = 18446744073709551616 := by
    rw [← Nat.pow_add, show 64 - k + k = 64 by omega]
  have hp : 0 < 2 ^ (64 - k) := Nat.two_pow_pos _
  have hq : 0 < 2 ^ k := Nat.two_pow_pos _
  unfold rotl
  have e1 : (a * 2 ^ (64 - k) + b) / 2 ^ (64 - k) = a := by
    rw [Nat.mul_comm, Nat.mul_add_div hp, Nat.div_eq_of_lt hb]; omega
  have e2 : (a * 2 ^ (64 - k) + b) * 2 ^ k % 18446744073709551616 = b * 2 ^ k := by
    rw [Nat.add_mul, Nat.mul_assoc, h64, Nat.add_comm, Nat.add_mul_mod_self_right]
    apply Nat.mod_eq_of_lt
    rw [← h64]
    exact Nat.mul_lt_mul_of_pos_right hb hq
  rw [e1, e2]
theorem rotl_split (n k : Nat) (h : n < 18446744073709551616) (hk : k ≤ 64) :
    ∃ a b, n = a * 2 ^ (64 - k) + b ∧ a < 2 ^ k ∧ b < 2 ^ (64 - k) := by
  have h64 : 2 ^ k * 2 ^ (64 - k) = 18446744073709551616 := by
    rw [← Nat.pow_add, show k + (64 - k) = 64 by omega]
  refine ⟨n / 2 ^ (64 - k), n % 2 ^ (64 - k), ?_, ?_, Nat.mod_lt _ (Nat.two_pow_pos _)⟩
  · rw [Nat.mul_comm]; exact (Nat.div_add_mod _ _).symm
  · rw [Nat.div_lt_iff_lt_mul (Nat.two_pow_pos _), h64]; exact h
theorem rotl_lt (n k : Nat) (h : n < 18446744073709551616) (hk : k ≤ 64) : rotl n k < 18446744073709551616 := by
  obtain ⟨a, b, rfl, ha, hb⟩ := rotl_split n k h hk
  rw [rotl_parts a b k hk ha hb]
  have h64 : 2 ^ (64 - k) * 2 ^ k = 18446744073709551616 := by
    rw [← Nat.pow_add, show 64 - k + k = 64 by omega]
  have : (b + 1) * 2 ^ k ≤ 2 ^ (64 - k) * 2 ^ k := Nat.mul_le_mul_right _ hb
  rw [Nat.add_mul] at this
  omega
theorem rotl_arith (c R a K : Nat) (hc : c < 2) (ha : a < K) (h : R + K ≤ 9223372036854775808) :
    ((c * 9223372036854775808 + R + a) * 2 % 18446744073709551616 + (c * 9223372036854775808 + R + a) / 9223372036854775808) % 18446744073709551616 = 2 * R + (2 * a + c) := by
  have h1 : R + a < 9223372036854775808 := by omega
  have e : c * 9223372036854775808 + R + a = c * 9223372036854775808 + (R + a) := by omega
  have e2 : 2 * R + (2 * a + c) = 2 * (R + a) + c := by omega
  rw [e, e2]
  generalize R + a = x at *
  obtain rfl | rfl : c = 0 ∨ c = 1 := by omega
  · have q1 : (0 * 9223372036854775808 + x) / 9223372036854775808 = 0 := by omega
    have q2 : (0 * 9223372036854775808 + x) * 2 % 18446744073709551616 = 2 * x := by omega
    rw [q1, q2]; omega
  · have q1 : (1 * 9223372036854775808 + x) / 9223372036854775808 = 1 := by omega
    have q2 : (1 * 9223372036854775808 + x) * 2 % 18446744073709551616 = 2 * x := by omega
    rw [q1, q2]; omega
/-- One place more. -/
theorem rotl_succ (n k : Nat) (h : n < 18446744073709551616) (hk : k < 64) :
    (rotl n k * 2 % 18446744073709551616 + rotl n k / 9223372036854775808) % 18446744073709551616 = rotl n (k + 1) := by
  obtain ⟨a, b, hn, ha, hb⟩ := rotl_split n k h (by omega)
  obtain ⟨d, hd⟩ : ∃ d, 64 - k = d + 1 := ⟨63 - k, by omega⟩
  have hd' : 64 - (k + 1) = d := by omega
  have h63 : 2 ^ d * 2 ^ k = 9223372036854775808 := by
    rw [← Nat.pow_add, show d + k = 63 by omega]
  rw [hd, Nat.pow_succ] at hb
  -- b's own upper bit
  have hc : b / 2 ^ d < 2 := by rw [Nat.div_lt_iff_lt_mul (Nat.two_pow_pos _)]; omega
  have hb2 : b = b / 2 ^ d * 2 ^ d + b % 2 ^ d := by rw [Nat.mul_comm]; exact (Nat.div_add_mod _ _).symm
  have hlt : b % 2 ^ d < 2 ^ d := Nat.mod_lt _ (Nat.two_pow_pos _)
  generalize hcg : b / 2 ^ d = c at *
  generalize b % 2 ^ d = r at *
  have e1 : rotl n k = b * 2 ^ k + a := by
    rw [hn]; exact rotl_parts a b k (by omega) ha (by rw [hd, Nat.pow_succ]; exact hb)
  have e2 : rotl n (k + 1) = r * 2 ^ (k + 1) + (2 * a + c) := by
    have : n = (2 * a + c) * 2 ^ (64 - (k + 1)) + r := by
      rw [hn, hd, hd', Nat.pow_succ, Nat.add_mul, hb2]
      have : a * (2 ^ d * 2) = 2 * a * 2 ^ d := by rw [Nat.mul_comm (2 ^ d) 2, ← Nat.mul_assoc, Nat.mul_comm a 2]
      omega
    rw [this]
    exact rotl_parts _ _ _ (by omega) (by rw [Nat.pow_succ]; omega) (by rw [hd']; exact hlt)
  have e3 : b * 2 ^ k = c * 9223372036854775808 + r * 2 ^ k := by
    rw [hb2, Nat.add_mul, Nat.mul_assoc, h63]
  have e4 : r * 2 ^ (k + 1) = 2 * (r * 2 ^ k) := by rw [Nat.pow_succ, Nat.mul_comm (2 ^ k), ← Nat.mul_assoc, Nat.mul_comm r, Nat.mul_assoc]
  have e5 : r * 2 ^ k + 2 ^ k ≤ 9223372036854775808 := by
    have : (r + 1) * 2 ^ k ≤ 2 ^ d * 2 ^ k := Nat.mul_le_mul_right _ hlt
    rw [Nat.add_mul, h63] at this
    omega
  rw [e1, e2, e3, e4]
  exact rotl_arith c (r * 2 ^ k) a (2 ^ k) hc ha e5
theorem rotl_back (n k : Nat) (h : n < 18446744073709551616) (hk : k ≤ 64) : rotl (rotl n k) (64 - k) = n := by
  obtain ⟨a, b, rfl, ha, hb⟩ := rotl_split n k h hk
  rw [rotl_parts a b k hk ha hb]
  have := rotl_parts b a (64 - k) (by omega) hb (by rw [show 64 - (64 - k) = k by omega]; exact ha)
  rw [show 64 - (64 - k) = k by omega] at this
  exact this
/-- The code's own way: shifted to both sides, and joined. -/
theorem rot_bits (n r : Nat) (h : n < 18446744073709551616) (hr : r < 64) :
    bits BinOp.or IntKind.u64 (((n * 2 ^ r % 18446744073709551616 : Nat) : Int)) (((n / 2 ^ (64 - r) : Nat) : Int)) = ((rotl n r : Nat) : Int) := by
  have hlo : n / 2 ^ (64 - r) < 2 ^ r := by
    rw [Nat.div_lt_iff_lt_mul (Nat.two_pow_pos _), ← Nat.pow_add, show r + (64 - r) = 64 by omega]; exact h
  have h2 : (2 : Nat) ^ r < 2 ^ 64 := Nat.pow_lt_pow_right (by decide) hr
  rw [u64_or_nat _ _ (Nat.mod_lt _ (by decide)) (by omega)]
  rw [nat_join r _ _ ?_ hlo]
  · rfl
  · have h64 : (18446744073709551616 : Nat) = 2 ^ r * 2 ^ (64 - r) := by
      rw [← Nat.pow_add, show r + (64 - r) = 64 by omega]
    rw [h64, Nat.mul_comm n, Nat.mul_mod_mul_left]
    exact Nat.mul_mod_right _ _
end
end Go.Proofs.YtoppdelljjapoaaGreat
