/-
  Own texts put together: VtRegion, Lies, AppLies, Boxes. Own work.
-/
import Derived.Orders
import Derived.Below
import Derived.Test.YtencmgepffdodaaGreatProg
import Derived.WalkKit
import Derived.WalkSpells
import Derived.WalkLawsBesides
import Derived.Handy
import Derived.OwnWalk
import Derived.Laws.BytesArg
import Derived.Maps.AppendAt
import Derived.Laws.AppendOwnNone
import Derived.Deep.DeepAppendWide
import Derived.Deep.WholeRow
import Derived.Deep.MidRow
namespace Go.Proofs.YtencmgepffdodaaGreat
section
open Go Go.RowKit

section
variable {P : Program} {md : Region.Mode} {ops : Array Oper} {Q : Exit → Act → World → Prop}

/-- Operation number i's temporary. -/
def dstOf (ops : Array Oper) (i : Nat) : Nat := ((ops[i]?).bind (·.dst)).getD 0
/-- How many have not come up yet. -/
def openCount (ops : Array Oper) (listed : Array Bool) : Nat := ((List.range ops.size).filter fun i => !listed.getD i true).length
theorem filter_le' {p q : Nat → Bool} (h : ∀ x, q x = true → p x = true) : ∀ l : List Nat, (l.filter q).length ≤ (l.filter p).length
  | [] => Nat.le_refl _
  | x :: l => by
    have ih := filter_le' h l
    cases hq : q x with
    | true => rw [List.filter_cons_of_pos hq, List.filter_cons_of_pos (h x hq)]; simpa using ih
    | false =>
      rw [List.filter_cons_of_neg (by simp [hq])]
      cases hp : p x with
      | true => rw [List.filter_cons_of_pos hp]; simp; omega
      | false => rw [List.filter_cons_of_neg (by simp [hp])]; exact ih
theorem filter_lt' {p q : Nat → Bool} (h : ∀ x, q x = true → p x = true) {i : Nat} (hp : p i = true) (hq : q i = false) : ∀ l : List Nat, i ∈ l → (l.filter q).length < (l.filter p).length
  | [], hi => by cases hi
  | x :: l, hi => by
    by_cases e : i = x
    · subst e
      rw [List.filter_cons_of_neg (by simp [hq]), List.filter_cons_of_pos hp]
      have := filter_le' h l
      simp; omega
    · have ih := filter_lt' h hp hq l (by simpa [e] using hi)
      cases hqx : q x with
      | true => rw [List.filter_cons_of_pos hqx, List.filter_cons_of_pos (h x hqx)]; simpa using ih
      | false =>
        rw [List.filter_cons_of_neg (by simp [hqx])]
        cases hpx : p x with
        | true => rw [List.filter_cons_of_pos hpx]; simp; omega
        | false => rw [List.filter_cons_of_neg (by simp [hpx])]; exact ih
theorem open_step {listed : Array Bool} {i : Nat} (hi : i < ops.size) (hs : listed.size = ops.size) (hl : listed.getD i true = false) : openCount ops (listed.setIfInBounds i true) < openCount ops listed := by
  unfold openCount
  have hii : (listed.setIfInBounds i true).getD i true = true := by simp [Array.getD_eq_getD_getElem?, hs, hi]
  refine filter_lt' (i := i) (fun j hj => ?_) (by simp [hl]) (by simp [hii]) _ (by simpa using hi)
  by_cases e : j = i
  · subst e; rw [hii] at hj; simp at hj
  · rwa [show (listed.setIfInBounds i true).getD j true = listed.getD j true by simp [Array.getD_eq_getD_getElem?, Array.getElem?_setIfInBounds_ne (Ne.symm e)]] at hj
theorem open_zero {listed : Array Bool} (h : openCount ops listed = 0) {i : Nat} (hi : i < ops.size) : listed.getD i true = true := by
  unfold openCount at h
  have := List.eq_nil_of_length_eq_zero h
  rw [List.filter_eq_nil_iff] at this
  have := this i (by simpa using hi)
  simpa using this

/-- What is known while the region runs. -/
structure Each (ops : Array Oper) (I : Nat → Value → World → Prop) (S : World → Prop) (a0 : Act) (listed : Array Bool) (a : Act) (w : World) : Prop where
  s : S w
  sz : a.tmps.size = a0.tmps.size
  df : a.defers = a0.defers
  old : ∀ t, (∀ j, j < ops.size → dstOf ops j ≠ t) → a.tmps.getD t undef = a0.tmps.getD t undef
  new : ∀ i, i < ops.size → listed.getD i true = true → I i (a.tmps.getD (dstOf ops i) undef) w

theorem each_any (a0 : Act) (I : Nat → Value → World → Prop) (S : World → Prop)
    (hdst : ∀ (i : Nat) (o : Oper), ops[i]? = some o → o.dst = some (dstOf ops i) ∧ dstOf ops i < a0.tmps.size)
    (hinj : ∀ i j, i < ops.size → j < ops.size → dstOf ops i = dstOf ops j → i = j)
    (hac : ∀ (i : Nat) (o : Oper), ops[i]? = some o → ∀ e ∈ o.after, Region.binds md e = true → e.on < i)
    (hI : ∀ i v w w', I i v w → Below w.heap.size w w' → I i v w')
    (hstep : ∀ (i : Nat) (o : Oper), ops[i]? = some o → ∀ (a : Act) (w : World), S w → (∀ t, (∀ j, j < ops.size → dstOf ops j ≠ t) → a.tmps.getD t undef = a0.tmps.getD t undef) →
      (∀ e ∈ o.after, Region.binds md e = true → I e.on (a.tmps.getD (dstOf ops e.on) undef) w) →
      wpOp P ops Q i (fun a' w' => S w' ∧ Below w.heap.size w w' ∧ ∃ v, I i v w' ∧ a' = a.put o.dst v) a w)
    (hend : ∀ (a : Act) (w : World), S w → a.tmps.size = a0.tmps.size → a.defers = a0.defers → (∀ t, (∀ j, j < ops.size → dstOf ops j ≠ t) → a.tmps.getD t undef = a0.tmps.getD t undef) →
      (∀ i, i < ops.size → I i (a.tmps.getD (dstOf ops i) undef) w) → Q .normal a w) :
    ∀ (fuel : Nat) (listed : Array Bool) (a : Act) (w : World), listed.size = ops.size → openCount ops listed ≤ fuel → Each ops I S a0 listed a w → wpAny P md ops Q fuel listed a w := by
  have hfin : ∀ (listed : Array Bool) (a : Act) (w : World), openCount ops listed = 0 → Each ops I S a0 listed a w → Q .normal a w := fun listed a w h0 hE =>
    hend a w hE.s hE.sz hE.df hE.old fun i hi => hE.new i hi (open_zero h0 hi)
  -- where nothing may come up, all has come up: the first that has not waits for earlier ones alone
  have hready : ∀ (listed : Array Bool), listed.size = ops.size → Region.ready md ops listed = [] → openCount ops listed = 0 := by
    intro listed hs hr
    have hall : ∀ n i, i < n → i < ops.size → listed.getD i true = true := by
      intro n
      induction n with
      | zero => intro i h; omega
      | succ n ih =>
        intro i h1 h2
        by_cases hlt : i < n
        · exact ih i hlt h2
        · obtain rfl : i = n := by omega
          cases hl : listed.getD i true with
          | true => rfl
          | false =>
            exfalso
            have : i ∈ Region.ready md ops listed := by
              unfold Region.ready
              rw [List.mem_filter]
              refine ⟨by simpa using h2, ?_⟩
              have ho : ops[i]? = some ops[i] := by simp [h2]
              rw [hl, ho]
              simp only [Bool.not_false, Option.map_some, Option.getD_some, Bool.true_and, Array.all_eq_true_iff_forall_mem]
              intro e he
              cases hbe : Region.binds md e with
              | false => simp
              | true =>
                have hlt := hac i _ ho e he hbe
                have h3 := ih e.on hlt (by omega)
                have h4 : listed.getD e.on false = true := by
                  have hlt2 : e.on < listed.size := by omega
                  simp only [Array.getD_eq_getD_getElem?, Array.getElem?_eq_getElem hlt2, Option.getD_some] at h3 ⊢
                  exact h3
                rw [h4]
                simp
            rw [hr] at this
            cases this
    unfold openCount
    rw [List.length_eq_zero_iff, List.filter_eq_nil_iff]
    intro i hi
    have hi' : i < ops.size := by simpa using hi
    simp [hall (i + 1) i (by omega) hi']
  intro fuel
  induction fuel with
  | zero =>
    intro listed a w hs hc hE
    have h0 : openCount ops listed = 0 := by omega
    refine ⟨?_, hfin listed a w h0 hE⟩
    unfold Region.ready
    rw [List.filter_eq_nil_iff]
    intro i hi
    have hi' : i < ops.size := by simpa using hi
    simp [open_zero h0 hi']
  | succ fuel ih =>
    intro listed a w hs hc hE
    refine ⟨fun hr => hfin listed a w (hready listed hs hr) hE, fun i hi => ?_⟩
    unfold Region.ready at hi
    rw [List.mem_filter] at hi
    obtain ⟨hi1, hi2⟩ := hi
    have hin : i < ops.size := by simpa using hi1
    have ho : ops[i]? = some ops[i] := by simp [hin]
    rw [ho] at hi2
    simp only [Option.map_some, Option.getD_some, Bool.and_eq_true, Bool.not_eq_true', Array.all_eq_true_iff_forall_mem] at hi2
    obtain ⟨hl, hdeps⟩ := hi2
    obtain ⟨hd1, hd2⟩ := hdst i _ ho
    have hst := hstep i _ ho a w hE.s hE.old (fun e he hb => by
      have h1 := hdeps e he
      rw [hb] at h1
      simp only [Bool.not_true, Bool.false_or] at h1
      have hon := hac i _ ho e he hb
      have h2 : listed.getD e.on true = true := by
        have hlt2 : e.on < listed.size := by omega
        simp only [Array.getD_eq_getD_getElem?, Array.getElem?_eq_getElem hlt2, Option.getD_some] at h1 ⊢
        exact h1
      exact hE.new e.on (by omega) h2)
    refine wpOp_mono (fun a' w' h => ?_) hst
    obtain ⟨hS', hB', v, hv, rfl⟩ := h
    have hcount := open_step hin hs hl
    refine ih _ _ _ (by simp [hs]) (by omega) ⟨hS', ?_, ?_, ?_, ?_⟩
    · rw [hd1]; simp [Act.put, hE.sz]
    · rw [hd1]; exact hE.df
    · intro t ht
      rw [← hE.old t ht, hd1]
      have hne : dstOf ops i ≠ t := ht i hin
      simp [Act.put, Array.getD_eq_getD_getElem?, Array.getElem?_setIfInBounds_ne hne]
    · intro j hj hlj
      rw [hd1]
      by_cases e : i = j
      · subst e
        have : (a.put (some (dstOf ops i)) v).tmps.getD (dstOf ops i) undef = v := by
          simp [Act.put, Array.getD_eq_getD_getElem?, hE.sz, hd2]
        rw [this]
        exact hv
      · have hne : dstOf ops i ≠ dstOf ops j := fun h => e (hinj i j hin hj h)
        have h1 : (a.put (some (dstOf ops i)) v).tmps.getD (dstOf ops j) undef = a.tmps.getD (dstOf ops j) undef := by
          simp [Act.put, Array.getD_eq_getD_getElem?, Array.getElem?_setIfInBounds_ne hne]
        rw [h1]
        have h2 : listed.getD j true = true := by
          simpa [Array.getD_eq_getD_getElem?, Array.getElem?_setIfInBounds_ne e] using hlj
        exact hI j _ w w' (hE.new j hj h2) hB'

/-- THE LAW: a region that draws, by what each of its operations leaves. -/
theorem wp_region_each {id : Nat} {a0 : Act} {w : World} (hm : P.follows .mixedOrders = true) (I : Nat → Value → World → Prop) (S : World → Prop)
    (hdst : ∀ (i : Nat) (o : Oper), ops[i]? = some o → o.dst = some (dstOf ops i) ∧ dstOf ops i < a0.tmps.size)
    (hinj : ∀ i j, i < ops.size → j < ops.size → dstOf ops i = dstOf ops j → i = j)
    (hac : ∀ (i : Nat) (o : Oper), ops[i]? = some o → ∀ e ∈ o.after, Region.binds .any e = true → e.on < i)
    (hI : ∀ i v w w', I i v w → Below w.heap.size w w' → I i v w')
    (hS : S w.drew)
    (hstep : ∀ (i : Nat) (o : Oper), ops[i]? = some o → ∀ (a : Act) (w : World), S w → (∀ t, (∀ j, j < ops.size → dstOf ops j ≠ t) → a.tmps.getD t undef = a0.tmps.getD t undef) →
      (∀ e ∈ o.after, Region.binds .any e = true → I e.on (a.tmps.getD (dstOf ops e.on) undef) w) →
      wpOp P ops Q i (fun a' w' => S w' ∧ Below w.heap.size w w' ∧ ∃ v, I i v w' ∧ a' = a.put o.dst v) a w)
    (hend : ∀ (a : Act) (w : World), S w → a.tmps.size = a0.tmps.size → a.defers = a0.defers → (∀ t, (∀ j, j < ops.size → dstOf ops j ≠ t) → a.tmps.getD t undef = a0.tmps.getD t undef) →
      (∀ i, i < ops.size → I i (a.tmps.getD (dstOf ops i) undef) w) → Q .normal a w) :
    (Code.region id ops true).wp P Q a0 w := by
  refine wp_region_any hm (each_any a0 I S hdst hinj hac hI hstep hend ops.size _ a0 _ (by simp) ?_ ⟨hS, rfl, rfl, fun _ _ => rfl, ?_⟩)
  · unfold openCount
    exact Nat.le_trans (List.length_filter_le _ _) (by simp)
  · intro i hi h
    simp [Array.getD_eq_getD_getElem?, hi] at h

/-- The closed conditions, as one test. -/
def eachOk (ops : Array Oper) (n : Nat) : Bool :=
  (List.range ops.size).all fun i => match ops[i]? with
    | none => false
    | some o => o.dst == some (dstOf ops i) && decide (dstOf ops i < n) && o.after.all (fun e => !Region.binds .any e || decide (e.on < i)) && (List.range ops.size).all fun j => i == j || dstOf ops i != dstOf ops j
/-- No operation's temporary. -/
def offOps (ops : Array Oper) (t : Nat) : Bool := (List.range ops.size).all fun j => dstOf ops j != t
theorem offOps_spec {t : Nat} (h : offOps ops t = true) : ∀ j, j < ops.size → dstOf ops j ≠ t := by
  intro j hj
  unfold offOps at h
  rw [List.all_eq_true] at h
  have := h j (by simpa using hj)
  simpa using this
theorem eachOk_spec {n : Nat} (h : eachOk ops n = true) :
    (∀ (i : Nat) (o : Oper), ops[i]? = some o → o.dst = some (dstOf ops i) ∧ dstOf ops i < n) ∧
    (∀ i j, i < ops.size → j < ops.size → dstOf ops i = dstOf ops j → i = j) ∧
    (∀ (i : Nat) (o : Oper), ops[i]? = some o → ∀ e ∈ o.after, Region.binds .any e = true → e.on < i) := by
  unfold eachOk at h
  rw [List.all_eq_true] at h
  have key : ∀ (i : Nat) (o : Oper), ops[i]? = some o → o.dst = some (dstOf ops i) ∧ dstOf ops i < n ∧ (∀ e ∈ o.after, Region.binds .any e = true → e.on < i) ∧ ∀ j, j < ops.size → i = j ∨ dstOf ops i ≠ dstOf ops j := by
    intro i o ho
    have hi : i < ops.size := (Array.getElem?_eq_some_iff.1 ho).1
    have := h i (by simpa using hi)
    rw [ho] at this
    simp only [Bool.and_eq_true, beq_iff_eq, decide_eq_true_eq, Array.all_eq_true_iff_forall_mem, List.all_eq_true, Bool.or_eq_true, bne_iff_ne, List.mem_range, Bool.not_eq_true'] at this
    refine ⟨this.1.1.1, this.1.1.2, fun e he hb => ?_, this.2⟩
    rcases this.1.2 e he with h1 | h1
    · rw [h1] at hb; cases hb
    · exact h1
  refine ⟨fun i o ho => ⟨(key i o ho).1, (key i o ho).2.1⟩, fun i j hi hj he => ?_, fun i o ho => (key i o ho).2.2.1⟩
  rcases (key i ops[i] (by simp [hi])).2.2.2 j hj with h1 | h1
  · exact h1
  · exact absurd he h1

/-- THE LAW, in the form that a walk takes: S is 'nothing below B has been touched since w1', and each operation shows but what it leaves. -/
theorem wp_region_each2 {id : Nat} {a0 : Act} {w : World} (hm : P.follows .mixedOrders = true) (I : Nat → Value → World → Prop) (hok : eachOk ops a0.tmps.size = true)
    (hI : ∀ i v w w', I i v w → Below w.heap.size w w' → I i v w')
    (hstep : ∀ (i : Nat) (o : Oper), ops[i]? = some o → ∀ (a : Act) (w1 : World), Below w.heap.size w w1 → (∀ t, offOps ops t = true → a.tmps.getD t undef = a0.tmps.getD t undef) →
      (∀ e ∈ o.after, Region.binds .any e = true → I e.on (a.tmps.getD (dstOf ops e.on) undef) w1) →
      wpOp P ops Q i (fun a' w' => Below w1.heap.size w1 w' ∧ ∃ v, I i v w' ∧ a' = a.put o.dst v) a w1)
    (hend : ∀ (a : Act) (w1 : World), Below w.heap.size w w1 → a.tmps.size = a0.tmps.size → a.defers = a0.defers → (∀ t, offOps ops t = true → a.tmps.getD t undef = a0.tmps.getD t undef) →
      (∀ i, i < ops.size → I i (a.tmps.getD (dstOf ops i) undef) w1) → Q .normal a w1) :
    (Code.region id ops true).wp P Q a0 w := by
  obtain ⟨h1, h2, h3⟩ := eachOk_spec hok
  refine wp_region_each hm I (fun w1 => Below w.heap.size w w1) h1 h2 h3 hI (Below.refl _ _).drew ?_ ?_
  · intro i o ho a w1 hB hold hdeps
    refine wpOp_mono (fun a' w' h => ?_) (hstep i o ho a w1 hB (fun t ht => hold t (offOps_spec ht)) hdeps)
    exact ⟨hB.trans (h.1.mono hB.size), h.1, h.2⟩
  · intro a w1 hB hs hd hold hall
    exact hend a w1 hB hs hd (fun t ht => hold t (offOps_spec ht)) hall
theorem wanted_of {o : Oper} {a : Act} {g : Nat} (hg : o.guard = some (g, true)) (hd : ((ops[g]?).bind (·.dst)) = some (dstOf ops g)) (hv : a.tmps.getD (dstOf ops g) undef = .bool true) : Region.wanted o (yielded ops a.tmps) = true := by
  unfold Region.wanted
  rw [hg]
  have : a.tmps[dstOf ops g]? = some (.bool true) := by
    rw [Array.getD_eq_getD_getElem?] at hv
    cases h : a.tmps[dstOf ops g]? with
    | none => rw [h] at hv; simp [undef] at hv
    | some v => rw [h] at hv; simpa using hv
  simp [yielded, hd, this]

/-- An operation that leaves a value. -/
theorem each_value {i : Nat} {o : Oper} {a : Act} {w w' : World} {v : Value} {K : Act → World → Prop} (hi : ops[i]? = some o) (hw : Region.wanted o (yielded ops a.tmps) = true)
    (hr : (execOp a.eval o).run P w = .ok (.value v) w') (h : K (a.put o.dst v) w') : wpOp P ops Q i K a w := by
  unfold wpOp
  simp only [hi, hw, if_true]
  exact .inl (by unfold Oper.wp; rw [hr]; exact h)
/-- An operation that enters a function. -/
theorem each_call {i : Nat} {o : Oper} {a : Act} {w : World} {f : FuncId} {args : Array Value} {K : Act → World → Prop} (hi : ops[i]? = some o) (hw : Region.wanted o (yielded ops a.tmps) = true)
    (hr : (execOp a.eval o).run P w = .ok (.enter f args) w) (h : Calls P f args w fun e w' => ∃ v, e = .returned v ∧ K (a.put o.dst v) w') : wpOp P ops Q i K a w := by
  unfold wpOp
  simp only [hi, hw, if_true]
  refine .inl ?_
  unfold Oper.wp
  rw [hr]
  refine Calls.mono h fun e w' ⟨v, he, hk⟩ => ?_
  subst he
  exact hk
theorem dep_of {I : Nat → Value → World → Prop} {o : Oper} {a : Act} {w : World} (hdeps : ∀ e ∈ o.after, Region.binds .any e = true → I e.on (a.tmps.getD (dstOf ops e.on) undef) w) (j : Nat)
    (h : (o.after.toList.any fun e => e.on == j && Region.binds .any e) = true) : I j (a.tmps.getD (dstOf ops j) undef) w := by
  rw [List.any_eq_true] at h
  obtain ⟨e, he, h2⟩ := h
  simp only [Bool.and_eq_true, beq_iff_eq] at h2
  obtain ⟨rfl, hb⟩ := h2
  exact hdeps e (by simpa using he) hb
/-- An operation that reads alone. -/
theorem each_pure {i : Nat} {o : Oper} {a : Act} {w : World} {v : Value} {I : Nat → Value → World → Prop} (hi : ops[i]? = some o) (hw : Region.wanted o (yielded ops a.tmps) = true)
    (hr : (execOp a.eval o).run P w = .ok (.value v) w) (hv : I i v w) : wpOp P ops Q i (fun a' w' => Below w.heap.size w w' ∧ ∃ v, I i v w' ∧ a' = a.put o.dst v) a w :=
  each_value hi hw hr ⟨Below.refl _ _, v, hv, rfl⟩
theorem each_enter {i : Nat} {o : Oper} {a : Act} {w : World} {f : FuncId} {args : Array Value} {I : Nat → Value → World → Prop} (hi : ops[i]? = some o) (hw : Region.wanted o (yielded ops a.tmps) = true)
    (hr : (execOp a.eval o).run P w = .ok (.enter f args) w) (h : Calls P f args w fun e w' => ∃ v, e = .returned v ∧ Below w.heap.size w w' ∧ I i v w') : wpOp P ops Q i (fun a' w' => Below w.heap.size w w' ∧ ∃ v, I i v w' ∧ a' = a.put o.dst v) a w :=
  each_call hi hw hr (Calls.mono h fun _ _ ⟨v, he, hB, hv⟩ => ⟨v, he, hB, v, hv, rfl⟩)
/-- Values put, one behind the other. -/
def putAll (a : Act) : List (Nat × Value) → Act
  | [] => a
  | (d, v) :: l => putAll (a.put (some d) v) l
theorem putAll_size : ∀ (l : List (Nat × Value)) (a : Act), (putAll a l).tmps.size = a.tmps.size
  | [], _ => rfl
  | (d, v) :: l, a => by rw [putAll, putAll_size l]; simp [Act.put]
theorem putAll_defers : ∀ (l : List (Nat × Value)) (a : Act), (putAll a l).defers = a.defers
  | [], _ => rfl
  | (d, v) :: l, a => by rw [putAll, putAll_defers l]; rfl
theorem putAll_off (t : Nat) : ∀ (l : List (Nat × Value)) (a : Act), (∀ x ∈ l, x.1 ≠ t) → (putAll a l).tmps.getD t undef = a.tmps.getD t undef
  | [], _, _ => rfl
  | (d, v) :: l, a, h => by
    rw [putAll, putAll_off t l _ (fun x hx => h x (List.mem_cons_of_mem _ hx))]
    have hne : d ≠ t := h (d, v) List.mem_cons_self
    simp [Act.put, Array.getD_eq_getD_getElem?, Array.getElem?_setIfInBounds_ne hne]
theorem putAll_at (t : Nat) (u : Value) : ∀ (l : List (Nat × Value)) (a : Act), t < a.tmps.size → (l.map (·.1)).Nodup → (t, u) ∈ l → (putAll a l).tmps.getD t undef = u
  | [], _, _, _, h => by cases h
  | (d, v) :: l, a, hs, hn, h => by
    rw [List.map_cons, List.nodup_cons] at hn
    rw [putAll]
    rcases List.mem_cons.1 h with e | h
    · cases e
      rw [putAll_off t l _ (fun x hx e => hn.1 (by rw [List.mem_map]; exact ⟨x, hx, e⟩))]
      simp [Act.put, Array.getD_eq_getD_getElem?, hs]
    · exact putAll_at t u l _ (by simpa [Act.put] using hs) hn.2 h
/-- What number i leaves. -/
def pv (ps : List (Nat × Value)) (i : Nat) : Value := (ps.getD i (0, undef)).2
def InvV (ps : List (Nat × Value)) (i : Nat) (v : Value) (_ : World) : Prop := v = pv ps i
/-- THE LAW where each operation leaves one value: the frame behind it is known. -/
theorem wp_region_vals {id : Nat} {a0 : Act} {w : World} (hm : P.follows .mixedOrders = true) (ps : List (Nat × Value)) (hok : eachOk ops a0.tmps.size = true) (hds : ps.map (·.1) = (List.range ops.size).map (dstOf ops))
    (hstep : ∀ (i : Nat) (o : Oper), ops[i]? = some o → ∀ (a : Act) (w1 : World), Below w.heap.size w w1 → (∀ t, offOps ops t = true → a.tmps.getD t undef = a0.tmps.getD t undef) →
      (∀ e ∈ o.after, Region.binds .any e = true → InvV ps e.on (a.tmps.getD (dstOf ops e.on) undef) w1) →
      wpOp P ops Q i (fun a' w' => Below w1.heap.size w1 w' ∧ ∃ v, InvV ps i v w' ∧ a' = a.put o.dst v) a w1)
    (hend : ∀ (w1 : World), Below w.heap.size w w1 → Q .normal (putAll a0 ps) w1) :
    (Code.region id ops true).wp P Q a0 w := by
  refine wp_region_each2 hm (InvV ps) hok (fun i v w w' h _ => h) hstep (fun a w1 hB hs hd hold hall => ?_)
  have hlen : ps.length = ops.size := by
    have := congrArg List.length hds
    simpa using this
  obtain ⟨k1, k2, _⟩ := eachOk_spec hok
  have hpi : ∀ i, i < ops.size → (dstOf ops i, pv ps i) ∈ ps := by
    intro i hi
    have h1 : i < ps.length := by omega
    have h2 : (ps.map (·.1))[i]? = some (dstOf ops i) := by rw [hds]; simp [hi]
    have h3 : ps[i]? = some (ps[i]) := by simp [h1]
    rw [List.getElem?_map, h3] at h2
    simp only [Option.map_some, Option.some.injEq] at h2
    have h4 : pv ps i = (ps[i]).2 := by simp [pv, h1]
    rw [h4, ← h2]
    exact List.getElem_mem h1
  have hnd : (ps.map (·.1)).Nodup := by
    rw [hds]
    refine List.pairwise_map.2 ((List.nodup_range (n := ops.size)).imp_of_mem (fun {i j} hi hj hne e => ?_))
    exact hne (k2 i j (by simpa using hi) (by simpa using hj) e)
  have e : a = putAll a0 ps := by
    have ht : a.tmps = (putAll a0 ps).tmps := by
      refine Array.ext (by rw [hs, putAll_size]) (fun t h1 h2 => ?_)
      have key : a.tmps.getD t undef = (putAll a0 ps).tmps.getD t undef := by
        by_cases hoff : offOps ops t = true
        · rw [hold t hoff, putAll_off t ps a0 (fun x hx e => ?_)]
          have hm : x.1 ∈ ps.map (·.1) := List.mem_map_of_mem hx
          rw [hds, List.mem_map] at hm
          obtain ⟨j, hj, hj2⟩ := hm
          exact offOps_spec hoff j (by simpa using hj) (hj2.trans e)
        · unfold offOps at hoff
          rw [List.all_eq_true] at hoff
          have hex : ∃ j, j < ops.size ∧ dstOf ops j = t := by
            refine Classical.byContradiction fun hno => hoff (fun j hj => ?_)
            by_cases e : dstOf ops j = t
            · exact absurd ⟨j, by simpa using hj, e⟩ hno
            · simpa using e
          obtain ⟨j, hj, rfl⟩ := hex
          rw [hall j hj, putAll_at _ (pv ps j) ps a0 (by omega) hnd (hpi j hj)]
      simpa [Array.getD_eq_getD_getElem?, h1, h2] using key
    have hd2 := putAll_defers ps a0
    cases a with
    | mk t d =>
      cases hp : putAll a0 ps with
      | mk t2 d2 =>
        rw [hp] at ht hd2
        simp only at ht hd hd2
        rw [ht, hd, hd2]
  rw [e]
  exact hend w1 hB
theorem wanted_not {o : Oper} {a : Act} {g : Nat} (hg : o.guard = some (g, false)) (hd : ((ops[g]?).bind (·.dst)) = some (dstOf ops g)) (hv : a.tmps.getD (dstOf ops g) undef = .bool false) : Region.wanted o (yielded ops a.tmps) = true := by
  unfold Region.wanted
  rw [hg]
  have : a.tmps[dstOf ops g]? = some (.bool false) := by
    rw [Array.getD_eq_getD_getElem?] at hv
    cases h : a.tmps[dstOf ops g]? with
    | none => rw [h] at hv; simp [undef] at hv
    | some v => rw [h] at hv; simpa using hv
  simp [yielded, hd, this]
/-- One that is not wanted: its guard says otherwise, or was not asked itself. -/
theorem each_skip {i : Nat} {o : Oper} {a : Act} {w : World} {ps : List (Nat × Value)} {g : Nat} {b : Bool} (hi : ops[i]? = some o) (hg : o.guard = some (g, b)) (hd : ((ops[g]?).bind (·.dst)) = some (dstOf ops g))
    (hv : a.tmps.getD (dstOf ops g) undef ≠ .bool b) (hp : pv ps i = undef) : wpOp P ops Q i (fun a' w' => Below w.heap.size w w' ∧ ∃ v, InvV ps i v w' ∧ a' = a.put o.dst v) a w := by
  have hw : Region.wanted o (yielded ops a.tmps) = false := by
    unfold Region.wanted
    rw [hg]
    have : yielded ops a.tmps g ≠ some b := by
      intro h
      apply hv
      unfold yielded at h
      rw [hd] at h
      simp only [Option.bind_some] at h
      rw [Array.getD_eq_getD_getElem?]
      cases hx : a.tmps[dstOf ops g]? with
      | none => rw [hx] at h; simp at h
      | some v =>
        rw [hx] at h
        cases v with
        | bool b2 => simp at h; simp [h]
        | _ => simp at h
    simpa using this
  unfold wpOp
  simp only [hi, hw]
  exact ⟨Below.refl _ _, undef, hp.symm, rfl⟩
end
end
section
open Go.RowKit
theorem hide {p : Prop} (h : p) : Hid p := h
theorem ret_int {k : IntKind} {a b : Int} (h : a = b) : Ending.returned (.int k a) = .returned (.int k b) := by rw [h]
theorem ret_bool {a b : Bool} (h : a = b) : Ending.returned (.bool a) = .returned (.bool b) := by rw [h]

/-- A slice reads as these numbers. -/
def Lies (k : IntKind) (w : World) (v : Value) (xs : List Int) : Prop :=
  (xs = [] ∧ ∃ (ao : Option Addr) (cap : Nat), v = .slice ao 0 cap ∧ (ao = none → cap = 0)) ∨
  (xs ≠ [] ∧ ∃ b off cap : Nat, v = .slice (some ⟨b, off, none⟩) xs.length cap ∧ b < w.heap.size ∧ xs.length ≤ cap ∧ cap ≤ maxLen ∧
    ∀ t, t < xs.length → w.cell? ⟨b, off + t, none⟩ = some (.int k (xs.getD t 0)))
theorem Lies.below {k : IntKind} {w w' : World} {v : Value} {xs : List Int} (hB : Below w.heap.size w w') (h : Lies k w v xs) : Lies k w' v xs := by
  rcases h with h | ⟨hx, b, off, cap, rfl, hb, hl, hm, hc⟩
  · exact .inl h
  · exact .inr ⟨hx, b, off, cap, rfl, Nat.lt_of_lt_of_le hb hB.size, hl, hm, fun t ht => (hB.cell (p := ⟨b, off + t, none⟩) hb).trans (hc t ht)⟩
theorem Lies.nil (k : IntKind) (w : World) : Lies k w (.slice none 0 0) [] := .inl ⟨rfl, none, 0, rfl, fun _ => rfl⟩
theorem Lies.len {k : IntKind} {w : World} {v : Value} {xs : List Int} (h : Lies k w v xs) : xs.length ≤ maxLen := by
  rcases h with ⟨rfl, _⟩ | ⟨_, b, off, cap, _, _, hl, hm, _⟩
  · simp
  · omega
theorem Lies.of_own {k : IntKind} {w : World} {base e : Nat} {v : Value} {n : Nat} {xs : List Int} (h : w.ownsRow base e 1 v n (xs.map (Value.int k))) : Lies k w v xs := by
  have hl : xs.length = n := by simpa using h.1
  have h0 := h
  obtain ⟨_, ⟨rfl, rfl⟩ | ⟨g, cap, cur, rfl, hg, hh, hn, hcap, hsz, htake⟩⟩ := h
  · obtain rfl : xs = [] := List.eq_nil_of_length_eq_zero hl
    exact Lies.nil _ _
  · by_cases hx : xs = []
    · subst hx
      obtain rfl : n = 0 := hl.symm
      exact .inl ⟨rfl, _, _, rfl, fun h => by cases h⟩
    · refine .inr ⟨hx, g, 0, cap, by rw [hl], (h0.lt g rfl).2, by omega, hcap, fun t ht => ?_⟩
      rw [Nat.zero_add, h0.cellAt t (by omega)]
      simp [ht]

theorem Lies.appendable {k : IntKind} {w : World} {v : Value} {xs : List Int} (h : Lies k w v xs) :
    ∃ (ao : Option Addr) (cap : Nat), v = .slice ao xs.length cap ∧ (ao = none → xs.length = 0 ∧ cap = 0) ∧ (∀ ad, ao = some ad → ∀ j u, (xs.map (Value.int k))[j]? = some u → w.cell? (ad.add j) = some u) := by
  rcases h with ⟨rfl, ao, cap, rfl, h0⟩ | ⟨_, b, off, cap, rfl, _, _, _, hc⟩
  · exact ⟨ao, cap, rfl, fun h => ⟨rfl, h0 h⟩, fun ad _ j u hu => by simp at hu⟩
  · refine ⟨_, cap, rfl, (fun h => by cases h), fun ad had j u hu => ?_⟩
    obtain rfl := Option.some.inj had
    have hj : j < xs.length := by
      have := (List.getElem?_eq_some_iff.1 hu).1
      simpa using this
    rw [Addr.add_lit, hc j hj]
    simp [hj] at hu ⊢
    exact hu

theorem Lies.shape {k : IntKind} {w : World} {v : Value} {xs : List Int} (h : Lies k w v xs) : ∃ (ao : Option Addr) (cap : Nat), v = .slice ao xs.length cap := by
  obtain ⟨ao, cap, e, _⟩ := h.appendable
  exact ⟨ao, cap, e⟩
end
section
open Go.RowKit

theorem info5 : (Tryz.prog.info? 5).map (fun i => (i.zero, i.size, i.bytes)) = some (some (.int .u8 0), 1, 1) := by kernel_rfl
theorem append_lies {ops : Array Oper} {rest : List Oper} {o : Oper} {a : Act} {Q : Exit → Act → World → Prop} (w : World) (hgd : o.guard = none) (s x : Operand)
    (ho : o.op = .call { callee := .builtin .append, args := #[s, x], argTypes := #[45, 45] })
    (base : Nat) (v vx : Value) (n : Nat) (ys xs : List Int) (hs : a.eval s = v) (hown : w.ownsRow base 5 1 v n (ys.map (Value.int .u8))) (hx : a.eval x = vx) (hL : Lies .u8 w vx xs)
    (hb : n + xs.length ≤ 200000000000000) (hbase : base ≤ w.heap.size)
    (h : ∀ v' w', w'.ownsRow base 5 1 v' (n + xs.length) ((ys ++ xs).map (Value.int .u8)) → w.grownBy w' v.ownBlock → wpList Tryz.prog ops Q rest (a.put o.dst v') w') :
    wpList Tryz.prog ops Q (o :: rest) a w := by
  obtain ⟨i0, hi, hz0, hz1, hz2⟩ := info_parts info5
  rcases hL with ⟨rfl, ao, cap, rfl, h0⟩ | ⟨_, b, off, cap, rfl, _, _, _, hc⟩
  · cases ao with
    | none =>
      obtain rfl := h0 rfl
      exact wpList_append_own_none hgd s x 45 ho base 5 i0 1 Tryz.underlying45 hi v n _ hs hown hx (h v w (by simpa using hown) (World.grownBy.refl _ _))
    | some ad =>
      exact wpList_append_own_wide w hgd s x 45 ho base 5 i0 (.int .u8 0) 1 1 Tryz.underlying45 hi hz0 hz1 hz2 rfl (by decide) v n _ hs hown ad 0 cap [] hx rfl (fun j u hj => by simp at hj) (fun u hu => by simp at hu)
        (by unfold maxLen; simp at hb; omega) (by simp at hb; omega) hbase (fun v' w' h1 h2 _ => h v' w' (by simpa using h1) h2)
  · exact wpList_append_own_wide w hgd s x 45 ho base 5 i0 (.int .u8 0) 1 1 Tryz.underlying45 hi hz0 hz1 hz2 rfl (by decide) v n _ hs hown ⟨b, off, none⟩ xs.length cap (xs.map (Value.int .u8)) hx (by simp)
        (fun j u hu => by
          have hj : j < xs.length := by
            have := (List.getElem?_eq_some_iff.1 hu).1
            simpa using this
          rw [Addr.add_lit, hc j hj]
          simp [hj] at hu ⊢
          exact hu) (ints_oneCell _ _)
        (by unfold maxLen; omega) (by omega) hbase (fun v' w' h1 h2 _ => h v' w' (by simpa using h1) h2)
end
section
open Go.RowKit

/-- Block p is a variable: these cells, of this type; none of them frozen. -/
def Box (w : World) (p : Nat) (cs : Array Value) (t : TypeId) : Prop := w.heap[p]? = some (.cells cs t (0, 0))
theorem Box.cell {w : World} {p : Nat} {cs : Array Value} {t : TypeId} (h : Box w p cs t) (i : Nat) (v : Value) (hv : cs[i]? = some v) : w.cell? ⟨p, i, none⟩ = some v := by
  rw [cell_of_row w p i cs t (0, 0) h]; exact hv
theorem Box.frozen {w : World} {p : Nat} {cs : Array Value} {t : TypeId} (h : Box w p cs t) (i : Nat) : w.frozen? ⟨p, i, none⟩ = false := by
  unfold World.frozen?
  rw [h]; simp
theorem Box.lt {w : World} {p : Nat} {cs : Array Value} {t : TypeId} (h : Box w p cs t) : p < w.heap.size := (Array.getElem?_eq_some_iff.1 h).1
/-- Nothing but the blocks of S (and new ones) is touched. -/
structure KeepBut (S : Nat → Prop) (w w' : World) : Prop where
  os : w'.os = w.os
  tape : w'.tape = w.tape
  output : w'.output = w.output
  size : w.heap.size ≤ w'.heap.size
  block : ∀ k, k < w.heap.size → ¬ S k → w'.heap[k]? = w.heap[k]?
theorem KeepBut.refl (S : Nat → Prop) (w : World) : KeepBut S w w := ⟨rfl, rfl, rfl, Nat.le_refl _, fun _ _ _ => rfl⟩
theorem KeepBut.trans {S S' : Nat → Prop} {a b c : World} (h : KeepBut S a b) (h' : KeepBut S' b c) (hs : ∀ k, k < a.heap.size → S' k → S k) : KeepBut S a c :=
  ⟨h'.os.trans h.os, h'.tape.trans h.tape, h'.output.trans h.output, Nat.le_trans h.size h'.size,
    fun k hk hS => (h'.block k (Nat.lt_of_lt_of_le hk h.size) (fun h2 => hS (hs k hk h2))).trans (h.block k hk hS)⟩
theorem KeepBut.mono {S S' : Nat → Prop} {w w' : World} (h : KeepBut S w w') (hs : ∀ k, S k → S' k) : KeepBut S' w w' :=
  ⟨h.os, h.tape, h.output, h.size, fun k hk hS => h.block k hk (fun h2 => hS (hs k h2))⟩
theorem KeepBut.of_below {w w' : World} (S : Nat → Prop) (h : Below w.heap.size w w') : KeepBut S w w' := ⟨h.os, h.tape, h.output, h.size, fun k hk _ => h.block k hk⟩
theorem KeepBut.below {S : Nat → Prop} {w w' : World} {B : Nat} (h : KeepBut S w w') (hB : B ≤ w.heap.size) (hs : ∀ k, S k → B ≤ k) : Below B w w' :=
  ⟨h.os, h.tape, h.output, h.size, fun k hk => h.block k (Nat.lt_of_lt_of_le hk hB) (fun h2 => Nat.lt_irrefl _ (Nat.lt_of_lt_of_le hk (hs k h2)))⟩
theorem KeepBut.setCell {S : Nat → Prop} {a w : World} (h : KeepBut S a w) {p : Addr} (hp : S p.block ∨ a.heap.size ≤ p.block) (u : Value) : KeepBut S a (w.setCell p u) := by
  refine ⟨h.os, h.tape, h.output, by simpa using h.size, fun k hk hS => ?_⟩
  have hne : k ≠ p.block := by
    intro e; subst e
    rcases hp with hp | hp
    · exact hS hp
    · omega
  rw [Below.heap_setCell w p u k hne]
  exact h.block k hk hS
theorem KeepBut.alloc {S : Nat → Prop} {a w : World} (h : KeepBut S a w) (o : Obj) : KeepBut S a (w.alloc o) :=
  ⟨h.os, h.tape, h.output, Nat.le_trans h.size (by simp), fun k hk hS => (Below.heap_alloc w o k (Nat.lt_of_lt_of_le hk h.size)).trans (h.block k hk hS)⟩
theorem KeepBut.drew {S : Nat → Prop} {a w : World} (h : KeepBut S a w) : KeepBut S a w.drew := ⟨h.os, h.tape, h.output, h.size, h.block⟩
theorem Box.keep {S : Nat → Prop} {w w' : World} {p : Nat} {cs : Array Value} {t : TypeId} (h : Box w p cs t) (hk : KeepBut S w w') (hS : ¬ S p) : Box w' p cs t :=
  (hk.block p h.lt hS).trans h
theorem Box.set {w : World} {p i : Nat} {cs : Array Value} {t : TypeId} {v : Value} (h : Box w p cs t) : Box (w.setCell ⟨p, i, none⟩ v) p (cs.setIfInBounds i v) t := by
  unfold Box at h ⊢
  simp [World.setCell, Array.getElem?_modify, h]
/-- An owned row lies in one block alone: so it is kept where that block is. -/
theorem owns_keep {S : Nat → Prop} {w w' : World} {base e size n : Nat} {v : Value} {xs : List Value} (h : w.ownsRow base e size v n xs) (hk : KeepBut S w w') (hS : ∀ g, v.ownBlock = some g → ¬ S g) : w'.ownsRow base e size v n xs := by
  obtain ⟨hl, h0 | ⟨g, cap, cur, rfl, hb, hh, h1, h2, h3, h4⟩⟩ := h
  · exact ⟨hl, .inl h0⟩
  · refine ⟨hl, .inr ⟨g, cap, cur, rfl, hb, ?_, h1, h2, h3, h4⟩⟩
    exact (hk.block g (Array.getElem?_eq_some_iff.1 hh).1 (hS g rfl)).trans hh
/-- A whole variable is loaded. -/
theorem wp_load_box {P : Program} {ops : Array Oper} {rest : List Oper} {op : Oper} {a : Act} {w : World} {Q : Exit → Act → World → Prop} {t t0 : TypeId} {d : TypeDesc} (hgd : op.guard = none) (x : Operand) (ho : op.op = .load t x)
    (p : Nat) (hx : a.eval x = .pointer (some ⟨p, 0, none⟩)) {cs : Array Value} (hb : Box w p cs t0) (hu : P.underlying t = some d) (hd : d.isRow = true) (hi : (P.info? t).map (·.size) = some cs.size)
    (h : wpList P ops Q rest (a.put op.dst (.agg cs)) w) : wpList P ops Q (op :: rest) a w := by
  have hr : w.rangeAt p 0 cs.toList := fun j v hv => by
    rw [Nat.zero_add]; exact hb.cell j v (by simpa using hv)
  exact wpList_load_mid hgd t x ho p 0 hx cs.toList d hr hu hd (by simpa using hi) (by simpa using h)
/-- A whole variable is stored. -/
theorem wp_store_box {P : Program} {ops : Array Oper} {rest : List Oper} {op : Oper} {a : Act} {w : World} {Q : Exit → Act → World → Prop} {t t0 : TypeId} (hgd : op.guard = none) (hdst : op.dst = none) (x y : Operand) (ho : op.op = .store t x y)
    (p : Nat) (hx : a.eval x = .pointer (some ⟨p, 0, none⟩)) {cs cs' : Array Value} (hy : a.eval y = .agg cs') (hb : Box w p cs t0) (hsz : cs.size = cs'.size) (hi : (P.info? t).map (·.size) = some cs'.size) (h1 : cs'.all (·.oneCell') = true)
    (h : ∀ w', Box w' p cs' t0 → KeepBut (fun k => k = p) w w' → wpList P ops Q rest a w') : wpList P ops Q (op :: rest) a w := by
  refine wpList_plain hgd fun K hK => ?_
  have hr := run_storeVar_row (P := P) w p t0 t cs cs' hb hi hsz h1
  unfold Oper.wp execOp
  simp only [ho, hx, hy, Instr.storeAt, Instr.sureAddr, Sem.run_bind, Sem.run_pure, Result.andThen_ok, hr]
  show K (a.put op.dst undef) _
  rw [hdst]
  refine hK _ _ (h _ ?_ ?_)
  · exact setRow_heap w p cs cs' t0 (0, 0) hb
  · exact ⟨rfl, rfl, rfl, by simp [World.setRow], fun k _ hS => setRow_other w p k cs' hS⟩
theorem box_new (w : World) (cs : Array Value) (t : TypeId) : Box (w.alloc (.cells cs t)) w.heap.size cs t := heap_alloc_last w _
/-- The result lies in a variable of its own. -/
theorem results_box {P : Program} {fn : Func} {q : Tmp} {t t0 : TypeId} {d : TypeDesc} (h : fn.results = #[.cell q t]) (tmps : Array Value) (w : World) (p : Nat) (hq : tmps.getD q undef = .pointer (some ⟨p, 0, none⟩)) {cs : Array Value} (hb : Box w p cs t0)
    (hu : P.underlying t = some d) (hd : d.isRow = true) (hi : (P.info? t).map (·.size) = some cs.size) : (results fn tmps).run P w = .ok (.agg cs) w := by
  have hr : w.rangeAt p 0 cs.toList := fun j v hv => by
    rw [Nat.zero_add]; exact hb.cell j v (by simpa using hv)
  have hl := run_loadVar_mid (P := P) w p 0 t cs.toList d hr hu hd (by simpa using hi)
  have hq' : tmps[q]?.getD undef = .pointer (some ⟨p, 0, none⟩) := by rw [← Array.getD_eq_getD_getElem?]; exact hq
  simp only [results, h]
  simp [hq', asAddr, hl]
end
end Go.Proofs.YtencmgepffdodaaGreat
