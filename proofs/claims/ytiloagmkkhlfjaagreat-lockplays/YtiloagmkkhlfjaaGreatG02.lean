/-
  Own texts put together: RSpec, Codec, VtRegion, Sets, Lists. Own work.
-/
import Derived.Test.YtiloagmkkhlfjaaGreatG01
import Derived.Orders
import Derived.Below
import Derived.RangeFuncBox
import Derived.RangeFuncLeaves
import Derived.Shelf.Abstract
import Derived.OwnWalkIn
import Derived.TacticsInMore
import Derived.LoopNIn
import Derived.LoopIn
import Derived.Deep.QuietTactic
import Derived.BigQuiet
namespace Go.Proofs.YtiloagmkkhlfjaaGreat
section
open Go
structure RS where
 bs : List Int
 went : Nat
 why : Int
 fat : Nat
def RS.fail (r : RS) (e : Int) : RS := { r with why := e, fat := r.went }
def RS.go (r : RS) (k : Nat) : RS := { r with bs := r.bs.drop k, went := r.went + k }
def ReadAs (r r' : RS) (ys : List Int) : Prop :=
 (r'.why = 0 ∧ r.bs = ys ++ r'.bs ∧ r'.went = r.went + ys.length ∧ r'.fat = r.fat) ∨ (r'.why ≠ 0 ∧ r'.bs = r.bs ∧ r'.went = r.went ∧ r'.fat = r.went)
end
section
open Go
def iO (r r' : RS) (ys : List Int) : Prop :=
 (r'.why = 0 ∧ r.bs = ys ++ r'.bs ∧ r'.went = r.went + ys.length ∧ r'.fat = r.fat) ∨
 (r'.why ≠ 0 ∧ ∃ k, k ≤ r.bs.length ∧ r'.bs = r.bs.drop k ∧ r'.went = r.went + k ∧ r'.fat = r.went + k)
theorem ReadAs.to {r r' : RS} {ys : List Int} (h : ReadAs r r' ys) : iO r r' ys := by
 rcases h with h | ⟨h1, h2, h3, h4⟩
 ·exact .inl h
 ·exact .inr ⟨h1, 0, Nat.zero_le _, by simpa using h2, by simpa using h3, by simpa using h4⟩
theorem iO.bytes {r r' : RS} {ys : List Int} (h : iO r r' ys) (hx : ∀ c ∈ r.bs, 0 ≤ c ∧ c < 256) : ∀ c ∈ r'.bs, 0 ≤ c ∧ c < 256 := by
 rcases h with ⟨_, h, _⟩ | ⟨_, k, _, h, _⟩
 ·intro c hc; exact hx c (by rw [h]; exact List.mem_append_right _ hc)
 ·intro c hc; rw [h] at hc; exact hx c (List.mem_of_mem_drop hc)
theorem iO.nil {r : RS} (h : r.why = 0) : iO r r [] := .inl ⟨h, rfl, rfl, rfl⟩
theorem iO.trans {r r1 r2 : RS} {ys zs : List Int} (h : iO r r1 ys) (h1 : r1.why = 0) (h2 : iO r1 r2 zs) : iO r r2 (ys ++ zs) := by
 rcases h with ⟨_, e1, e2, e3⟩ | ⟨hn, _⟩
 ·rcases h2 with ⟨g0, g1, g2, g3⟩ | ⟨g0, k, gk, g1, g2, g3⟩
  ·exact .inl ⟨g0, by rw [e1, g1, List.append_assoc], by rw [g2, e2, List.length_append]; omega, by rw [g3, e3]⟩
  ·exact .inr ⟨g0, ys.length + k, by rw [e1, List.length_append]; omega, by rw [g1, e1, ← List.drop_drop, List.drop_left], by rw [g2, e2]; omega, by rw [g3, e2]; omega⟩
 ·exact absurd h1 hn
end
section
open Go Go.RowKit
section
variable {P : Program} {md : Region.Mode} {ops : Array Oper} {Q : Exit → Act → World → Prop}
def bY (ops : Array Oper) (i : Nat) : Nat := ((ops[i]?).bind (·.dst)).getD 0
def cP (ops : Array Oper) (listed : Array Bool) : Nat := ((List.range ops.size).filter fun i => !listed.getD i true).length
theorem filter_le' {p q : Nat → Bool} (h : ∀ x, q x = true → p x = true) : ∀ l : List Nat, (l.filter q).length ≤ (l.filter p).length
 | [] => Nat.le_refl _
 | x :: l => by
  have ih := filter_le' h l
  cases hq : q x with
  | true => rw [List.filter_cons_of_pos hq, List.filter_cons_of_pos (h x hq)]; simpa using ih
  | false =>
   rw [List.filter_cons_of_neg (by simp [hq])]
   cases hp : p x with
   | true => rw [List.filter_cons_of_pos hp]; simp; omega
   | false => rw [List.filter_cons_of_neg (by simp [hp])]; exact ih
theorem filter_lt' {p q : Nat → Bool} (h : ∀ x, q x = true → p x = true) {i : Nat} (hp : p i = true) (hq : q i = false) : ∀ l : List Nat, i ∈ l → (l.filter q).length < (l.filter p).length
 | [], hi => by cases hi
 | x :: l, hi => by
  by_cases e : i = x
  ·subst e
   rw [List.filter_cons_of_neg (by simp [hq]), List.filter_cons_of_pos hp]
   have := filter_le' h l
   simp; omega
  ·have ih := filter_lt' h hp hq l (by simpa [e] using hi)
   cases hqx : q x with
   | true => rw [List.filter_cons_of_pos hqx, List.filter_cons_of_pos (h x hqx)]; simpa using ih
   | false =>
    rw [List.filter_cons_of_neg (by simp [hqx])]
    cases hpx : p x with
    | true => rw [List.filter_cons_of_pos hpx]; simp; omega
    | false => rw [List.filter_cons_of_neg (by simp [hpx])]; exact ih
theorem open_step {listed : Array Bool} {i : Nat} (hi : i < ops.size) (hs : listed.size = ops.size) (hl : listed.getD i true = false) : cP ops (listed.setIfInBounds i true) < cP ops listed := by
 unfold cP
 have hii : (listed.setIfInBounds i true).getD i true = true := by simp [Array.getD_eq_getD_getElem?, hs, hi]
 refine filter_lt' (i := i) (fun j hj => ?_) (by simp [hl]) (by simp [hii]) _ (by simpa using hi)
 by_cases e : j = i
 ·subst e; rw [hii] at hj; simp at hj
 ·rwa [show (listed.setIfInBounds i true).getD j true = listed.getD j true by simp [Array.getD_eq_getD_getElem?, Array.getElem?_setIfInBounds_ne (Ne.symm e)]] at hj
theorem jX {listed : Array Bool} (h : cP ops listed = 0) {i : Nat} (hi : i < ops.size) : listed.getD i true = true := by
 unfold cP at h
 have := List.eq_nil_of_length_eq_zero h
 rw [List.filter_eq_nil_iff] at this
 have := this i (by simpa using hi)
 simpa using this
structure Each (ops : Array Oper) (I : Nat → Value → World → Prop) (S : World → Prop) (a0 : Act) (listed : Array Bool) (a : Act) (w : World) : Prop where
 s : S w
 sz : a.tmps.size = a0.tmps.size
 df : a.defers = a0.defers
 old : ∀ t, (∀ j, j < ops.size → bY ops j ≠ t) → a.tmps.getD t undef = a0.tmps.getD t undef
 new : ∀ i, i < ops.size → listed.getD i true = true → I i (a.tmps.getD (bY ops i) undef) w
theorem each_any (a0 : Act) (I : Nat → Value → World → Prop) (S : World → Prop)
  (hdst : ∀ (i : Nat) (o : Oper), ops[i]? = some o → o.dst = some (bY ops i) ∧ bY ops i < a0.tmps.size)
  (hinj : ∀ i j, i < ops.size → j < ops.size → bY ops i = bY ops j → i = j)
  (hac : ∀ (i : Nat) (o : Oper), ops[i]? = some o → ∀ e ∈ o.after, Region.binds md e = true → e.on < i)
  (hI : ∀ i v w w', I i v w → Below w.heap.size w w' → I i v w')
  (hstep : ∀ (i : Nat) (o : Oper), ops[i]? = some o → ∀ (a : Act) (w : World), S w → (∀ t, (∀ j, j < ops.size → bY ops j ≠ t) → a.tmps.getD t undef = a0.tmps.getD t undef) →
   (∀ e ∈ o.after, Region.binds md e = true → I e.on (a.tmps.getD (bY ops e.on) undef) w) →
   wpOp P ops Q i (fun a' w' => S w' ∧ Below w.heap.size w w' ∧ ∃ v, I i v w' ∧ a' = a.put o.dst v) a w)
  (hend : ∀ (a : Act) (w : World), S w → a.tmps.size = a0.tmps.size → a.defers = a0.defers → (∀ t, (∀ j, j < ops.size → bY ops j ≠ t) → a.tmps.getD t undef = a0.tmps.getD t undef) →
   (∀ i, i < ops.size → I i (a.tmps.getD (bY ops i) undef) w) → Q .normal a w) :
  ∀ (fuel : Nat) (listed : Array Bool) (a : Act) (w : World), listed.size = ops.size → cP ops listed ≤ fuel → Each ops I S a0 listed a w → wpAny P md ops Q fuel listed a w := by
 have hfin : ∀ (listed : Array Bool) (a : Act) (w : World), cP ops listed = 0 → Each ops I S a0 listed a w → Q .normal a w := fun listed a w h0 hE =>
  hend a w hE.s hE.sz hE.df hE.old fun i hi => hE.new i hi (jX h0 hi)
 have hready : ∀ (listed : Array Bool), listed.size = ops.size → Region.ready md ops listed = [] → cP ops listed = 0 := by
  intro listed hs hr
  have hall : ∀ n i, i < n → i < ops.size → listed.getD i true = true := by
   intro n
   induction n with
   | zero => intro i h; omega
   | succ n ih =>
    intro i h1 h2
    by_cases hlt : i < n
    ·exact ih i hlt h2
    ·obtain rfl : i = n := by omega
     cases hl : listed.getD i true with
     | true => rfl
     | false =>
      exfalso
      have : i ∈ Region.ready md ops listed := by
       unfold Region.ready
       rw [List.mem_filter]
       refine ⟨by simpa using h2, ?_⟩
       have ho : ops[i]? = some ops[i] := by simp [h2]
       rw [hl, ho]
       simp only [Bool.not_false, Option.map_some, Option.getD_some, Bool.true_and, Array.all_eq_true_iff_forall_mem]
       intro e he
       cases hbe : Region.binds md e with
       | false => simp
       | true =>
        have hlt := hac i _ ho e he hbe
        have h3 := ih e.on hlt (by omega)
        have h4 : listed.getD e.on false = true := by
         have hlt2 : e.on < listed.size := by omega
         simp only [Array.getD_eq_getD_getElem?, Array.getElem?_eq_getElem hlt2, Option.getD_some] at h3 ⊢
         exact h3
        rw [h4]
        simp
      rw [hr] at this
      cases this
  unfold cP
  rw [List.length_eq_zero_iff, List.filter_eq_nil_iff]
  intro i hi
  have hi' : i < ops.size := by simpa using hi
  simp [hall (i + 1) i (by omega) hi']
 intro fuel
 induction fuel with
 | zero =>
  intro listed a w hs hc hE
  have h0 : cP ops listed = 0 := by omega
  refine ⟨?_, hfin listed a w h0 hE⟩
  unfold Region.ready
  rw [List.filter_eq_nil_iff]
  intro i hi
  have hi' : i < ops.size := by simpa using hi
  simp [jX h0 hi']
 | succ fuel ih =>
  intro listed a w hs hc hE
  refine ⟨fun hr => hfin listed a w (hready listed hs hr) hE, fun i hi => ?_⟩
  unfold Region.ready at hi
  rw [List.mem_filter] at hi
  obtain ⟨hi1, hi2⟩ := hi
  have hin : i < ops.size := by simpa using hi1
  have ho : ops[i]? = some ops[i] := by simp [hin]
  rw [ho] at hi2
  simp only [Option.map_some, Option.getD_some, Bool.and_eq_true, Bool.not_eq_true', Array.all_eq_true_iff_forall_mem] at hi2
  obtain ⟨hl, hdeps⟩ := hi2
  obtain ⟨hd1, hd2⟩ := hdst i _ ho
  have hst := hstep i _ ho a w hE.s hE.old (fun e he hb => by
   have h1 := hdeps e he
   rw [hb] at h1
   simp only [Bool.not_true, Bool.false_or] at h1
   have hon := hac i _ ho e he hb
   have h2 : listed.getD e.on true = true := by
    have hlt2 : e.on < listed.size := by omega
    simp only [Array.getD_eq_getD_getElem?, Array.getElem?_eq_getElem hlt2, Option.getD_some] at h1 ⊢
    exact h1
   exact hE.new e.on (by omega) h2)
  refine wpOp_mono (fun a' w' h => ?_) hst
  obtain ⟨hS', hB', v, hv, rfl⟩ := h
  have hcount := open_step hin hs hl
  refine ih _ _ _ (by simp [hs]) (by omega) ⟨hS', ?_, ?_, ?_, ?_⟩
  ·rw [hd1]; simp [Act.put, hE.sz]
  ·rw [hd1]; exact hE.df
  ·intro t ht
   rw [← hE.old t ht, hd1]
   have hne : bY ops i ≠ t := ht i hin
   simp [Act.put, Array.getD_eq_getD_getElem?, Array.getElem?_setIfInBounds_ne hne]
  ·intro j hj hlj
   rw [hd1]
   by_cases e : i = j
   ·subst e
    have : (a.put (some (bY ops i)) v).tmps.getD (bY ops i) undef = v := by
     simp [Act.put, Array.getD_eq_getD_getElem?, hE.sz, hd2]
    rw [this]
    exact hv
   ·have hne : bY ops i ≠ bY ops j := fun h => e (hinj i j hin hj h)
    have h1 : (a.put (some (bY ops i)) v).tmps.getD (bY ops j) undef = a.tmps.getD (bY ops j) undef := by
     simp [Act.put, Array.getD_eq_getD_getElem?, Array.getElem?_setIfInBounds_ne hne]
    rw [h1]
    have h2 : listed.getD j true = true := by
     simpa [Array.getD_eq_getD_getElem?, Array.getElem?_setIfInBounds_ne e] using hlj
    exact hI j _ w w' (hE.new j hj h2) hB'
theorem wp_region_each {id : Nat} {a0 : Act} {w : World} (hm : P.follows .mixedOrders = true) (I : Nat → Value → World → Prop) (S : World → Prop)
  (hdst : ∀ (i : Nat) (o : Oper), ops[i]? = some o → o.dst = some (bY ops i) ∧ bY ops i < a0.tmps.size)
  (hinj : ∀ i j, i < ops.size → j < ops.size → bY ops i = bY ops j → i = j)
  (hac : ∀ (i : Nat) (o : Oper), ops[i]? = some o → ∀ e ∈ o.after, Region.binds .any e = true → e.on < i)
  (hI : ∀ i v w w', I i v w → Below w.heap.size w w' → I i v w')
  (hS : S w.drew)
  (hstep : ∀ (i : Nat) (o : Oper), ops[i]? = some o → ∀ (a : Act) (w : World), S w → (∀ t, (∀ j, j < ops.size → bY ops j ≠ t) → a.tmps.getD t undef = a0.tmps.getD t undef) →
   (∀ e ∈ o.after, Region.binds .any e = true → I e.on (a.tmps.getD (bY ops e.on) undef) w) →
   wpOp P ops Q i (fun a' w' => S w' ∧ Below w.heap.size w w' ∧ ∃ v, I i v w' ∧ a' = a.put o.dst v) a w)
  (hend : ∀ (a : Act) (w : World), S w → a.tmps.size = a0.tmps.size → a.defers = a0.defers → (∀ t, (∀ j, j < ops.size → bY ops j ≠ t) → a.tmps.getD t undef = a0.tmps.getD t undef) →
   (∀ i, i < ops.size → I i (a.tmps.getD (bY ops i) undef) w) → Q .normal a w) :
  (Code.region id ops true).wp P Q a0 w := by
 refine wp_region_any hm (each_any a0 I S hdst hinj hac hI hstep hend ops.size _ a0 _ (by simp) ?_ ⟨hS, rfl, rfl, fun _ _ => rfl, ?_⟩)
 ·unfold cP
  exact Nat.le_trans (List.length_filter_le _ _) (by simp)
 ·intro i hi h
  simp [Array.getD_eq_getD_getElem?, hi] at h
def eachOk (ops : Array Oper) (n : Nat) : Bool :=
 (List.range ops.size).all fun i => match ops[i]? with
  | none => false
  | some o => o.dst == some (bY ops i) && decide (bY ops i < n) && o.after.all (fun e => !Region.binds .any e || decide (e.on < i)) && (List.range ops.size).all fun j => i == j || bY ops i != bY ops j
def offOps (ops : Array Oper) (t : Nat) : Bool := (List.range ops.size).all fun j => bY ops j != t
theorem offOps_spec {t : Nat} (h : offOps ops t = true) : ∀ j, j < ops.size → bY ops j ≠ t := by
 intro j hj
 unfold offOps at h
 rw [List.all_eq_true] at h
 have := h j (by simpa using hj)
 simpa using this
theorem eachOk_spec {n : Nat} (h : eachOk ops n = true) :
  (∀ (i : Nat) (o : Oper), ops[i]? = some o → o.dst = some (bY ops i) ∧ bY ops i < n) ∧
  (∀ i j, i < ops.size → j < ops.size → bY ops i = bY ops j → i = j) ∧
  (∀ (i : Nat) (o : Oper), ops[i]? = some o → ∀ e ∈ o.after, Region.binds .any e = true → e.on < i) := by
 unfold eachOk at h
 rw [List.all_eq_true] at h
 have key : ∀ (i : Nat) (o : Oper), ops[i]? = some o → o.dst = some (bY ops i) ∧ bY ops i < n ∧ (∀ e ∈ o.after, Region.binds .any e = true → e.on < i) ∧ ∀ j, j < ops.size → i = j ∨ bY ops i ≠ bY ops j := by
  intro i o ho
  have hi : i < ops.size := (Array.getElem?_eq_some_iff.1 ho).1
  have := h i (by simpa using hi)
  rw [ho] at this
  simp only [Bool.and_eq_true, beq_iff_eq, decide_eq_true_eq, Array.all_eq_true_iff_forall_mem, List.all_eq_true, Bool.or_eq_true, bne_iff_ne, List.mem_range, Bool.not_eq_true'] at this
  refine ⟨this.1.1.1, this.1.1.2, fun e he hb => ?_, this.2⟩
  rcases this.1.2 e he with h1 | h1
  ·rw [h1] at hb; cases hb
  ·exact h1
 refine ⟨fun i o ho => ⟨(key i o ho).1, (key i o ho).2.1⟩, fun i j hi hj he => ?_, fun i o ho => (key i o ho).2.2.1⟩
 rcases (key i ops[i] (by simp [hi])).2.2.2 j hj with h1 | h1
 ·exact h1
 ·exact absurd he h1
theorem wp_region_each2 {id : Nat} {a0 : Act} {w : World} (hm : P.follows .mixedOrders = true) (I : Nat → Value → World → Prop) (hok : eachOk ops a0.tmps.size = true)
  (hI : ∀ i v w w', I i v w → Below w.heap.size w w' → I i v w')
  (hstep : ∀ (i : Nat) (o : Oper), ops[i]? = some o → ∀ (a : Act) (w1 : World), Below w.heap.size w w1 → (∀ t, offOps ops t = true → a.tmps.getD t undef = a0.tmps.getD t undef) →
   (∀ e ∈ o.after, Region.binds .any e = true → I e.on (a.tmps.getD (bY ops e.on) undef) w1) →
   wpOp P ops Q i (fun a' w' => Below w1.heap.size w1 w' ∧ ∃ v, I i v w' ∧ a' = a.put o.dst v) a w1)
  (hend : ∀ (a : Act) (w1 : World), Below w.heap.size w w1 → a.tmps.size = a0.tmps.size → a.defers = a0.defers → (∀ t, offOps ops t = true → a.tmps.getD t undef = a0.tmps.getD t undef) →
   (∀ i, i < ops.size → I i (a.tmps.getD (bY ops i) undef) w1) → Q .normal a w1) :
  (Code.region id ops true).wp P Q a0 w := by
 obtain ⟨h1, h2, h3⟩ := eachOk_spec hok
 refine wp_region_each hm I (fun w1 => Below w.heap.size w w1) h1 h2 h3 hI (Below.refl _ _).drew ?_ ?_
 ·intro i o ho a w1 hB hold hdeps
  refine wpOp_mono (fun a' w' h => ?_) (hstep i o ho a w1 hB (fun t ht => hold t (offOps_spec ht)) hdeps)
  exact ⟨hB.trans (h.1.mono hB.size), h.1, h.2⟩
 ·intro a w1 hB hs hd hold hall
  exact hend a w1 hB hs hd (fun t ht => hold t (offOps_spec ht)) hall
theorem aM {o : Oper} {a : Act} {g : Nat} (hg : o.guard = some (g, true)) (hd : ((ops[g]?).bind (·.dst)) = some (bY ops g)) (hv : a.tmps.getD (bY ops g) undef = .bool true) : Region.wanted o (yielded ops a.tmps) = true := by
 unfold Region.wanted
 rw [hg]
 have : a.tmps[bY ops g]? = some (.bool true) := by
  rw [Array.getD_eq_getD_getElem?] at hv
  cases h : a.tmps[bY ops g]? with
  | none => rw [h] at hv; simp [undef] at hv
  | some v => rw [h] at hv; simpa using hv
 simp [yielded, hd, this]
theorem each_value {i : Nat} {o : Oper} {a : Act} {w w' : World} {v : Value} {K : Act → World → Prop} (hi : ops[i]? = some o) (hw : Region.wanted o (yielded ops a.tmps) = true)
  (hr : (execOp a.eval o).run P w = .ok (.value v) w') (h : K (a.put o.dst v) w') : wpOp P ops Q i K a w := by
 unfold wpOp
 simp only [hi, hw, if_true]
 exact .inl (by unfold Oper.wp; rw [hr]; exact h)
theorem each_call {i : Nat} {o : Oper} {a : Act} {w : World} {f : FuncId} {args : Array Value} {K : Act → World → Prop} (hi : ops[i]? = some o) (hw : Region.wanted o (yielded ops a.tmps) = true)
  (hr : (execOp a.eval o).run P w = .ok (.enter f args) w) (h : Calls P f args w fun e w' => ∃ v, e = .returned v ∧ K (a.put o.dst v) w') : wpOp P ops Q i K a w := by
 unfold wpOp
 simp only [hi, hw, if_true]
 refine .inl ?_
 unfold Oper.wp
 rw [hr]
 refine Calls.mono h fun e w' ⟨v, he, hk⟩ => ?_
 subst he
 exact hk
theorem aB {I : Nat → Value → World → Prop} {o : Oper} {a : Act} {w : World} (hdeps : ∀ e ∈ o.after, Region.binds .any e = true → I e.on (a.tmps.getD (bY ops e.on) undef) w) (j : Nat)
  (h : (o.after.toList.any fun e => e.on == j && Region.binds .any e) = true) : I j (a.tmps.getD (bY ops j) undef) w := by
 rw [List.any_eq_true] at h
 obtain ⟨e, he, h2⟩ := h
 simp only [Bool.and_eq_true, beq_iff_eq] at h2
 obtain ⟨rfl, hb⟩ := h2
 exact hdeps e (by simpa using he) hb
theorem eW {i : Nat} {o : Oper} {a : Act} {w : World} {v : Value} {I : Nat → Value → World → Prop} (hi : ops[i]? = some o) (hw : Region.wanted o (yielded ops a.tmps) = true)
  (hr : (execOp a.eval o).run P w = .ok (.value v) w) (hv : I i v w) : wpOp P ops Q i (fun a' w' => Below w.heap.size w w' ∧ ∃ v, I i v w' ∧ a' = a.put o.dst v) a w :=
 each_value hi hw hr ⟨Below.refl _ _, v, hv, rfl⟩
theorem kK {i : Nat} {o : Oper} {a : Act} {w w' : World} {v : Value} {I : Nat → Value → World → Prop} (hi : ops[i]? = some o) (hw : Region.wanted o (yielded ops a.tmps) = true)
  (hr : (execOp a.eval o).run P w = .ok (.value v) w') (hB : Below w.heap.size w w') (hv : I i v w') : wpOp P ops Q i (fun a' w' => Below w.heap.size w w' ∧ ∃ v, I i v w' ∧ a' = a.put o.dst v) a w :=
 each_value hi hw hr ⟨hB, v, hv, rfl⟩
theorem kM {i : Nat} {o : Oper} {a : Act} {w : World} {f : FuncId} {args : Array Value} {I : Nat → Value → World → Prop} (hi : ops[i]? = some o) (hw : Region.wanted o (yielded ops a.tmps) = true)
  (hr : (execOp a.eval o).run P w = .ok (.enter f args) w) (h : Calls P f args w fun e w' => ∃ v, e = .returned v ∧ Below w.heap.size w w' ∧ I i v w') : wpOp P ops Q i (fun a' w' => Below w.heap.size w w' ∧ ∃ v, I i v w' ∧ a' = a.put o.dst v) a w :=
 each_call hi hw hr (Calls.mono h fun _ _ ⟨v, he, hB, hv⟩ => ⟨v, he, hB, v, hv, rfl⟩)
def cA (a : Act) : List (Nat × Value) → Act
 | [] => a
 | (d, v) :: l => cA (a.put (some d) v) l
theorem putAll_size : ∀ (l : List (Nat × Value)) (a : Act), (cA a l).tmps.size = a.tmps.size
 | [], _ => rfl
 | (d, v) :: l, a => by rw [cA, putAll_size l]; simp [Act.put]
theorem jW : ∀ (l : List (Nat × Value)) (a : Act), (cA a l).defers = a.defers
 | [], _ => rfl
 | (d, v) :: l, a => by rw [cA, jW l]; rfl
theorem kN (t : Nat) : ∀ (l : List (Nat × Value)) (a : Act), (∀ x ∈ l, x.1 ≠ t) → (cA a l).tmps.getD t undef = a.tmps.getD t undef
 | [], _, _ => rfl
 | (d, v) :: l, a, h => by
  rw [cA, kN t l _ (fun x hx => h x (List.mem_cons_of_mem _ hx))]
  have hne : d ≠ t := h (d, v) List.mem_cons_self
  simp [Act.put, Array.getD_eq_getD_getElem?, Array.getElem?_setIfInBounds_ne hne]
theorem putAll_at (t : Nat) (u : Value) : ∀ (l : List (Nat × Value)) (a : Act), t < a.tmps.size → (l.map (·.1)).Nodup → (t, u) ∈ l → (cA a l).tmps.getD t undef = u
 | [], _, _, _, h => by cases h
 | (d, v) :: l, a, hs, hn, h => by
  rw [List.map_cons, List.nodup_cons] at hn
  rw [cA]
  rcases List.mem_cons.1 h with e | h
  ·cases e
   rw [kN t l _ (fun x hx e => hn.1 (by rw [List.mem_map]; exact ⟨x, hx, e⟩))]
   simp [Act.put, Array.getD_eq_getD_getElem?, hs]
  ·exact putAll_at t u l _ (by simpa [Act.put] using hs) hn.2 h
def pv (ps : List (Nat × Value)) (i : Nat) : Value := (ps.getD i (0, undef)).2
def InvV (ps : List (Nat × Value)) (i : Nat) (v : Value) (_ : World) : Prop := v = pv ps i
theorem bD {id : Nat} {a0 : Act} {w : World} (hm : P.follows .mixedOrders = true) (ps : List (Nat × Value)) (hok : eachOk ops a0.tmps.size = true) (hds : ps.map (·.1) = (List.range ops.size).map (bY ops))
  (hstep : ∀ (i : Nat) (o : Oper), ops[i]? = some o → ∀ (a : Act) (w1 : World), Below w.heap.size w w1 → (∀ t, offOps ops t = true → a.tmps.getD t undef = a0.tmps.getD t undef) →
   (∀ e ∈ o.after, Region.binds .any e = true → InvV ps e.on (a.tmps.getD (bY ops e.on) undef) w1) →
   wpOp P ops Q i (fun a' w' => Below w1.heap.size w1 w' ∧ ∃ v, InvV ps i v w' ∧ a' = a.put o.dst v) a w1)
  (hend : ∀ (w1 : World), Below w.heap.size w w1 → Q .normal (cA a0 ps) w1) :
  (Code.region id ops true).wp P Q a0 w := by
 refine wp_region_each2 hm (InvV ps) hok (fun i v w w' h _ => h) hstep (fun a w1 hB hs hd hold hall => ?_)
 have hlen : ps.length = ops.size := by
  have := congrArg List.length hds
  simpa using this
 obtain ⟨k1, k2, _⟩ := eachOk_spec hok
 have hpi : ∀ i, i < ops.size → (bY ops i, pv ps i) ∈ ps := by
  intro i hi
  have h1 : i < ps.length := by omega
  have h2 : (ps.map (·.1))[i]? = some (bY ops i) := by rw [hds]; simp [hi]
  have h3 : ps[i]? = some (ps[i]) := by simp [h1]
  rw [List.getElem?_map, h3] at h2
  simp only [Option.map_some, Option.some.injEq] at h2
  have h4 : pv ps i = (ps[i]).2 := by simp [pv, h1]
  rw [h4, ← h2]
  exact List.getElem_mem h1
 have hnd : (ps.map (·.1)).Nodup := by
  rw [hds]
  refine List.pairwise_map.2 ((List.nodup_range (n := ops.size)).imp_of_mem (fun {i j} hi hj hne e => ?_))
  exact hne (k2 i j (by simpa using hi) (by simpa using hj) e)
 have e : a = cA a0 ps := by
  have ht : a.tmps = (cA a0 ps).tmps := by
   refine Array.ext (by rw [hs, putAll_size]) (fun t h1 h2 => ?_)
   have key : a.tmps.getD t undef = (cA a0 ps).tmps.getD t undef := by
    by_cases hoff : offOps ops t = true
    ·rw [hold t hoff, kN t ps a0 (fun x hx e => ?_)]
     have hm : x.1 ∈ ps.map (·.1) := List.mem_map_of_mem hx
     rw [hds, List.mem_map] at hm
     obtain ⟨j, hj, hj2⟩ := hm
     exact offOps_spec hoff j (by simpa using hj) (hj2.trans e)
    ·unfold offOps at hoff
     rw [List.all_eq_true] at hoff
     have hex : ∃ j, j < ops.size ∧ bY ops j = t := by
      refine Classical.byContradiction fun hno => hoff (fun j hj => ?_)
      by_cases e : bY ops j = t
      ·exact absurd ⟨j, by simpa using hj, e⟩ hno
      ·simpa using e
     obtain ⟨j, hj, rfl⟩ := hex
     rw [hall j hj, putAll_at _ (pv ps j) ps a0 (by omega) hnd (hpi j hj)]
   simpa [Array.getD_eq_getD_getElem?, h1, h2] using key
  have hd2 := jW ps a0
  cases a with
  | mk t d =>
   cases hp : cA a0 ps with
   | mk t2 d2 =>
    rw [hp] at ht hd2
    simp only at ht hd hd2
    rw [ht, hd, hd2]
 rw [e]
 exact hend w1 hB
theorem aF {o : Oper} {a : Act} {g : Nat} (hg : o.guard = some (g, false)) (hd : ((ops[g]?).bind (·.dst)) = some (bY ops g)) (hv : a.tmps.getD (bY ops g) undef = .bool false) : Region.wanted o (yielded ops a.tmps) = true := by
 unfold Region.wanted
 rw [hg]
 have : a.tmps[bY ops g]? = some (.bool false) := by
  rw [Array.getD_eq_getD_getElem?] at hv
  cases h : a.tmps[bY ops g]? with
  | none => rw [h] at hv; simp [undef] at hv
  | some v => rw [h] at hv; simpa using hv
 simp [yielded, hd, this]
theorem aI {i : Nat} {o : Oper} {a : Act} {w : World} {ps : List (Nat × Value)} {g : Nat} {b : Bool} (hi : ops[i]? = some o) (hg : o.guard = some (g, b)) (hd : ((ops[g]?).bind (·.dst)) = some (bY ops g))
  (hv : a.tmps.getD (bY ops g) undef ≠ .bool b) (hp : pv ps i = undef) : wpOp P ops Q i (fun a' w' => Below w.heap.size w w' ∧ ∃ v, InvV ps i v w' ∧ a' = a.put o.dst v) a w := by
 have hw : Region.wanted o (yielded ops a.tmps) = false := by
  unfold Region.wanted
  rw [hg]
  have : yielded ops a.tmps g ≠ some b := by
   intro h
   apply hv
   unfold yielded at h
   rw [hd] at h
   simp only [Option.bind_some] at h
   rw [Array.getD_eq_getD_getElem?]
   cases hx : a.tmps[bY ops g]? with
   | none => rw [hx] at h; simp at h
   | some v =>
    rw [hx] at h
    cases v with
    | bool b2 => simp at h; simp [h]
    | _ => simp at h
  simpa using this
 unfold wpOp
 simp only [hi, hw]
 exact ⟨Below.refl _ _, undef, hp.symm, rfl⟩
end
end
section
open Go
theorem tb (k y i : Nat) : (2 ^ k * y).testBit i = (decide (k ≤ i) && y.testBit (i - k)) := by
 rw [Nat.mul_comm, Nat.testBit_mul_two_pow]
end
section
open Go.RowKit Go.Shelf
attribute [local go_sem] Oper.semAt_some
def Tab (w : World) : Prop := ∀ j, j < 64 → w.cell? ⟨0, j, none⟩ = some (.int .u8 ((Lib.deBruijn64tab.getD j 0 : Nat) : Int))
theorem Tab.pos {w : World} (h : Tab w) : 0 < w.heap.size := by
 have h0 := h 0 (by decide)
 unfold World.cell? at h0
 rcases Nat.lt_or_ge 0 w.heap.size with hz | hz
 ·exact hz
 ·have : w.heap[0]? = none := Array.getElem?_eq_none hz
  simp [this] at h0
theorem Tab.below {w w' : World} {B : Nat} (h : Tab w) (hB : Below B w w') (hp : 0 < B) : Tab w' :=
 fun j hj => (hB.cell (p := ⟨0, j, none⟩) hp).trans (h j hj)
end
end Go.Proofs.YtiloagmkkhlfjaaGreat
