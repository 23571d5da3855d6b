/-
  Proved: where all prepared ones of the program's table of locks are released, the oldest user that is left does not wait, again and again until nobody is left, whatever calls came, in whatever order. For every input of the form's own reach (of a script the first 60 calls count; one that is too large is passed by, as the law says). Own work.
-/
import Derived.Test.YtddflccjmigloaaGreatG34
import Derived.Test.YtddflccjmigloaaGreatG35
import Derived.Test.YtddflccjmigloaaGreatG36
import Derived.Test.YtddflccjmigloaaGreatG22
import Derived.Test.YtddflccjmigloaaGreatG32
import Derived.SizedLaws
import Derived.ChangeArms
import Derived.Deep.MidRow
import Derived.Orders
import Derived.Below
namespace Go.Proofs.YtddflccjmigloaaGreat
open Go Go.RowKit

section
variable {P : Program} {md : Region.Mode} {ops : Array Oper} {Q : Exit → Act → World → Prop}

theorem wanted_of {o : Oper} {a : Act} {g : Nat} (hg : o.guard = some (g, true)) (hd : ((ops[g]?).bind (·.dst)) = some (dstOf ops g)) (hv : a.tmps.getD (dstOf ops g) undef = .bool true) : Region.wanted o (yielded ops a.tmps) = true := by
  unfold Region.wanted
  rw [hg]
  have : a.tmps[dstOf ops g]? = some (.bool true) := by
    rw [Array.getD_eq_getD_getElem?] at hv
    cases h : a.tmps[dstOf ops g]? with
    | none => rw [h] at hv; simp [undef] at hv
    | some v => rw [h] at hv; simpa using hv
  simp [yielded, hd, this]

/-- Values put, one behind the other. -/
def putAll (a : Act) : List (Nat × Value) → Act
  | [] => a
  | (d, v) :: l => putAll (a.put (some d) v) l
theorem putAll_size : ∀ (l : List (Nat × Value)) (a : Act), (putAll a l).tmps.size = a.tmps.size
  | [], _ => rfl
  | (d, v) :: l, a => by rw [putAll, putAll_size l]; simp [Act.put]
theorem putAll_defers : ∀ (l : List (Nat × Value)) (a : Act), (putAll a l).defers = a.defers
  | [], _ => rfl
  | (d, v) :: l, a => by rw [putAll, putAll_defers l]; rfl
theorem putAll_off (t : Nat) : ∀ (l : List (Nat × Value)) (a : Act), (∀ x ∈ l, x.1 ≠ t) → (putAll a l).tmps.getD t undef = a.tmps.getD t undef
  | [], _, _ => rfl
  | (d, v) :: l, a, h => by
    rw [putAll, putAll_off t l _ (fun x hx => h x (List.mem_cons_of_mem _ hx))]
    have hne : d ≠ t := h (d, v) List.mem_cons_self
    simp [Act.put, Array.getD_eq_getD_getElem?, Array.getElem?_setIfInBounds_ne hne]
theorem putAll_at (t : Nat) (u : Value) : ∀ (l : List (Nat × Value)) (a : Act), t < a.tmps.size → (l.map (·.1)).Nodup → (t, u) ∈ l → (putAll a l).tmps.getD t undef = u
  | [], _, _, _, h => by cases h
  | (d, v) :: l, a, hs, hn, h => by
    rw [List.map_cons, List.nodup_cons] at hn
    rw [putAll]
    rcases List.mem_cons.1 h with e | h
    · cases e
      rw [putAll_off t l _ (fun x hx e => hn.1 (by rw [List.mem_map]; exact ⟨x, hx, e⟩))]
      simp [Act.put, Array.getD_eq_getD_getElem?, hs]
    · exact putAll_at t u l _ (by simpa [Act.put] using hs) hn.2 h
/-- The operations' temporaries, in their order. -/
def dstsOk (ops : Array Oper) (ps : List (Nat × Value)) : Bool := ps.map (·.1) == (List.range ops.size).map (dstOf ops)
def InvV (ps : List (Nat × Value)) (i : Nat) (v : Value) (_ : World) : Prop := v = pv ps i
/-- THE LAW where each operation leaves one value: the frame behind it is known. -/
theorem wp_region_vals {id : Nat} {a0 : Act} {w : World} (hm : P.follows .mixedOrders = true) (ps : List (Nat × Value)) (hok : eachOk ops a0.tmps.size = true) (hds : ps.map (·.1) = (List.range ops.size).map (dstOf ops))
    (hstep : ∀ (i : Nat) (o : Oper), ops[i]? = some o → ∀ (a : Act) (w1 : World), Below w.heap.size w w1 → (∀ t, offOps ops t = true → a.tmps.getD t undef = a0.tmps.getD t undef) →
      (∀ e ∈ o.after, Region.binds .any e = true → InvV ps e.on (a.tmps.getD (dstOf ops e.on) undef) w1) →
      wpOp P ops Q i (fun a' w' => Below w1.heap.size w1 w' ∧ ∃ v, InvV ps i v w' ∧ a' = a.put o.dst v) a w1)
    (hend : ∀ (w1 : World), Below w.heap.size w w1 → Q .normal (putAll a0 ps) w1) :
    (Code.region id ops true).wp P Q a0 w := by
  refine wp_region_each2 hm (InvV ps) hok (fun i v w w' h _ => h) hstep (fun a w1 hB hs hd hold hall => ?_)
  have hlen : ps.length = ops.size := by
    have := congrArg List.length hds
    simpa using this
  obtain ⟨k1, k2, _⟩ := eachOk_spec hok
  have hpi : ∀ i, i < ops.size → (dstOf ops i, pv ps i) ∈ ps := by
    intro i hi
    have h1 : i < ps.length := by omega
    have h2 : (ps.map (·.1))[i]? = some (dstOf ops i) := by rw [hds]; simp [hi]
    have h3 : ps[i]? = some (ps[i]) := by simp [h1]
    rw [List.getElem?_map, h3] at h2
    simp only [Option.map_some, Option.some.injEq] at h2
    have h4 : pv ps i = (ps[i]).2 := by simp [pv, h1]
    rw [h4, ← h2]
    exact List.getElem_mem h1
  have hnd : (ps.map (·.1)).Nodup := by
    rw [hds]
    refine List.pairwise_map.2 ((List.nodup_range (n := ops.size)).imp_of_mem (fun {i j} hi hj hne e => ?_))
    exact hne (k2 i j (by simpa using hi) (by simpa using hj) e)
  have e : a = putAll a0 ps := by
    have ht : a.tmps = (putAll a0 ps).tmps := by
      refine Array.ext (by rw [hs, putAll_size]) (fun t h1 h2 => ?_)
      have key : a.tmps.getD t undef = (putAll a0 ps).tmps.getD t undef := by
        by_cases hoff : offOps ops t = true
        · rw [hold t hoff, putAll_off t ps a0 (fun x hx e => ?_)]
          have hm : x.1 ∈ ps.map (·.1) := List.mem_map_of_mem hx
          rw [hds, List.mem_map] at hm
          obtain ⟨j, hj, hj2⟩ := hm
          exact offOps_spec hoff j (by simpa using hj) (hj2.trans e)
        · unfold offOps at hoff
          rw [List.all_eq_true] at hoff
          have hex : ∃ j, j < ops.size ∧ dstOf ops j = t := by
            refine Classical.byContradiction fun hno => hoff (fun j hj => ?_)
            by_cases e : dstOf ops j = t
            · exact absurd ⟨j, by simpa using hj, e⟩ hno
            · simpa using e
          obtain ⟨j, hj, rfl⟩ := hex
          rw [hall j hj, putAll_at _ (pv ps j) ps a0 (by omega) hnd (hpi j hj)]
      simpa [Array.getD_eq_getD_getElem?, h1, h2] using key
    have hd2 := putAll_defers ps a0
    cases a with
    | mk t d =>
      cases hp : putAll a0 ps with
      | mk t2 d2 =>
        rw [hp] at ht hd2
        simp only at ht hd hd2
        rw [ht, hd, hd2]
  rw [e]
  exact hend w1 hB
theorem wanted_not {o : Oper} {a : Act} {g : Nat} (hg : o.guard = some (g, false)) (hd : ((ops[g]?).bind (·.dst)) = some (dstOf ops g)) (hv : a.tmps.getD (dstOf ops g) undef = .bool false) : Region.wanted o (yielded ops a.tmps) = true := by
  unfold Region.wanted
  rw [hg]
  have : a.tmps[dstOf ops g]? = some (.bool false) := by
    rw [Array.getD_eq_getD_getElem?] at hv
    cases h : a.tmps[dstOf ops g]? with
    | none => rw [h] at hv; simp [undef] at hv
    | some v => rw [h] at hv; simpa using hv
  simp [yielded, hd, this]
/-- One that is not wanted: its guard says otherwise, or was not asked itself. -/
theorem each_skip {i : Nat} {o : Oper} {a : Act} {w : World} {ps : List (Nat × Value)} {g : Nat} {b : Bool} (hi : ops[i]? = some o) (hg : o.guard = some (g, b)) (hd : ((ops[g]?).bind (·.dst)) = some (dstOf ops g))
    (hv : a.tmps.getD (dstOf ops g) undef ≠ .bool b) (hp : pv ps i = undef) : wpOp P ops Q i (fun a' w' => Below w.heap.size w w' ∧ ∃ v, InvV ps i v w' ∧ a' = a.put o.dst v) a w := by
  have hw : Region.wanted o (yielded ops a.tmps) = false := by
    unfold Region.wanted
    rw [hg]
    have : yielded ops a.tmps g ≠ some b := by
      intro h
      apply hv
      unfold yielded at h
      rw [hd] at h
      simp only [Option.bind_some] at h
      rw [Array.getD_eq_getD_getElem?]
      cases hx : a.tmps[dstOf ops g]? with
      | none => rw [hx] at h; simp at h
      | some v =>
        rw [hx] at h
        cases v with
        | bool b2 => simp at h; simp [h]
        | _ => simp at h
    simpa using this
  unfold wpOp
  simp only [hi, hw]
  exact ⟨Below.refl _ _, undef, hp.symm, rfl⟩
end
end Go.Proofs.YtddflccjmigloaaGreat

namespace Go.Proofs.YtddflccjmigloaaGreat
open Go.RowKit

section
variable {P : Program} {ρ : Operand → Value} {w : World} {dst : Option Tmp} {ty : TypeId} {pos : String} {aft : Array Edge} {gd : Option (Nat × Bool)}
theorem y_move (x : Operand) {v : Value} (hx : ρ x = v) : (execOp ρ ⟨dst, .move x, ty, pos, aft, gd⟩).run P w = .ok (.value v) w := by subst hx; simp [go_sem]
theorem y_assign (x : Operand) {v : Value} (hx : ρ x = v) : (execOp ρ ⟨dst, .assign x, ty, pos, aft, gd⟩).run P w = .ok (.value v) w := by subst hx; simp [go_sem]
theorem y_pickT (x y z : Operand) {v : Value} (hx : ρ x = .bool true) (hy : ρ y = v) : (execOp ρ ⟨dst, .pick x y z, ty, pos, aft, gd⟩).run P w = .ok (.value v) w := by subst hy; simp [go_sem, hx]
theorem y_pickF (x y z : Operand) {v : Value} (hx : ρ x = .bool false) (hz : ρ z = v) : (execOp ρ ⟨dst, .pick x y z, ty, pos, aft, gd⟩).run P w = .ok (.value v) w := by subst hz; simp [go_sem, hx]
theorem y_bin (o : BinOp) (t t2 : TypeId) (x y : Operand) {a b v : Value} (hx : ρ x = a) (hy : ρ y = b) (hr : (binOp o t a b).run P w = .ok v w) (hg : (eqGuard o t x y a b).run P w = .ok () w) : (execOp ρ ⟨dst, .binOp o t x y t2, ty, pos, aft, gd⟩).run P w = .ok (.value v) w := by
  subst hx
  subst hy
  simp [execOp, hr, hg]
theorem y_not (t : TypeId) (x : Operand) {a : Bool} (hx : ρ x = .bool a) : (execOp ρ ⟨dst, .unOp .not t x, ty, pos, aft, gd⟩).run P w = .ok (.value (.bool (!a))) w := by
  simp [go_sem, hx]
theorem y_load (t : TypeId) (x : Operand) {q : Nat} {cs : Array Value} {t0 : TypeId} {d : TypeDesc} (hx : ρ x = .pointer (some ⟨q, 0, none⟩)) (hb : Box w q cs t0) (hu : P.underlying t = some d) (hd : d.isRow = true) (hi : (P.info? t).map (·.size) = some cs.size) : (execOp ρ ⟨dst, .load t x, ty, pos, aft, gd⟩).run P w = .ok (.value (.agg cs)) w := by
  have hr : w.rangeAt q 0 cs.toList := fun j v hv => by
    rw [Nat.zero_add]; exact hb.cell j v (by simpa using hv)
  have hl := run_loadVar_mid (P := P) w q 0 t cs.toList d hr hu hd (by simpa using hi)
  unfold execOp
  simp only [hx, Instr.loadAt, Instr.sureAddr, Sem.run_bind, Sem.run_pure, Result.andThen_ok, hl]
theorem y_loadMid (t : TypeId) (x : Operand) {q o : Nat} {cs : List Value} {d : TypeDesc} (hx : ρ x = .pointer (some ⟨q, o, none⟩)) (hr : w.rangeAt q o cs) (hu : P.underlying t = some d) (hd : d.isRow = true) (hi : (P.info? t).map (·.size) = some cs.length) : (execOp ρ ⟨dst, .load t x, ty, pos, aft, gd⟩).run P w = .ok (.value (.agg cs.toArray)) w := by
  have hl := run_loadVar_mid (P := P) w q o t cs d hr hu hd hi
  unfold execOp
  simp only [hx, Instr.loadAt, Instr.sureAddr, Sem.run_bind, Sem.run_pure, Result.andThen_ok, hl]
theorem y_call (f : FuncId) (xs : Array Operand) (vs : Array Value) (tys : Array TypeId) (hf : ρ (.func f) = .func (.func f) #[] #[]) (hv : xs.map ρ = vs) (he : ∀ args w, (callFunc f args).run P w = .ok (.enter f args) w) : (execOp ρ ⟨dst, .call { callee := .value (.func f), args := xs, argTypes := tys }, ty, pos, aft, gd⟩).run P w = .ok (.enter f vs) w := by
  subst hv
  simp [go_sem, hf, he]
theorem y_len (x : Operand) (t : TypeId) {ao : Option Addr} {n c : Nat} {e : TypeId} (hx : ρ x = .slice ao n c) (hu : P.underlying t = some (.slice e)) : (execOp ρ ⟨dst, .call { callee := .builtin .len, args := #[x], argTypes := #[t] }, ty, pos, aft, gd⟩).run P w = .ok (.value (.int .i64 (n : Int))) w := by
  have hb : (Builtin.len_ #[t] ty #[.slice ao n c]).run P w = .ok (.int .i64 (n : Int)) w := by
    have := run_underlying (P := P) hu
    simp [Builtin.len_, this, goInt, Result.andThen]
  simp [go_sem, hx, hb]
theorem y_build (t : TypeId) {z : Value} (hz : (Instr.build t #[]).run P w = .ok z w) : (execOp ρ ⟨dst, .build t #[], ty, pos, aft, gd⟩).run P w = .ok (.value z) w := by
  simp [execOp, hz]
end
section
variable {P : Program} {ops : Array Oper} {Q : Exit → Act → World → Prop}
theorem r_pure {i : Nat} {o : Oper} {a : Act} {w : World} {v : Value} {ps : List (Nat × Value)} (hi : ops[i]? = some o) (hw : Region.wanted o (yielded ops a.tmps) = true)
    (hv : pv ps i = v) (hr : (execOp a.eval o).run P w = .ok (.value v) w) : wpOp P ops Q i (fun a' w' => Below w.heap.size w w' ∧ ∃ v, InvV ps i v w' ∧ a' = a.put o.dst v) a w :=
  each_pure hi hw hr hv.symm
theorem r_enter {i : Nat} {o : Oper} {a : Act} {w : World} {v : Value} {ps : List (Nat × Value)} {f : FuncId} {args : Array Value} (hi : ops[i]? = some o) (hw : Region.wanted o (yielded ops a.tmps) = true)
    (hv : pv ps i = v) (hr : (execOp a.eval o).run P w = .ok (.enter f args) w) (h : Calls P f args w fun e w' => e = .returned v ∧ Below w.heap.size w w') : wpOp P ops Q i (fun a' w' => Below w.heap.size w w' ∧ ∃ v, InvV ps i v w' ∧ a' = a.put o.dst v) a w :=
  each_enter hi hw hr (Calls.mono h fun _ _ ⟨he, hB⟩ => ⟨v, he, hB, hv.symm⟩)
end
end Go.Proofs.YtddflccjmigloaaGreat

namespace Go.Proofs.YtddflccjmigloaaGreat
open Go.RowKit Go.Maps Classical

section
variable {K : Type}
theorem que_user {l : List (UsP K)} (h : LkB l) {k : K} {t : TxN} (ht : t ∈ queU l k) : getU l t ∈ l ∧ (getU l t).tx = t ∧ (getU l t).w k ≠ 0 := by
  obtain ⟨u, hu, hw, rfl⟩ := queU_mem.1 ht
  rw [getU_of h hu]
  exact ⟨hu, rfl, hw⟩
theorem que_rise {l : List (UsP K)} (h : LkB l) (k : K) {j : Nat} (hj : j + 1 < (queU l k).length) : Old (getU l (queU l k)[j]) (getU l (queU l k)[j + 1]) :=
  List.pairwise_iff_getElem.1 (queU_old h k) j (j + 1) (by omega) hj (by omega)
theorem que_block {l : List (UsP K)} (h : LkI l) {k : K} (h0 : 0 < (queU l k).length) : ∃ v ∈ l, v.tx ≠ (queU l k)[0] ∧ v.h k ≠ 0 := by
  obtain ⟨t, q, hq⟩ : ∃ t q, queU l k = t :: q := by
    cases hq : queU l k with
    | nil => rw [hq] at h0; cases h0
    | cons t q => exact ⟨t, q, rfl⟩
  have e0 : (queU l k)[0] = t := by simp [hq]
  obtain ⟨_, _, _, _, v, hv, hn, ha⟩ := queU_head h hq
  exact ⟨v, hv, by rw [e0]; exact hn, ha.2.1⟩
theorem hold_old {l : List (UsP K)} (h : LkI l) {k : K} {u v : UsP K} (hu : u ∈ l) (hv : v ∈ l) (hw : u.w k ≠ 0) (hne : v.tx ≠ u.tx) (hh : v.h k = 2) : v.pr = true ∨ Old v u :=
  h.m.ages u hu v hv k (fun e => hne e.symm) ⟨hw, by rw [hh]; decide, .inr hh⟩
end
end Go.Proofs.YtddflccjmigloaaGreat

namespace Go.Proofs.YtddflccjmigloaaGreat
open Go.RowKit Go.Maps Classical

theorem src_names15 {w : World} {base : Nat} {v : Value} {l : List TxN} (h : w.ownsRow base 34 3 v l.length (rowOf (l.map txI))) : RSrc (fun t : TxN => txCs (txI t)) w v l := by
  have e : rowOf (l.map txI) = flat (fun t : TxN => txCs (txI t)) l := by
    unfold rowOf flat
    rw [List.flatMap_map]
  rw [e] at h
  exact RSrc.of_own h
theorem eql_tx15 (a b : TxN) (W : World) : (binOp .eql 34 (.agg #[.int .u8 (a.1 : Int), .int .u32 (a.2.1 : Int), .int .u32 (a.2.2 : Int)]) (.agg #[.int .u8 (b.1 : Int), .int .u32 (b.2.1 : Int), .int .u32 (b.2.2 : Int)])).run Tryz.prog W = .ok (.bool (decide (a = b))) W := by
  refine (eql_tx _ _ _ _ _ _ W).trans ?_
  congr 2
  obtain ⟨a1, a2, a3⟩ := a
  obtain ⟨b1, b2, b3⟩ := b
  rw [Bool.eq_iff_iff]
  simp [and_assoc, Int.ofNat_inj]
section
variable {ρ : Operand → Value} {w : World} {dst : Option Tmp} {ty : TypeId} {pos : String} {aft : Array Edge} {gd : Option (Nat × Bool)}
theorem y_look15 (t : TypeId) (x y : Operand) {m k v : Value} (hx : ρ x = m) (hy : ρ y = k) (hr : (Instr.lookup t m k false).run Tryz.prog w = .ok v w) : (execOp ρ ⟨dst, .lookup t x y false, ty, pos, aft, gd⟩).run Tryz.prog w = .ok (.value v) w := by
  subst hx
  subst hy
  simp [execOp, hr]
theorem y_idx15 (x y : Operand) {b off n c j : Nat} (hx : ρ x = .slice (some ⟨b, off, none⟩) n c) (hy : ρ y = .int .i64 (j : Int)) (h : j < n) : (execOp ρ ⟨dst, .indexAddr 42 x y, ty, pos, aft, gd⟩).run Tryz.prog w = .ok (.value (.pointer (some ⟨b, off + j * 3, none⟩))) w := by
  have h1 : (0 : Int) ≤ (j : Int) := by omega
  have h2 : (j : Int) < (n : Int) := by omega
  simp [go_sem, hx, hy, h1, h2]
theorem gtr_int15 (a b : Int) (c : Bool) (W : World) (h : decide (a > b) = c) : (binOp .gtr 3 (.int .i64 a) (.int .i64 b)).run Tryz.prog W = .ok (.bool c) W := by
  subst h
  simp [go_sem]
theorem geq_int15 (a b : Int) (c : Bool) (W : World) (h : decide (a ≥ b) = c) : (binOp .geq 3 (.int .i64 a) (.int .i64 b)).run Tryz.prog W = .ok (.bool c) W := by
  subst h
  simp [go_sem]
theorem eql_u815 (a b : Int) (c : Bool) (W : World) (h : (a == b) = c) : (binOp .eql 5 (.int .u8 a) (.int .u8 b)).run Tryz.prog W = .ok (.bool c) W := by
  subst h
  simp [go_sem]
theorem sub_int15 (a b c : Int) (W : World) (h : IntKind.i64.wrap (a - b) = c) : (binOp .sub 3 (.int .i64 a) (.int .i64 b)).run Tryz.prog W = .ok (.int .i64 c) W := by
  subst h
  simp [go_sem]
theorem en_waits15 : ∀ args w, (callFunc 21 args).run Tryz.prog w = .ok (.enter 21 args) w := enters_of Tryz.func21 (by kernel_rfl) rfl
theorem en_prepd15 : ∀ args w, (callFunc 23 args).run Tryz.prog w = .ok (.enter 23 args) w := enters_of Tryz.func23 (by kernel_rfl) rfl
theorem en_stamps15 : ∀ args w, (callFunc 26 args).run Tryz.prog w = .ok (.enter 26 args) w := enters_of Tryz.func26 (by kernel_rfl) rfl
end
/-- Has one of the first j, another one than t, the key? -/
def blkB (l : List (UsP KeyT)) (k : KeyT) (t : TxN) (j : Nat) : Bool := (l.take j).any fun v => decide (v.h k ≠ 0 ∧ v.tx ≠ t)
theorem blk_step {l : List (UsP KeyT)} {k : KeyT} {t : TxN} {j : Nat} (h : j < l.length) {y : UsP KeyT} (hy : l[j] = y) : blkB l k t (j + 1) = (blkB l k t j || decide (y.h k ≠ 0 ∧ y.tx ≠ t)) := by
  unfold blkB
  rw [take_any15 _ l h, hy]
theorem blk_all {l : List (UsP KeyT)} (h : LkI l) {k : KeyT} (h0 : 0 < (queU l k).length) : blkB l k (queU l k)[0] l.length = true := by
  obtain ⟨v, hv, h1, h2⟩ := que_block h h0
  unfold blkB
  rw [List.take_length, List.any_eq_true]
  exact ⟨v, hv, decide_eq_true ⟨h2, h1⟩⟩
theorem ageG_get {l : List (UsP KeyT)} (h : LkI l) {t : TxN} (ht : TxB t) (hm : getU l t ∈ l) (he : (getU l t).tx = t) : ageG l ⟨t, ht⟩ = some ((getU l t).tm, (getU l t).tx) := by
  have h1 := ageG_of h.b hm (h.b.oks _ hm).1
  rw [← h1]
  exact congrArg _ (Subtype.ext he.symm)

variable {D : World → Nat → (Nat → Prop) → Nat → List (UsP KeyT) → Prop}
set_option maxRecDepth 100000 in
set_option maxHeartbeats 6400000 in
theorem walkA15 (H : LockDo D) (v : Value) (fs : List LActV) (w : World) (hL : RSrc lactE w v fs) (hok : ∀ a ∈ fs, LvOk w a) :
    Calls Tryz.prog 4 #[v] w fun e w' => e = .returned (.bool true) ∧ Below w.heap.size w w' := by
  obtain ⟨ao, cap, rfl, hc, hm⟩ := hL.shape
  obtain ⟨LF, hLF⟩ : ∃ LF, LF = fs.length := ⟨_, rfl⟩
  rw [← hLF]
  have HSF : Hid (RSrc lactE w (.slice ao LF cap) fs) := hide (by rw [hLF]; exact hL)
  have HSO := hide hok
  have CF := hide (fun W (hB : Below w.heap.size w W) => far_any15 (.slice ao LF cap) fs W (HSF.out.below hB) (fun a ha => lvok_below (HSO.out a ha) hB))
  have CA := hide (fun W => alive_by15 H W)
  have CSH := hide (fun W => short_any15 (.slice ao LF cap) fs W w HSF.out)
  clear hL hok hLF hc hm
  go_enter Tryz.func4, Tryz.ntmps4
  go_wp2_with fail
  refine (H.new w).mono ?_
  rintro e w1 ⟨q, F1, rfl, hD1, hF1, hB1⟩
  have HN1 : Hid (Since15 D w q F1 0 [] w1) := hide ⟨hD1, hF1, hB1⟩
  clear hD1 hF1 hB1
  go_wp2_with fail
  obtain ⟨RF, hRF⟩ : ∃ RF, RF = farL fs := ⟨_, rfl⟩
  have CF' := hide (CF.out w1 HN1.out.b)
  rw [← hRF] at CF'
  have HRF := hide hRF
  clear hRF CF
  cases RF with
  | true =>
    refine CF'.out.mono ?_
    rintro e w2 ⟨rfl, hB2⟩
    have HB2 := hide (HN1.out.b.trans (hB2.mono HN1.out.b.size))
    clear hB2
    go_wp2_with (go_at_call 8; refine (CA.out _).mono ?_; rintro e w3 ⟨rfl, hB3⟩; have HB3 := hide (HB2.out.trans (hB3.mono HB2.out.size)); clear hB3)
    go_ret
    exact ⟨rfl, HB3.out⟩
  | false =>
  refine CF'.out.mono ?_
  rintro e w2 ⟨rfl, hB2⟩
  replace HN1 := hide (HN1.out.below H hB2)
  clear hB2 CF'
  obtain ⟨ts, hts⟩ : ∃ ts, ts = fs.take 60 := ⟨_, rfl⟩
  have HTO : Hid (∀ a ∈ ts, LvOk w a) := hide (fun a ha => by rw [hts] at ha; exact HSO.out a (List.mem_of_mem_take ha))
  have HTK : Hid (∀ a ∈ ts, a.a.ks.length ≤ 30) := hide (fun a ha => by rw [hts] at ha; exact far_ks HRF.out.symm a ha)
  simp only [← hts] at CSH
  obtain ⟨LN, hLN⟩ : ∃ LN, LN = ts.length := ⟨_, rfl⟩
  have hKl : LN ≤ 60 := by rw [hLN, hts, List.length_take]; omega
  have HLN := hide hLN
  clear hts hLN HRF
  have hmm := @run_makeMap Tryz.prog
  have hMA := alloc_below14 w2 (.map #[] 0)
  have hM0 := gmap_made smTy w2
  obtain ⟨bm0, hbm0⟩ : ∃ bm0, bm0 = w2.heap.size := ⟨_, rfl⟩
  obtain ⟨w3, hw3⟩ : ∃ w3, w3 = w2.alloc (.map #[] 0) := ⟨_, rfl⟩
  rw [← hw3, ← hbm0] at hM0
  rw [← hw3] at hMA
  have HM0 : Hid (SM15 w3 bm0 (ageG []) 0) := hide (hM0.as (fun k => rfl))
  have HNF0 : Hid (¬ F1 bm0) := hide (fun e => by have := H.lt HN1.out.d _ e; omega)
  replace HN1 := hide (HN1.out.below H hMA)
  have hW3 := hw3.symm
  have hBM := hbm0.symm
  clear hMA hM0 hbm0 hw3
  go_wp2_with (go_at_call 9; refine (CSH.out _).mono ?_; rintro e Y1 ⟨v1, rfl, rfl, hT⟩; obtain ⟨ta, tc, e1, _, _⟩ := hT.shape; rw [← HLN.out] at e1; subst e1; have HT := hide hT; clear hT)
  clear hW3 hBM hmm
  have HI0 : Hid (LkI ([] : List (UsP KeyT))) := hide lki_nil
  go_loopg [4, 30] LN (fun g s4 i wr => ∃ (k C bm nm : Nat) (F : Nat → Prop) (l : List (UsP KeyT)), k + g = LN ∧ s4 = .map (some bm) ∧ i = .int .i64 k ∧ C ≤ 30 + k ∧ Hid (LkI l) ∧ Hid (Since15 D w q F C l wr) ∧ Hid (SM15 wr bm (ageG l) nm) ∧ Hid (¬ F bm))
  case atStart => exact ⟨0, 0, bm0, 0, F1, [], by omega, rfl, rfl, by omega, HI0, HN1, HM0, HNF0⟩
  case round =>
    clear HI0 HN1 HM0 HNF0
    obtain ⟨k, C, bm, nm, F, l, hk, rfl, rfl, hC, HI, HN, HM, HNB⟩ := hrel
    cases gk with
    | succ g =>
      have hz : (k : Int) < (LN : Int) := by omega
      have hkn : k < ts.length := by rw [← HLN.out]; omega
      obtain ⟨en, b, off, rfl, hb, hcl⟩ := (HT.out.below HN.out.b).at recLA.len hkn
      have HRg : Hid (wr.rangeAt b (off + k * 15) (lactE ts[k])) := hide (fun j v hv => hcl j v hv)
      have HOA := hide (lvok_below (HTO.out _ (List.getElem_mem hkn)) HN.out.b)
      have HKA := hide (HTK.out _ (List.getElem_mem hkn))
      have HOW := hide (HTO.out _ (List.getElem_mem hkn))
      generalize ts[k] = ax at *
      obtain ⟨a, u⟩ := ax
      obtain ⟨ro, rc, e1, hrc, _⟩ := HOA.out.src.shape
      dsimp only at e1
      subst e1
      clear hcl en hb hrc
      obtain ⟨p5, hp5⟩ : ∃ p5, p5 = wr.heap.size := ⟨_, rfl⟩
      have HZ := hide (box_new wr (lactA zeroLV.a zeroLV.p) 41)
      have HZB : Hid (Below wr.heap.size wr (wr.alloc (.cells (lactA zeroLV.a zeroLV.p) 41))) := hide (alloc_below14 wr _)
      go_wp2_with (first | (refine wpList_load_mid rfl 41 _ rfl b (off + k * 15) rfl (lactE ⟨a, .slice ro a.ks.length rc⟩) _ HRg.out Tryz.underlying41 rfl infoLA ?_) | (refine wp_store_box rfl rfl _ _ rfl wr.heap.size rfl (cs' := lactA a (.slice ro a.ks.length rc)) rfl HZ.out rfl infoLA (by simp [Value.oneCell']) ?_; intro w5 hb3 hk3; have HX5 := hide hb3; have HB5 : Hid (Below wr.heap.size wr w5) := hide (HZB.out.trans (hk3.below HZB.out.size (fun k hk => by omega))); clear hb3 hk3) | (refine wp_load_box rfl _ rfl wr.heap.size rfl HX5.out Tryz.underlying41 rfl infoLA ?_))
      have HN5 := hide (HN.out.below H HB5.out)
      have HM5 := hide (HM.out.below HB5.out)
      have HNF : Hid (¬ F p5) := hide (fun hf => by have := H.lt HN.out.d _ hf; omega)
      rw [← hp5] at HX5 ⊢
      refine (does_any15 H a (.slice ro a.ks.length rc) HN5.out.d (by omega) (lvok_below HOA.out HB5.out) HKA.out).mono ?_
      rintro e w6 ⟨⟨vw, vg, er, wn, gr, l2, C2, rfl, hR, hC2, hd, _, _⟩⟩
      have HI2 : Hid (LkI l2) := hide (does_ok HI.out HOA.out.tx HOA.out.tm hR)
      obtain ⟨F2, hs6, hk6, hf6⟩ := HN5.out.did hd
      have HN6 := hide hs6
      have HX6 := hide (HX5.out.keep hk6 HNF.out)
      have HM6 := hide (HM5.out.keep hk6 HNB.out)
      have HDW := hide (does_who hR)
      have HOA6 := hide (lvok_below HOW.out hs6.b)
      have hC3 : C2 ≤ 30 + (k + 1) := cgrow hC hC2
      clear hR hd hs6 hk6 hf6 hC2 HZ HZB HRg HX5 HN5 HN HNF hp5 HM HM5
      go_wp2_with (refine wp_load_box rfl _ rfl p5 rfl HX6.out Tryz.underlying41 rfl infoLA ?_)
      refine (stamps_any15 H a (.slice ro a.ks.length rc) HN6.out.d HI2.out HI.out HM6.out HOA6.out HDW.out).mono ?_
      rintro e w7 ⟨⟨bm2, nm2, rfl, hm7, hb7, hB7⟩⟩
      have HN7 := hide (HN6.out.below H hB7)
      have HM7 := hide hm7
      have HNB7 : Hid (¬ F2 bm2) := hide (fun e => by have := H.lt HN6.out.d _ e; omega)
      have HX7 := hide (HX6.out.belowI hB7)
      have HKR := hide (act_key HX7.out)
      clear hm7 hb7 hB7 HN6 HM6 HX6
      go_wp2_with (refine wpList_load_mid rfl 38 _ rfl p5 5 rfl (eightE a.k.1) _ HKR.out Tryz.underlying38 rfl infoKey15 ?_)
      refine (H.queue a.k HN7.out.d).mono ?_
      rintro e w8 ⟨vq, rfl, hoq, hB8⟩
      have HQS := hide (src_names15 hoq)
      obtain ⟨qa, qc, e8, _⟩ := owns_shapeR hoq
      obtain ⟨qs, hqs⟩ : ∃ qs, qs = queU l2 a.k := ⟨_, rfl⟩
      have HQE := hide hqs
      rw [← hqs] at HQS e8
      obtain ⟨LQ, hLQ⟩ : ∃ LQ, LQ = qs.length := ⟨_, rfl⟩
      have hLQm : LQ ≤ 64 := by
        rw [hLQ, hqs]
        exact que_len HI2.out.b a.k
      rw [← hLQ] at e8
      subst e8
      have HLQ := hide hLQ
      have HN8 := hide (HN7.out.below H hB8)
      have HM8 := hide (HM7.out.below hB8)
      have HX8 := hide (HX7.out.belowI hB8)
      clear hoq hB8 hqs hLQ HN7 HM7 HX7 HKR
      go_wp2_with fail
      go_loopg [47] LQ (fun g i Y => ∃ (j : Nat), j + g = LQ ∧ i = .int .i64 j ∧ Hid (Below w8.heap.size w8 Y))
      case atStart => exact ⟨0, by omega, rfl, hide (Below.refl _ _)⟩
      case round =>
        obtain ⟨j, hj, rfl, HBY⟩ := hrel
        cases gk with
        | succ g4 =>
          have hz4 : (j : Int) < (LQ : Int) := by omega
          have hjn : j < qs.length := by rw [← HLQ.out]; omega
          obtain ⟨en, b, off, e9, hb, hcl⟩ := (HQS.out.below HBY.out).at (K := 3) (fun _ => rfl) hjn
          subst e9
          obtain ⟨x, hx⟩ : ∃ x, x = qs[j] := ⟨_, rfl⟩
          have HXQ : Hid (getU l2 x ∈ l2 ∧ (getU l2 x).tx = x ∧ (getU l2 x).w a.k ≠ 0) := hide (que_user HI2.out.b (by rw [hx, ← HQE.out]; exact List.getElem_mem hjn))
          have HTX : Hid (TxB x) := hide (by rw [← HXQ.out.2.1]; exact (HI2.out.b.oks _ HXQ.out.1).1)
          rw [← hx] at hcl
          have HRg : Hid (wr.rangeAt b (off + j * 3) (txCs (txI x))) := hide (fun j v hv => hcl j v hv)
          have HXJ := hide hx
          have HZ := hide (box_new wr #[.int .u8 0, .int .u32 0, .int .u32 0] 34)
          have HZB : Hid (Below wr.heap.size wr (wr.alloc (.cells #[.int .u8 0, .int .u32 0, .int .u32 0] 34))) := hide (alloc_below14 wr _)
          clear hcl hb en hx
          go_wp2_with (first | (refine wpList_load_mid rfl 34 _ rfl b (off + j * 3) rfl (txCs (txI x)) _ HRg.out Tryz.underlying34 rfl infoTx15 ?_) | (refine wp_store_box rfl rfl _ _ rfl wr.heap.size rfl (cs' := #[.int .u8 (x.1 : Int), .int .u32 (x.2.1 : Int), .int .u32 (x.2.2 : Int)]) rfl HZ.out rfl infoTx15 (by simp [Value.oneCell']) ?_; intro w9 hb3 hk3; have HX9 := hide hb3; have HB9 : Hid (Below wr.heap.size wr w9) := hide (HZB.out.trans (hk3.below HZB.out.size (fun k hk => by omega))); clear hb3 hk3))
          obtain ⟨p9, hp9⟩ : ∃ p9, p9 = wr.heap.size := ⟨_, rfl⟩
          rw [← hp9] at HX9 ⊢
          have HBY9 := hide (HBY.out.trans (HB9.out.mono HBY.out.size))
          have HN9 := hide (HN8.out.below H HBY9.out)
          clear HZ HZB HRg hp9
          have CWa : Hid (∀ W, Below w9.heap.size w9 W → Calls Tryz.prog 21 #[ptr15 q, txVN x] W fun e w' => e = .returned (.bool true) ∧ Below W.heap.size W w') := hide (fun W hW => (H.waits x (HN9.out.below H hW).d HTX.out).mono (fun e w' ⟨bw, he, hbw, hB⟩ => ⟨by rw [he, hbw.2 ⟨a.k, HXQ.out.2.2⟩], hB⟩))
          obtain ⟨a0, a1, a2⟩ := HX9.out.three
          by_cases hj0 : j = 0
          · have hzj : (j : Int) = 0 := by omega
            have hgt := fun W => gtr_int15 (j : Int) 0 false W (decide_eq_false (by omega))
            clear hj0
            go_wp2_with fail
            refine wp_region_vals (by kernel_rfl) [(52, ptr15 q), (53, .agg #[.int .u8 (x.1 : Int), .int .u32 (x.2.1 : Int), .int .u32 (x.2.2 : Int)]), (54, .bool true), (55, .bool false), (56, .bool false), (57, .int .i64 (j : Int)), (58, .bool false), (59, .bool false), (60, undef), (61, undef), (62, undef), (63, undef), (64, undef), (65, undef), (66, undef), (67, undef), (68, undef), (69, undef), (70, undef), (71, undef), (72, .bool false), (73, .bool false)] (by kernel_rfl) rfl ?_ ?_
            · intro i o hi A w1 hB hold hdeps
              have hlt : i < 22 := (Array.getElem?_eq_some_iff.1 hi).1
              have hc : i = 0 ∨ i = 1 ∨ i = 2 ∨ i = 3 ∨ i = 4 ∨ i = 5 ∨ i = 6 ∨ i = 7 ∨ i = 8 ∨ i = 9 ∨ i = 10 ∨ i = 11 ∨ i = 12 ∨ i = 13 ∨ i = 14 ∨ i = 15 ∨ i = 16 ∨ i = 17 ∨ i = 18 ∨ i = 19 ∨ i = 20 ∨ i = 21 := by omega
              clear hlt
              rcases hc with rfl | rfl | rfl | rfl | rfl | rfl | rfl | rfl | rfl | rfl | rfl | rfl | rfl | rfl | rfl | rfl | rfl | rfl | rfl | rfl | rfl | rfl
              · obtain rfl := Option.some.inj hi
                have s3 : A.tmps.getD 3 undef = ptr15 q := hold 3 (by kernel_rfl)
                exact r_pure hi rfl rfl (y_move _ s3)
              · obtain rfl := Option.some.inj hi
                have s9 : A.tmps.getD 9 undef = .pointer (some ⟨p9, 0, none⟩) := hold 9 (by kernel_rfl)
                exact r_pure hi rfl rfl (y_load _ _ s9 (HX9.out.belowI hB) Tryz.underlying34 rfl infoTx15)
              · obtain rfl := Option.some.inj hi
                have s52 : A.tmps.getD 52 undef = ptr15 q := dep_of hdeps 0 (by kernel_rfl)
                have s53 : A.tmps.getD 53 undef = .agg #[.int .u8 (x.1 : Int), .int .u32 (x.2.1 : Int), .int .u32 (x.2.2 : Int)] := dep_of hdeps 1 (by kernel_rfl)
                exact r_enter hi rfl rfl (y_call 21 _ #[ptr15 q, .agg #[.int .u8 (x.1 : Int), .int .u32 (x.2.1 : Int), .int .u32 (x.2.2 : Int)]] _ rfl (by simp only [List.map_toArray, List.map_cons, List.map_nil, show A.eval (.tmp 52) = ptr15 q from s52, show A.eval (.tmp 53) = .agg #[.int .u8 (x.1 : Int), .int .u32 (x.2.1 : Int), .int .u32 (x.2.2 : Int)] from s53]; try rfl) en_waits15) (CWa.out w1 hB)
              · obtain rfl := Option.some.inj hi
                have s54 : A.tmps.getD 54 undef = .bool true := dep_of hdeps 2 (by kernel_rfl)
                exact r_pure hi rfl rfl (y_not (a := true) _ _ s54)
              · obtain rfl := Option.some.inj hi
                have s55 : A.tmps.getD 55 undef = .bool false := dep_of hdeps 3 (by kernel_rfl)
                exact r_pure hi rfl rfl (y_move _ s55)
              · obtain rfl := Option.some.inj hi
                have g5 : A.tmps.getD 56 undef = .bool false := dep_of hdeps 4 (by kernel_rfl)
                have s8 : A.tmps.getD 8 undef = .int .i64 (j : Int) := hold 8 (by kernel_rfl)
                exact r_pure hi (wanted_not rfl rfl g5) rfl (y_move _ s8)
              · obtain rfl := Option.some.inj hi
                have g6 : A.tmps.getD 56 undef = .bool false := dep_of hdeps 4 (by kernel_rfl)
                have s57 : A.tmps.getD 57 undef = .int .i64 (j : Int) := dep_of hdeps 5 (by kernel_rfl)
                exact r_pure hi (wanted_not rfl rfl g6) rfl (y_bin _ _ _ _ _ s57 rfl (hgt w1) (by kernel_rfl))
              · obtain rfl := Option.some.inj hi
                have g7 : A.tmps.getD 56 undef = .bool false := dep_of hdeps 4 (by kernel_rfl)
                have s58 : A.tmps.getD 58 undef = .bool false := dep_of hdeps 6 (by kernel_rfl)
                exact r_pure hi (wanted_not rfl rfl g7) rfl (y_move _ s58)
              · obtain rfl := Option.some.inj hi
                have g8 : A.tmps.getD 59 undef = .bool false := dep_of hdeps 7 (by kernel_rfl)
                exact each_skip hi rfl rfl (fun e => absurd (g8.symm.trans e) (by simp)) rfl
              · obtain rfl := Option.some.inj hi
                have g9 : A.tmps.getD 59 undef = .bool false := dep_of hdeps 7 (by kernel_rfl)
                exact each_skip hi rfl rfl (fun e => absurd (g9.symm.trans e) (by simp)) rfl
              · obtain rfl := Option.some.inj hi
                have g10 : A.tmps.getD 59 undef = .bool false := dep_of hdeps 7 (by kernel_rfl)
                exact each_skip hi rfl rfl (fun e => absurd (g10.symm.trans e) (by simp)) rfl
              · obtain rfl := Option.some.inj hi
                have g11 : A.tmps.getD 59 undef = .bool false := dep_of hdeps 7 (by kernel_rfl)
                exact each_skip hi rfl rfl (fun e => absurd (g11.symm.trans e) (by simp)) rfl
              · obtain rfl := Option.some.inj hi
                have g12 : A.tmps.getD 59 undef = .bool false := dep_of hdeps 7 (by kernel_rfl)
                exact each_skip hi rfl rfl (fun e => absurd (g12.symm.trans e) (by simp)) rfl
              · obtain rfl := Option.some.inj hi
                have g13 : A.tmps.getD 59 undef = .bool false := dep_of hdeps 7 (by kernel_rfl)
                exact each_skip hi rfl rfl (fun e => absurd (g13.symm.trans e) (by simp)) rfl
              · obtain rfl := Option.some.inj hi
                have g14 : A.tmps.getD 59 undef = .bool false := dep_of hdeps 7 (by kernel_rfl)
                exact each_skip hi rfl rfl (fun e => absurd (g14.symm.trans e) (by simp)) rfl
              · obtain rfl := Option.some.inj hi
                have g15 : A.tmps.getD 59 undef = .bool false := dep_of hdeps 7 (by kernel_rfl)
                exact each_skip hi rfl rfl (fun e => absurd (g15.symm.trans e) (by simp)) rfl
              · obtain rfl := Option.some.inj hi
                have g16 : A.tmps.getD 59 undef = .bool false := dep_of hdeps 7 (by kernel_rfl)
                exact each_skip hi rfl rfl (fun e => absurd (g16.symm.trans e) (by simp)) rfl
              · obtain rfl := Option.some.inj hi
                have g17 : A.tmps.getD 59 undef = .bool false := dep_of hdeps 7 (by kernel_rfl)
                exact each_skip hi rfl rfl (fun e => absurd (g17.symm.trans e) (by simp)) rfl
              · obtain rfl := Option.some.inj hi
                have g18 : A.tmps.getD 59 undef = .bool false := dep_of hdeps 7 (by kernel_rfl)
                exact each_skip hi rfl rfl (fun e => absurd (g18.symm.trans e) (by simp)) rfl
              · obtain rfl := Option.some.inj hi
                have g19 : A.tmps.getD 59 undef = .bool false := dep_of hdeps 7 (by kernel_rfl)
                exact each_skip hi rfl rfl (fun e => absurd (g19.symm.trans e) (by simp)) rfl
              · obtain rfl := Option.some.inj hi
                have g20 : A.tmps.getD 56 undef = .bool false := dep_of hdeps 4 (by kernel_rfl)
                have s59 : A.tmps.getD 59 undef = .bool false := dep_of hdeps 7 (by kernel_rfl)
                exact r_pure hi (wanted_not rfl rfl g20) rfl (y_pickF _ _ _ s59 rfl)
              · obtain rfl := Option.some.inj hi
                have s56 : A.tmps.getD 56 undef = .bool false := dep_of hdeps 4 (by kernel_rfl)
                have s72 : A.tmps.getD 72 undef = .bool false := dep_of hdeps 20 (by kernel_rfl)
                exact r_pure hi rfl rfl (y_pickF _ _ _ s56 s72)
            · intro w10 hB10
              simp only [putAll, Act.put, List.setIfInBounds_toArray, List.set_cons_succ, List.set_cons_zero]
              go_wp2_with fail
              go_roundg g4
              case measure => omega
              case rel => exact ⟨j + 1, by omega, by first | rfl | go_num, hide (HBY9.out.trans (hB10.mono HBY9.out.size))⟩
          · obtain ⟨m, hm⟩ : ∃ m, j = m + 1 := ⟨j - 1, by omega⟩
            have hzj : ¬ (j : Int) = 0 := by omega
            have hgtd : decide ((0 : Int) < (j : Int)) = true := decide_eq_true (by omega)
            have hmn : m < qs.length := by omega
            have hwr : IntKind.i64.wrap ((j : Int) - 1) = (m : Int) := by rw [IntKind.wrap_i64]; omega
            have hm0 : (0 : Int) ≤ (m : Int) := by omega
            have hm1 : ¬ (m : Int) < 0 := by omega
            have hm2 : (m : Int) < (LQ : Int) := by omega
            obtain ⟨x2, hx2⟩ : ∃ x2, x2 = qs[m] := ⟨_, rfl⟩
            have HX2 : Hid (getU l2 x2 ∈ l2 ∧ (getU l2 x2).tx = x2 ∧ (getU l2 x2).w a.k ≠ 0) := hide (que_user HI2.out.b (by rw [hx2, ← HQE.out]; exact List.getElem_mem hmn))
            have HT2 : Hid (TxB x2) := hide (by rw [← HX2.out.2.1]; exact (HI2.out.b.oks _ HX2.out.1).1)
            have HOL : Hid (Old (getU l2 x2) (getU l2 x)) := hide (by
              have hr := que_rise HI2.out.b a.k (j := m) (by rw [← HQE.out]; omega)
              have e1 : x2 = (queU l2 a.k)[m]'(by rw [← HQE.out]; exact hmn) := by rw [hx2]; exact getElem_congr_coll HQE.out
              have e2 : x = (queU l2 a.k)[m + 1]'(by rw [← HQE.out]; omega) := by
                rw [HXJ.out]
                subst hm
                exact getElem_congr_coll HQE.out
              rw [e1, e2]
              exact hr)
            obtain ⟨en2, b2, off2, e9, hb2, hcl2⟩ := (HQS.out.below HBY9.out).at (K := 3) (fun _ => rfl) hmn
            cases e9
            rw [← hx2] at hcl2
            have HR2 : Hid (w9.rangeAt b (off + m * 3) (txCs (txI x2))) := hide (fun j v hv => hcl2 j v hv)
            have HBQ : Hid (b < w9.heap.size) := hide hb2
            clear hcl2 hb2 en2 hx2 hm hj0
            have HRB : Hid (∀ W, Below w9.heap.size w9 W → W.rangeAt b (off + m * 3) (txCs (txI x2))) := hide (fun W hW j v hv => by
              rw [← HR2.out j v hv]
              exact hW.cell (p := ⟨b, off + m * 3 + j, none⟩) HBQ.out)
            have hmq : m < LQ := by omega
            have hgt := fun W => gtr_int15 (j : Int) 0 true W (decide_eq_true (by omega))
            have hsub := fun W => sub_int15 (j : Int) 1 (m : Int) W hwr
            have hag1 := ageG_get HI2.out HT2.out HX2.out.1 HX2.out.2.1
            have hag2 := ageG_get HI2.out HTX.out HXQ.out.1 HXQ.out.2.1
            generalize getU l2 x2 = u2 at *
            generalize getU l2 x = u1 at *
            have HL1 : Hid (∀ W, Below w9.heap.size w9 W → (Instr.lookup 63 (.map (some bm2)) (txVN x2) false).run Tryz.prog W = .ok (seV (u2.tm, u2.tx)) W) := hide (fun W hW => by
              have := ((HM8.out.below HBY9.out).below hW).look1 smTy ⟨x2, HT2.out⟩
              rw [hag1] at this
              exact this)
            have HL2 : Hid (∀ W, Below w9.heap.size w9 W → (Instr.lookup 63 (.map (some bm2)) (txVN x) false).run Tryz.prog W = .ok (seV (u1.tm, u1.tx)) W) := hide (fun W hW => by
              have := ((HM8.out.below HBY9.out).below hW).look1 smTy ⟨x, HTX.out⟩
              rw [hag2] at this
              exact this)
            obtain ⟨R, hR⟩ : ∃ R, R = stsF ((u2.tm : Int), (u2.tx.1 : Int), (u2.tx.2.1 : Int), (u2.tx.2.2 : Int)) ((u1.tm : Int), (u1.tx.1 : Int), (u1.tx.2.1 : Int), (u1.tx.2.2 : Int)) := ⟨_, rfl⟩
            have hRn : R < 0 := by rw [hR]; exact HOL.out
            have CS : Hid (∀ W, Below w9.heap.size w9 W → Calls Tryz.prog 26 #[seV (u2.tm, u2.tx), seV (u1.tm, u1.tx)] W fun e w' => e = .returned (.int .i64 R) ∧ Below W.heap.size W w') := hide (fun W _ => by
              have := rstamps_any (u2.tm : Int) (u2.tx.1 : Int) (u2.tx.2.1 : Int) (u2.tx.2.2 : Int) (u1.tm : Int) (u1.tx.1 : Int) (u1.tx.2.1 : Int) (u1.tx.2.2 : Int) W (by omega) (by have := (HI2.out.b.oks _ HX2.out.1).1.1; omega) (by omega) (by have := (HI2.out.b.oks _ HXQ.out.1).1.1; omega)
              rw [← hR] at this
              exact this)
            have hge := fun W => geq_int15 R 0 false W (decide_eq_false (by omega))
            clear hR hag1 hag2 HOL hgtd hm0 hm1 hm2
            go_wp2_with fail
            refine wp_region_vals (by kernel_rfl) [(52, ptr15 q), (53, .agg #[.int .u8 (x.1 : Int), .int .u32 (x.2.1 : Int), .int .u32 (x.2.2 : Int)]), (54, .bool true), (55, .bool false), (56, .bool false), (57, .int .i64 (j : Int)), (58, .bool true), (59, .bool true), (60, .map (some bm2)), (61, .slice (some ⟨b, off, none⟩) LQ qc), (62, .int .i64 (j : Int)), (63, .int .i64 (m : Int)), (64, .pointer (some ⟨b, off + m * 3, none⟩)), (65, .agg (txCs (txI x2)).toArray), (66, seV (u2.tm, u2.tx)), (67, .map (some bm2)), (68, .agg #[.int .u8 (x.1 : Int), .int .u32 (x.2.1 : Int), .int .u32 (x.2.2 : Int)]), (69, seV (u1.tm, u1.tx)), (70, .int .i64 R), (71, .bool false), (72, .bool false), (73, .bool false)] (by kernel_rfl) rfl ?_ ?_
            · intro i o hi A w1 hB hold hdeps
              have hlt : i < 22 := (Array.getElem?_eq_some_iff.1 hi).1
              have hc : i = 0 ∨ i = 1 ∨ i = 2 ∨ i = 3 ∨ i = 4 ∨ i = 5 ∨ i = 6 ∨ i = 7 ∨ i = 8 ∨ i = 9 ∨ i = 10 ∨ i = 11 ∨ i = 12 ∨ i = 13 ∨ i = 14 ∨ i = 15 ∨ i = 16 ∨ i = 17 ∨ i = 18 ∨ i = 19 ∨ i = 20 ∨ i = 21 := by omega
              clear hlt
              rcases hc with rfl | rfl | rfl | rfl | rfl | rfl | rfl | rfl | rfl | rfl | rfl | rfl | rfl | rfl | rfl | rfl | rfl | rfl | rfl | rfl | rfl | rfl
              · obtain rfl := Option.some.inj hi
                have s3 : A.tmps.getD 3 undef = ptr15 q := hold 3 (by kernel_rfl)
                exact r_pure hi rfl rfl (y_move _ s3)
              · obtain rfl := Option.some.inj hi
                have s9 : A.tmps.getD 9 undef = .pointer (some ⟨p9, 0, none⟩) := hold 9 (by kernel_rfl)
                exact r_pure hi rfl rfl (y_load _ _ s9 (HX9.out.belowI hB) Tryz.underlying34 rfl infoTx15)
              · obtain rfl := Option.some.inj hi
                have s52 : A.tmps.getD 52 undef = ptr15 q := dep_of hdeps 0 (by kernel_rfl)
                have s53 : A.tmps.getD 53 undef = .agg #[.int .u8 (x.1 : Int), .int .u32 (x.2.1 : Int), .int .u32 (x.2.2 : Int)] := dep_of hdeps 1 (by kernel_rfl)
                exact r_enter hi rfl rfl (y_call 21 _ #[ptr15 q, .agg #[.int .u8 (x.1 : Int), .int .u32 (x.2.1 : Int), .int .u32 (x.2.2 : Int)]] _ rfl (by simp only [List.map_toArray, List.map_cons, List.map_nil, show A.eval (.tmp 52) = ptr15 q from s52, show A.eval (.tmp 53) = .agg #[.int .u8 (x.1 : Int), .int .u32 (x.2.1 : Int), .int .u32 (x.2.2 : Int)] from s53]; try rfl) en_waits15) (CWa.out w1 hB)
              · obtain rfl := Option.some.inj hi
                have s54 : A.tmps.getD 54 undef = .bool true := dep_of hdeps 2 (by kernel_rfl)
                exact r_pure hi rfl rfl (y_not (a := true) _ _ s54)
              · obtain rfl := Option.some.inj hi
                have s55 : A.tmps.getD 55 undef = .bool false := dep_of hdeps 3 (by kernel_rfl)
                exact r_pure hi rfl rfl (y_move _ s55)
              · obtain rfl := Option.some.inj hi
                have g5 : A.tmps.getD 56 undef = .bool false := dep_of hdeps 4 (by kernel_rfl)
                have s8 : A.tmps.getD 8 undef = .int .i64 (j : Int) := hold 8 (by kernel_rfl)
                exact r_pure hi (wanted_not rfl rfl g5) rfl (y_move _ s8)
              · obtain rfl := Option.some.inj hi
                have g6 : A.tmps.getD 56 undef = .bool false := dep_of hdeps 4 (by kernel_rfl)
                have s57 : A.tmps.getD 57 undef = .int .i64 (j : Int) := dep_of hdeps 5 (by kernel_rfl)
                exact r_pure hi (wanted_not rfl rfl g6) rfl (y_bin _ _ _ _ _ s57 rfl (hgt w1) (by kernel_rfl))
              · obtain rfl := Option.some.inj hi
                have g7 : A.tmps.getD 56 undef = .bool false := dep_of hdeps 4 (by kernel_rfl)
                have s58 : A.tmps.getD 58 undef = .bool true := dep_of hdeps 6 (by kernel_rfl)
                exact r_pure hi (wanted_not rfl rfl g7) rfl (y_move _ s58)
              · obtain rfl := Option.some.inj hi
                have g8 : A.tmps.getD 59 undef = .bool true := dep_of hdeps 7 (by kernel_rfl)
                have s4 : A.tmps.getD 4 undef = .map (some bm2) := hold 4 (by kernel_rfl)
                exact r_pure hi (wanted_of rfl rfl g8) rfl (y_move _ s4)
              · obtain rfl := Option.some.inj hi
                have g9 : A.tmps.getD 59 undef = .bool true := dep_of hdeps 7 (by kernel_rfl)
                have s7 : A.tmps.getD 7 undef = .slice (some ⟨b, off, none⟩) LQ qc := hold 7 (by kernel_rfl)
                exact r_pure hi (wanted_of rfl rfl g9) rfl (y_move _ s7)
              · obtain rfl := Option.some.inj hi
                have g10 : A.tmps.getD 59 undef = .bool true := dep_of hdeps 7 (by kernel_rfl)
                have s8 : A.tmps.getD 8 undef = .int .i64 (j : Int) := hold 8 (by kernel_rfl)
                exact r_pure hi (wanted_of rfl rfl g10) rfl (y_move _ s8)
              · obtain rfl := Option.some.inj hi
                have g11 : A.tmps.getD 59 undef = .bool true := dep_of hdeps 7 (by kernel_rfl)
                have s62 : A.tmps.getD 62 undef = .int .i64 (j : Int) := dep_of hdeps 10 (by kernel_rfl)
                exact r_pure hi (wanted_of rfl rfl g11) rfl (y_bin _ _ _ _ _ s62 rfl (hsub w1) (by kernel_rfl))
              · obtain rfl := Option.some.inj hi
                have g12 : A.tmps.getD 59 undef = .bool true := dep_of hdeps 7 (by kernel_rfl)
                have s61 : A.tmps.getD 61 undef = .slice (some ⟨b, off, none⟩) LQ qc := dep_of hdeps 9 (by kernel_rfl)
                have s63 : A.tmps.getD 63 undef = .int .i64 (m : Int) := dep_of hdeps 11 (by kernel_rfl)
                exact r_pure hi (wanted_of rfl rfl g12) rfl (y_idx15 _ _ s61 s63 hmq)
              · obtain rfl := Option.some.inj hi
                have g13 : A.tmps.getD 59 undef = .bool true := dep_of hdeps 7 (by kernel_rfl)
                have s64 : A.tmps.getD 64 undef = .pointer (some ⟨b, off + m * 3, none⟩) := dep_of hdeps 12 (by kernel_rfl)
                exact r_pure hi (wanted_of rfl rfl g13) rfl (y_loadMid _ _ s64 (HRB.out w1 hB) Tryz.underlying34 rfl infoTx15)
              · obtain rfl := Option.some.inj hi
                have g14 : A.tmps.getD 59 undef = .bool true := dep_of hdeps 7 (by kernel_rfl)
                have s60 : A.tmps.getD 60 undef = .map (some bm2) := dep_of hdeps 8 (by kernel_rfl)
                have s65 : A.tmps.getD 65 undef = .agg (txCs (txI x2)).toArray := dep_of hdeps 13 (by kernel_rfl)
                exact r_pure hi (wanted_of rfl rfl g14) rfl (y_look15 _ _ _ s60 s65 (HL1.out w1 hB))
              · obtain rfl := Option.some.inj hi
                have g15 : A.tmps.getD 59 undef = .bool true := dep_of hdeps 7 (by kernel_rfl)
                have s4 : A.tmps.getD 4 undef = .map (some bm2) := hold 4 (by kernel_rfl)
                exact r_pure hi (wanted_of rfl rfl g15) rfl (y_move _ s4)
              · obtain rfl := Option.some.inj hi
                have g16 : A.tmps.getD 59 undef = .bool true := dep_of hdeps 7 (by kernel_rfl)
                have s9 : A.tmps.getD 9 undef = .pointer (some ⟨p9, 0, none⟩) := hold 9 (by kernel_rfl)
                exact r_pure hi (wanted_of rfl rfl g16) rfl (y_load _ _ s9 (HX9.out.belowI hB) Tryz.underlying34 rfl infoTx15)
              · obtain rfl := Option.some.inj hi
                have g17 : A.tmps.getD 59 undef = .bool true := dep_of hdeps 7 (by kernel_rfl)
                have s67 : A.tmps.getD 67 undef = .map (some bm2) := dep_of hdeps 15 (by kernel_rfl)
                have s68 : A.tmps.getD 68 undef = .agg #[.int .u8 (x.1 : Int), .int .u32 (x.2.1 : Int), .int .u32 (x.2.2 : Int)] := dep_of hdeps 16 (by kernel_rfl)
                exact r_pure hi (wanted_of rfl rfl g17) rfl (y_look15 _ _ _ s67 s68 (HL2.out w1 hB))
              · obtain rfl := Option.some.inj hi
                have g18 : A.tmps.getD 59 undef = .bool true := dep_of hdeps 7 (by kernel_rfl)
                have s66 : A.tmps.getD 66 undef = seV (u2.tm, u2.tx) := dep_of hdeps 14 (by kernel_rfl)
                have s69 : A.tmps.getD 69 undef = seV (u1.tm, u1.tx) := dep_of hdeps 17 (by kernel_rfl)
                exact r_enter hi (wanted_of rfl rfl g18) rfl (y_call 26 _ #[seV (u2.tm, u2.tx), seV (u1.tm, u1.tx)] _ rfl (by simp only [List.map_toArray, List.map_cons, List.map_nil, show A.eval (.tmp 66) = seV (u2.tm, u2.tx) from s66, show A.eval (.tmp 69) = seV (u1.tm, u1.tx) from s69]; try rfl) en_stamps15) (CS.out w1 hB)
              · obtain rfl := Option.some.inj hi
                have g19 : A.tmps.getD 59 undef = .bool true := dep_of hdeps 7 (by kernel_rfl)
                have s70 : A.tmps.getD 70 undef = .int .i64 R := dep_of hdeps 18 (by kernel_rfl)
                exact r_pure hi (wanted_of rfl rfl g19) rfl (y_bin _ _ _ _ _ s70 rfl (hge w1) (by kernel_rfl))
              · obtain rfl := Option.some.inj hi
                have g20 : A.tmps.getD 56 undef = .bool false := dep_of hdeps 4 (by kernel_rfl)
                have s59 : A.tmps.getD 59 undef = .bool true := dep_of hdeps 7 (by kernel_rfl)
                have s71 : A.tmps.getD 71 undef = .bool false := dep_of hdeps 19 (by kernel_rfl)
                exact r_pure hi (wanted_not rfl rfl g20) rfl (y_pickT _ _ _ s59 s71)
              · obtain rfl := Option.some.inj hi
                have s56 : A.tmps.getD 56 undef = .bool false := dep_of hdeps 4 (by kernel_rfl)
                have s72 : A.tmps.getD 72 undef = .bool false := dep_of hdeps 20 (by kernel_rfl)
                exact r_pure hi rfl rfl (y_pickF _ _ _ s56 s72)
            · intro w10 hB10
              simp only [putAll, Act.put, List.setIfInBounds_toArray, List.set_cons_succ, List.set_cons_zero]
              go_wp2_with fail
              go_roundg g4
              case measure => omega
              case rel => exact ⟨j + 1, by omega, by first | rfl | go_num, hide (HBY9.out.trans (hB10.mono HBY9.out.size))⟩
        | zero =>
          obtain rfl : j = LQ := by omega
          have hz4 : ¬ ((j : Int) < (j : Int)) := by omega
          have HN9 := hide (HN8.out.below H HBY.out)
          have HM9 := hide (HM8.out.below HBY.out)
          have HX9 := hide (HX8.out.belowI HBY.out)
          by_cases h0 : j = 0
          · have hz0 : (j : Int) = 0 := by omega
            go_wp2_with fail
            go_roundg g
            case measure => omega
            case rel => exact ⟨k + 1, C2, bm2, nm2, F2, l2, by omega, rfl, by first | rfl | go_num, hC3, HI2, HN9, HM9, HNB7⟩
          · have hz0 : ¬ (j : Int) = 0 := by omega
            have h0n : 0 < qs.length := by rw [← HLQ.out]; omega
            obtain ⟨x0, hx0⟩ : ∃ x0, x0 = qs[0] := ⟨_, rfl⟩
            have HX0 : Hid (getU l2 x0 ∈ l2 ∧ (getU l2 x0).tx = x0 ∧ (getU l2 x0).w a.k ≠ 0) := hide (que_user HI2.out.b (by rw [hx0, ← HQE.out]; exact List.getElem_mem h0n))
            have HT0 : Hid (TxB x0) := hide (by rw [← HX0.out.2.1]; exact (HI2.out.b.oks _ HX0.out.1).1)
            have HBA : Hid (blkB l2 a.k x0 l2.length = true) := hide (by
              have e1 : x0 = (queU l2 a.k)[0]'(by rw [← HQE.out]; exact h0n) := by rw [hx0]; exact getElem_congr_coll HQE.out
              rw [e1]
              exact blk_all HI2.out (by rw [← HQE.out]; exact h0n))
            obtain ⟨en, b, off, e9, hb, hcl⟩ := (HQS.out.below HBY.out).at (K := 3) (fun _ => rfl) h0n
            subst e9
            rw [← hx0] at hcl
            have HQ0 : Hid (∀ W, Below wr.heap.size wr W → W.rangeAt b (off + 0 * 3) (txCs (txI x0))) := hide (fun W hW j v hv => by
              rw [← hcl j v hv]
              exact hW.cell (p := ⟨b, off + 0 * 3 + j, none⟩) hb)
            have CU := hide (H.users HN9.out.d)
            obtain ⟨LL, hLL⟩ : ∃ LL, LL = l2.length := ⟨_, rfl⟩
            have hLm : LL ≤ 64 := by rw [hLL]; exact HI2.out.b.few
            have HLL := hide hLL
            have hj9 : 0 < j := by omega
            clear hLL hcl hb en hx0 h0
            go_wp2_with (go_at_call 15; refine CU.out.mono ?_; rintro e w10 ⟨vu, rfl, hou, hB10⟩; have HSU := hide (src_users hou); obtain ⟨ua, uc, e7, _⟩ := owns_shapeR hou; rw [← HLL.out] at e7; subst e7; have HN10 := hide (HN9.out.below H hB10); have HM10 := hide (HM9.out.below hB10); have HX10 := hide (HX9.out.belowI hB10); have HQ10 : Hid (∀ W, Below w10.heap.size w10 W → W.rangeAt b (off + 0 * 3) (txCs (txI x0))) := hide (fun W hW => HQ0.out W (hB10.trans (hW.mono hB10.size))); clear hou hB10)
            clear CU HN9 HM9 HX9 HQ0
            go_loopg [10, 81] LL (fun g s10 i Y => ∃ (t : Nat) (bk : Bool), t + g = LL ∧ s10 = .bool bk ∧ i = .int .i64 t ∧ Hid (bk = blkB l2 a.k x0 t) ∧ Hid (Below w10.heap.size w10 Y))
            case atStart => exact ⟨0, false, by omega, rfl, rfl, hide (by simp [blkB]), hide (Below.refl _ _)⟩
            case round =>
              obtain ⟨t, bk, ht, rfl, rfl, HBK, HBZ⟩ := hrel
              cases gk with
              | zero =>
                obtain rfl : t = LL := by omega
                have hz5 : ¬ ((t : Int) < (t : Int)) := by omega
                have hbk : bk = true := by rw [HBK.out, HLL.out]; exact HBA.out
                subst hbk
                go_wp2_with fail
                go_roundg g
                case measure => omega
                case rel => exact ⟨k + 1, C2, bm2, nm2, F2, l2, by omega, rfl, by first | rfl | go_num, hC3, HI2, hide (HN10.out.below H HBZ.out), hide (HM10.out.below HBZ.out), HNB7⟩
              | succ g5 =>
                have hz5 : (t : Int) < (LL : Int) := by omega
                have htn : t < l2.length := by rw [← HLL.out]; omega
                obtain ⟨en, b5, off5, e9, hb, hcl⟩ := (HSU.out.below HBZ.out).at (K := 3) (fun _ => rfl) htn
                subst e9
                have HRg : Hid (wr.rangeAt b5 (off5 + t * 3) (txCs (txI l2[t].tx))) := hide (fun j v hv => hcl j v hv)
                have HYM : Hid (l2[t] ∈ l2) := hide (List.getElem_mem htn)
                have HBS := hide (blk_step (k := a.k) (t := x0) htn rfl)
                generalize l2[t] = y at *
                have HTY : Hid (TxB y.tx) := hide (HI2.out.b.oks _ HYM.out).1
                have HGU : Hid (getU l2 y.tx = y) := hide (getU_of HI2.out.b HYM.out)
                clear hcl hb en
                have HKZ := hide (act_key (HX10.out.belowI HBZ.out))
                have HZ := hide (box_new wr #[.int .u8 0, .int .u32 0, .int .u32 0] 34)
                have HZB : Hid (Below wr.heap.size wr (wr.alloc (.cells #[.int .u8 0, .int .u32 0, .int .u32 0] 34))) := hide (alloc_below14 wr _)
                go_wp2_with (first | (refine wpList_load_mid rfl 34 _ rfl b5 (off5 + t * 3) rfl (txCs (txI y.tx)) _ HRg.out Tryz.underlying34 rfl infoTx15 ?_) | (refine wp_store_box rfl rfl _ _ rfl wr.heap.size rfl (cs' := #[.int .u8 (y.tx.1 : Int), .int .u32 (y.tx.2.1 : Int), .int .u32 (y.tx.2.2 : Int)]) rfl HZ.out rfl infoTx15 (by simp [Value.oneCell']) ?_; intro w11 hb3 hk3; have HX11 := hide hb3; have HB11 : Hid (Below wr.heap.size wr w11) := hide (HZB.out.trans (hk3.below HZB.out.size (fun k hk => by omega))); have HK11 := hide (act_key ((HX10.out.belowI HBZ.out).belowI HB11.out)); clear hb3 hk3) | (refine wp_load_box rfl _ rfl wr.heap.size rfl HX11.out Tryz.underlying34 rfl infoTx15 ?_) | (refine wpList_load_mid rfl 38 _ rfl p5 5 rfl (eightE a.k.1) _ HK11.out Tryz.underlying38 rfl infoKey15 ?_))
                obtain ⟨p12, hp12⟩ : ∃ p12, p12 = wr.heap.size := ⟨_, rfl⟩
                rw [← hp12] at HX11 ⊢
                have CM := hide (H.mode y.tx a.k ((HN10.out.below H HBZ.out).below H HB11.out).d HTY.out)
                rw [HGU.out] at CM
                obtain ⟨M, hM⟩ : ∃ M, M = y.h a.k := ⟨_, rfl⟩
                rw [← hM] at CM
                refine CM.out.mono ?_
                rintro e w12 ⟨rfl, hB12⟩
                have HXb := hide (HX11.out.belowI hB12)
                have HB12 := hide (HB11.out.trans (hB12.mono HB11.out.size))
                have HQb : Hid (∀ W, Below w12.heap.size w12 W → W.rangeAt b (off + 0 * 3) (txCs (txI x0))) := hide (fun W hW => HQ10.out W ((HBZ.out.trans (HB12.out.mono HBZ.out.size)).trans (hW.mono (HBZ.out.trans (HB12.out.mono HBZ.out.size)).size)))
                have HMY := hide hM
                clear hp12 CM HX11 HB11 HZ HZB HRg HKZ HK11 hB12 hM
                by_cases hM0 : M = 0
                · have heq0 := fun W => eql_u815 (M : Int) 0 true W (by rw [hM0]; rfl)
                  have HM0 := hide hM0
                  clear hM0
                  go_wp2_with fail
                  refine wp_region_vals (by kernel_rfl) [(90, .int .u8 (M : Int)), (91, .bool true), (92, .bool true), (93, undef), (94, undef), (95, undef), (96, undef), (97, undef), (98, .bool true)] (by kernel_rfl) rfl ?_ ?_
                  · intro i o hi A w1 hB hold hdeps
                    have hlt : i < 9 := (Array.getElem?_eq_some_iff.1 hi).1
                    have hc : i = 0 ∨ i = 1 ∨ i = 2 ∨ i = 3 ∨ i = 4 ∨ i = 5 ∨ i = 6 ∨ i = 7 ∨ i = 8 := by omega
                    clear hlt
                    rcases hc with rfl | rfl | rfl | rfl | rfl | rfl | rfl | rfl | rfl
                    · obtain rfl := Option.some.inj hi
                      have s13 : A.tmps.getD 13 undef = .int .u8 (M : Int) := hold 13 (by kernel_rfl)
                      exact r_pure hi rfl rfl (y_move _ s13)
                    · obtain rfl := Option.some.inj hi
                      have s90 : A.tmps.getD 90 undef = .int .u8 (M : Int) := dep_of hdeps 0 (by kernel_rfl)
                      exact r_pure hi rfl rfl (y_bin _ _ _ _ _ s90 rfl (heq0 w1) (by kernel_rfl))
                    · obtain rfl := Option.some.inj hi
                      have s91 : A.tmps.getD 91 undef = .bool true := dep_of hdeps 1 (by kernel_rfl)
                      exact r_pure hi rfl rfl (y_move _ s91)
                    · obtain rfl := Option.some.inj hi
                      have g3 : A.tmps.getD 92 undef = .bool true := dep_of hdeps 2 (by kernel_rfl)
                      exact each_skip hi rfl rfl (fun e => absurd (g3.symm.trans e) (by simp)) rfl
                    · obtain rfl := Option.some.inj hi
                      have g4 : A.tmps.getD 92 undef = .bool true := dep_of hdeps 2 (by kernel_rfl)
                      exact each_skip hi rfl rfl (fun e => absurd (g4.symm.trans e) (by simp)) rfl
                    · obtain rfl := Option.some.inj hi
                      have g5 : A.tmps.getD 92 undef = .bool true := dep_of hdeps 2 (by kernel_rfl)
                      exact each_skip hi rfl rfl (fun e => absurd (g5.symm.trans e) (by simp)) rfl
                    · obtain rfl := Option.some.inj hi
                      have g6 : A.tmps.getD 92 undef = .bool true := dep_of hdeps 2 (by kernel_rfl)
                      exact each_skip hi rfl rfl (fun e => absurd (g6.symm.trans e) (by simp)) rfl
                    · obtain rfl := Option.some.inj hi
                      have g7 : A.tmps.getD 92 undef = .bool true := dep_of hdeps 2 (by kernel_rfl)
                      exact each_skip hi rfl rfl (fun e => absurd (g7.symm.trans e) (by simp)) rfl
                    · obtain rfl := Option.some.inj hi
                      have s92 : A.tmps.getD 92 undef = .bool true := dep_of hdeps 2 (by kernel_rfl)
                      exact r_pure hi rfl rfl (y_pickT _ _ _ s92 rfl)
                  · intro w13 hB13
                    simp only [putAll, Act.put, List.setIfInBounds_toArray, List.set_cons_succ, List.set_cons_zero]
                    go_wp2_with fail
                    go_roundg g5
                    case measure => omega
                    case rel => exact ⟨t + 1, bk, by omega, rfl, by first | rfl | go_num, hide (by rw [HBS.out, ← HBK.out, ← HMY.out]; simp [HM0.out]), hide (HBZ.out.trans ((HB12.out.trans (hB13.mono HB12.out.size)).mono HBZ.out.size))⟩
                · have heq0 := fun W => eql_u815 (M : Int) 0 false W (by simpa using hM0)
                  by_cases hes : y.tx = x0
                  · have hez := fun W => (eql_tx15 y.tx x0 W).trans (by rw [decide_eq_true hes])
                    go_wp2_with fail
                    refine wp_region_vals (by kernel_rfl) [(90, .int .u8 (M : Int)), (91, .bool false), (92, .bool false), (93, .agg #[.int .u8 (y.tx.1 : Int), .int .u32 (y.tx.2.1 : Int), .int .u32 (y.tx.2.2 : Int)]), (94, .slice (some ⟨b, off, none⟩) j qc), (95, .pointer (some ⟨b, off + 0 * 3, none⟩)), (96, .agg (txCs (txI x0)).toArray), (97, .bool true), (98, .bool true)] (by kernel_rfl) rfl ?_ ?_
                    · intro i o hi A w1 hB hold hdeps
                      have hlt : i < 9 := (Array.getElem?_eq_some_iff.1 hi).1
                      have hc : i = 0 ∨ i = 1 ∨ i = 2 ∨ i = 3 ∨ i = 4 ∨ i = 5 ∨ i = 6 ∨ i = 7 ∨ i = 8 := by omega
                      clear hlt
                      rcases hc with rfl | rfl | rfl | rfl | rfl | rfl | rfl | rfl | rfl
                      · obtain rfl := Option.some.inj hi
                        have s13 : A.tmps.getD 13 undef = .int .u8 (M : Int) := hold 13 (by kernel_rfl)
                        exact r_pure hi rfl rfl (y_move _ s13)
                      · obtain rfl := Option.some.inj hi
                        have s90 : A.tmps.getD 90 undef = .int .u8 (M : Int) := dep_of hdeps 0 (by kernel_rfl)
                        exact r_pure hi rfl rfl (y_bin _ _ _ _ _ s90 rfl (heq0 w1) (by kernel_rfl))
                      · obtain rfl := Option.some.inj hi
                        have s91 : A.tmps.getD 91 undef = .bool false := dep_of hdeps 1 (by kernel_rfl)
                        exact r_pure hi rfl rfl (y_move _ s91)
                      · obtain rfl := Option.some.inj hi
                        have g3 : A.tmps.getD 92 undef = .bool false := dep_of hdeps 2 (by kernel_rfl)
                        have s12 : A.tmps.getD 12 undef = .pointer (some ⟨p12, 0, none⟩) := hold 12 (by kernel_rfl)
                        exact r_pure hi (wanted_not rfl rfl g3) rfl (y_load _ _ s12 (HXb.out.belowI hB) Tryz.underlying34 rfl infoTx15)
                      · obtain rfl := Option.some.inj hi
                        have g4 : A.tmps.getD 92 undef = .bool false := dep_of hdeps 2 (by kernel_rfl)
                        have s7 : A.tmps.getD 7 undef = .slice (some ⟨b, off, none⟩) j qc := hold 7 (by kernel_rfl)
                        exact r_pure hi (wanted_not rfl rfl g4) rfl (y_move _ s7)
                      · obtain rfl := Option.some.inj hi
                        have g5 : A.tmps.getD 92 undef = .bool false := dep_of hdeps 2 (by kernel_rfl)
                        have s94 : A.tmps.getD 94 undef = .slice (some ⟨b, off, none⟩) j qc := dep_of hdeps 4 (by kernel_rfl)
                        exact r_pure hi (wanted_not rfl rfl g5) rfl (y_idx15 (j := 0) _ _ s94 rfl hj9)
                      · obtain rfl := Option.some.inj hi
                        have g6 : A.tmps.getD 92 undef = .bool false := dep_of hdeps 2 (by kernel_rfl)
                        have s95 : A.tmps.getD 95 undef = .pointer (some ⟨b, off + 0 * 3, none⟩) := dep_of hdeps 5 (by kernel_rfl)
                        exact r_pure hi (wanted_not rfl rfl g6) rfl (y_loadMid _ _ s95 (HQb.out w1 hB) Tryz.underlying34 rfl infoTx15)
                      · obtain rfl := Option.some.inj hi
                        have g7 : A.tmps.getD 92 undef = .bool false := dep_of hdeps 2 (by kernel_rfl)
                        have s93 : A.tmps.getD 93 undef = .agg #[.int .u8 (y.tx.1 : Int), .int .u32 (y.tx.2.1 : Int), .int .u32 (y.tx.2.2 : Int)] := dep_of hdeps 3 (by kernel_rfl)
                        have s96 : A.tmps.getD 96 undef = .agg (txCs (txI x0)).toArray := dep_of hdeps 6 (by kernel_rfl)
                        exact r_pure hi (wanted_not rfl rfl g7) rfl (y_bin _ _ _ _ _ s93 s96 (hez w1) (by kernel_rfl))
                      · obtain rfl := Option.some.inj hi
                        have s92 : A.tmps.getD 92 undef = .bool false := dep_of hdeps 2 (by kernel_rfl)
                        have s97 : A.tmps.getD 97 undef = .bool true := dep_of hdeps 7 (by kernel_rfl)
                        exact r_pure hi rfl rfl (y_pickF _ _ _ s92 s97)
                    · intro w13 hB13
                      simp only [putAll, Act.put, List.setIfInBounds_toArray, List.set_cons_succ, List.set_cons_zero]
                      go_wp2_with fail
                      go_roundg g5
                      case measure => omega
                      case rel => exact ⟨t + 1, bk, by omega, rfl, by first | rfl | go_num, hide (by rw [HBS.out, ← HBK.out]; simp [hes]), hide (HBZ.out.trans ((HB12.out.trans (hB13.mono HB12.out.size)).mono HBZ.out.size))⟩
                  · have hez := fun W => (eql_tx15 y.tx x0 W).trans (by rw [decide_eq_false hes])
                    have HES := hide hes
                    have HBT : Hid (true = blkB l2 a.k x0 (t + 1)) := hide (by rw [HBS.out, ← HMY.out]; simp [hM0, hes])
                    clear hes
                    go_wp2_with fail
                    refine wp_region_vals (by kernel_rfl) [(90, .int .u8 (M : Int)), (91, .bool false), (92, .bool false), (93, .agg #[.int .u8 (y.tx.1 : Int), .int .u32 (y.tx.2.1 : Int), .int .u32 (y.tx.2.2 : Int)]), (94, .slice (some ⟨b, off, none⟩) j qc), (95, .pointer (some ⟨b, off + 0 * 3, none⟩)), (96, .agg (txCs (txI x0)).toArray), (97, .bool false), (98, .bool false)] (by kernel_rfl) rfl ?_ ?_
                    · intro i o hi A w1 hB hold hdeps
                      have hlt : i < 9 := (Array.getElem?_eq_some_iff.1 hi).1
                      have hc : i = 0 ∨ i = 1 ∨ i = 2 ∨ i = 3 ∨ i = 4 ∨ i = 5 ∨ i = 6 ∨ i = 7 ∨ i = 8 := by omega
                      clear hlt
                      rcases hc with rfl | rfl | rfl | rfl | rfl | rfl | rfl | rfl | rfl
                      · obtain rfl := Option.some.inj hi
                        have s13 : A.tmps.getD 13 undef = .int .u8 (M : Int) := hold 13 (by kernel_rfl)
                        exact r_pure hi rfl rfl (y_move _ s13)
                      · obtain rfl := Option.some.inj hi
                        have s90 : A.tmps.getD 90 undef = .int .u8 (M : Int) := dep_of hdeps 0 (by kernel_rfl)
                        exact r_pure hi rfl rfl (y_bin _ _ _ _ _ s90 rfl (heq0 w1) (by kernel_rfl))
                      · obtain rfl := Option.some.inj hi
                        have s91 : A.tmps.getD 91 undef = .bool false := dep_of hdeps 1 (by kernel_rfl)
                        exact r_pure hi rfl rfl (y_move _ s91)
                      · obtain rfl := Option.some.inj hi
                        have g3 : A.tmps.getD 92 undef = .bool false := dep_of hdeps 2 (by kernel_rfl)
                        have s12 : A.tmps.getD 12 undef = .pointer (some ⟨p12, 0, none⟩) := hold 12 (by kernel_rfl)
                        exact r_pure hi (wanted_not rfl rfl g3) rfl (y_load _ _ s12 (HXb.out.belowI hB) Tryz.underlying34 rfl infoTx15)
                      · obtain rfl := Option.some.inj hi
                        have g4 : A.tmps.getD 92 undef = .bool false := dep_of hdeps 2 (by kernel_rfl)
                        have s7 : A.tmps.getD 7 undef = .slice (some ⟨b, off, none⟩) j qc := hold 7 (by kernel_rfl)
                        exact r_pure hi (wanted_not rfl rfl g4) rfl (y_move _ s7)
                      · obtain rfl := Option.some.inj hi
                        have g5 : A.tmps.getD 92 undef = .bool false := dep_of hdeps 2 (by kernel_rfl)
                        have s94 : A.tmps.getD 94 undef = .slice (some ⟨b, off, none⟩) j qc := dep_of hdeps 4 (by kernel_rfl)
                        exact r_pure hi (wanted_not rfl rfl g5) rfl (y_idx15 (j := 0) _ _ s94 rfl hj9)
                      · obtain rfl := Option.some.inj hi
                        have g6 : A.tmps.getD 92 undef = .bool false := dep_of hdeps 2 (by kernel_rfl)
                        have s95 : A.tmps.getD 95 undef = .pointer (some ⟨b, off + 0 * 3, none⟩) := dep_of hdeps 5 (by kernel_rfl)
                        exact r_pure hi (wanted_not rfl rfl g6) rfl (y_loadMid _ _ s95 (HQb.out w1 hB) Tryz.underlying34 rfl infoTx15)
                      · obtain rfl := Option.some.inj hi
                        have g7 : A.tmps.getD 92 undef = .bool false := dep_of hdeps 2 (by kernel_rfl)
                        have s93 : A.tmps.getD 93 undef = .agg #[.int .u8 (y.tx.1 : Int), .int .u32 (y.tx.2.1 : Int), .int .u32 (y.tx.2.2 : Int)] := dep_of hdeps 3 (by kernel_rfl)
                        have s96 : A.tmps.getD 96 undef = .agg (txCs (txI x0)).toArray := dep_of hdeps 6 (by kernel_rfl)
                        exact r_pure hi (wanted_not rfl rfl g7) rfl (y_bin _ _ _ _ _ s93 s96 (hez w1) (by kernel_rfl))
                      · obtain rfl := Option.some.inj hi
                        have s92 : A.tmps.getD 92 undef = .bool false := dep_of hdeps 2 (by kernel_rfl)
                        have s97 : A.tmps.getD 97 undef = .bool false := dep_of hdeps 7 (by kernel_rfl)
                        exact r_pure hi rfl rfl (y_pickF _ _ _ s92 s97)
                    · intro w13 hB13
                      simp only [putAll, Act.put, List.setIfInBounds_toArray, List.set_cons_succ, List.set_cons_zero]
                      replace HXb := hide (HXb.out.belowI hB13)
                      replace HB12 := hide (HB12.out.trans (hB13.mono HB12.out.size))
                      replace HQb : Hid (∀ W, Below w13.heap.size w13 W → W.rangeAt b (off + 0 * 3) (txCs (txI x0))) := hide (fun W hW => HQb.out W (hB13.trans (hW.mono hB13.size)))
                      have HNb := hide (HN10.out.below H (HBZ.out.trans (HB12.out.mono HBZ.out.size)))
                      have HMb := hide (HM10.out.below (HBZ.out.trans (HB12.out.mono HBZ.out.size)))
                      clear hB13 heq0 hez hM0
                      by_cases hM2 : M = 2
                      · have heq2 := fun W => eql_u815 (M : Int) 2 true W (by rw [hM2]; rfl)
                        have hold : y.pr = true ∨ Old y (getU l2 x0) := hold_old HI2.out HX0.out.1 HYM.out HX0.out.2.2 (fun e => HES.out (e.trans HX0.out.2.1)) (by rw [← HMY.out]; exact hM2)
                        clear hM2
                        have CP := hide (fun W (hW : Below w13.heap.size w13 W) => H.prepd y.tx (HNb.out.below H hW).d HTY.out)
                        rw [HGU.out] at CP
                        obtain ⟨pb, hpb⟩ : ∃ pb, pb = y.pr := ⟨_, rfl⟩
                        rw [← hpb] at CP hold
                        cases pb with
                        | true =>
                          have CPr : Hid (∀ W, Below w13.heap.size w13 W → Calls Tryz.prog 23 #[ptr15 q, txVN y.tx] W fun e w' => e = .returned (.bool true) ∧ Below W.heap.size W w') := hide (fun W hW => CP.out W hW)
                          clear CP hold
                          go_wp2_with fail
                          refine wp_region_vals (by kernel_rfl) [(99, .int .u8 (M : Int)), (100, .bool true), (101, .bool true), (102, ptr15 q), (103, .agg #[.int .u8 (y.tx.1 : Int), .int .u32 (y.tx.2.1 : Int), .int .u32 (y.tx.2.2 : Int)]), (104, .bool true), (105, .bool false), (106, .bool false), (107, .bool false), (108, undef), (109, undef), (110, undef), (111, undef), (112, undef), (113, undef), (114, undef), (115, undef), (116, undef), (117, undef), (118, .bool false)] (by kernel_rfl) rfl ?_ ?_
                          · intro i o hi A w1 hB hold hdeps
                            have hlt : i < 20 := (Array.getElem?_eq_some_iff.1 hi).1
                            have hc : i = 0 ∨ i = 1 ∨ i = 2 ∨ i = 3 ∨ i = 4 ∨ i = 5 ∨ i = 6 ∨ i = 7 ∨ i = 8 ∨ i = 9 ∨ i = 10 ∨ i = 11 ∨ i = 12 ∨ i = 13 ∨ i = 14 ∨ i = 15 ∨ i = 16 ∨ i = 17 ∨ i = 18 ∨ i = 19 := by omega
                            clear hlt
                            rcases hc with rfl | rfl | rfl | rfl | rfl | rfl | rfl | rfl | rfl | rfl | rfl | rfl | rfl | rfl | rfl | rfl | rfl | rfl | rfl | rfl
                            · obtain rfl := Option.some.inj hi
                              have s13 : A.tmps.getD 13 undef = .int .u8 (M : Int) := hold 13 (by kernel_rfl)
                              exact r_pure hi rfl rfl (y_move _ s13)
                            · obtain rfl := Option.some.inj hi
                              have s99 : A.tmps.getD 99 undef = .int .u8 (M : Int) := dep_of hdeps 0 (by kernel_rfl)
                              exact r_pure hi rfl rfl (y_bin _ _ _ _ _ s99 rfl (heq2 w1) (by kernel_rfl))
                            · obtain rfl := Option.some.inj hi
                              have s100 : A.tmps.getD 100 undef = .bool true := dep_of hdeps 1 (by kernel_rfl)
                              exact r_pure hi rfl rfl (y_move _ s100)
                            · obtain rfl := Option.some.inj hi
                              have g3 : A.tmps.getD 101 undef = .bool true := dep_of hdeps 2 (by kernel_rfl)
                              have s3 : A.tmps.getD 3 undef = ptr15 q := hold 3 (by kernel_rfl)
                              exact r_pure hi (wanted_of rfl rfl g3) rfl (y_move _ s3)
                            · obtain rfl := Option.some.inj hi
                              have g4 : A.tmps.getD 101 undef = .bool true := dep_of hdeps 2 (by kernel_rfl)
                              have s12 : A.tmps.getD 12 undef = .pointer (some ⟨p12, 0, none⟩) := hold 12 (by kernel_rfl)
                              exact r_pure hi (wanted_of rfl rfl g4) rfl (y_load _ _ s12 (HXb.out.belowI hB) Tryz.underlying34 rfl infoTx15)
                            · obtain rfl := Option.some.inj hi
                              have g5 : A.tmps.getD 101 undef = .bool true := dep_of hdeps 2 (by kernel_rfl)
                              have s102 : A.tmps.getD 102 undef = ptr15 q := dep_of hdeps 3 (by kernel_rfl)
                              have s103 : A.tmps.getD 103 undef = .agg #[.int .u8 (y.tx.1 : Int), .int .u32 (y.tx.2.1 : Int), .int .u32 (y.tx.2.2 : Int)] := dep_of hdeps 4 (by kernel_rfl)
                              exact r_enter hi (wanted_of rfl rfl g5) rfl (y_call 23 _ #[ptr15 q, .agg #[.int .u8 (y.tx.1 : Int), .int .u32 (y.tx.2.1 : Int), .int .u32 (y.tx.2.2 : Int)]] _ rfl (by simp only [List.map_toArray, List.map_cons, List.map_nil, show A.eval (.tmp 102) = ptr15 q from s102, show A.eval (.tmp 103) = .agg #[.int .u8 (y.tx.1 : Int), .int .u32 (y.tx.2.1 : Int), .int .u32 (y.tx.2.2 : Int)] from s103]; try rfl) en_prepd15) (CPr.out w1 hB)
                            · obtain rfl := Option.some.inj hi
                              have g6 : A.tmps.getD 101 undef = .bool true := dep_of hdeps 2 (by kernel_rfl)
                              have s104 : A.tmps.getD 104 undef = .bool true := dep_of hdeps 5 (by kernel_rfl)
                              exact r_pure hi (wanted_of rfl rfl g6) rfl (y_not (a := true) _ _ s104)
                            · obtain rfl := Option.some.inj hi
                              have s101 : A.tmps.getD 101 undef = .bool true := dep_of hdeps 2 (by kernel_rfl)
                              have s105 : A.tmps.getD 105 undef = .bool false := dep_of hdeps 6 (by kernel_rfl)
                              exact r_pure hi rfl rfl (y_pickT _ _ _ s101 s105)
                            · obtain rfl := Option.some.inj hi
                              have s106 : A.tmps.getD 106 undef = .bool false := dep_of hdeps 7 (by kernel_rfl)
                              exact r_pure hi rfl rfl (y_move _ s106)
                            · obtain rfl := Option.some.inj hi
                              have g9 : A.tmps.getD 107 undef = .bool false := dep_of hdeps 8 (by kernel_rfl)
                              exact each_skip hi rfl rfl (fun e => absurd (g9.symm.trans e) (by simp)) rfl
                            · obtain rfl := Option.some.inj hi
                              have g10 : A.tmps.getD 107 undef = .bool false := dep_of hdeps 8 (by kernel_rfl)
                              exact each_skip hi rfl rfl (fun e => absurd (g10.symm.trans e) (by simp)) rfl
                            · obtain rfl := Option.some.inj hi
                              have g11 : A.tmps.getD 107 undef = .bool false := dep_of hdeps 8 (by kernel_rfl)
                              exact each_skip hi rfl rfl (fun e => absurd (g11.symm.trans e) (by simp)) rfl
                            · obtain rfl := Option.some.inj hi
                              have g12 : A.tmps.getD 107 undef = .bool false := dep_of hdeps 8 (by kernel_rfl)
                              exact each_skip hi rfl rfl (fun e => absurd (g12.symm.trans e) (by simp)) rfl
                            · obtain rfl := Option.some.inj hi
                              have g13 : A.tmps.getD 107 undef = .bool false := dep_of hdeps 8 (by kernel_rfl)
                              exact each_skip hi rfl rfl (fun e => absurd (g13.symm.trans e) (by simp)) rfl
                            · obtain rfl := Option.some.inj hi
                              have g14 : A.tmps.getD 107 undef = .bool false := dep_of hdeps 8 (by kernel_rfl)
                              exact each_skip hi rfl rfl (fun e => absurd (g14.symm.trans e) (by simp)) rfl
                            · obtain rfl := Option.some.inj hi
                              have g15 : A.tmps.getD 107 undef = .bool false := dep_of hdeps 8 (by kernel_rfl)
                              exact each_skip hi rfl rfl (fun e => absurd (g15.symm.trans e) (by simp)) rfl
                            · obtain rfl := Option.some.inj hi
                              have g16 : A.tmps.getD 107 undef = .bool false := dep_of hdeps 8 (by kernel_rfl)
                              exact each_skip hi rfl rfl (fun e => absurd (g16.symm.trans e) (by simp)) rfl
                            · obtain rfl := Option.some.inj hi
                              have g17 : A.tmps.getD 107 undef = .bool false := dep_of hdeps 8 (by kernel_rfl)
                              exact each_skip hi rfl rfl (fun e => absurd (g17.symm.trans e) (by simp)) rfl
                            · obtain rfl := Option.some.inj hi
                              have g18 : A.tmps.getD 107 undef = .bool false := dep_of hdeps 8 (by kernel_rfl)
                              exact each_skip hi rfl rfl (fun e => absurd (g18.symm.trans e) (by simp)) rfl
                            · obtain rfl := Option.some.inj hi
                              have s107 : A.tmps.getD 107 undef = .bool false := dep_of hdeps 8 (by kernel_rfl)
                              exact r_pure hi rfl rfl (y_pickF _ _ _ s107 rfl)
                          · intro w14 hB14
                            simp only [putAll, Act.put, List.setIfInBounds_toArray, List.set_cons_succ, List.set_cons_zero]
                            go_wp2_with fail
                            go_roundg g5
                            case measure => omega
                            case rel => exact ⟨t + 1, true, by omega, rfl, by first | rfl | go_num, hide (HBT.out), hide (HBZ.out.trans ((HB12.out.trans (hB14.mono HB12.out.size)).mono HBZ.out.size))⟩
                        | false =>
                          have CPr : Hid (∀ W, Below w13.heap.size w13 W → Calls Tryz.prog 23 #[ptr15 q, txVN y.tx] W fun e w' => e = .returned (.bool false) ∧ Below W.heap.size W w') := hide (fun W hW => CP.out W hW)
                          have HOL : Hid (Old y (getU l2 x0)) := hide (hold.resolve_left (by simp))
                          have hag1 := ageG_of HI2.out.b HYM.out HTY.out
                          have hag2 := ageG_get HI2.out HT0.out HX0.out.1 HX0.out.2.1
                          have HT0u : Hid (TxB (getU l2 x0).tx) := hide (HI2.out.b.oks _ HX0.out.1).1
                          obtain ⟨u0, hu0⟩ : ∃ u0, u0 = getU l2 x0 := ⟨_, rfl⟩
                          rw [← hu0] at hag2 HOL HT0u
                          have HL1 : Hid (∀ W, Below w13.heap.size w13 W → (Instr.lookup 63 (.map (some bm2)) (txVN y.tx) false).run Tryz.prog W = .ok (seV (y.tm, y.tx)) W) := hide (fun W hW => by
                            have := (HMb.out.below hW).look1 smTy ⟨y.tx, HTY.out⟩
                            rw [hag1] at this
                            exact this)
                          have HL2 : Hid (∀ W, Below w13.heap.size w13 W → (Instr.lookup 63 (.map (some bm2)) (txVN x0) false).run Tryz.prog W = .ok (seV (u0.tm, u0.tx)) W) := hide (fun W hW => by
                            have := (HMb.out.below hW).look1 smTy ⟨x0, HT0.out⟩
                            rw [hag2] at this
                            exact this)
                          obtain ⟨R, hR⟩ : ∃ R, R = stsF ((y.tm : Int), (y.tx.1 : Int), (y.tx.2.1 : Int), (y.tx.2.2 : Int)) ((u0.tm : Int), (u0.tx.1 : Int), (u0.tx.2.1 : Int), (u0.tx.2.2 : Int)) := ⟨_, rfl⟩
                          have hRn : R < 0 := by rw [hR]; exact HOL.out
                          have CS : Hid (∀ W, Below w13.heap.size w13 W → Calls Tryz.prog 26 #[seV (y.tm, y.tx), seV (u0.tm, u0.tx)] W fun e w' => e = .returned (.int .i64 R) ∧ Below W.heap.size W w') := hide (fun W _ => by
                            have := rstamps_any (y.tm : Int) (y.tx.1 : Int) (y.tx.2.1 : Int) (y.tx.2.2 : Int) (u0.tm : Int) (u0.tx.1 : Int) (u0.tx.2.1 : Int) (u0.tx.2.2 : Int) W (by omega) (by have := HTY.out.1; omega) (by omega) (by have := HT0u.out.1; omega)
                            rw [← hR] at this
                            exact this)
                          have hgt := fun W => gtr_int15 R 0 false W (decide_eq_false (by omega))
                          clear CP hold hag1 hag2 hR hu0 HOL
                          go_wp2_with fail
                          refine wp_region_vals (by kernel_rfl) [(99, .int .u8 (M : Int)), (100, .bool true), (101, .bool true), (102, ptr15 q), (103, .agg #[.int .u8 (y.tx.1 : Int), .int .u32 (y.tx.2.1 : Int), .int .u32 (y.tx.2.2 : Int)]), (104, .bool false), (105, .bool true), (106, .bool true), (107, .bool true), (108, .map (some bm2)), (109, .agg #[.int .u8 (y.tx.1 : Int), .int .u32 (y.tx.2.1 : Int), .int .u32 (y.tx.2.2 : Int)]), (110, seV (y.tm, y.tx)), (111, .map (some bm2)), (112, .slice (some ⟨b, off, none⟩) j qc), (113, .pointer (some ⟨b, off + 0 * 3, none⟩)), (114, .agg (txCs (txI x0)).toArray), (115, seV (u0.tm, u0.tx)), (116, .int .i64 R), (117, .bool false), (118, .bool false)] (by kernel_rfl) rfl ?_ ?_
                          · intro i o hi A w1 hB hold hdeps
                            have hlt : i < 20 := (Array.getElem?_eq_some_iff.1 hi).1
                            have hc : i = 0 ∨ i = 1 ∨ i = 2 ∨ i = 3 ∨ i = 4 ∨ i = 5 ∨ i = 6 ∨ i = 7 ∨ i = 8 ∨ i = 9 ∨ i = 10 ∨ i = 11 ∨ i = 12 ∨ i = 13 ∨ i = 14 ∨ i = 15 ∨ i = 16 ∨ i = 17 ∨ i = 18 ∨ i = 19 := by omega
                            clear hlt
                            rcases hc with rfl | rfl | rfl | rfl | rfl | rfl | rfl | rfl | rfl | rfl | rfl | rfl | rfl | rfl | rfl | rfl | rfl | rfl | rfl | rfl
                            · obtain rfl := Option.some.inj hi
                              have s13 : A.tmps.getD 13 undef = .int .u8 (M : Int) := hold 13 (by kernel_rfl)
                              exact r_pure hi rfl rfl (y_move _ s13)
                            · obtain rfl := Option.some.inj hi
                              have s99 : A.tmps.getD 99 undef = .int .u8 (M : Int) := dep_of hdeps 0 (by kernel_rfl)
                              exact r_pure hi rfl rfl (y_bin _ _ _ _ _ s99 rfl (heq2 w1) (by kernel_rfl))
                            · obtain rfl := Option.some.inj hi
                              have s100 : A.tmps.getD 100 undef = .bool true := dep_of hdeps 1 (by kernel_rfl)
                              exact r_pure hi rfl rfl (y_move _ s100)
                            · obtain rfl := Option.some.inj hi
                              have g3 : A.tmps.getD 101 undef = .bool true := dep_of hdeps 2 (by kernel_rfl)
                              have s3 : A.tmps.getD 3 undef = ptr15 q := hold 3 (by kernel_rfl)
                              exact r_pure hi (wanted_of rfl rfl g3) rfl (y_move _ s3)
                            · obtain rfl := Option.some.inj hi
                              have g4 : A.tmps.getD 101 undef = .bool true := dep_of hdeps 2 (by kernel_rfl)
                              have s12 : A.tmps.getD 12 undef = .pointer (some ⟨p12, 0, none⟩) := hold 12 (by kernel_rfl)
                              exact r_pure hi (wanted_of rfl rfl g4) rfl (y_load _ _ s12 (HXb.out.belowI hB) Tryz.underlying34 rfl infoTx15)
                            · obtain rfl := Option.some.inj hi
                              have g5 : A.tmps.getD 101 undef = .bool true := dep_of hdeps 2 (by kernel_rfl)
                              have s102 : A.tmps.getD 102 undef = ptr15 q := dep_of hdeps 3 (by kernel_rfl)
                              have s103 : A.tmps.getD 103 undef = .agg #[.int .u8 (y.tx.1 : Int), .int .u32 (y.tx.2.1 : Int), .int .u32 (y.tx.2.2 : Int)] := dep_of hdeps 4 (by kernel_rfl)
                              exact r_enter hi (wanted_of rfl rfl g5) rfl (y_call 23 _ #[ptr15 q, .agg #[.int .u8 (y.tx.1 : Int), .int .u32 (y.tx.2.1 : Int), .int .u32 (y.tx.2.2 : Int)]] _ rfl (by simp only [List.map_toArray, List.map_cons, List.map_nil, show A.eval (.tmp 102) = ptr15 q from s102, show A.eval (.tmp 103) = .agg #[.int .u8 (y.tx.1 : Int), .int .u32 (y.tx.2.1 : Int), .int .u32 (y.tx.2.2 : Int)] from s103]; try rfl) en_prepd15) (CPr.out w1 hB)
                            · obtain rfl := Option.some.inj hi
                              have g6 : A.tmps.getD 101 undef = .bool true := dep_of hdeps 2 (by kernel_rfl)
                              have s104 : A.tmps.getD 104 undef = .bool false := dep_of hdeps 5 (by kernel_rfl)
                              exact r_pure hi (wanted_of rfl rfl g6) rfl (y_not (a := false) _ _ s104)
                            · obtain rfl := Option.some.inj hi
                              have s101 : A.tmps.getD 101 undef = .bool true := dep_of hdeps 2 (by kernel_rfl)
                              have s105 : A.tmps.getD 105 undef = .bool true := dep_of hdeps 6 (by kernel_rfl)
                              exact r_pure hi rfl rfl (y_pickT _ _ _ s101 s105)
                            · obtain rfl := Option.some.inj hi
                              have s106 : A.tmps.getD 106 undef = .bool true := dep_of hdeps 7 (by kernel_rfl)
                              exact r_pure hi rfl rfl (y_move _ s106)
                            · obtain rfl := Option.some.inj hi
                              have g9 : A.tmps.getD 107 undef = .bool true := dep_of hdeps 8 (by kernel_rfl)
                              have s4 : A.tmps.getD 4 undef = .map (some bm2) := hold 4 (by kernel_rfl)
                              exact r_pure hi (wanted_of rfl rfl g9) rfl (y_move _ s4)
                            · obtain rfl := Option.some.inj hi
                              have g10 : A.tmps.getD 107 undef = .bool true := dep_of hdeps 8 (by kernel_rfl)
                              have s12 : A.tmps.getD 12 undef = .pointer (some ⟨p12, 0, none⟩) := hold 12 (by kernel_rfl)
                              exact r_pure hi (wanted_of rfl rfl g10) rfl (y_load _ _ s12 (HXb.out.belowI hB) Tryz.underlying34 rfl infoTx15)
                            · obtain rfl := Option.some.inj hi
                              have g11 : A.tmps.getD 107 undef = .bool true := dep_of hdeps 8 (by kernel_rfl)
                              have s108 : A.tmps.getD 108 undef = .map (some bm2) := dep_of hdeps 9 (by kernel_rfl)
                              have s109 : A.tmps.getD 109 undef = .agg #[.int .u8 (y.tx.1 : Int), .int .u32 (y.tx.2.1 : Int), .int .u32 (y.tx.2.2 : Int)] := dep_of hdeps 10 (by kernel_rfl)
                              exact r_pure hi (wanted_of rfl rfl g11) rfl (y_look15 _ _ _ s108 s109 (HL1.out w1 hB))
                            · obtain rfl := Option.some.inj hi
                              have g12 : A.tmps.getD 107 undef = .bool true := dep_of hdeps 8 (by kernel_rfl)
                              have s4 : A.tmps.getD 4 undef = .map (some bm2) := hold 4 (by kernel_rfl)
                              exact r_pure hi (wanted_of rfl rfl g12) rfl (y_move _ s4)
                            · obtain rfl := Option.some.inj hi
                              have g13 : A.tmps.getD 107 undef = .bool true := dep_of hdeps 8 (by kernel_rfl)
                              have s7 : A.tmps.getD 7 undef = .slice (some ⟨b, off, none⟩) j qc := hold 7 (by kernel_rfl)
                              exact r_pure hi (wanted_of rfl rfl g13) rfl (y_move _ s7)
                            · obtain rfl := Option.some.inj hi
                              have g14 : A.tmps.getD 107 undef = .bool true := dep_of hdeps 8 (by kernel_rfl)
                              have s112 : A.tmps.getD 112 undef = .slice (some ⟨b, off, none⟩) j qc := dep_of hdeps 13 (by kernel_rfl)
                              exact r_pure hi (wanted_of rfl rfl g14) rfl (y_idx15 (j := 0) _ _ s112 rfl hj9)
                            · obtain rfl := Option.some.inj hi
                              have g15 : A.tmps.getD 107 undef = .bool true := dep_of hdeps 8 (by kernel_rfl)
                              have s113 : A.tmps.getD 113 undef = .pointer (some ⟨b, off + 0 * 3, none⟩) := dep_of hdeps 14 (by kernel_rfl)
                              exact r_pure hi (wanted_of rfl rfl g15) rfl (y_loadMid _ _ s113 (HQb.out w1 hB) Tryz.underlying34 rfl infoTx15)
                            · obtain rfl := Option.some.inj hi
                              have g16 : A.tmps.getD 107 undef = .bool true := dep_of hdeps 8 (by kernel_rfl)
                              have s111 : A.tmps.getD 111 undef = .map (some bm2) := dep_of hdeps 12 (by kernel_rfl)
                              have s114 : A.tmps.getD 114 undef = .agg (txCs (txI x0)).toArray := dep_of hdeps 15 (by kernel_rfl)
                              exact r_pure hi (wanted_of rfl rfl g16) rfl (y_look15 _ _ _ s111 s114 (HL2.out w1 hB))
                            · obtain rfl := Option.some.inj hi
                              have g17 : A.tmps.getD 107 undef = .bool true := dep_of hdeps 8 (by kernel_rfl)
                              have s110 : A.tmps.getD 110 undef = seV (y.tm, y.tx) := dep_of hdeps 11 (by kernel_rfl)
                              have s115 : A.tmps.getD 115 undef = seV (u0.tm, u0.tx) := dep_of hdeps 16 (by kernel_rfl)
                              exact r_enter hi (wanted_of rfl rfl g17) rfl (y_call 26 _ #[seV (y.tm, y.tx), seV (u0.tm, u0.tx)] _ rfl (by simp only [List.map_toArray, List.map_cons, List.map_nil, show A.eval (.tmp 110) = seV (y.tm, y.tx) from s110, show A.eval (.tmp 115) = seV (u0.tm, u0.tx) from s115]; try rfl) en_stamps15) (CS.out w1 hB)
                            · obtain rfl := Option.some.inj hi
                              have g18 : A.tmps.getD 107 undef = .bool true := dep_of hdeps 8 (by kernel_rfl)
                              have s116 : A.tmps.getD 116 undef = .int .i64 R := dep_of hdeps 17 (by kernel_rfl)
                              exact r_pure hi (wanted_of rfl rfl g18) rfl (y_bin _ _ _ _ _ s116 rfl (hgt w1) (by kernel_rfl))
                            · obtain rfl := Option.some.inj hi
                              have s107 : A.tmps.getD 107 undef = .bool true := dep_of hdeps 8 (by kernel_rfl)
                              have s117 : A.tmps.getD 117 undef = .bool false := dep_of hdeps 18 (by kernel_rfl)
                              exact r_pure hi rfl rfl (y_pickT _ _ _ s107 s117)
                          · intro w14 hB14
                            simp only [putAll, Act.put, List.setIfInBounds_toArray, List.set_cons_succ, List.set_cons_zero]
                            go_wp2_with fail
                            go_roundg g5
                            case measure => omega
                            case rel => exact ⟨t + 1, true, by omega, rfl, by first | rfl | go_num, hide (HBT.out), hide (HBZ.out.trans ((HB12.out.trans (hB14.mono HB12.out.size)).mono HBZ.out.size))⟩
                      · have heq2 := fun W => eql_u815 (M : Int) 2 false W (by simp; omega)
                        go_wp2_with fail
                        refine wp_region_vals (by kernel_rfl) [(99, .int .u8 (M : Int)), (100, .bool false), (101, .bool false), (102, undef), (103, undef), (104, undef), (105, undef), (106, .bool false), (107, .bool false), (108, undef), (109, undef), (110, undef), (111, undef), (112, undef), (113, undef), (114, undef), (115, undef), (116, undef), (117, undef), (118, .bool false)] (by kernel_rfl) rfl ?_ ?_
                        · intro i o hi A w1 hB hold hdeps
                          have hlt : i < 20 := (Array.getElem?_eq_some_iff.1 hi).1
                          have hc : i = 0 ∨ i = 1 ∨ i = 2 ∨ i = 3 ∨ i = 4 ∨ i = 5 ∨ i = 6 ∨ i = 7 ∨ i = 8 ∨ i = 9 ∨ i = 10 ∨ i = 11 ∨ i = 12 ∨ i = 13 ∨ i = 14 ∨ i = 15 ∨ i = 16 ∨ i = 17 ∨ i = 18 ∨ i = 19 := by omega
                          clear hlt
                          rcases hc with rfl | rfl | rfl | rfl | rfl | rfl | rfl | rfl | rfl | rfl | rfl | rfl | rfl | rfl | rfl | rfl | rfl | rfl | rfl | rfl
                          · obtain rfl := Option.some.inj hi
                            have s13 : A.tmps.getD 13 undef = .int .u8 (M : Int) := hold 13 (by kernel_rfl)
                            exact r_pure hi rfl rfl (y_move _ s13)
                          · obtain rfl := Option.some.inj hi
                            have s99 : A.tmps.getD 99 undef = .int .u8 (M : Int) := dep_of hdeps 0 (by kernel_rfl)
                            exact r_pure hi rfl rfl (y_bin _ _ _ _ _ s99 rfl (heq2 w1) (by kernel_rfl))
                          · obtain rfl := Option.some.inj hi
                            have s100 : A.tmps.getD 100 undef = .bool false := dep_of hdeps 1 (by kernel_rfl)
                            exact r_pure hi rfl rfl (y_move _ s100)
                          · obtain rfl := Option.some.inj hi
                            have g3 : A.tmps.getD 101 undef = .bool false := dep_of hdeps 2 (by kernel_rfl)
                            exact each_skip hi rfl rfl (fun e => absurd (g3.symm.trans e) (by simp)) rfl
                          · obtain rfl := Option.some.inj hi
                            have g4 : A.tmps.getD 101 undef = .bool false := dep_of hdeps 2 (by kernel_rfl)
                            exact each_skip hi rfl rfl (fun e => absurd (g4.symm.trans e) (by simp)) rfl
                          · obtain rfl := Option.some.inj hi
                            have g5 : A.tmps.getD 101 undef = .bool false := dep_of hdeps 2 (by kernel_rfl)
                            exact each_skip hi rfl rfl (fun e => absurd (g5.symm.trans e) (by simp)) rfl
                          · obtain rfl := Option.some.inj hi
                            have g6 : A.tmps.getD 101 undef = .bool false := dep_of hdeps 2 (by kernel_rfl)
                            exact each_skip hi rfl rfl (fun e => absurd (g6.symm.trans e) (by simp)) rfl
                          · obtain rfl := Option.some.inj hi
                            have s101 : A.tmps.getD 101 undef = .bool false := dep_of hdeps 2 (by kernel_rfl)
                            exact r_pure hi rfl rfl (y_pickF _ _ _ s101 rfl)
                          · obtain rfl := Option.some.inj hi
                            have s106 : A.tmps.getD 106 undef = .bool false := dep_of hdeps 7 (by kernel_rfl)
                            exact r_pure hi rfl rfl (y_move _ s106)
                          · obtain rfl := Option.some.inj hi
                            have g9 : A.tmps.getD 107 undef = .bool false := dep_of hdeps 8 (by kernel_rfl)
                            exact each_skip hi rfl rfl (fun e => absurd (g9.symm.trans e) (by simp)) rfl
                          · obtain rfl := Option.some.inj hi
                            have g10 : A.tmps.getD 107 undef = .bool false := dep_of hdeps 8 (by kernel_rfl)
                            exact each_skip hi rfl rfl (fun e => absurd (g10.symm.trans e) (by simp)) rfl
                          · obtain rfl := Option.some.inj hi
                            have g11 : A.tmps.getD 107 undef = .bool false := dep_of hdeps 8 (by kernel_rfl)
                            exact each_skip hi rfl rfl (fun e => absurd (g11.symm.trans e) (by simp)) rfl
                          · obtain rfl := Option.some.inj hi
                            have g12 : A.tmps.getD 107 undef = .bool false := dep_of hdeps 8 (by kernel_rfl)
                            exact each_skip hi rfl rfl (fun e => absurd (g12.symm.trans e) (by simp)) rfl
                          · obtain rfl := Option.some.inj hi
                            have g13 : A.tmps.getD 107 undef = .bool false := dep_of hdeps 8 (by kernel_rfl)
                            exact each_skip hi rfl rfl (fun e => absurd (g13.symm.trans e) (by simp)) rfl
                          · obtain rfl := Option.some.inj hi
                            have g14 : A.tmps.getD 107 undef = .bool false := dep_of hdeps 8 (by kernel_rfl)
                            exact each_skip hi rfl rfl (fun e => absurd (g14.symm.trans e) (by simp)) rfl
                          · obtain rfl := Option.some.inj hi
                            have g15 : A.tmps.getD 107 undef = .bool false := dep_of hdeps 8 (by kernel_rfl)
                            exact each_skip hi rfl rfl (fun e => absurd (g15.symm.trans e) (by simp)) rfl
                          · obtain rfl := Option.some.inj hi
                            have g16 : A.tmps.getD 107 undef = .bool false := dep_of hdeps 8 (by kernel_rfl)
                            exact each_skip hi rfl rfl (fun e => absurd (g16.symm.trans e) (by simp)) rfl
                          · obtain rfl := Option.some.inj hi
                            have g17 : A.tmps.getD 107 undef = .bool false := dep_of hdeps 8 (by kernel_rfl)
                            exact each_skip hi rfl rfl (fun e => absurd (g17.symm.trans e) (by simp)) rfl
                          · obtain rfl := Option.some.inj hi
                            have g18 : A.tmps.getD 107 undef = .bool false := dep_of hdeps 8 (by kernel_rfl)
                            exact each_skip hi rfl rfl (fun e => absurd (g18.symm.trans e) (by simp)) rfl
                          · obtain rfl := Option.some.inj hi
                            have s107 : A.tmps.getD 107 undef = .bool false := dep_of hdeps 8 (by kernel_rfl)
                            exact r_pure hi rfl rfl (y_pickF _ _ _ s107 rfl)
                        · intro w14 hB14
                          simp only [putAll, Act.put, List.setIfInBounds_toArray, List.set_cons_succ, List.set_cons_zero]
                          go_wp2_with fail
                          go_roundg g5
                          case measure => omega
                          case rel => exact ⟨t + 1, true, by omega, rfl, by first | rfl | go_num, hide (HBT.out), hide (HBZ.out.trans ((HB12.out.trans (hB14.mono HB12.out.size)).mono HBZ.out.size))⟩
    | zero =>
      obtain rfl : k = LN := by omega
      have hz : ¬ ((k : Int) < (k : Int)) := by omega
      go_wp2_with (go_at_call 8; refine (CA.out _).mono ?_; rintro e w8 ⟨rfl, hB8⟩; have HB8 := hide (HN.out.b.trans (hB8.mono HN.out.b.size)); clear hB8)
      go_ret
      exact ⟨rfl, HB8.out⟩
end Go.Proofs.YtddflccjmigloaaGreat

/-
  Proved: who waits in the program's table of locks waits for older ones, or prepared ones, alone; those who wait for a key stand by their age, whatever calls came, in whatever order. For every input of the form's own reach (of a script the first 60 calls count; one that is too large is passed by, as the law says). Own work.
-/
namespace Go.Proofs.YtddflccjmigloaaGreat
open Go.RowKit Go.ChangeShapes Go.WideShapes Go.ChangeAt

namespace lockAges
set_option maxRecDepth 100000 in
theorem lifted (os : Os) (started : os.Started) (H : Type) (enc : TypeId × Value → H) :
    ReturnsInHanded {} Tryz.checked os 4 .any (Rows.lockAgesSpec.pre6 enc Tryz.prog Tryz.f4 Rows.lockAgesRow.domain false) (Rows.lockAgesSpec.post enc Tryz.prog Tryz.f4 false true false false) := by
  refine returnsInHanded_of_change_sized (C := Tryz.checked) own started (by kernel_rfl) Tryz.func4
    (ChangeSpec.witness6 (enc := enc) (C := Tryz.checked) false ⟨#[], #[.slice none 0 0], []⟩ 8 (by kernel_rfl) (by kernel_rfl) (by kernel_rfl) (by kernel_rfl)) ?_
  intro W base args ds gs before hval0 hW hcnd hsz _
  have hval : ∀ (j : Nat) t v, Tryz.f4.params[j]? = some t → args[j]? = some v → Value.okWide Tryz.prog W .any base t v := hval0
  have hW' := hW
  obtain ⟨p, q, hA0, hV, rfl, hfz, hnd⟩ := hW
  have hA : DataW.TrodAll enc Tryz.prog W 0 (fun _ => true) true Tryz.f4.params.toList args.toList ds p := hA0
  have hsz2 : ∀ (j : Nat) (t : TypeId) (d : DataW H), Tryz.f4.params.toList[j]? = some t → ds[j]? = some d → ∀ n ∈ d.weights Tryz.prog t, n ≤ 140737488351232 := fun j t d ht hd n hn => by
    have h1 := List.all_eq_true.1 hsz n (DataW.weights_mem_each (j := j) (t := t) (d := d) (by rw [List.getElem?_append_left (List.getElem?_eq_some_iff.1 ht).1]; exact ht) (by rw [List.getElem?_append_left (List.getElem?_eq_some_iff.1 hd).1]; exact hd) n hn)
    have h2 : n ≤ reachBytes := by simpa using h1
    have h3 : reachBytes = 140737488351232 := rfl
    omega
  rw [Tryz.params4] at hA hval hsz2
  obtain ⟨v0, vs0, d0, ds0, p0, q0, hargs, rfl, rfl, h0, r0⟩ := trodAll_cons hA
  obtain ⟨rfl, rfl, rfl⟩ := trodAll_nil r0
  obtain rfl : args = #[v0] := by cases args; simp_all
  obtain ⟨rfl, rfl⟩ := trodVars_none hV
  obtain ⟨a0, len0, cap0, rfl⟩ := okWide_slice Tryz.underlying22 (hval 0 22 v0 rfl rfl)
  have k0 := h0
  have lt0 : ∀ x ∈ p0, x.block < W.heap.size := by obtain ⟨m, hm⟩ := k0; exact DataW.trod_lt m _ _ _ hm
  obtain ⟨xs0, lies0, by0⟩ := lacts_of_trod h0
  clear hA0 hval0
  refine (walkA15 (lk_do sortB64) _ xs0 W lies0 by0).mono fun e W' ⟨he, bel⟩ => ?_
  subst he
  exact ⟨_, rfl, _, _, _, [], _, [], hW', trodAll_mk1 (shut_bool Tryz.underlying4 _), (trodAll_cons_mk (Below.trod laidOut (by kernel_rfl) (of_decide_eq_true (by kernel_rfl)) k0 bel lt0) trodAll_mk0), rfl, bel.frame _, fun h => by cases h⟩

theorem over : Rows.lockAgesRow.holds Tryz.pinned (OpenSpec.ofChange Rows.lockAgesSpec) :=
  OpenClaim.holds_of_wide 4 Tryz.f4 rfl rfl rfl rfl rfl rfl rfl ⟨rfl, rfl, rfl, rfl, rfl⟩ rfl rfl rfl rfl rfl (by kernel_rfl) Tryz.func4 (by kernel_rfl)
    (of_decide_eq_true (by kernel_rfl)) (by unfold Func.isWrapper; first | (rw [if_pos (by decide +kernel)]; kernel_rfl) | (rw [if_neg (by decide +kernel)]; exact ⟨rfl, rfl⟩))
    (fun os started H enc _ => lifted os started H enc)
end lockAges

/-- THE STATEMENT. -/
theorem lockAges_holds : Rows.LockAgesSaid := lockAges.over
#print axioms lockAges_holds
end Go.Proofs.YtddflccjmigloaaGreat
