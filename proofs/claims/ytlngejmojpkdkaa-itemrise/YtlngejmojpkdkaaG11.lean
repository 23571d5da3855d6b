/-
  Own texts put together: IdRef2, IdRef3, IdNum, MgR1, RvOps. Own work.
-/
import Derived.Test.YtlngejmojpkdkaaG10
import Derived.Test.YtlngejmojpkdkaaG09
import Derived.Test.YtlngejmojpkdkaaG01
import Derived.Test.YtlngejmojpkdkaaG03
import Derived.Deep.RegionHeldLaw
import Derived.Deep.QuietTactic
import Derived.BigQuiet
import Derived.Sort.Grow
import Derived.Deep.MidRow
namespace Go.Proofs.Ytlngejmojpkdkaa
section
open Go.RowKit

theorem wrap32_u8 {a : Int} (h0 : 0 ≤ a) (h1 : a < 256) : IntKind.u32.wrap a = a := by rw [IntKind.wrap_u32]; omega
end
section
open Go.RowKit

theorem owns_lt' {w : World} {base e size n : Nat} {v : Value} {xs : List Value} (h : w.ownsRow base e size v n xs) {g : Nat} (hg : v.ownBlock = some g) : g < w.heap.size := (h.lt g hg).2
/-- Two rows of one's own that lie apart. -/
structure Rows2 (base : Nat) (w : World) (v1 v2 : Value) (xs ys : List Int) : Prop where
  o1 : w.ownsRow base 32 1 v1 xs.length (xs.map (Value.int .u32))
  o2 : w.ownsRow base 32 1 v2 ys.length (ys.map (Value.int .u32))
  ne : ∀ g, v1.ownBlock = some g → v2.ownBlock ≠ some g
theorem owns_kept_ne {w w' : World} {base e size n : Nat} {v : Value} {xs : List Value} {row : Option Nat} (h : w.ownsRow base e size v n xs) (hg : w.grownBy w' row) (hne : ∀ g, v.ownBlock = some g → row ≠ some g) : w'.ownsRow base e size v n xs := by
  obtain ⟨hl, h0 | ⟨g, cap, cur, rfl, hb, hh, r⟩⟩ := h
  · exact ⟨hl, .inl h0⟩
  · exact ⟨hl, .inr ⟨g, cap, cur, rfl, hb, (hg.block g (Array.getElem?_eq_some_iff.1 hh).1 (fun e => hne g rfl e.symm)).trans hh, r⟩⟩
set_option maxRecDepth 100000 in
set_option maxHeartbeats 1600000 in
theorem rkeys_any (a b : List Int) (w : World) (ha : a.length = 8) (hb : b.length = 8) (hx : ∀ c ∈ a, 0 ≤ c ∧ c < 256) (hy : ∀ c ∈ b, 0 ≤ c ∧ c < 256) : Calls Try.prog 42 #[.agg (cells8 a), .agg (cells8 b)] w fun e w' => e = .returned (.int .i64 (lexF a b)) ∧ Below w.heap.size w w' := by
  obtain ⟨i0, hi, hz0, hz1, hz2⟩ := info_parts info32
  have HA0 : Hid (Box ((w.alloc (.cells (cells8 a) 31)).alloc (.cells (cells8 b) 31)) w.heap.size (cells8 a) 31) := hide ((box_new w _ _).belowI ((Below.refl _ _).alloc (Nat.le_refl _) _))
  have HB0 : Hid (Box ((w.alloc (.cells (cells8 a) 31)).alloc (.cells (cells8 b) 31)) (w.heap.size + 1) (cells8 b) 31) := hide (by
    have := box_new (w.alloc (.cells (cells8 a) 31)) (cells8 b) 31
    rw [World.size_alloc] at this
    exact this)
  have HW0 := hide (((Below.refl w.heap.size w).alloc (Nat.le_refl _) (.cells (cells8 a) 31)).alloc (by simp) (.cells (cells8 b) 31))
  have hs0 : ((w.alloc (.cells (cells8 a) 31)).alloc (.cells (cells8 b) 31)).heap.size = w.heap.size + 2 := by simp
  have HS0 := hide hs0
  have HX := hide hx
  have HY := hide hy
  have HA := hide ha
  have HB := hide hb
  have CF := hide (fun v1 v2 w h1 h2 => first_any a b v1 v2 w h1 h2 (by rw [ha, hb]) (by omega))
  clear hx hy ha hb hs0
  generalize hca : cells8 a = ca at *
  generalize hcb : cells8 b = cb at *
  have HCA := hide hca
  have HCB := hide hcb
  clear hca hcb
  go_enter Try.func42, Try.ntmps42
  go_wp2
  generalize hW0 : (w.alloc (.cells ca 31)).alloc (.cells cb 31) = W0 at *
  clear hW0
  go_loopw [5, 6, 7] (fun v1 v2 i wr => ∃ k : Nat, k ≤ 8 ∧ i = .int .i64 k ∧ Hid (Rows2 W0.heap.size wr v1 v2 (a.take k) (b.take k)) ∧ Hid (Below W0.heap.size W0 wr)) (fun _ _ i _ => 8 - (intOf i).toNat)
  case atStart => exact ⟨0, by omega, rfl, hide ⟨World.ownsRow_nil _ _ _ _, World.ownsRow_nil _ _ _ _, fun g hg => by cases hg⟩, hide (Below.refl _ _)⟩
  case round =>
    obtain ⟨k, hk, rfl, HR, HBW⟩ := hrel
    by_cases hlt : k < 8
    · have hkI : (k : Int) < 8 := by omega
      have hla : k < a.length := by have := HA.out; omega
      have hlb : k < b.length := by have := HB.out; omega
      have c1 : wr.cell? ⟨w.heap.size, k, none⟩ = some (.int .u8 (a.getD k 0)) := (HA0.out.belowI HBW.out).cell k _ (by rw [← HCA.out]; simp [cells8, List.getD, hla])
      have HYE : Hid (cb[k]? = some (.int .u8 (b.getD k 0))) := hide (by rw [← HCB.out]; simp [cells8, List.getD, hlb])
      have hxa := HX.out (a.getD k 0) (by simp [List.getD, hla])
      have hyb := HY.out (b.getD k 0) (by simp [List.getD, hlb])
      have hv1 := wrap32_u8 hxa.1 hxa.2
      have hv2 := wrap32_u8 hyb.1 hyb.2
      have HT1 : Hid (a.take (k + 1) = a.take k ++ [a.getD k 0]) := hide (by rw [List.take_succ_eq_append_getElem hla]; simp [List.getD, hla])
      have HT2 : Hid (b.take (k + 1) = b.take k ++ [b.getD k 0]) := hide (by rw [List.take_succ_eq_append_getElem hlb]; simp [List.getD, hlb])
      have HLA : Hid ((a.take k).length = k) := hide (by simp; omega)
      have HLB : Hid ((b.take k).length = k) := hide (by simp; omega)
      have ho1 := HR.out.o1
      have ho2 := HR.out.o2
      rw [HLA.out] at ho1
      rw [HLB.out] at ho2
      have HO1 := hide ho1
      have HO2 := hide ho2
      have HNE := hide HR.out.ne
      have HSZ := hide HBW.out.size
      clear ho1 ho2 HR hxa hyb
      generalize a.getD k 0 = x at *
      generalize b.getD k 0 = y at *
      go_wp2_with (first
        | (at_builtin; refine wpList_append_own_at _ rfl _ _ 86 rfl W0.heap.size 32 i0 (.int .u32 0) 1 4 Try.underlying86 hi hz0 hz1 hz2 rfl (by decide) _ k _ rfl (HO1.out.alloc _) ⟨wr.heap.size, 0, none⟩ 1 1 [.int .u32 x] rfl rfl (cell_one_new _ _ _) (ints_oneCell .u32 [x]) (by unfold maxLen; omega) (by omega) (by have := HSZ.out; simp; omega) ?_; intro v1' w1 ho1' hg1 hn1 hat1; have hB1 := (HBW.out.alloc HSZ.out (.cells #[.int .u32 x] 32)).grown hg1 (by have := HSZ.out; simp; omega) (fun g hg => (HO1.out.lt g hg).1); have c2 := (HB0.out.belowI hB1).cell k _ HYE.out; have HO2' := hide (owns_kept_ne (HO2.out.alloc (.cells #[.int .u32 x] 32)) hg1 (fun g hg e => HNE.out g e hg)); have HO1' := hide ho1'; have HAT1 := hide hat1; have HB1 := hide hB1; have HSZ1 := hide hB1.size; have HLT1 := hide (fun g (hg : u5.ownBlock = some g) => Nat.lt_of_lt_of_le (owns_lt' HO1.out hg) (Nat.le_refl _)); have HG1 := hide hg1; clear ho1' hg1 hn1 hat1 HO1 hB1)
        | (at_builtin; refine wpList_append_own_at _ rfl _ _ 86 rfl W0.heap.size 32 i0 (.int .u32 0) 1 4 Try.underlying86 hi hz0 hz1 hz2 rfl (by decide) _ k _ rfl (HO2'.out.alloc _) ⟨w1.heap.size, 0, none⟩ 1 1 [.int .u32 y] rfl rfl (cell_one_new _ _ _) (ints_oneCell .u32 [y]) (by unfold maxLen; omega) (by omega) (by have := HSZ1.out; simp; omega) ?_; intro v2' w2 ho2' hg2 hn2 hat2; have HB2 := hide ((HB1.out.alloc HSZ1.out (.cells #[.int .u32 y] 32)).grown hg2 (by have := HSZ1.out; simp; omega) (fun g hg => (HO2'.out.lt g hg).1)); have HO2'' := hide ho2'; have HG2 := hide hg2; have HAT2 := hide hat2; clear ho2' hg2 hn2 hat2)
        | go_in)
      have h6lt : ∀ g, u6.ownBlock = some g → g < wr.heap.size := fun g hg => owns_lt' HO2.out hg
      have h1lt : ∀ g, v1'.ownBlock = some g → g < w1.heap.size := fun g hg => owns_lt' HO1'.out hg
      have hapart : ∀ g, v1'.ownBlock = some g → u6.ownBlock ≠ some g := fun g hg e => by
        rcases HAT1.out with h | h
        · exact HNE.out g (h ▸ hg) e
        · rw [h] at hg
          have := h6lt g e
          simp at hg
          omega
      have hR : Rows2 W0.heap.size w2 v1' v2' (a.take (k + 1)) (b.take (k + 1)) := by
        refine ⟨?_, ?_, fun g hg e => ?_⟩
        · rw [HT1.out, List.map_append, List.length_append, HLA.out]
          exact owns_kept_ne (HO1'.out.alloc (.cells #[.int .u32 y] 32)) HG2.out (fun g hg e => hapart g hg e)
        · rw [HT2.out, List.map_append, List.length_append, HLB.out]
          exact HO2''.out
        · rcases HAT2.out with h | h
          · exact hapart g hg (h ▸ e)
          · rw [h] at e
            have := h1lt g hg
            simp at e
            omega
      go_roundw
      case rel => exact ⟨k + 1, by omega, by go_num, hide hR, HB2⟩
      case measure => simp [intOf]; omega
    · have hge : decide ((k : Int) < 8) = false := decide_eq_false (by omega)
      obtain rfl : k = 8 := by omega
      have HL1 := hide (Lies.of_own HR.out.o1)
      have HL2 := hide (Lies.of_own HR.out.o2)
      rw [show a.take 8 = a from List.take_of_length_le (by have := HA.out; omega)] at HL1
      rw [show b.take 8 = b from List.take_of_length_le (by have := HB.out; omega)] at HL2
      have HBR := hide (HW0.out.trans (HBW.out.mono HW0.out.size))
      go_wp2_with (go_at_call 52; refine (CF.out _ _ _ HL1.out HL2.out).mono ?_; rintro e' w3 ⟨rfl, n3, rfl⟩)
      go_ret
      exact ⟨rfl, below_drewN HBR.out⟩
end
section
open Go.RowKit Classical

theorem eight_cells8 {k : List Int} (h : k.length = 8) : cells8 k = eightA k := by
  unfold cells8
  rw [← eightE_map h]
set_option maxRecDepth 100000 in
theorem rkeyMay_any (k : List Int) (hk : KeyOk k) (w : World) : Calls Try.prog 28 #[.agg (eightA k)] w fun e w' => e = .returned (.bool (nameF k).2) ∧ Below w.heap.size w w' := by
  have hA := alloc_below10 w (.cells (eightA k) 31)
  have hX := box_new w (eightA k) 31
  obtain ⟨w1, hw1⟩ : ∃ w1, w1 = w.alloc (.cells (eightA k) 31) := ⟨_, rfl⟩
  rw [← hw1] at hA hX
  have C := rname_any k hk.l w1
  rw [eight_cells8 hk.l] at C
  have HC := hide C
  have HA := hide hA
  have HX := hide hX
  have hW := hw1.symm
  obtain ⟨x0, x1, x2, x3, x4, x5, x6, x7⟩ := hX.eight
  generalize (nameF k).1 = nm at *
  generalize (nameF k).2 = r at *
  clear hA hX hw1 C
  go_enter Try.func28, Try.ntmps28
  go_wp2_with (first | (go_at_call 40; refine HC.out.mono ?_; rintro e w2 ⟨rfl, hB2⟩; have HB2 := hide hB2; clear hB2))
  go_ret
  exact ⟨rfl, HA.out.trans (HB2.out.mono HA.out.size)⟩
theorem cf_arr {c : Cf} (h : c.Ok) : c.arr = (cfE c).toArray := by unfold Cf.arr; rw [cfE_cells h]
set_option maxRecDepth 100000 in
set_option maxHeartbeats 1600000 in
theorem ritem_any (i : ItP) (hi : ItOk i) (hl : i.val.length ≤ 9223372036854775807) (w : World) : Calls Try.prog 29 #[.agg (itA i)] w fun e w' => e = .returned (.bool (itMayB i)) ∧ Below w.heap.size w w' := by
  have hA := alloc_below10 w (.cells (itA i) 36)
  have hX := box_new w (itA i) 36
  obtain ⟨w1, hw1⟩ : ∃ w1, w1 = w.alloc (.cells (itA i) 36) := ⟨_, rfl⟩
  rw [← hw1] at hA hX
  have C := rmay_any i.cf hi.c w1
  rw [cf_arr hi.c] at C
  have HC := hide C
  have HA := hide hA
  have hW := hw1.symm
  have x0 := hX.cell 0 _ rfl
  have x1 := hX.cell 1 _ rfl
  have x2 := hX.cell 2 _ rfl
  have x3 := hX.cell 3 _ rfl
  have x4 := hX.cell 4 _ rfl
  have x5 := hX.cell 5 _ rfl
  have x6 := hX.cell 6 _ rfl
  have x7 := hX.cell 7 _ rfl
  have x8 := hX.cell 8 _ rfl
  have x9 := hX.cell 9 _ rfl
  have x10 := hX.cell 10 _ rfl
  have x11 := hX.cell 11 _ rfl
  have x12 := hX.cell 12 _ rfl
  have hS := strOf_size10 i.val
  obtain ⟨R, hR⟩ : ∃ R, R = itMayB i := ⟨_, rfl⟩
  rw [← hR]
  by_cases h1 : i.ver ≤ mxN
  · have h1' : i.ver ≤ 2147483647 := h1
    have d1 : decide ((i.ver : Int) ≤ 2147483647) = true := decide_eq_true (by omega)
    by_cases h2 : i.val.length ≤ 64
    · have d2 : decide ((i.val.length : Int) ≤ 64) = true := decide_eq_true (by omega)
      have HR : Hid (R = mayB i.cf) := hide (by rw [hR]; unfold itMayB; rw [decide_eq_true h1, decide_eq_true h2]; rfl)
      clear hA hX hw1 C hR h1 h2
      generalize mayB i.cf = q at *
      go_enter Try.func29, Try.ntmps29
      go_wp2_with (first | (go_at_call 41; refine HC.out.mono ?_; rintro e w2 ⟨rfl, hB2⟩; have HB2 := hide hB2; clear hB2))
      go_ret
      exact ⟨by rw [HR.out]; rfl, HA.out.trans (HB2.out.mono HA.out.size)⟩
    · have d2 : decide ((i.val.length : Int) ≤ 64) = false := decide_eq_false (by omega)
      have HR : Hid (R = false) := hide (by rw [hR]; unfold itMayB; rw [decide_eq_false h2, Bool.and_false]; rfl)
      clear hA hX hw1 C hR h1 h2
      go_enter Try.func29, Try.ntmps29
      go_wp2_with fail
      go_ret
      exact ⟨by rw [HR.out]; rfl, HA.out⟩
  · have h1' : ¬ i.ver ≤ 2147483647 := h1
    have d1 : decide ((i.ver : Int) ≤ 2147483647) = false := decide_eq_false (by omega)
    have HR : Hid (R = false) := hide (by rw [hR]; unfold itMayB; rw [decide_eq_false h1]; rfl)
    clear hA hX hw1 C hR h1
    go_enter Try.func29, Try.ntmps29
    go_wp2_with fail
    go_ret
    exact ⟨by rw [HR.out]; rfl, HA.out⟩
end
section
open Go.RowKit

section
variable {P : Program} {ρ : Operand → Value} {w : World} {dst : Option Tmp} {ty : TypeId} {pos : String} {aft : Array Edge} {gd : Option (Nat × Bool)}
theorem y_move (x : Operand) {v : Value} (hx : ρ x = v) : (execOp ρ ⟨dst, .move x, ty, pos, aft, gd⟩).run P w = .ok (.value v) w := by subst hx; simp [go_sem]
theorem y_assign (x : Operand) {v : Value} (hx : ρ x = v) : (execOp ρ ⟨dst, .assign x, ty, pos, aft, gd⟩).run P w = .ok (.value v) w := by subst hx; simp [go_sem]
theorem y_pickT (x y z : Operand) {v : Value} (hx : ρ x = .bool true) (hy : ρ y = v) : (execOp ρ ⟨dst, .pick x y z, ty, pos, aft, gd⟩).run P w = .ok (.value v) w := by subst hy; simp [go_sem, hx]
theorem y_pickF (x y z : Operand) {v : Value} (hx : ρ x = .bool false) (hz : ρ z = v) : (execOp ρ ⟨dst, .pick x y z, ty, pos, aft, gd⟩).run P w = .ok (.value v) w := by subst hz; simp [go_sem, hx]
theorem y_bin (o : BinOp) (t t2 : TypeId) (x y : Operand) {a b v : Value} (hx : ρ x = a) (hy : ρ y = b) (hr : (binOp o t a b).run P w = .ok v w) (hg : (eqGuard o t x y a b).run P w = .ok () w) : (execOp ρ ⟨dst, .binOp o t x y t2, ty, pos, aft, gd⟩).run P w = .ok (.value v) w := by
  subst hx
  subst hy
  simp [execOp, hr, hg]
theorem y_not (t : TypeId) (x : Operand) {a : Bool} (hx : ρ x = .bool a) : (execOp ρ ⟨dst, .unOp .not t x, ty, pos, aft, gd⟩).run P w = .ok (.value (.bool (!a))) w := by
  simp [go_sem, hx]
theorem y_load (t : TypeId) (x : Operand) {q : Nat} {cs : Array Value} {t0 : TypeId} {d : TypeDesc} (hx : ρ x = .pointer (some ⟨q, 0, none⟩)) (hb : Box w q cs t0) (hu : P.underlying t = some d) (hd : d.isRow = true) (hi : (P.info? t).map (·.size) = some cs.size) : (execOp ρ ⟨dst, .load t x, ty, pos, aft, gd⟩).run P w = .ok (.value (.agg cs)) w := by
  have hr : w.rangeAt q 0 cs.toList := fun j v hv => by
    rw [Nat.zero_add]; exact hb.cell j v (by simpa using hv)
  have hl := run_loadVar_mid (P := P) w q 0 t cs.toList d hr hu hd (by simpa using hi)
  unfold execOp
  simp only [hx, Instr.loadAt, Instr.sureAddr, Sem.run_bind, Sem.run_pure, Result.andThen_ok, hl]
theorem y_loadMid (t : TypeId) (x : Operand) {q o : Nat} {cs : List Value} {d : TypeDesc} (hx : ρ x = .pointer (some ⟨q, o, none⟩)) (hr : w.rangeAt q o cs) (hu : P.underlying t = some d) (hd : d.isRow = true) (hi : (P.info? t).map (·.size) = some cs.length) : (execOp ρ ⟨dst, .load t x, ty, pos, aft, gd⟩).run P w = .ok (.value (.agg cs.toArray)) w := by
  have hl := run_loadVar_mid (P := P) w q o t cs d hr hu hd hi
  unfold execOp
  simp only [hx, Instr.loadAt, Instr.sureAddr, Sem.run_bind, Sem.run_pure, Result.andThen_ok, hl]
theorem y_call (f : FuncId) (xs : Array Operand) (vs : Array Value) (tys : Array TypeId) (hf : ρ (.func f) = .func (.func f) #[] #[]) (hv : xs.map ρ = vs) (he : ∀ args w, (callFunc f args).run P w = .ok (.enter f args) w) : (execOp ρ ⟨dst, .call { callee := .value (.func f), args := xs, argTypes := tys }, ty, pos, aft, gd⟩).run P w = .ok (.enter f vs) w := by
  subst hv
  simp [go_sem, hf, he]
theorem y_len (x : Operand) (t : TypeId) {ao : Option Addr} {n c : Nat} {e : TypeId} (hx : ρ x = .slice ao n c) (hu : P.underlying t = some (.slice e)) : (execOp ρ ⟨dst, .call { callee := .builtin .len, args := #[x], argTypes := #[t] }, ty, pos, aft, gd⟩).run P w = .ok (.value (.int .i64 (n : Int))) w := by
  have hb : (Builtin.len_ #[t] ty #[.slice ao n c]).run P w = .ok (.int .i64 (n : Int)) w := by
    have := run_underlying (P := P) hu
    simp [Builtin.len_, this, goInt, Result.andThen]
  simp [go_sem, hx, hb]
end
section
variable {P : Program} {ops : Array Oper} {Q : Exit → Act → World → Prop}
theorem r_pure {i : Nat} {o : Oper} {a : Act} {w : World} {v : Value} {ps : List (Nat × Value)} (hi : ops[i]? = some o) (hw : Region.wanted o (yielded ops a.tmps) = true)
    (hv : pv ps i = v) (hr : (execOp a.eval o).run P w = .ok (.value v) w) : wpOp P ops Q i (fun a' w' => Below w.heap.size w w' ∧ ∃ v, InvV ps i v w' ∧ a' = a.put o.dst v) a w :=
  each_pure hi hw hr hv.symm
theorem r_enter {i : Nat} {o : Oper} {a : Act} {w : World} {v : Value} {ps : List (Nat × Value)} {f : FuncId} {args : Array Value} (hi : ops[i]? = some o) (hw : Region.wanted o (yielded ops a.tmps) = true)
    (hv : pv ps i = v) (hr : (execOp a.eval o).run P w = .ok (.enter f args) w) (h : Calls P f args w fun e w' => e = .returned v ∧ Below w.heap.size w w') : wpOp P ops Q i (fun a' w' => Below w.heap.size w w' ∧ ∃ v, InvV ps i v w' ∧ a' = a.put o.dst v) a w :=
  each_enter hi hw hr (Calls.mono h fun _ _ ⟨he, hB⟩ => ⟨v, he, hB, hv.symm⟩)
end
end
end Go.Proofs.Ytlngejmojpkdkaa
