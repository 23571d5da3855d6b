/-
  What single operations leave, in whatever frame: for the reference's Stamps. Own work.
-/
import Derived.Test.YtkdccigcpcchlaaRegionEach
import Derived.Test.YtkdccigcpcchlaaIdRef2
import Derived.ArgAppend
import Derived.Shelf.Abstract
namespace Go.Proofs.Ytkdccigcpcchlaa
open Go Go.RowKit Go.Shelf

section
variable {ρ : Operand → Value} {dst : Option Tmp} {ty : TypeId} {pos : String} {aft : Array Edge} {gd : Option (Nat × Bool)} {w : World}
theorem xi_assign (x : Operand) : (execOp ρ ⟨dst, .assign x, ty, pos, aft, gd⟩).run Try.prog w = .ok (.value (ρ x)) w := by simp [go_sem]
theorem xi_field0 (x : Operand) (q : Nat) (hx : ρ x = .pointer (some ⟨q, 0, none⟩)) : (execOp ρ ⟨dst, .fieldAddr 37 x 0, ty, pos, aft, gd⟩).run Try.prog w = .ok (.value (.pointer (some ⟨q, 0, none⟩))) w := by simp [go_sem, hx]
theorem xi_field1 (x : Operand) (q : Nat) (hx : ρ x = .pointer (some ⟨q, 0, none⟩)) : (execOp ρ ⟨dst, .fieldAddr 37 x 1, ty, pos, aft, gd⟩).run Try.prog w = .ok (.value (.pointer (some ⟨q, 1, none⟩))) w := by simp [go_sem, hx]
theorem xi_load32 (x : Operand) (q : Nat) (s : Int) (hx : ρ x = .pointer (some ⟨q, 0, none⟩)) (h : w.cell? ⟨q, 0, none⟩ = some (.int .u32 s)) : (execOp ρ ⟨dst, .load 33 x, ty, pos, aft, gd⟩).run Try.prog w = .ok (.value (.int .u32 s)) w := by simp [go_sem, hx, h]
theorem xi_loadTx (x : Operand) (q : Nat) (a b c : Int) (hx : ρ x = .pointer (some ⟨q, 1, none⟩)) (h1 : w.cell? ⟨q, 1, none⟩ = some (.int .u8 a)) (h2 : w.cell? ⟨q, 2, none⟩ = some (.int .u32 b)) (h3 : w.cell? ⟨q, 3, none⟩ = some (.int .u32 c)) : (execOp ρ ⟨dst, .load 35 x, ty, pos, aft, gd⟩).run Try.prog w = .ok (.value (.agg #[.int .u8 a, .int .u32 b, .int .u32 c])) w := by simp [go_sem, hx, h1, h2, h3]
theorem xi_build (x : Operand) (s : Int) (hx : ρ x = .int .u32 s) : (execOp ρ ⟨dst, .buildSlice 100 1 #[(0, x)], ty, pos, aft, gd⟩).run Try.prog w = .ok (.value (.slice (some ⟨w.heap.size, 0, none⟩) 1 1)) (w.alloc (.cells #[.int .u32 s] 33)) := by simp [go_sem, hx]
theorem xi_call (f : FuncId) (xs : Array Operand) (vs : Array Value) (tys : Array TypeId) (hf : ρ (.func f) = .func (.func f) #[] #[]) (hv : xs.map ρ = vs) (he : ∀ args w, (callFunc f args).run Try.prog w = .ok (.enter f args) w) : (execOp ρ ⟨dst, .call { callee := .value (.func f), args := xs, argTypes := tys }, ty, pos, aft, gd⟩).run Try.prog w = .ok (.enter f vs) w := by
  subst hv
  simp [go_sem, hf, he]
theorem en_numbers : ∀ args w, (callFunc 61 args).run Try.prog w = .ok (.enter 61 args) w := enters_of Try.func61 (by kernel_rfl) rfl
theorem en_first : ∀ args w, (callFunc 57 args).run Try.prog w = .ok (.enter 57 args) w := enters_of Try.func57 (by kernel_rfl) rfl
/-- One number of one's own, and no room behind it. -/
def One (s : Int) (w : World) (v : Value) : Prop := ∃ b, v = .slice (some ⟨b, 0, none⟩) 1 1 ∧ b < w.heap.size ∧ w.cell? ⟨b, 0, none⟩ = some (.int .u32 s)
theorem One.below {s : Int} {w w' : World} {v : Value} (h : One s w v) (hB : Below w.heap.size w w') : One s w' v := by
  obtain ⟨b, rfl, hb, hc⟩ := h
  exact ⟨b, rfl, Nat.lt_of_lt_of_le hb hB.size, (hB.cell (p := ⟨b, 0, none⟩) hb).trans hc⟩
theorem xi_append (x y : Operand) (s : Int) (xs : List Int) (v1 v2 : Value) (hx : ρ x = v1) (hy : ρ y = v2) (h1 : One s w v1) (h2 : Lies .u32 w v2 xs) (hn : xs ≠ []) (hl : xs.length ≤ 100) :
    ∃ v' w', (execOp ρ ⟨dst, .call { callee := .builtin .append, args := #[x, y], argTypes := #[100, 100] }, ty, pos, aft, gd⟩).run Try.prog w = .ok (.value v') w' ∧ Lies .u32 w' v' (s :: xs) ∧ Below w.heap.size w w' := by
  obtain ⟨i0, hi, hz0, hz1, hz2⟩ := info_parts info32
  obtain ⟨b, rfl, hb, hc⟩ := h1
  rcases h2 with ⟨e, _⟩ | ⟨_, b2, off, cap, rfl, _, _, _, hc2⟩
  · exact absurd e hn
  have hpos : 0 < xs.length := List.length_pos_iff.2 hn
  obtain ⟨v', w', hrun, r1, r2⟩ := run_append_arg_grows (P := Try.prog) w 100 ty 33 i0 (.int .u32 0) 1 4 Try.underlying100 hi hz0 hz1 hz2 rfl (by decide) ⟨b, 0, none⟩ 1 1 [.int .u32 s] rfl
    (fun j u hj => by
      match j, hj with
      | 0, hj => rw [Addr.add_lit]; simp at hj; rw [← hj]; exact hc)
    ⟨b2, off, none⟩ xs.length cap (xs.map (Value.int .u32)) (by simp)
    (fun j u hu => by
      have hj : j < xs.length := by
        have := (List.getElem?_eq_some_iff.1 hu).1
        simpa using this
      rw [Addr.add_lit, hc2 j hj]
      simp [hj] at hu ⊢
      exact hu)
    (by omega) (by unfold maxLen; omega) (by omega)
  refine ⟨v', w', ?_, ?_, (Below.refl _ _).grown r2 (Nat.le_refl _) (fun k hk => by cases hk)⟩
  · simp [execOp, resolve, invoke, builtin, hx, hy, hrun, Result.andThen]
  · have : ([Value.int .u32 s] ++ xs.map (Value.int .u32)) = (s :: xs).map (Value.int .u32) := rfl
    rw [this] at r1
    exact Lies.of_own r1
/-- What each operation of the reference's Stamps leaves. -/
def IS (q0 q1 : Nat) (s a b c t d e f r : Int) : Nat → Value → World → Prop
  | 0, v, _ => v = .pointer (some ⟨q0, 0, none⟩)
  | 1, v, _ => v = .int .u32 s
  | 2, v, w => One s w v
  | 3, v, _ => v = .pointer (some ⟨q0, 1, none⟩)
  | 4, v, _ => v = .agg #[.int .u8 a, .int .u32 b, .int .u32 c]
  | 5, v, w => Lies .u32 w v [a, b, c]
  | 6, v, w => Lies .u32 w v [s, a, b, c]
  | 7, v, _ => v = .pointer (some ⟨q1, 0, none⟩)
  | 8, v, _ => v = .int .u32 t
  | 9, v, w => One t w v
  | 10, v, _ => v = .pointer (some ⟨q1, 1, none⟩)
  | 11, v, _ => v = .agg #[.int .u8 d, .int .u32 e, .int .u32 f]
  | 12, v, w => Lies .u32 w v [d, e, f]
  | 13, v, w => Lies .u32 w v [t, d, e, f]
  | _, v, _ => v = .int .i64 r
theorem IS_below (q0 q1 : Nat) (s a b c t d e f r : Int) (i : Nat) (v : Value) (w w' : World) (h : IS q0 q1 s a b c t d e f r i v w) (hB : Below w.heap.size w w') : IS q0 q1 s a b c t d e f r i v w' := by
  match i with
  | 0 | 1 | 3 | 4 | 7 | 8 | 10 | 11 | 14 => exact h
  | 2 => exact One.below h hB
  | 9 => exact One.below h hB
  | 5 => exact Lies.below hB h
  | 6 => exact Lies.below hB h
  | 12 => exact Lies.below hB h
  | 13 => exact Lies.below hB h
  | n + 15 => exact h
end
set_option maxRecDepth 100000 in
set_option maxHeartbeats 1600000 in
theorem rstamps_any (s a b c t d e f : Int) (w : World) (h0 : 0 ≤ a) (h1 : a < 256) (h2 : 0 ≤ d) (h3 : d < 256) : Calls Try.prog 25 #[.agg #[.int .u32 s, .int .u8 a, .int .u32 b, .int .u32 c], .agg #[.int .u32 t, .int .u8 d, .int .u32 e, .int .u32 f]] w fun e' w' => e' = .returned (.int .i64 (stsF (s, a, b, c) (t, d, e, f))) ∧ Below w.heap.size w w' := by
  have C1 := hide (fun w => numbers_any a b c w h0 h1)
  have C2 := hide (fun w => numbers_any d e f w h2 h3)
  have CF : Hid (∀ v1 v2 w, Lies .u32 w v1 [s, a, b, c] → Lies .u32 w v2 [t, d, e, f] → Calls Try.prog 57 #[v1, v2] w fun e' w' => e' = .returned (.int .i64 (stsF (s, a, b, c) (t, d, e, f))) ∧ ∃ n, w' = w.drewN n) := hide (fun v1 v2 w h1 h2 => first_any [s, a, b, c] [t, d, e, f] v1 v2 w h1 h2 rfl (by simp))
  have HS0 : Hid (Box ((w.alloc (.cells #[.int .u32 s, .int .u8 a, .int .u32 b, .int .u32 c] 37)).alloc (.cells #[.int .u32 t, .int .u8 d, .int .u32 e, .int .u32 f] 37)) w.heap.size #[.int .u32 s, .int .u8 a, .int .u32 b, .int .u32 c] 37) := hide ((box_new w _ _).belowI ((Below.refl _ _).alloc (Nat.le_refl _) _))
  have HT0 : Hid (Box ((w.alloc (.cells #[.int .u32 s, .int .u8 a, .int .u32 b, .int .u32 c] 37)).alloc (.cells #[.int .u32 t, .int .u8 d, .int .u32 e, .int .u32 f] 37)) (w.heap.size + 1) #[.int .u32 t, .int .u8 d, .int .u32 e, .int .u32 f] 37) := hide (by
    have := box_new (w.alloc (.cells #[.int .u32 s, .int .u8 a, .int .u32 b, .int .u32 c] 37)) #[.int .u32 t, .int .u8 d, .int .u32 e, .int .u32 f] 37
    rw [World.size_alloc] at this
    exact this)
  have HB0 := hide (((Below.refl w.heap.size w).alloc (Nat.le_refl _) (.cells #[.int .u32 s, .int .u8 a, .int .u32 b, .int .u32 c] 37)).alloc (by simp) (.cells #[.int .u32 t, .int .u8 d, .int .u32 e, .int .u32 f] 37))
  generalize stsF (s, a, b, c) (t, d, e, f) = r at *
  go_enter Try.func25, Try.ntmps25
  go_wp2_with fail
  refine wp_region_each2 (by kernel_rfl) (IS w.heap.size (w.heap.size + 1) s a b c t d e f r) (by kernel_rfl) (IS_below _ _ _ _ _ _ _ _ _ _ _) ?_ ?_
  · intro i o hi A w1 hB hold hdeps
    have hold2 : A.tmps.getD 2 undef = .pointer (some ⟨w.heap.size, 0, none⟩) := hold 2 (by kernel_rfl)
    have hold3 : A.tmps.getD 3 undef = .pointer (some ⟨w.heap.size + 1, 0, none⟩) := hold 3 (by kernel_rfl)
    obtain ⟨x0, x1, x2, x3⟩ := (HS0.out.belowI hB).four
    obtain ⟨y0, y1, y2, y3⟩ := (HT0.out.belowI hB).four
    have h16 : i < 16 := (Array.getElem?_eq_some_iff.1 hi).1
    have hc : i = 0 ∨ i = 1 ∨ i = 2 ∨ i = 3 ∨ i = 4 ∨ i = 5 ∨ i = 6 ∨ i = 7 ∨ i = 8 ∨ i = 9 ∨ i = 10 ∨ i = 11 ∨ i = 12 ∨ i = 13 ∨ i = 14 ∨ i = 15 := by omega
    clear h16
    rcases hc with rfl | rfl | rfl | rfl | rfl | rfl | rfl | rfl | rfl | rfl | rfl | rfl | rfl | rfl | rfl | rfl
    · obtain rfl := Option.some.inj hi
      exact each_pure hi rfl (xi_field0 _ _ hold2) rfl
    · obtain rfl := Option.some.inj hi
      have d0 : A.tmps.getD 5 undef = .pointer (some ⟨w.heap.size, 0, none⟩) := dep_of hdeps 0 (by kernel_rfl)
      exact each_pure hi rfl (xi_load32 _ _ _ d0 x0) rfl
    · obtain rfl := Option.some.inj hi
      have d1 : A.tmps.getD 6 undef = .int .u32 s := dep_of hdeps 1 (by kernel_rfl)
      exact each_alloc hi rfl (xi_build _ _ d1) ((Below.refl _ _).alloc (Nat.le_refl _) _) ⟨_, rfl, by simp, new_at _ _ _ _ _ _ rfl rfl⟩
    · obtain rfl := Option.some.inj hi
      exact each_pure hi rfl (xi_field1 _ _ hold2) rfl
    · obtain rfl := Option.some.inj hi
      have d3 : A.tmps.getD 8 undef = .pointer (some ⟨w.heap.size, 1, none⟩) := dep_of hdeps 3 (by kernel_rfl)
      exact each_pure hi rfl (xi_loadTx _ _ _ _ _ d3 x1 x2 x3) rfl
    · obtain rfl := Option.some.inj hi
      have d4 : A.tmps.getD 9 undef = .agg #[.int .u8 a, .int .u32 b, .int .u32 c] := dep_of hdeps 4 (by kernel_rfl)
      have e1 : A.eval (.tmp 9) = .agg #[.int .u8 a, .int .u32 b, .int .u32 c] := d4
      exact each_enter hi rfl (xi_call 61 _ _ _ rfl (by simp only [List.map_toArray, List.map_cons, List.map_nil, e1]) en_numbers) ((C1.out w1).mono fun e' w' ⟨v, he, ho, hb⟩ => ⟨v, he, hb, Lies.of_own ho⟩)
    · obtain rfl := Option.some.inj hi
      have d2 : One s w1 (A.tmps.getD 7 undef) := dep_of hdeps 2 (by kernel_rfl)
      have d5 : Lies .u32 w1 (A.tmps.getD 10 undef) [a, b, c] := dep_of hdeps 5 (by kernel_rfl)
      obtain ⟨v', w', hrun, hL, hb⟩ := xi_append (ρ := A.eval) (dst := some 11) (ty := 100) (pos := "ref.go:87") (aft := _) (gd := none) (.tmp 7) (.tmp 10) s [a, b, c] _ _ rfl rfl d2 d5 (by simp) (by simp)
      exact each_alloc hi rfl hrun hb hL
    · obtain rfl := Option.some.inj hi
      exact each_pure hi rfl (xi_field0 _ _ hold3) rfl
    · obtain rfl := Option.some.inj hi
      have d7 : A.tmps.getD 12 undef = .pointer (some ⟨w.heap.size + 1, 0, none⟩) := dep_of hdeps 7 (by kernel_rfl)
      exact each_pure hi rfl (xi_load32 _ _ _ d7 y0) rfl
    · obtain rfl := Option.some.inj hi
      have d8 : A.tmps.getD 13 undef = .int .u32 t := dep_of hdeps 8 (by kernel_rfl)
      exact each_alloc hi rfl (xi_build _ _ d8) ((Below.refl _ _).alloc (Nat.le_refl _) _) ⟨_, rfl, by simp, new_at _ _ _ _ _ _ rfl rfl⟩
    · obtain rfl := Option.some.inj hi
      exact each_pure hi rfl (xi_field1 _ _ hold3) rfl
    · obtain rfl := Option.some.inj hi
      have d10 : A.tmps.getD 15 undef = .pointer (some ⟨w.heap.size + 1, 1, none⟩) := dep_of hdeps 10 (by kernel_rfl)
      exact each_pure hi rfl (xi_loadTx _ _ _ _ _ d10 y1 y2 y3) rfl
    · obtain rfl := Option.some.inj hi
      have d11 : A.tmps.getD 16 undef = .agg #[.int .u8 d, .int .u32 e, .int .u32 f] := dep_of hdeps 11 (by kernel_rfl)
      have e1 : A.eval (.tmp 16) = .agg #[.int .u8 d, .int .u32 e, .int .u32 f] := d11
      exact each_enter hi rfl (xi_call 61 _ _ _ rfl (by simp only [List.map_toArray, List.map_cons, List.map_nil, e1]) en_numbers) ((C2.out w1).mono fun e' w' ⟨v, he, ho, hb⟩ => ⟨v, he, hb, Lies.of_own ho⟩)
    · obtain rfl := Option.some.inj hi
      have d9 : One t w1 (A.tmps.getD 14 undef) := dep_of hdeps 9 (by kernel_rfl)
      have d12 : Lies .u32 w1 (A.tmps.getD 17 undef) [d, e, f] := dep_of hdeps 12 (by kernel_rfl)
      obtain ⟨v', w', hrun, hL, hb⟩ := xi_append (ρ := A.eval) (dst := some 18) (ty := 100) (pos := "ref.go:87") (aft := _) (gd := none) (.tmp 14) (.tmp 17) t [d, e, f] _ _ rfl rfl d9 d12 (by simp) (by simp)
      exact each_alloc hi rfl hrun hb hL
    · obtain rfl := Option.some.inj hi
      have d6 : Lies .u32 w1 (A.tmps.getD 11 undef) [s, a, b, c] := dep_of hdeps 6 (by kernel_rfl)
      have d13 : Lies .u32 w1 (A.tmps.getD 18 undef) [t, d, e, f] := dep_of hdeps 13 (by kernel_rfl)
      exact each_enter hi rfl (xi_call 57 _ #[A.tmps.getD 11 undef, A.tmps.getD 18 undef] _ rfl (by simp only [List.map_toArray, List.map_cons, List.map_nil]; rfl) en_first) ((CF.out _ _ w1 d6 d13).mono fun e' w' ⟨he, n, hw⟩ => ⟨_, he, by rw [hw]; exact below_drewN (Below.refl _ _), rfl⟩)
    · obtain rfl := Option.some.inj hi
      have d14 : A.tmps.getD 19 undef = .int .i64 r := dep_of hdeps 14 (by kernel_rfl)
      exact each_pure hi rfl (xi_assign _) d14
  · intro A w1 hB hd hold hall
    have hr : A.tmps.getD 4 undef = .int .i64 r := hall 15 (by decide)
    have HR := hide hr
    clear hr hold hall
    go_wp2_with fail
    refine bodyPost_ret (results_tmp rfl _ _ _) hd ?_
    exact ⟨congrArg Ending.returned HR.out, HB0.out.trans (hB.mono HB0.out.size)⟩
end Go.Proofs.Ytkdccigcpcchlaa
