/-
  Own texts put together: LkTog, IdRef, IdRef2, IdEachV, LkWho. Own work.
-/
import Derived.Test.YtddflccjmigloaaGreatG33
import Derived.Test.YtddflccjmigloaaGreatG05
import Derived.Test.YtddflccjmigloaaGreatG10
import Derived.Test.YtddflccjmigloaaGreatG03
import Derived.Deep.RegionHeldLaw
import Derived.Deep.QuietTactic
import Derived.BigQuiet
import Derived.Maps.AppendAt
import Derived.ArgAppend
import Derived.Shelf.Abstract
namespace Go.Proofs.YtddflccjmigloaaGreat
section
open Go.RowKit Go.Maps Classical

theorem does_ok {a : LAct} {l l' : List (UsP KeyT)} {er : Int} {wn : List TxN} {gr : List (GtP KeyT)} (h : LkI l) (ht : TxB a.t) (htm : a.tm < 4294967296) (hR : DoesR a l er l' wn gr) : LkI l' := by
  rcases hR with ⟨_, h1, _⟩ | ⟨_, h1, _⟩ | ⟨_, h1, _⟩ | ⟨_, h1⟩
  · exact prepR_ok h h1
  · exact relR_ok h h1
  · exact restR_ok h ht h1
  · exact ask_ok h ht htm (fun e => ask_mode2 e) h1
def mnN (l : List (UsP KeyT)) (k : KeyT) : Nat := (l.filter fun u => decide (u.h k ≠ 0)).length
def wrN (l : List (UsP KeyT)) (k : KeyT) : Nat := (l.filter fun u => decide (u.h k = 2)).length
theorem mnN_take (l : List (UsP KeyT)) (k : KeyT) {j : Nat} (h : j < l.length) : mnN (l.take (j + 1)) k = mnN (l.take j) k + (if l[j].h k ≠ 0 then 1 else 0) := by
  unfold mnN
  rw [List.take_succ_eq_append_getElem h, List.filter_append, List.length_append]
  congr 1
  by_cases hd : l[j].h k ≠ 0
  · rw [if_pos hd, List.filter_cons_of_pos (by simpa using hd)]; rfl
  · rw [if_neg hd, List.filter_cons_of_neg (by simpa using hd)]; rfl
theorem wrN_take (l : List (UsP KeyT)) (k : KeyT) {j : Nat} (h : j < l.length) : wrN (l.take (j + 1)) k = wrN (l.take j) k + (if l[j].h k = 2 then 1 else 0) := by
  unfold wrN
  rw [List.take_succ_eq_append_getElem h, List.filter_append, List.length_append]
  congr 1
  by_cases hd : l[j].h k = 2
  · rw [if_pos hd, List.filter_cons_of_pos (by simpa using hd)]; rfl
  · rw [if_neg hd, List.filter_cons_of_neg (by simpa using hd)]; rfl
theorem two_of {l : List (UsP KeyT)} (hr : l.Pairwise fun a b => txO a.tx b.tx < 0) (p : UsP KeyT → Bool) (h : 2 ≤ (l.filter p).length) : ∃ a b, a ∈ l ∧ b ∈ l ∧ a.tx ≠ b.tx ∧ p a = true ∧ p b = true := by
  have hf := hr.filter p
  match hl : l.filter p, h, hf with
  | a :: b :: r, _, hf =>
    have hab := (List.pairwise_cons.1 hf).1 b List.mem_cons_self
    have ha : a ∈ l.filter p := by rw [hl]; exact List.mem_cons_self
    have hb : b ∈ l.filter p := by rw [hl]; exact List.mem_cons_of_mem _ List.mem_cons_self
    have h1 := List.mem_filter.1 ha
    have h2 := List.mem_filter.1 hb
    exact ⟨a, b, h1.1, h2.1, fun e => by rw [e, (txO_zero _ _).2 rfl] at hab; omega, h1.2, h2.2⟩
theorem tog_count {l : List (UsP KeyT)} (h : LkI l) (k : KeyT) : wrN l k ≤ 1 ∧ (wrN l k = 1 → mnN l k ≤ 1) := by
  refine ⟨Nat.le_of_not_lt (fun hw => ?_), fun hw => Nat.le_of_not_lt (fun hm => ?_)⟩
  · obtain ⟨a, b, ha, hb, hne, pa, pb⟩ := two_of h.b.rise _ hw
    have ea : a.h k = 2 := by simpa using pa
    have eb : b.h k = 2 := by simpa using pb
    exact h.m.tog a ha b hb hne k ⟨by omega, by omega, .inl ea⟩
  · obtain ⟨a, b, ha, hb, hne, pa, pb⟩ := two_of h.b.rise _ hm
    have ea : a.h k ≠ 0 := by simpa using pa
    have eb : b.h k ≠ 0 := by simpa using pb
    obtain ⟨u, hu⟩ := List.exists_mem_of_length_pos (l := l.filter (fun u : UsP KeyT => decide (u.h k = 2))) (by unfold wrN at hw; omega)
    have h1 := List.mem_filter.1 hu
    have eu : u.h k = 2 := by simpa using h1.2
    by_cases e : u.tx = a.tx
    · exact h.m.tog u h1.1 b hb (fun e2 => hne (e.symm.trans e2)) k ⟨by omega, eb, .inl eu⟩
    · exact h.m.tog u h1.1 a ha e k ⟨by omega, ea, .inl eu⟩
theorem src_users {w : World} {base : Nat} {v : Value} {l : List (UsP KeyT)} (h : w.ownsRow base 34 3 v l.length (rowOf (l.map fun x => txI x.tx))) : RSrc (fun u : UsP KeyT => txCs (txI u.tx)) w v l := by
  have e : rowOf (l.map fun x => txI x.tx) = flat (fun u : UsP KeyT => txCs (txI u.tx)) l := by
    unfold rowOf flat
    rw [List.flatMap_map]
  rw [e] at h
  exact RSrc.of_own h
theorem lvok_below {w w' : World} {x : LActV} (h : LvOk w x) {B : Nat} (hB : Below B w w') (hBs : w.heap.size ≤ B := by exact Nat.le_refl _) : LvOk w' x := ⟨h.kd, h.tm, h.tx, h.m, h.src.below (hB.mono hBs)⟩
theorem far_ks {fs : List LActV} (h : farL fs = false) : ∀ a ∈ fs.take 60, a.a.ks.length ≤ 30 := fun a ha => by
  unfold farL at h
  have := List.any_eq_false.1 h a ha
  unfold actB15 at this
  simpa using this
theorem act_key {w : World} {p : Nat} {a : LAct} {u : Value} (h : Box w p (lactA a u) 41) : w.rangeAt p 5 (eightE a.k.1) := fun j v hv => by
  have hj : j < 8 := (List.getElem?_eq_some_iff.1 hv).1
  refine h.cell (5 + j) v ?_
  match j, hj with
  | 0, _ => exact hv
  | 1, _ => exact hv
  | 2, _ => exact hv
  | 3, _ => exact hv
  | 4, _ => exact hv
  | 5, _ => exact hv
  | 6, _ => exact hv
  | 7, _ => exact hv
/-- The C of the table behind so many acts. -/
theorem cgrow {C C' k : Nat} (h : C ≤ 30 + k) (h2 : C' ≤ max (C + 1) 30) : C' ≤ 30 + (k + 1) := by omega
end
section
open Go.RowKit

theorem info32 : (Tryz.prog.info? 32).map (fun i => (i.zero, i.size, i.bytes)) = some (some (.int .u32 0), 1, 4) := by kernel_rfl
theorem drop_two (xs : List Int) (k : Nat) (h : k < xs.length) : xs.drop k = xs.getD k 0 :: xs.drop (k + 1) := by
  rw [List.drop_eq_getElem_cons h]; simp [List.getD, h]
set_option maxRecDepth 100000 in
set_option maxHeartbeats 800000 in
theorem first_any (xs ys : List Int) (v1 v2 : Value) (w : World) (h1 : Lies .u32 w v1 xs) (h2 : Lies .u32 w v2 ys) (hl : xs.length = ys.length) (hn : xs.length ≤ 100) :
    Calls Tryz.prog 46 #[v1, v2] w fun e w' => e = .returned (.int .i64 (lexF xs ys)) ∧ ∃ n, w' = w.drewN n := by
  rcases h1 with ⟨rfl, ao, cap, rfl, _⟩ | ⟨hx, b1, o1, c1, rfl, hb1, hl1, hm1, hc1⟩
  · clear h2
    go_enter Tryz.func46, Tryz.ntmps46
    go_wp2
    refine wp_loop_rounds 1 ?_
    rw [rounds_succ]
    go_wp2
    go_ret
    exact ⟨ret_int (by unfold lexF; rfl), 0, rfl⟩
  · rcases h2 with ⟨rfl, _⟩ | ⟨hy, b2, o2, c2, rfl, hb2, hl2, hm2, hc2⟩
    · exact absurd (List.eq_nil_of_length_eq_zero hl) hx
    · have HC1 := hide hc1
      have HC2 := hide hc2
      have HO : Hid (lexF xs ys = lexF (xs.drop 0) (ys.drop 0)) := hide rfl
      have HL := hide hl
      unfold maxLen at hm1 hm2
      clear hc1 hc2 hl
      generalize hn1 : xs.length = n1 at *
      generalize hn2 : ys.length = n2 at *
      have HN1 := hide hn1
      have HN2 := hide hn2
      clear hn1 hn2
      go_enter Tryz.func46, Tryz.ntmps46
      go_wp2
      go_loopw [5] (fun i wr => ∃ k n : Nat, k ≤ n1 ∧ i = .int .i64 k ∧ wr = w.drewN n ∧ Hid (lexF xs ys = lexF (xs.drop k) (ys.drop k))) (fun i _ => n1 - (intOf i).toNat)
      case atStart => exact ⟨0, 0, Nat.zero_le _, rfl, rfl, HO⟩
      case round =>
        obtain ⟨k, n, hk, rfl, hwr, HK⟩ := hrel
        have HW := hide hwr
        have hbk1 : b1 < wr.heap.size := by rw [hwr]; exact hb1
        by_cases hlt : k < n1
        · have hlt2 : k < n2 := by have := HL.out; omega
          have hcell1 : ∀ m, (wr.drewN m).cell? ⟨b1, o1 + k, none⟩ = some (.int .u32 (xs.getD k 0)) := fun m => by rw [hwr]; exact HC1.out k (by omega)
          have hcell2 : ∀ m, (wr.drewN m).cell? ⟨b2, o2 + k, none⟩ = some (.int .u32 (ys.getD k 0)) := fun m => by rw [hwr]; exact HC2.out k (by omega)
          have hcell3 := hcell1 0
          have hcell4 := hcell2 0
          have HD1 := hide (drop_two xs k (by rw [HN1.out]; exact hlt))
          have HD2 := hide (drop_two ys k (by rw [HN2.out]; exact hlt2))
          clear hwr
          generalize xs.getD k 0 = x at *
          generalize ys.getD k 0 = y at *
          rcases cmpF_rng x y with ⟨h, h2⟩ | ⟨h, h2⟩ | ⟨h, h2⟩
          · have HR : Hid (lexF xs ys = -1) := hide (by rw [HK.out, HD1.out, HD2.out]; unfold lexF orF; rw [h]; rfl)
            clear h
            go_wp2
            go_quiet (fail)
            go_wp2
            go_ret
            exact ⟨ret_int HR.out.symm, n + nq, by rw [HW.out, drewN2]⟩
          · have HR : Hid (lexF xs ys = lexF (xs.drop (k + 1)) (ys.drop (k + 1))) := hide (by rw [HK.out, HD1.out, HD2.out]; show orF (cmpF x y) _ = _; unfold orF; rw [if_pos h])
            clear h
            subst h2
            go_wp2
            go_quiet (fail)
            go_wp2
            go_quiet (fail)
            go_wp2
            go_roundw
            case rel => exact ⟨k + 1, _, by omega, by go_num, by rw [HW.out, drewN2], HR⟩
            case measure => simp [intOf]; omega
          · have HR : Hid (lexF xs ys = 1) := hide (by rw [HK.out, HD1.out, HD2.out]; unfold lexF orF; rw [h]; rfl)
            have h3 : ¬ x < y := by omega
            clear h
            go_wp2
            go_quiet (fail)
            go_wp2
            go_quiet (fail)
            go_wp2
            go_ret
            exact ⟨ret_int HR.out.symm, _, by rw [HW.out]; first | exact drewN3 _ _ _ _ | exact drewN2 _ _ _⟩
        · have hge : decide ((k : Int) < (n1 : Int)) = false := decide_eq_false (by omega)
          go_wp2
          go_ret
          exact ⟨ret_int (by rw [HK.out, List.drop_eq_nil_of_le (by have := HN1.out; omega)]; unfold lexF; rfl), n, rfl⟩
end
section
open Go.RowKit

theorem wrap32_u8 {a : Int} (h0 : 0 ≤ a) (h1 : a < 256) : IntKind.u32.wrap a = a := by rw [IntKind.wrap_u32]; omega
theorem owns_lower {w : World} {base base' e size n : Nat} {v : Value} {xs : List Value} (h : w.ownsRow base e size v n xs) (hle : base' ≤ base) : w.ownsRow base' e size v n xs := by
  obtain ⟨hl, h0 | ⟨g, cap, cur, rfl, hb, r⟩⟩ := h
  · exact ⟨hl, .inl h0⟩
  · exact ⟨hl, .inr ⟨g, cap, cur, rfl, Nat.le_trans hle hb, r⟩⟩
/-- A row of one's own in a new block. -/
theorem owns_new32 (w : World) (xs : List Int) (hl : xs.length ≤ 1000000) : (w.alloc (.cells (xs.map (Value.int .u32)).toArray 32)).ownsRow w.heap.size 32 1 (.slice (some ⟨w.heap.size, 0, none⟩) xs.length xs.length) xs.length (xs.map (Value.int .u32)) := by
  refine ⟨by simp, .inr ⟨w.heap.size, xs.length, (xs.map (Value.int .u32)).toArray, rfl, Nat.le_refl _, box_new w _ _, Nat.le_refl _, by unfold maxLen; omega, by simp, ?_⟩⟩
  simp only [Nat.mul_one]
  exact List.take_of_length_le (by simp)
set_option maxRecDepth 100000 in
theorem numbers_any (a b c : Int) (w : World) (h0 : 0 ≤ a) (h1 : a < 256) : Calls Tryz.prog 47 #[.agg #[.int .u8 a, .int .u32 b, .int .u32 c]] w fun e w' => ∃ v, e = .returned v ∧ w'.ownsRow w.heap.size 32 1 v 3 ([a, b, c].map (Value.int .u32)) ∧ Below w.heap.size w w' := by
  have hcv := wrap32_u8 h0 h1
  go_enter Tryz.func47, Tryz.ntmps47
  go_wp2
  go_ret
  refine ⟨_, rfl, ?_, ((Below.refl _ _).alloc (Nat.le_refl _) _).alloc (by simp) _⟩
  have := owns_lower (owns_new32 (w.alloc (.cells #[.int .u8 a, .int .u32 b, .int .u32 c] 34)) [a, b, c] (by simp)) (show w.heap.size ≤ _ by simp)
  rw [World.size_alloc] at this
  exact this
end
section
open Go Go.RowKit Go.Shelf

section
variable {ρ : Operand → Value} {dst : Option Tmp} {ty : TypeId} {pos : String} {aft : Array Edge} {gd : Option (Nat × Bool)} {w : World}
theorem xi_assign (x : Operand) : (execOp ρ ⟨dst, .assign x, ty, pos, aft, gd⟩).run Tryz.prog w = .ok (.value (ρ x)) w := by simp [go_sem]
theorem xi_field0 (x : Operand) (q : Nat) (hx : ρ x = .pointer (some ⟨q, 0, none⟩)) : (execOp ρ ⟨dst, .fieldAddr 36 x 0, ty, pos, aft, gd⟩).run Tryz.prog w = .ok (.value (.pointer (some ⟨q, 0, none⟩))) w := by simp [go_sem, hx]
theorem xi_field1 (x : Operand) (q : Nat) (hx : ρ x = .pointer (some ⟨q, 0, none⟩)) : (execOp ρ ⟨dst, .fieldAddr 36 x 1, ty, pos, aft, gd⟩).run Tryz.prog w = .ok (.value (.pointer (some ⟨q, 1, none⟩))) w := by simp [go_sem, hx]
theorem xi_load32 (x : Operand) (q : Nat) (s : Int) (hx : ρ x = .pointer (some ⟨q, 0, none⟩)) (h : w.cell? ⟨q, 0, none⟩ = some (.int .u32 s)) : (execOp ρ ⟨dst, .load 32 x, ty, pos, aft, gd⟩).run Tryz.prog w = .ok (.value (.int .u32 s)) w := by simp [go_sem, hx, h]
theorem xi_loadTx (x : Operand) (q : Nat) (a b c : Int) (hx : ρ x = .pointer (some ⟨q, 1, none⟩)) (h1 : w.cell? ⟨q, 1, none⟩ = some (.int .u8 a)) (h2 : w.cell? ⟨q, 2, none⟩ = some (.int .u32 b)) (h3 : w.cell? ⟨q, 3, none⟩ = some (.int .u32 c)) : (execOp ρ ⟨dst, .load 34 x, ty, pos, aft, gd⟩).run Tryz.prog w = .ok (.value (.agg #[.int .u8 a, .int .u32 b, .int .u32 c])) w := by simp [go_sem, hx, h1, h2, h3]
theorem xi_build (x : Operand) (s : Int) (hx : ρ x = .int .u32 s) : (execOp ρ ⟨dst, .buildSlice 94 1 #[(0, x)], ty, pos, aft, gd⟩).run Tryz.prog w = .ok (.value (.slice (some ⟨w.heap.size, 0, none⟩) 1 1)) (w.alloc (.cells #[.int .u32 s] 32)) := by simp [go_sem, hx]
theorem xi_call (f : FuncId) (xs : Array Operand) (vs : Array Value) (tys : Array TypeId) (hf : ρ (.func f) = .func (.func f) #[] #[]) (hv : xs.map ρ = vs) (he : ∀ args w, (callFunc f args).run Tryz.prog w = .ok (.enter f args) w) : (execOp ρ ⟨dst, .call { callee := .value (.func f), args := xs, argTypes := tys }, ty, pos, aft, gd⟩).run Tryz.prog w = .ok (.enter f vs) w := by
  subst hv
  simp [go_sem, hf, he]
theorem en_numbers : ∀ args w, (callFunc 47 args).run Tryz.prog w = .ok (.enter 47 args) w := enters_of Tryz.func47 (by kernel_rfl) rfl
theorem en_first : ∀ args w, (callFunc 46 args).run Tryz.prog w = .ok (.enter 46 args) w := enters_of Tryz.func46 (by kernel_rfl) rfl
/-- One number of one's own, and no room behind it. -/
def One (s : Int) (w : World) (v : Value) : Prop := ∃ b, v = .slice (some ⟨b, 0, none⟩) 1 1 ∧ b < w.heap.size ∧ w.cell? ⟨b, 0, none⟩ = some (.int .u32 s)
theorem One.below {s : Int} {w w' : World} {v : Value} (h : One s w v) (hB : Below w.heap.size w w') : One s w' v := by
  obtain ⟨b, rfl, hb, hc⟩ := h
  exact ⟨b, rfl, Nat.lt_of_lt_of_le hb hB.size, (hB.cell (p := ⟨b, 0, none⟩) hb).trans hc⟩
theorem xi_append (x y : Operand) (s : Int) (xs : List Int) (v1 v2 : Value) (hx : ρ x = v1) (hy : ρ y = v2) (h1 : One s w v1) (h2 : Lies .u32 w v2 xs) (hn : xs ≠ []) (hl : xs.length ≤ 100) :
    ∃ v' w', (execOp ρ ⟨dst, .call { callee := .builtin .append, args := #[x, y], argTypes := #[94, 94] }, ty, pos, aft, gd⟩).run Tryz.prog w = .ok (.value v') w' ∧ Lies .u32 w' v' (s :: xs) ∧ Below w.heap.size w w' := by
  obtain ⟨i0, hi, hz0, hz1, hz2⟩ := info_parts info32
  obtain ⟨b, rfl, hb, hc⟩ := h1
  rcases h2 with ⟨e, _⟩ | ⟨_, b2, off, cap, rfl, _, _, _, hc2⟩
  · exact absurd e hn
  have hpos : 0 < xs.length := List.length_pos_iff.2 hn
  obtain ⟨v', w', hrun, r1, r2⟩ := run_append_arg_grows (P := Tryz.prog) w 94 ty 32 i0 (.int .u32 0) 1 4 Tryz.underlying94 hi hz0 hz1 hz2 rfl (by decide) ⟨b, 0, none⟩ 1 1 [.int .u32 s] rfl
    (fun j u hj => by
      match j, hj with
      | 0, hj => rw [Addr.add_lit]; simp at hj; rw [← hj]; exact hc)
    ⟨b2, off, none⟩ xs.length cap (xs.map (Value.int .u32)) (by simp)
    (fun j u hu => by
      have hj : j < xs.length := by
        have := (List.getElem?_eq_some_iff.1 hu).1
        simpa using this
      rw [Addr.add_lit, hc2 j hj]
      simp [hj] at hu ⊢
      exact hu)
    (by omega) (by unfold maxLen; omega) (by omega)
  refine ⟨v', w', ?_, ?_, (Below.refl _ _).grown r2 (Nat.le_refl _) (fun k hk => by cases hk)⟩
  · simp [execOp, resolve, invoke, builtin, hx, hy, hrun, Result.andThen]
  · have : ([Value.int .u32 s] ++ xs.map (Value.int .u32)) = (s :: xs).map (Value.int .u32) := rfl
    rw [this] at r1
    exact Lies.of_own r1
/-- What each operation of the reference's Stamps leaves. -/
def IS (q0 q1 : Nat) (s a b c t d e f r : Int) : Nat → Value → World → Prop
  | 0, v, _ => v = .pointer (some ⟨q0, 0, none⟩)
  | 1, v, _ => v = .int .u32 s
  | 2, v, w => One s w v
  | 3, v, _ => v = .pointer (some ⟨q0, 1, none⟩)
  | 4, v, _ => v = .agg #[.int .u8 a, .int .u32 b, .int .u32 c]
  | 5, v, w => Lies .u32 w v [a, b, c]
  | 6, v, w => Lies .u32 w v [s, a, b, c]
  | 7, v, _ => v = .pointer (some ⟨q1, 0, none⟩)
  | 8, v, _ => v = .int .u32 t
  | 9, v, w => One t w v
  | 10, v, _ => v = .pointer (some ⟨q1, 1, none⟩)
  | 11, v, _ => v = .agg #[.int .u8 d, .int .u32 e, .int .u32 f]
  | 12, v, w => Lies .u32 w v [d, e, f]
  | 13, v, w => Lies .u32 w v [t, d, e, f]
  | _, v, _ => v = .int .i64 r
theorem IS_below (q0 q1 : Nat) (s a b c t d e f r : Int) (i : Nat) (v : Value) (w w' : World) (h : IS q0 q1 s a b c t d e f r i v w) (hB : Below w.heap.size w w') : IS q0 q1 s a b c t d e f r i v w' := by
  match i with
  | 0 | 1 | 3 | 4 | 7 | 8 | 10 | 11 | 14 => exact h
  | 2 => exact One.below h hB
  | 9 => exact One.below h hB
  | 5 => exact Lies.below hB h
  | 6 => exact Lies.below hB h
  | 12 => exact Lies.below hB h
  | 13 => exact Lies.below hB h
  | n + 15 => exact h
end
set_option maxRecDepth 100000 in
set_option maxHeartbeats 1600000 in
theorem rstamps_any (s a b c t d e f : Int) (w : World) (h0 : 0 ≤ a) (h1 : a < 256) (h2 : 0 ≤ d) (h3 : d < 256) : Calls Tryz.prog 26 #[.agg #[.int .u32 s, .int .u8 a, .int .u32 b, .int .u32 c], .agg #[.int .u32 t, .int .u8 d, .int .u32 e, .int .u32 f]] w fun e' w' => e' = .returned (.int .i64 (stsF (s, a, b, c) (t, d, e, f))) ∧ Below w.heap.size w w' := by
  have C1 := hide (fun w => numbers_any a b c w h0 h1)
  have C2 := hide (fun w => numbers_any d e f w h2 h3)
  have CF : Hid (∀ v1 v2 w, Lies .u32 w v1 [s, a, b, c] → Lies .u32 w v2 [t, d, e, f] → Calls Tryz.prog 46 #[v1, v2] w fun e' w' => e' = .returned (.int .i64 (stsF (s, a, b, c) (t, d, e, f))) ∧ ∃ n, w' = w.drewN n) := hide (fun v1 v2 w h1 h2 => first_any [s, a, b, c] [t, d, e, f] v1 v2 w h1 h2 rfl (by simp))
  have HS0 : Hid (Box ((w.alloc (.cells #[.int .u32 s, .int .u8 a, .int .u32 b, .int .u32 c] 36)).alloc (.cells #[.int .u32 t, .int .u8 d, .int .u32 e, .int .u32 f] 36)) w.heap.size #[.int .u32 s, .int .u8 a, .int .u32 b, .int .u32 c] 36) := hide ((box_new w _ _).belowI ((Below.refl _ _).alloc (Nat.le_refl _) _))
  have HT0 : Hid (Box ((w.alloc (.cells #[.int .u32 s, .int .u8 a, .int .u32 b, .int .u32 c] 36)).alloc (.cells #[.int .u32 t, .int .u8 d, .int .u32 e, .int .u32 f] 36)) (w.heap.size + 1) #[.int .u32 t, .int .u8 d, .int .u32 e, .int .u32 f] 36) := hide (by
    have := box_new (w.alloc (.cells #[.int .u32 s, .int .u8 a, .int .u32 b, .int .u32 c] 36)) #[.int .u32 t, .int .u8 d, .int .u32 e, .int .u32 f] 36
    rw [World.size_alloc] at this
    exact this)
  have HB0 := hide (((Below.refl w.heap.size w).alloc (Nat.le_refl _) (.cells #[.int .u32 s, .int .u8 a, .int .u32 b, .int .u32 c] 36)).alloc (by simp) (.cells #[.int .u32 t, .int .u8 d, .int .u32 e, .int .u32 f] 36))
  generalize stsF (s, a, b, c) (t, d, e, f) = r at *
  go_enter Tryz.func26, Tryz.ntmps26
  go_wp2_with fail
  refine wp_region_each2 (by kernel_rfl) (IS w.heap.size (w.heap.size + 1) s a b c t d e f r) (by kernel_rfl) (IS_below _ _ _ _ _ _ _ _ _ _ _) ?_ ?_
  · intro i o hi A w1 hB hold hdeps
    have hold2 : A.tmps.getD 2 undef = .pointer (some ⟨w.heap.size, 0, none⟩) := hold 2 (by kernel_rfl)
    have hold3 : A.tmps.getD 3 undef = .pointer (some ⟨w.heap.size + 1, 0, none⟩) := hold 3 (by kernel_rfl)
    obtain ⟨x0, x1, x2, x3⟩ := (HS0.out.belowI hB).four
    obtain ⟨y0, y1, y2, y3⟩ := (HT0.out.belowI hB).four
    have h16 : i < 16 := (Array.getElem?_eq_some_iff.1 hi).1
    have hc : i = 0 ∨ i = 1 ∨ i = 2 ∨ i = 3 ∨ i = 4 ∨ i = 5 ∨ i = 6 ∨ i = 7 ∨ i = 8 ∨ i = 9 ∨ i = 10 ∨ i = 11 ∨ i = 12 ∨ i = 13 ∨ i = 14 ∨ i = 15 := by omega
    clear h16
    rcases hc with rfl | rfl | rfl | rfl | rfl | rfl | rfl | rfl | rfl | rfl | rfl | rfl | rfl | rfl | rfl | rfl
    · obtain rfl := Option.some.inj hi
      exact each_pure hi rfl (xi_field0 _ _ hold2) rfl
    · obtain rfl := Option.some.inj hi
      have d0 : A.tmps.getD 5 undef = .pointer (some ⟨w.heap.size, 0, none⟩) := dep_of hdeps 0 (by kernel_rfl)
      exact each_pure hi rfl (xi_load32 _ _ _ d0 x0) rfl
    · obtain rfl := Option.some.inj hi
      have d1 : A.tmps.getD 6 undef = .int .u32 s := dep_of hdeps 1 (by kernel_rfl)
      exact each_alloc hi rfl (xi_build _ _ d1) ((Below.refl _ _).alloc (Nat.le_refl _) _) ⟨_, rfl, by simp, new_at _ _ _ _ _ _ rfl rfl⟩
    · obtain rfl := Option.some.inj hi
      exact each_pure hi rfl (xi_field1 _ _ hold2) rfl
    · obtain rfl := Option.some.inj hi
      have d3 : A.tmps.getD 8 undef = .pointer (some ⟨w.heap.size, 1, none⟩) := dep_of hdeps 3 (by kernel_rfl)
      exact each_pure hi rfl (xi_loadTx _ _ _ _ _ d3 x1 x2 x3) rfl
    · obtain rfl := Option.some.inj hi
      have d4 : A.tmps.getD 9 undef = .agg #[.int .u8 a, .int .u32 b, .int .u32 c] := dep_of hdeps 4 (by kernel_rfl)
      have e1 : A.eval (.tmp 9) = .agg #[.int .u8 a, .int .u32 b, .int .u32 c] := d4
      exact each_enter hi rfl (xi_call 47 _ _ _ rfl (by simp only [List.map_toArray, List.map_cons, List.map_nil, e1]) en_numbers) ((C1.out w1).mono fun e' w' ⟨v, he, ho, hb⟩ => ⟨v, he, hb, Lies.of_own ho⟩)
    · obtain rfl := Option.some.inj hi
      have d2 : One s w1 (A.tmps.getD 7 undef) := dep_of hdeps 2 (by kernel_rfl)
      have d5 : Lies .u32 w1 (A.tmps.getD 10 undef) [a, b, c] := dep_of hdeps 5 (by kernel_rfl)
      obtain ⟨v', w', hrun, hL, hb⟩ := xi_append (ρ := A.eval) (dst := some 11) (ty := 94) (pos := "ref.go:87") (aft := _) (gd := none) (.tmp 7) (.tmp 10) s [a, b, c] _ _ rfl rfl d2 d5 (by simp) (by simp)
      exact each_alloc hi rfl hrun hb hL
    · obtain rfl := Option.some.inj hi
      exact each_pure hi rfl (xi_field0 _ _ hold3) rfl
    · obtain rfl := Option.some.inj hi
      have d7 : A.tmps.getD 12 undef = .pointer (some ⟨w.heap.size + 1, 0, none⟩) := dep_of hdeps 7 (by kernel_rfl)
      exact each_pure hi rfl (xi_load32 _ _ _ d7 y0) rfl
    · obtain rfl := Option.some.inj hi
      have d8 : A.tmps.getD 13 undef = .int .u32 t := dep_of hdeps 8 (by kernel_rfl)
      exact each_alloc hi rfl (xi_build _ _ d8) ((Below.refl _ _).alloc (Nat.le_refl _) _) ⟨_, rfl, by simp, new_at _ _ _ _ _ _ rfl rfl⟩
    · obtain rfl := Option.some.inj hi
      exact each_pure hi rfl (xi_field1 _ _ hold3) rfl
    · obtain rfl := Option.some.inj hi
      have d10 : A.tmps.getD 15 undef = .pointer (some ⟨w.heap.size + 1, 1, none⟩) := dep_of hdeps 10 (by kernel_rfl)
      exact each_pure hi rfl (xi_loadTx _ _ _ _ _ d10 y1 y2 y3) rfl
    · obtain rfl := Option.some.inj hi
      have d11 : A.tmps.getD 16 undef = .agg #[.int .u8 d, .int .u32 e, .int .u32 f] := dep_of hdeps 11 (by kernel_rfl)
      have e1 : A.eval (.tmp 16) = .agg #[.int .u8 d, .int .u32 e, .int .u32 f] := d11
      exact each_enter hi rfl (xi_call 47 _ _ _ rfl (by simp only [List.map_toArray, List.map_cons, List.map_nil, e1]) en_numbers) ((C2.out w1).mono fun e' w' ⟨v, he, ho, hb⟩ => ⟨v, he, hb, Lies.of_own ho⟩)
    · obtain rfl := Option.some.inj hi
      have d9 : One t w1 (A.tmps.getD 14 undef) := dep_of hdeps 9 (by kernel_rfl)
      have d12 : Lies .u32 w1 (A.tmps.getD 17 undef) [d, e, f] := dep_of hdeps 12 (by kernel_rfl)
      obtain ⟨v', w', hrun, hL, hb⟩ := xi_append (ρ := A.eval) (dst := some 18) (ty := 94) (pos := "ref.go:87") (aft := _) (gd := none) (.tmp 14) (.tmp 17) t [d, e, f] _ _ rfl rfl d9 d12 (by simp) (by simp)
      exact each_alloc hi rfl hrun hb hL
    · obtain rfl := Option.some.inj hi
      have d6 : Lies .u32 w1 (A.tmps.getD 11 undef) [s, a, b, c] := dep_of hdeps 6 (by kernel_rfl)
      have d13 : Lies .u32 w1 (A.tmps.getD 18 undef) [t, d, e, f] := dep_of hdeps 13 (by kernel_rfl)
      exact each_enter hi rfl (xi_call 46 _ #[A.tmps.getD 11 undef, A.tmps.getD 18 undef] _ rfl (by simp only [List.map_toArray, List.map_cons, List.map_nil]; rfl) en_first) ((CF.out _ _ w1 d6 d13).mono fun e' w' ⟨he, n, hw⟩ => ⟨_, he, by rw [hw]; exact below_drewN (Below.refl _ _), rfl⟩)
    · obtain rfl := Option.some.inj hi
      have d14 : A.tmps.getD 19 undef = .int .i64 r := dep_of hdeps 14 (by kernel_rfl)
      exact each_pure hi rfl (xi_assign _) d14
  · intro A w1 hB _ hd hold hall
    have hr : A.tmps.getD 4 undef = .int .i64 r := hall 15 (by decide)
    have HR := hide hr
    clear hr hold hall
    go_wp2_with fail
    refine bodyPost_ret (results_tmp rfl _ _ _) hd ?_
    exact ⟨congrArg Ending.returned HR.out, HB0.out.trans (hB.mono HB0.out.size)⟩
end
section
open Go.RowKit Go.Maps Classical

/-- The stamp's time that an act gives to a new one. -/
def newTm (a : LAct) : Nat := if a.kd % 5 = 4 then 0 else a.tm
theorem does_who {a : LAct} {l l' : List (UsP KeyT)} {er : Int} {wn : List TxN} {gr : List (GtP KeyT)} (hR : DoesR a l er l' wn gr) : ∀ v ∈ l', (∃ u ∈ l, v.tx = u.tx ∧ v.tm = u.tm) ∨ (usL l v.tx = none ∧ v.tx = a.t ∧ v.tm = newTm a) := by
  intro v hv
  rcases hR with ⟨h0, h1, _⟩ | ⟨h0, h1, _⟩ | ⟨h0, h1, _⟩ | ⟨h0, h1⟩
  · exact .inl (prep_who h1 v hv)
  · obtain ⟨u, hu, e1, e2, _⟩ := rel_who h1 v hv
    exact .inl ⟨u, hu, e1, e2⟩
  · rcases rest_who h1 v hv with h | ⟨h2, h3, h4⟩
    · exact .inl h
    · exact .inr ⟨by rw [h3]; exact h2, h3, by unfold newTm; rw [if_pos h0]; exact h4⟩
  · rcases ask_who h1 v hv with h | ⟨h2, h3, h4⟩
    · exact .inl h
    · exact .inr ⟨by rw [h3]; exact h2, h3, by unfold newTm; rw [if_neg h0.2.2]; exact h4⟩
/-- The ages of the users behind an act, by those ahead of it. -/
def ageM (l : List (UsP KeyT)) (t : TxN) : Option Nat := (usL l t).map (·.tm)
theorem age_next {a : LAct} {l l' : List (UsP KeyT)} {er : Int} {wn : List TxN} {gr : List (GtP KeyT)} (h : LkI l) (hR : DoesR a l er l' wn gr) {v : UsP KeyT} (hv : v ∈ l') : v.tm = (ageM l v.tx).getD (newTm a) := by
  rcases does_who hR v hv with ⟨u, hu, e1, e2⟩ | ⟨h0, _, h2⟩
  · have : usL l v.tx = some u := (usL_some h.b).2 ⟨hu, e1.symm⟩
    unfold ageM
    rw [this, e2]
    rfl
  · unfold ageM
    rw [h0, h2]
    rfl
end
end Go.Proofs.YtddflccjmigloaaGreat
