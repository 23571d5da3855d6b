/-
  Own texts put together: MgR2. Own work.
-/
import Derived.Test.YtodomdmmffooaaaG14
namespace Go.Proofs.Ytodomdmmffooaaa
section
open Go.RowKit Classical

section
variable {ρ : Operand → Value} {w : World} {dst : Option Tmp} {ty : TypeId} {pos : String} {aft : Array Edge} {gd : Option (Nat × Bool)}
theorem y_idxW (x y : Operand) {b off n c k : Nat} (hx : ρ x = .slice (some ⟨b, off, none⟩) n c) (hy : ρ y = .int .i64 (k : Int)) (h : k < n) : (execOp ρ ⟨dst, .indexAddr 36 x y, ty, pos, aft, gd⟩).run Try.prog w = .ok (.value (.pointer (some ⟨b, off + k * 21, none⟩))) w := by
  have h1 : (0 : Int) ≤ (k : Int) := by omega
  have h2 : (k : Int) < (n : Int) := by omega
  simp [go_sem, hx, hy, h1, h2]
theorem y_fldW0 (x : Operand) {b o : Nat} (hx : ρ x = .pointer (some ⟨b, o, none⟩)) : (execOp ρ ⟨dst, .fieldAddr 59 x 0, ty, pos, aft, gd⟩).run Try.prog w = .ok (.value (.pointer (some ⟨b, o, none⟩))) w := by simp [go_sem, hx]
theorem y_fldW1 (x : Operand) {b o : Nat} (hx : ρ x = .pointer (some ⟨b, o, none⟩)) : (execOp ρ ⟨dst, .fieldAddr 59 x 1, ty, pos, aft, gd⟩).run Try.prog w = .ok (.value (.pointer (some ⟨b, o + 8, none⟩))) w := by simp [go_sem, hx]
theorem y_sub1 (x y : Operand) {k : Nat} (hx : ρ x = .int .i64 ((k + 1 : Nat) : Int)) (hy : ρ y = .int .i64 1) (h : k < 1000000) : (execOp ρ ⟨dst, .binOp .sub 3 x y 3, ty, pos, aft, gd⟩).run Try.prog w = .ok (.value (.int .i64 (k : Int))) w := by
  have h1 : IntKind.i64.wrap (k : Int) = (k : Int) := by rw [IntKind.wrap_i64]; omega
  rw [Int.natCast_add, show ((1 : Nat) : Int) = 1 from rfl] at hx
  refine y_bin _ _ _ _ _ hx hy ?_ (by simp [eqGuard])
  simp only [binOp]
  simp [go_sem, h1]
theorem y_gtr0 (x y : Operand) {k : Nat} {r : Bool} (hx : ρ x = .int .i64 (k : Int)) (hy : ρ y = .int .i64 0) (h : decide (0 < k) = r) : (execOp ρ ⟨dst, .binOp .gtr 3 x y 3, ty, pos, aft, gd⟩).run Try.prog w = .ok (.value (.bool r)) w := by
  subst h
  simp [go_sem, hx, hy]
theorem y_geq0 (x y : Operand) {k : Int} {r : Bool} (hx : ρ x = .int .i64 k) (hy : ρ y = .int .i64 0) (h : decide (0 ≤ k) = r) : (execOp ρ ⟨dst, .binOp .geq 3 x y 3, ty, pos, aft, gd⟩).run Try.prog w = .ok (.value (.bool r)) w := by
  subst h
  simp [go_sem, hx, hy]
end
theorem en10_rkey : ∀ args w, (callFunc 59 args).run Try.prog w = .ok (.enter 59 args) w := enters_of Try.func59 (by kernel_rfl) rfl
theorem en10_ritem : ∀ args w, (callFunc 60 args).run Try.prog w = .ok (.enter 60 args) w := enters_of Try.func60 (by kernel_rfl) rfl
theorem en10_rkeys : ∀ args w, (callFunc 61 args).run Try.prog w = .ok (.enter 61 args) w := enters_of Try.func61 (by kernel_rfl) rfl
theorem infoKey10 : (Try.prog.info? 53).map (·.size) = some 8 := by kernel_rfl
theorem neq_wr10 {a b : WrP} (ha : KeyOk a.key ∧ ItOk a.it) (hb : KeyOk b.key ∧ ItOk b.it) (w : World) : (binOp .neq 59 (.agg (wrA a)) (.agg (wrA b))).run Try.prog w = .ok (.bool (!decide (a = b))) w := by
  rw [run_neq_struct, show (10000 : Nat) = 9995 + 5 from rfl, eq_wr 9995 ha hb]
  rfl
theorem RSrc.range {w : World} {ao : Option Addr} {n c : Nat} {xs : List WrP} (h : RSrc wrE w (.slice ao n c) xs) {i : Nat} (hi : i < xs.length) : ∃ b off, ao = some ⟨b, off, none⟩ ∧ w.rangeAt b (off + i * 21) (wrE xs[i]) := by
  obtain ⟨_, b, off, rfl, _, hc⟩ := h.at recWR.len hi
  exact ⟨b, off, rfl, fun j v hv => hc j v hv⟩
theorem range_key {w : World} {b o : Nat} {x : WrP} (h : w.rangeAt b o (wrE x)) : w.rangeAt b o (eightE x.key) := fun j v hv => h j v (by
  have hj : j < 8 := (List.getElem?_eq_some_iff.1 hv).1
  show (eightE x.key ++ itE x.it)[j]? = some v
  rw [List.getElem?_append_left hj]
  exact hv)
theorem range_item {w : World} {b o : Nat} {x : WrP} (h : w.rangeAt b o (wrE x)) : w.rangeAt b (o + 8) (itE x.it) := fun j v hv => by
  have h1 := h (8 + j) v (by
    show (eightE x.key ++ itE x.it)[8 + j]? = some v
    rw [List.getElem?_append_right (by simp)]
    simpa using hv)
  rw [show o + 8 + j = o + (8 + j) by omega]
  exact h1
theorem range_below {w w' : World} {b o : Nat} {cs : List Value} (h : w.rangeAt b o cs) (hb : b < w.heap.size) (hB : Below w.heap.size w w') : w'.rangeAt b o cs := fun j v hv => (World.cell?_of_block (hB.block b hb)).trans (h j v hv)
set_option maxRecDepth 100000 in
set_option maxHeartbeats 3200000 in
theorem rsameWrites_any (v1 v2 : Value) (la lb : List WrP) (w : World) (h1 : RSrc wrE w v1 la) (h2 : RSrc wrE w v2 lb) (ha : ∀ x ∈ la, KeyOk x.key ∧ ItOk x.it) (hb : ∀ x ∈ lb, KeyOk x.key ∧ ItOk x.it) :
    Calls Try.prog 12 #[v1, v2] w fun e w' => e = .returned (.bool (decide (la = lb))) ∧ Below w.heap.size w w' := by
  obtain ⟨a1, c1, rfl, hc1, hm1⟩ := h1.shape
  obtain ⟨a2, c2, rfl, hc2, hm2⟩ := h2.shape
  unfold maxLen at hm1 hm2
  have H1 := hide h1
  have H2 := hide h2
  have HA := hide ha
  have HB := hide hb
  obtain ⟨R, hR⟩ : ∃ R, R = decide (la = lb) := ⟨_, rfl⟩
  rw [← hR]
  have HR := hide hR
  obtain ⟨L1, hL1⟩ : ∃ L1, L1 = la.length := ⟨_, rfl⟩
  obtain ⟨L2, hL2⟩ : ∃ L2, L2 = lb.length := ⟨_, rfl⟩
  rw [← hL1, ← hL2]
  rw [← hL1] at hc1
  rw [← hL2] at hc2
  have HL1 := hide hL1
  have HL2 := hide hL2
  clear h1 h2 ha hb hR hL1 hL2
  by_cases hl : L1 = L2
  · subst hl
    have hne : ((L1 : Int) != (L1 : Int)) = false := by simp
    have hcm : (L1 : Int) ≤ 9223372036854775807 := by omega
    go_enter Try.func12, Try.ntmps12
    go_wp2_with fail
    go_loopg [5] L1 (fun g i wr => ∃ k : Nat, k + g = L1 ∧ i = .int .i64 k ∧ Hid (Below w.heap.size w wr) ∧ Hid (la.take k = lb.take k))
    case atStart => exact ⟨0, by omega, rfl, hide (Below.refl _ _), hide rfl⟩
    case round =>
      obtain ⟨k, hk, rfl, HBW, HT⟩ := hrel
      cases gk with
      | zero =>
        obtain rfl : k = L1 := by omega
        have hz : ¬ ((k : Int) < (k : Int)) := by omega
        have HE : Hid (R = true) := hide (by
          have := HT.out
          rw [HL1.out, List.take_length, ← HL1.out, HL2.out, List.take_length] at this
          rw [HR.out, decide_eq_true this])
        go_wp2_with fail
        go_ret
        exact ⟨by rw [HE.out]; rfl, HBW.out⟩
      | succ g =>
        have hz : (k : Int) < (L1 : Int) := by omega
        have hk1 : k < la.length := by rw [← HL1.out]; omega
        have hk2 : k < lb.length := by rw [← HL2.out]; omega
        have hkl : k < L1 := by omega
        have hS1 : RSrc wrE wr (.slice a1 L1 c1) la := by have := H1.out.below HBW.out; rw [← HL1.out] at this; exact this
        have hS2 : RSrc wrE wr (.slice a2 L1 c2) lb := by have := H2.out.below HBW.out; rw [← HL2.out] at this; exact this
        obtain ⟨b1, o1, rfl, hr1⟩ := hS1.range hk1
        obtain ⟨b2, o2, rfl, hr2⟩ := hS2.range hk2
        obtain ⟨x, hx⟩ : ∃ x, x = la[k] := ⟨_, rfl⟩
        obtain ⟨y, hy⟩ : ∃ y, y = lb[k] := ⟨_, rfl⟩
        rw [← hx] at hr1
        rw [← hy] at hr2
        have HR1 := hide hr1
        have HR2 := hide hr2
        have HXO : Hid (KeyOk x.key ∧ ItOk x.it) := hide (by rw [hx]; exact HA.out _ (List.getElem_mem hk1))
        have HYO : Hid (KeyOk y.key ∧ ItOk y.it) := hide (by rw [hy]; exact HB.out _ (List.getElem_mem hk2))
        have HXY : Hid (x = la[k] ∧ y = lb[k]) := hide ⟨hx, hy⟩
        have hbl : b1 < wr.heap.size := by obtain ⟨_, _, _, e, hb, _⟩ := hS1.at recWR.len hk1; cases e; exact hb
        have hbl2 : b2 < wr.heap.size := by obtain ⟨_, _, _, e, hb, _⟩ := hS2.at recWR.len hk2; cases e; exact hb
        clear hS1 hS2 hr1 hr2 hx hy
        by_cases hxy : x = y
        · have HN : Hid (∀ W, (binOp .neq 59 (.agg (wrA x)) (.agg (wrA y))).run Try.prog W = .ok (.bool false) W) := hide (fun W => by rw [neq_wr10 HXO.out HYO.out, decide_eq_true hxy]; rfl)
          have HT2 : Hid (la.take (k + 1) = lb.take (k + 1)) := hide (by rw [List.take_succ_eq_append_getElem hk1, List.take_succ_eq_append_getElem hk2, HT.out, ← HXY.out.1, ← HXY.out.2, hxy])
          go_wp2_with fail
          refine wp_region_vals (by kernel_rfl) [(17, .slice (some ⟨b1, o1, none⟩) L1 c1), (18, .int .i64 (k : Int)), (19, .pointer (some ⟨b1, o1 + k * 21, none⟩)), (20, .agg (wrA x)), (21, .slice (some ⟨b2, o2, none⟩) L1 c2), (22, .int .i64 (k : Int)), (23, .pointer (some ⟨b2, o2 + k * 21, none⟩)), (24, .agg (wrA y)), (25, .bool false)] (by kernel_rfl) rfl ?_ ?_
          · intro i o hi A w1 hB hold hdeps
            have hlt : i < 9 := (Array.getElem?_eq_some_iff.1 hi).1
            have hc : i = 0 ∨ i = 1 ∨ i = 2 ∨ i = 3 ∨ i = 4 ∨ i = 5 ∨ i = 6 ∨ i = 7 ∨ i = 8 := by omega
            clear hlt
            rcases hc with rfl | rfl | rfl | rfl | rfl | rfl | rfl | rfl | rfl
            · obtain rfl := Option.some.inj hi
              have s0 : A.tmps.getD 0 undef = .slice (some ⟨b1, o1, none⟩) L1 c1 := hold 0 (by kernel_rfl)
              exact r_pure hi rfl rfl (y_move _ s0)
            · obtain rfl := Option.some.inj hi
              have s5 : A.tmps.getD 5 undef = .int .i64 (k : Int) := hold 5 (by kernel_rfl)
              exact r_pure hi rfl rfl (y_move _ s5)
            · obtain rfl := Option.some.inj hi
              have s17 : A.tmps.getD 17 undef = .slice (some ⟨b1, o1, none⟩) L1 c1 := dep_of hdeps 0 (by kernel_rfl)
              have s18 : A.tmps.getD 18 undef = .int .i64 (k : Int) := dep_of hdeps 1 (by kernel_rfl)
              exact r_pure hi rfl rfl (y_idxW _ _ s17 s18 hkl)
            · obtain rfl := Option.some.inj hi
              have s19 : A.tmps.getD 19 undef = .pointer (some ⟨b1, o1 + k * 21, none⟩) := dep_of hdeps 2 (by kernel_rfl)
              exact r_pure hi rfl rfl (y_loadMid _ _ s19 (range_below HR1.out hbl hB) Try.underlying59 rfl infoWrite)
            · obtain rfl := Option.some.inj hi
              have s1 : A.tmps.getD 1 undef = .slice (some ⟨b2, o2, none⟩) L1 c2 := hold 1 (by kernel_rfl)
              exact r_pure hi rfl rfl (y_move _ s1)
            · obtain rfl := Option.some.inj hi
              have s5 : A.tmps.getD 5 undef = .int .i64 (k : Int) := hold 5 (by kernel_rfl)
              exact r_pure hi rfl rfl (y_move _ s5)
            · obtain rfl := Option.some.inj hi
              have s21 : A.tmps.getD 21 undef = .slice (some ⟨b2, o2, none⟩) L1 c2 := dep_of hdeps 4 (by kernel_rfl)
              have s22 : A.tmps.getD 22 undef = .int .i64 (k : Int) := dep_of hdeps 5 (by kernel_rfl)
              exact r_pure hi rfl rfl (y_idxW _ _ s21 s22 hkl)
            · obtain rfl := Option.some.inj hi
              have s23 : A.tmps.getD 23 undef = .pointer (some ⟨b2, o2 + k * 21, none⟩) := dep_of hdeps 6 (by kernel_rfl)
              exact r_pure hi rfl rfl (y_loadMid _ _ s23 (range_below HR2.out hbl2 hB) Try.underlying59 rfl infoWrite)
            · obtain rfl := Option.some.inj hi
              have s20 : A.tmps.getD 20 undef = .agg (wrA x) := dep_of hdeps 3 (by kernel_rfl)
              have s24 : A.tmps.getD 24 undef = .agg (wrA y) := dep_of hdeps 7 (by kernel_rfl)
              exact r_pure hi rfl rfl (y_bin _ _ _ _ _ s20 s24 (HN.out w1) (by kernel_rfl))
          · intro w8 hB8
            simp only [putAll, Act.put, List.setIfInBounds_toArray, List.set_cons_succ, List.set_cons_zero]
            have HB8 := hide hB8
            clear hB8
            go_wp2_with fail
            go_roundg g
            case measure => omega
            case rel => exact ⟨k + 1, by omega, by first | rfl | go_num, hide (HBW.out.trans (HB8.out.mono HBW.out.size)), HT2⟩
        · have HN : Hid (∀ W, (binOp .neq 59 (.agg (wrA x)) (.agg (wrA y))).run Try.prog W = .ok (.bool true) W) := hide (fun W => by rw [neq_wr10 HXO.out HYO.out, decide_eq_false hxy]; rfl)
          have HE : Hid (R = false) := hide (by
            rw [HR.out]
            refine decide_eq_false (fun e => hxy ?_)
            rw [HXY.out.1, HXY.out.2]
            simp only [e])
          go_wp2_with fail
          refine wp_region_vals (by kernel_rfl) [(17, .slice (some ⟨b1, o1, none⟩) L1 c1), (18, .int .i64 (k : Int)), (19, .pointer (some ⟨b1, o1 + k * 21, none⟩)), (20, .agg (wrA x)), (21, .slice (some ⟨b2, o2, none⟩) L1 c2), (22, .int .i64 (k : Int)), (23, .pointer (some ⟨b2, o2 + k * 21, none⟩)), (24, .agg (wrA y)), (25, .bool true)] (by kernel_rfl) rfl ?_ ?_
          · intro i o hi A w1 hB hold hdeps
            have hlt : i < 9 := (Array.getElem?_eq_some_iff.1 hi).1
            have hc : i = 0 ∨ i = 1 ∨ i = 2 ∨ i = 3 ∨ i = 4 ∨ i = 5 ∨ i = 6 ∨ i = 7 ∨ i = 8 := by omega
            clear hlt
            rcases hc with rfl | rfl | rfl | rfl | rfl | rfl | rfl | rfl | rfl
            · obtain rfl := Option.some.inj hi
              have s0 : A.tmps.getD 0 undef = .slice (some ⟨b1, o1, none⟩) L1 c1 := hold 0 (by kernel_rfl)
              exact r_pure hi rfl rfl (y_move _ s0)
            · obtain rfl := Option.some.inj hi
              have s5 : A.tmps.getD 5 undef = .int .i64 (k : Int) := hold 5 (by kernel_rfl)
              exact r_pure hi rfl rfl (y_move _ s5)
            · obtain rfl := Option.some.inj hi
              have s17 : A.tmps.getD 17 undef = .slice (some ⟨b1, o1, none⟩) L1 c1 := dep_of hdeps 0 (by kernel_rfl)
              have s18 : A.tmps.getD 18 undef = .int .i64 (k : Int) := dep_of hdeps 1 (by kernel_rfl)
              exact r_pure hi rfl rfl (y_idxW _ _ s17 s18 hkl)
            · obtain rfl := Option.some.inj hi
              have s19 : A.tmps.getD 19 undef = .pointer (some ⟨b1, o1 + k * 21, none⟩) := dep_of hdeps 2 (by kernel_rfl)
              exact r_pure hi rfl rfl (y_loadMid _ _ s19 (range_below HR1.out hbl hB) Try.underlying59 rfl infoWrite)
            · obtain rfl := Option.some.inj hi
              have s1 : A.tmps.getD 1 undef = .slice (some ⟨b2, o2, none⟩) L1 c2 := hold 1 (by kernel_rfl)
              exact r_pure hi rfl rfl (y_move _ s1)
            · obtain rfl := Option.some.inj hi
              have s5 : A.tmps.getD 5 undef = .int .i64 (k : Int) := hold 5 (by kernel_rfl)
              exact r_pure hi rfl rfl (y_move _ s5)
            · obtain rfl := Option.some.inj hi
              have s21 : A.tmps.getD 21 undef = .slice (some ⟨b2, o2, none⟩) L1 c2 := dep_of hdeps 4 (by kernel_rfl)
              have s22 : A.tmps.getD 22 undef = .int .i64 (k : Int) := dep_of hdeps 5 (by kernel_rfl)
              exact r_pure hi rfl rfl (y_idxW _ _ s21 s22 hkl)
            · obtain rfl := Option.some.inj hi
              have s23 : A.tmps.getD 23 undef = .pointer (some ⟨b2, o2 + k * 21, none⟩) := dep_of hdeps 6 (by kernel_rfl)
              exact r_pure hi rfl rfl (y_loadMid _ _ s23 (range_below HR2.out hbl2 hB) Try.underlying59 rfl infoWrite)
            · obtain rfl := Option.some.inj hi
              have s20 : A.tmps.getD 20 undef = .agg (wrA x) := dep_of hdeps 3 (by kernel_rfl)
              have s24 : A.tmps.getD 24 undef = .agg (wrA y) := dep_of hdeps 7 (by kernel_rfl)
              exact r_pure hi rfl rfl (y_bin _ _ _ _ _ s20 s24 (HN.out w1) (by kernel_rfl))
          · intro w8 hB8
            simp only [putAll, Act.put, List.setIfInBounds_toArray, List.set_cons_succ, List.set_cons_zero]
            have HB8 := hide hB8
            clear hB8
            go_wp2_with fail
            go_ret
            exact ⟨by rw [HE.out]; rfl, HBW.out.trans (HB8.out.mono HBW.out.size)⟩
  · have hne : ((L1 : Int) != (L2 : Int)) = true := by simp; omega
    have HE : Hid (R = false) := hide (by rw [HR.out]; exact decide_eq_false (fun e => hl (by rw [HL1.out, HL2.out, e])))
    go_enter Try.func12, Try.ntmps12
    go_wp2_with fail
    go_ret
    exact ⟨by rw [HE.out]; rfl, Below.refl _ _⟩
def keysB (l : List WrP) (k : Nat) : Bool := k == 0 || decide (lexF (l.getD (k - 1) zeroWr).key (l.getD k zeroWr).key < 0)
def okAt (l : List WrP) (k : Nat) : Bool := (nameF (l.getD k zeroWr).key).2 && itMayB (l.getD k zeroWr).it && keysB l k
theorem rise_at : ∀ {ks : List (List Int)}, riseB ks = true ↔ ∀ j, j + 1 < ks.length → lexF (ks.getD j []) (ks.getD (j + 1) []) < 0
  | [] => by simp [riseB]
  | [a] => by simp [riseB]
  | a :: b :: l => by
    have ih := rise_at (ks := b :: l)
    rw [riseB, Bool.and_eq_true, decide_eq_true_eq, ih]
    constructor
    · rintro ⟨h0, h⟩ j hj
      cases j with
      | zero => simpa using h0
      | succ j => simpa using h j (by simpa using hj)
    · intro h
      refine ⟨by simpa using h 0 (by simp), fun j hj => ?_⟩
      simpa using h (j + 1) (by simpa using hj)
theorem key_getD (l : List WrP) {k : Nat} (hk : k < l.length) : (l.map WrP.key).getD k [] = (l.getD k zeroWr).key := by simp [List.getD, hk]
theorem ws_all {l : List WrP} : wsMayB l = true ↔ (∀ k, k < l.length → okAt l k = true) ∧ l.length ≤ 16 := by
  unfold wsMayB
  rw [Bool.and_eq_true, Bool.and_eq_true, decide_eq_true_eq, List.all_eq_true, rise_at, List.length_map]
  constructor
  · rintro ⟨⟨h1, h2⟩, h3⟩
    refine ⟨fun k hk => ?_, h3⟩
    have e : l.getD k zeroWr = l[k] := by simp [List.getD, hk]
    unfold okAt keysB
    rw [e, Bool.and_eq_true]
    refine ⟨h1 _ (List.getElem_mem hk), ?_⟩
    cases k with
    | zero => rfl
    | succ k =>
      have := h2 k hk
      rw [key_getD l (by omega), key_getD l hk] at this
      rw [Nat.add_sub_cancel, ← e, Bool.or_eq_true, decide_eq_true_eq]
      exact .inr this
  · rintro ⟨h1, h3⟩
    refine ⟨⟨fun x hx => ?_, fun j hj => ?_⟩, h3⟩
    · obtain ⟨k, hk, rfl⟩ := List.getElem_of_mem hx
      have e : l.getD k zeroWr = l[k] := by simp [List.getD, hk]
      have := h1 k hk
      unfold okAt at this
      rw [e, Bool.and_eq_true] at this
      exact this.1
    · have := h1 (j + 1) hj
      unfold okAt keysB at this
      rw [Bool.and_eq_true, Nat.add_sub_cancel] at this
      rw [key_getD l (by omega), key_getD l hj]
      simpa using this.2
theorem ws_not {l : List WrP} {k : Nat} (hk : k < l.length) (h : okAt l k = false) : wsMayB l = false := by
  cases hq : wsMayB l with
  | false => rfl
  | true => have := (ws_all.1 hq).1 k hk; rw [h] at this; cases this
set_option maxRecDepth 100000 in
set_option maxHeartbeats 6400000 in
theorem rwrites_any (v : Value) (ws : List WrP) (w : World) (h : RSrc wrE w v ws) (hok : ∀ x ∈ ws, KeyOk x.key ∧ ItOk x.it) (hv : ∀ x ∈ ws, x.it.val.length ≤ 9223372036854775807) (hlen : ws.length ≤ 100000) :
    Calls Try.prog 40 #[v] w fun e w' => e = .returned (.bool (wsMayB ws)) ∧ Below w.heap.size w w' := by
  obtain ⟨a1, c1, rfl, hc1, hm1⟩ := h.shape
  have H1 := hide h
  have HA := hide hok
  have HV := hide hv
  obtain ⟨R, hR⟩ : ∃ R, R = wsMayB ws := ⟨_, rfl⟩
  rw [← hR]
  have HR := hide hR
  obtain ⟨L1, hL1⟩ : ∃ L1, L1 = ws.length := ⟨_, rfl⟩
  rw [← hL1]
  rw [← hL1] at hc1 hlen
  have HL1 := hide hL1
  clear h hok hv hR hL1 hm1
  go_enter Try.func40, Try.ntmps40
  go_wp2_with fail
  go_loopg [3] L1 (fun g i wr => ∃ k : Nat, k + g = L1 ∧ i = .int .i64 k ∧ Hid (Below w.heap.size w wr) ∧ Hid (∀ j, j < k → okAt ws j = true))
  case atStart => exact ⟨0, by omega, rfl, hide (Below.refl _ _), hide (fun j h => absurd h (Nat.not_lt_zero _))⟩
  case round =>
    obtain ⟨k, hk, rfl, HBW, HT⟩ := hrel
    cases gk with
    | zero =>
      obtain rfl : k = L1 := by omega
      have hz : ¬ ((k : Int) < (k : Int)) := by omega
      have HE : Hid (R = decide ((k : Int) ≤ 16)) := hide (by
        rw [HR.out, Bool.eq_iff_iff, ws_all, decide_eq_true_eq, ← HL1.out]
        exact ⟨fun h => by omega, fun h => ⟨fun j hj => HT.out j hj, by omega⟩⟩)
      go_wp2_with fail
      go_ret
      exact ⟨by rw [HE.out]; rfl, HBW.out⟩
    | succ g =>
      have hz : (k : Int) < (L1 : Int) := by omega
      have hk1 : k < ws.length := by rw [← HL1.out]; omega
      have hkl : k < L1 := by omega
      have hS1 : RSrc wrE wr (.slice a1 L1 c1) ws := by have := H1.out.below HBW.out; rw [← HL1.out] at this; exact this
      obtain ⟨b1, o1, rfl, hr1⟩ := hS1.range hk1
      have hbl : b1 < wr.heap.size := by obtain ⟨_, _, _, e, hb, _⟩ := hS1.at recWR.len hk1; cases e; exact hb
      obtain ⟨x, hx⟩ : ∃ x, x = ws[k] := ⟨_, rfl⟩
      rw [← hx] at hr1
      have HR1 := hide hr1
      have HXD : Hid (ws.getD k zeroWr = x) := hide (by rw [hx]; simp [List.getD, hk1])
      have HXO : Hid (KeyOk x.key ∧ ItOk x.it) := hide (by rw [hx]; exact HA.out _ (List.getElem_mem hk1))
      have HXV : Hid (x.it.val.length ≤ 9223372036854775807) := hide (by rw [hx]; exact HV.out _ (List.getElem_mem hk1))
      have CK := hide (fun W => rkeyMay_any x.key HXO.out.1 W)
      have CI := hide (fun W => ritem_any x.it HXO.out.2 HXV.out W)
      clear hr1 hx
      cases hkey : (nameF x.key).2 with
      | false =>
        rw [hkey] at CK
        have HE : Hid (R = false) := hide (by rw [HR.out]; exact ws_not hk1 (by unfold okAt; rw [HXD.out, hkey]; rfl))
        clear hkey hS1
        go_wp2_with fail
        refine wp_region_vals (by kernel_rfl) [(10, .slice (some ⟨b1, o1, none⟩) L1 c1), (11, .int .i64 (k : Int)), (12, .pointer (some ⟨b1, o1 + k * 21, none⟩)), (13, .pointer (some ⟨b1, o1 + k * 21, none⟩)), (14, .agg (eightA x.key)), (15, .bool false), (16, .bool true), (17, .bool true), (18, undef), (19, undef), (20, undef), (21, undef), (22, undef), (23, undef), (24, undef), (25, .bool true), (26, .bool true), (27, undef), (28, undef), (29, undef), (30, undef), (31, undef), (32, undef), (33, undef), (34, undef), (35, undef), (36, undef), (37, undef), (38, undef), (39, undef), (40, undef), (41, undef), (42, undef), (43, undef), (44, .bool true)] (by kernel_rfl) rfl ?_ ?_
        · intro i o hi A w1 hB hold hdeps
          have hlt : i < 35 := (Array.getElem?_eq_some_iff.1 hi).1
          have hc : i = 0 ∨ i = 1 ∨ i = 2 ∨ i = 3 ∨ i = 4 ∨ i = 5 ∨ i = 6 ∨ i = 7 ∨ i = 8 ∨ i = 9 ∨ i = 10 ∨ i = 11 ∨ i = 12 ∨ i = 13 ∨ i = 14 ∨ i = 15 ∨ i = 16 ∨ i = 17 ∨ i = 18 ∨ i = 19 ∨ i = 20 ∨ i = 21 ∨ i = 22 ∨ i = 23 ∨ i = 24 ∨ i = 25 ∨ i = 26 ∨ i = 27 ∨ i = 28 ∨ i = 29 ∨ i = 30 ∨ i = 31 ∨ i = 32 ∨ i = 33 ∨ i = 34 := by omega
          clear hlt
          rcases hc with rfl | rfl | rfl | rfl | rfl | rfl | rfl | rfl | rfl | rfl | rfl | rfl | rfl | rfl | rfl | rfl | rfl | rfl | rfl | rfl | rfl | rfl | rfl | rfl | rfl | rfl | rfl | rfl | rfl | rfl | rfl | rfl | rfl | rfl | rfl
          · obtain rfl := Option.some.inj hi
            have s0 : A.tmps.getD 0 undef = .slice (some ⟨b1, o1, none⟩) L1 c1 := hold 0 (by kernel_rfl)
            exact r_pure hi rfl rfl (y_move _ s0)
          · obtain rfl := Option.some.inj hi
            have s3 : A.tmps.getD 3 undef = .int .i64 (k : Int) := hold 3 (by kernel_rfl)
            exact r_pure hi rfl rfl (y_move _ s3)
          · obtain rfl := Option.some.inj hi
            have s10 : A.tmps.getD 10 undef = .slice (some ⟨b1, o1, none⟩) L1 c1 := dep_of hdeps 0 (by kernel_rfl)
            have s11 : A.tmps.getD 11 undef = .int .i64 (k : Int) := dep_of hdeps 1 (by kernel_rfl)
            exact r_pure hi rfl rfl (y_idxW _ _ s10 s11 hkl)
          · obtain rfl := Option.some.inj hi
            have s12 : A.tmps.getD 12 undef = .pointer (some ⟨b1, o1 + k * 21, none⟩) := dep_of hdeps 2 (by kernel_rfl)
            exact r_pure hi rfl rfl (y_fldW0 _ s12)
          · obtain rfl := Option.some.inj hi
            have s13 : A.tmps.getD 13 undef = .pointer (some ⟨b1, o1 + k * 21, none⟩) := dep_of hdeps 3 (by kernel_rfl)
            exact r_pure hi rfl rfl (y_loadMid _ _ s13 (range_below (range_key HR1.out) hbl hB) Try.underlying53 rfl infoKey10)
          · obtain rfl := Option.some.inj hi
            have s14 : A.tmps.getD 14 undef = .agg (eightA x.key) := dep_of hdeps 4 (by kernel_rfl)
            exact r_enter hi rfl rfl (y_call 59 _ #[.agg (eightA x.key)] _ rfl (by simp only [List.map_toArray, List.map_cons, List.map_nil, show A.eval (.tmp 14) = .agg (eightA x.key) from s14]; try rfl) en10_rkey) (CK.out w1)
          · obtain rfl := Option.some.inj hi
            have s15 : A.tmps.getD 15 undef = .bool false := dep_of hdeps 5 (by kernel_rfl)
            exact r_pure hi rfl rfl (y_not (a := false) _ _ s15)
          · obtain rfl := Option.some.inj hi
            have s16 : A.tmps.getD 16 undef = .bool true := dep_of hdeps 6 (by kernel_rfl)
            exact r_pure hi rfl rfl (y_move _ s16)
          · obtain rfl := Option.some.inj hi
            have g8 : A.tmps.getD 17 undef = .bool true := dep_of hdeps 7 (by kernel_rfl)
            exact each_skip hi rfl rfl (fun e => absurd (g8.symm.trans e) (by simp)) rfl
          · obtain rfl := Option.some.inj hi
            have g9 : A.tmps.getD 17 undef = .bool true := dep_of hdeps 7 (by kernel_rfl)
            exact each_skip hi rfl rfl (fun e => absurd (g9.symm.trans e) (by simp)) rfl
          · obtain rfl := Option.some.inj hi
            have g10 : A.tmps.getD 17 undef = .bool true := dep_of hdeps 7 (by kernel_rfl)
            exact each_skip hi rfl rfl (fun e => absurd (g10.symm.trans e) (by simp)) rfl
          · obtain rfl := Option.some.inj hi
            have g11 : A.tmps.getD 17 undef = .bool true := dep_of hdeps 7 (by kernel_rfl)
            exact each_skip hi rfl rfl (fun e => absurd (g11.symm.trans e) (by simp)) rfl
          · obtain rfl := Option.some.inj hi
            have g12 : A.tmps.getD 17 undef = .bool true := dep_of hdeps 7 (by kernel_rfl)
            exact each_skip hi rfl rfl (fun e => absurd (g12.symm.trans e) (by simp)) rfl
          · obtain rfl := Option.some.inj hi
            have g13 : A.tmps.getD 17 undef = .bool true := dep_of hdeps 7 (by kernel_rfl)
            exact each_skip hi rfl rfl (fun e => absurd (g13.symm.trans e) (by simp)) rfl
          · obtain rfl := Option.some.inj hi
            have g14 : A.tmps.getD 17 undef = .bool true := dep_of hdeps 7 (by kernel_rfl)
            exact each_skip hi rfl rfl (fun e => absurd (g14.symm.trans e) (by simp)) rfl
          · obtain rfl := Option.some.inj hi
            have s17 : A.tmps.getD 17 undef = .bool true := dep_of hdeps 7 (by kernel_rfl)
            exact r_pure hi rfl rfl (y_pickT _ _ _ s17 rfl)
          · obtain rfl := Option.some.inj hi
            have s25 : A.tmps.getD 25 undef = .bool true := dep_of hdeps 15 (by kernel_rfl)
            exact r_pure hi rfl rfl (y_move _ s25)
          · obtain rfl := Option.some.inj hi
            have g17 : A.tmps.getD 26 undef = .bool true := dep_of hdeps 16 (by kernel_rfl)
            exact each_skip hi rfl rfl (fun e => absurd (g17.symm.trans e) (by simp)) rfl
          · obtain rfl := Option.some.inj hi
            have g18 : A.tmps.getD 26 undef = .bool true := dep_of hdeps 16 (by kernel_rfl)
            exact each_skip hi rfl rfl (fun e => absurd (g18.symm.trans e) (by simp)) rfl
          · obtain rfl := Option.some.inj hi
            have g19 : A.tmps.getD 26 undef = .bool true := dep_of hdeps 16 (by kernel_rfl)
            exact each_skip hi rfl rfl (fun e => absurd (g19.symm.trans e) (by simp)) rfl
          · obtain rfl := Option.some.inj hi
            have g20 : A.tmps.getD 29 undef = undef := dep_of hdeps 19 (by kernel_rfl)
            exact each_skip hi rfl rfl (fun e => absurd (g20.symm.trans e) (by simp [undef])) rfl
          · obtain rfl := Option.some.inj hi
            have g21 : A.tmps.getD 29 undef = undef := dep_of hdeps 19 (by kernel_rfl)
            exact each_skip hi rfl rfl (fun e => absurd (g21.symm.trans e) (by simp [undef])) rfl
          · obtain rfl := Option.some.inj hi
            have g22 : A.tmps.getD 29 undef = undef := dep_of hdeps 19 (by kernel_rfl)
            exact each_skip hi rfl rfl (fun e => absurd (g22.symm.trans e) (by simp [undef])) rfl
          · obtain rfl := Option.some.inj hi
            have g23 : A.tmps.getD 29 undef = undef := dep_of hdeps 19 (by kernel_rfl)
            exact each_skip hi rfl rfl (fun e => absurd (g23.symm.trans e) (by simp [undef])) rfl
          · obtain rfl := Option.some.inj hi
            have g24 : A.tmps.getD 29 undef = undef := dep_of hdeps 19 (by kernel_rfl)
            exact each_skip hi rfl rfl (fun e => absurd (g24.symm.trans e) (by simp [undef])) rfl
          · obtain rfl := Option.some.inj hi
            have g25 : A.tmps.getD 29 undef = undef := dep_of hdeps 19 (by kernel_rfl)
            exact each_skip hi rfl rfl (fun e => absurd (g25.symm.trans e) (by simp [undef])) rfl
          · obtain rfl := Option.some.inj hi
            have g26 : A.tmps.getD 29 undef = undef := dep_of hdeps 19 (by kernel_rfl)
            exact each_skip hi rfl rfl (fun e => absurd (g26.symm.trans e) (by simp [undef])) rfl
          · obtain rfl := Option.some.inj hi
            have g27 : A.tmps.getD 29 undef = undef := dep_of hdeps 19 (by kernel_rfl)
            exact each_skip hi rfl rfl (fun e => absurd (g27.symm.trans e) (by simp [undef])) rfl
          · obtain rfl := Option.some.inj hi
            have g28 : A.tmps.getD 29 undef = undef := dep_of hdeps 19 (by kernel_rfl)
            exact each_skip hi rfl rfl (fun e => absurd (g28.symm.trans e) (by simp [undef])) rfl
          · obtain rfl := Option.some.inj hi
            have g29 : A.tmps.getD 29 undef = undef := dep_of hdeps 19 (by kernel_rfl)
            exact each_skip hi rfl rfl (fun e => absurd (g29.symm.trans e) (by simp [undef])) rfl
          · obtain rfl := Option.some.inj hi
            have g30 : A.tmps.getD 29 undef = undef := dep_of hdeps 19 (by kernel_rfl)
            exact each_skip hi rfl rfl (fun e => absurd (g30.symm.trans e) (by simp [undef])) rfl
          · obtain rfl := Option.some.inj hi
            have g31 : A.tmps.getD 29 undef = undef := dep_of hdeps 19 (by kernel_rfl)
            exact each_skip hi rfl rfl (fun e => absurd (g31.symm.trans e) (by simp [undef])) rfl
          · obtain rfl := Option.some.inj hi
            have g32 : A.tmps.getD 29 undef = undef := dep_of hdeps 19 (by kernel_rfl)
            exact each_skip hi rfl rfl (fun e => absurd (g32.symm.trans e) (by simp [undef])) rfl
          · obtain rfl := Option.some.inj hi
            have g33 : A.tmps.getD 26 undef = .bool true := dep_of hdeps 16 (by kernel_rfl)
            exact each_skip hi rfl rfl (fun e => absurd (g33.symm.trans e) (by simp)) rfl
          · obtain rfl := Option.some.inj hi
            have s26 : A.tmps.getD 26 undef = .bool true := dep_of hdeps 16 (by kernel_rfl)
            exact r_pure hi rfl rfl (y_pickT _ _ _ s26 rfl)
        · intro w8 hB8
          simp only [putAll, Act.put, List.setIfInBounds_toArray, List.set_cons_succ, List.set_cons_zero]
          have HB8 := hide hB8
          clear hB8
          go_wp2_with fail
          go_ret
          exact ⟨by rw [HE.out]; rfl, HBW.out.trans (HB8.out.mono HBW.out.size)⟩
      | true =>
        rw [hkey] at CK
        cases hit : itMayB x.it with
        | false =>
          rw [hit] at CI
          have HE : Hid (R = false) := hide (by rw [HR.out]; exact ws_not hk1 (by unfold okAt; rw [HXD.out, hit, Bool.and_false]; rfl))
          clear hkey hit hS1
          go_wp2_with fail
          refine wp_region_vals (by kernel_rfl) [(10, .slice (some ⟨b1, o1, none⟩) L1 c1), (11, .int .i64 (k : Int)), (12, .pointer (some ⟨b1, o1 + k * 21, none⟩)), (13, .pointer (some ⟨b1, o1 + k * 21, none⟩)), (14, .agg (eightA x.key)), (15, .bool true), (16, .bool false), (17, .bool false), (18, .slice (some ⟨b1, o1, none⟩) L1 c1), (19, .int .i64 (k : Int)), (20, .pointer (some ⟨b1, o1 + k * 21, none⟩)), (21, .pointer (some ⟨b1, o1 + k * 21 + 8, none⟩)), (22, .agg (itA x.it)), (23, .bool false), (24, .bool true), (25, .bool true), (26, .bool true), (27, undef), (28, undef), (29, undef), (30, undef), (31, undef), (32, undef), (33, undef), (34, undef), (35, undef), (36, undef), (37, undef), (38, undef), (39, undef), (40, undef), (41, undef), (42, undef), (43, undef), (44, .bool true)] (by kernel_rfl) rfl ?_ ?_
          · intro i o hi A w1 hB hold hdeps
            have hlt : i < 35 := (Array.getElem?_eq_some_iff.1 hi).1
            have hc : i = 0 ∨ i = 1 ∨ i = 2 ∨ i = 3 ∨ i = 4 ∨ i = 5 ∨ i = 6 ∨ i = 7 ∨ i = 8 ∨ i = 9 ∨ i = 10 ∨ i = 11 ∨ i = 12 ∨ i = 13 ∨ i = 14 ∨ i = 15 ∨ i = 16 ∨ i = 17 ∨ i = 18 ∨ i = 19 ∨ i = 20 ∨ i = 21 ∨ i = 22 ∨ i = 23 ∨ i = 24 ∨ i = 25 ∨ i = 26 ∨ i = 27 ∨ i = 28 ∨ i = 29 ∨ i = 30 ∨ i = 31 ∨ i = 32 ∨ i = 33 ∨ i = 34 := by omega
            clear hlt
            rcases hc with rfl | rfl | rfl | rfl | rfl | rfl | rfl | rfl | rfl | rfl | rfl | rfl | rfl | rfl | rfl | rfl | rfl | rfl | rfl | rfl | rfl | rfl | rfl | rfl | rfl | rfl | rfl | rfl | rfl | rfl | rfl | rfl | rfl | rfl | rfl
            · obtain rfl := Option.some.inj hi
              have s0 : A.tmps.getD 0 undef = .slice (some ⟨b1, o1, none⟩) L1 c1 := hold 0 (by kernel_rfl)
              exact r_pure hi rfl rfl (y_move _ s0)
            · obtain rfl := Option.some.inj hi
              have s3 : A.tmps.getD 3 undef = .int .i64 (k : Int) := hold 3 (by kernel_rfl)
              exact r_pure hi rfl rfl (y_move _ s3)
            · obtain rfl := Option.some.inj hi
              have s10 : A.tmps.getD 10 undef = .slice (some ⟨b1, o1, none⟩) L1 c1 := dep_of hdeps 0 (by kernel_rfl)
              have s11 : A.tmps.getD 11 undef = .int .i64 (k : Int) := dep_of hdeps 1 (by kernel_rfl)
              exact r_pure hi rfl rfl (y_idxW _ _ s10 s11 hkl)
            · obtain rfl := Option.some.inj hi
              have s12 : A.tmps.getD 12 undef = .pointer (some ⟨b1, o1 + k * 21, none⟩) := dep_of hdeps 2 (by kernel_rfl)
              exact r_pure hi rfl rfl (y_fldW0 _ s12)
            · obtain rfl := Option.some.inj hi
              have s13 : A.tmps.getD 13 undef = .pointer (some ⟨b1, o1 + k * 21, none⟩) := dep_of hdeps 3 (by kernel_rfl)
              exact r_pure hi rfl rfl (y_loadMid _ _ s13 (range_below (range_key HR1.out) hbl hB) Try.underlying53 rfl infoKey10)
            · obtain rfl := Option.some.inj hi
              have s14 : A.tmps.getD 14 undef = .agg (eightA x.key) := dep_of hdeps 4 (by kernel_rfl)
              exact r_enter hi rfl rfl (y_call 59 _ #[.agg (eightA x.key)] _ rfl (by simp only [List.map_toArray, List.map_cons, List.map_nil, show A.eval (.tmp 14) = .agg (eightA x.key) from s14]; try rfl) en10_rkey) (CK.out w1)
            · obtain rfl := Option.some.inj hi
              have s15 : A.tmps.getD 15 undef = .bool true := dep_of hdeps 5 (by kernel_rfl)
              exact r_pure hi rfl rfl (y_not (a := true) _ _ s15)
            · obtain rfl := Option.some.inj hi
              have s16 : A.tmps.getD 16 undef = .bool false := dep_of hdeps 6 (by kernel_rfl)
              exact r_pure hi rfl rfl (y_move _ s16)
            · obtain rfl := Option.some.inj hi
              have g8 : A.tmps.getD 17 undef = .bool false := dep_of hdeps 7 (by kernel_rfl)
              have s0 : A.tmps.getD 0 undef = .slice (some ⟨b1, o1, none⟩) L1 c1 := hold 0 (by kernel_rfl)
              exact r_pure hi (wanted_not rfl rfl g8) rfl (y_move _ s0)
            · obtain rfl := Option.some.inj hi
              have g9 : A.tmps.getD 17 undef = .bool false := dep_of hdeps 7 (by kernel_rfl)
              have s3 : A.tmps.getD 3 undef = .int .i64 (k : Int) := hold 3 (by kernel_rfl)
              exact r_pure hi (wanted_not rfl rfl g9) rfl (y_move _ s3)
            · obtain rfl := Option.some.inj hi
              have g10 : A.tmps.getD 17 undef = .bool false := dep_of hdeps 7 (by kernel_rfl)
              have s18 : A.tmps.getD 18 undef = .slice (some ⟨b1, o1, none⟩) L1 c1 := dep_of hdeps 8 (by kernel_rfl)
              have s19 : A.tmps.getD 19 undef = .int .i64 (k : Int) := dep_of hdeps 9 (by kernel_rfl)
              exact r_pure hi (wanted_not rfl rfl g10) rfl (y_idxW _ _ s18 s19 hkl)
            · obtain rfl := Option.some.inj hi
              have g11 : A.tmps.getD 17 undef = .bool false := dep_of hdeps 7 (by kernel_rfl)
              have s20 : A.tmps.getD 20 undef = .pointer (some ⟨b1, o1 + k * 21, none⟩) := dep_of hdeps 10 (by kernel_rfl)
              exact r_pure hi (wanted_not rfl rfl g11) rfl (y_fldW1 _ s20)
            · obtain rfl := Option.some.inj hi
              have g12 : A.tmps.getD 17 undef = .bool false := dep_of hdeps 7 (by kernel_rfl)
              have s21 : A.tmps.getD 21 undef = .pointer (some ⟨b1, o1 + k * 21 + 8, none⟩) := dep_of hdeps 11 (by kernel_rfl)
              exact r_pure hi (wanted_not rfl rfl g12) rfl (y_loadMid _ _ s21 (range_below (range_item HR1.out) hbl hB) Try.underlying57 rfl infoItem)
            · obtain rfl := Option.some.inj hi
              have g13 : A.tmps.getD 17 undef = .bool false := dep_of hdeps 7 (by kernel_rfl)
              have s22 : A.tmps.getD 22 undef = .agg (itA x.it) := dep_of hdeps 12 (by kernel_rfl)
              exact r_enter hi (wanted_not rfl rfl g13) rfl (y_call 60 _ #[.agg (itA x.it)] _ rfl (by simp only [List.map_toArray, List.map_cons, List.map_nil, show A.eval (.tmp 22) = .agg (itA x.it) from s22]; try rfl) en10_ritem) (CI.out w1)
            · obtain rfl := Option.some.inj hi
              have g14 : A.tmps.getD 17 undef = .bool false := dep_of hdeps 7 (by kernel_rfl)
              have s23 : A.tmps.getD 23 undef = .bool false := dep_of hdeps 13 (by kernel_rfl)
              exact r_pure hi (wanted_not rfl rfl g14) rfl (y_not (a := false) _ _ s23)
            · obtain rfl := Option.some.inj hi
              have s17 : A.tmps.getD 17 undef = .bool false := dep_of hdeps 7 (by kernel_rfl)
              have s24 : A.tmps.getD 24 undef = .bool true := dep_of hdeps 14 (by kernel_rfl)
              exact r_pure hi rfl rfl (y_pickF _ _ _ s17 s24)
            · obtain rfl := Option.some.inj hi
              have s25 : A.tmps.getD 25 undef = .bool true := dep_of hdeps 15 (by kernel_rfl)
              exact r_pure hi rfl rfl (y_move _ s25)
            · obtain rfl := Option.some.inj hi
              have g17 : A.tmps.getD 26 undef = .bool true := dep_of hdeps 16 (by kernel_rfl)
              exact each_skip hi rfl rfl (fun e => absurd (g17.symm.trans e) (by simp)) rfl
            · obtain rfl := Option.some.inj hi
              have g18 : A.tmps.getD 26 undef = .bool true := dep_of hdeps 16 (by kernel_rfl)
              exact each_skip hi rfl rfl (fun e => absurd (g18.symm.trans e) (by simp)) rfl
            · obtain rfl := Option.some.inj hi
              have g19 : A.tmps.getD 26 undef = .bool true := dep_of hdeps 16 (by kernel_rfl)
              exact each_skip hi rfl rfl (fun e => absurd (g19.symm.trans e) (by simp)) rfl
            · obtain rfl := Option.some.inj hi
              have g20 : A.tmps.getD 29 undef = undef := dep_of hdeps 19 (by kernel_rfl)
              exact each_skip hi rfl rfl (fun e => absurd (g20.symm.trans e) (by simp [undef])) rfl
            · obtain rfl := Option.some.inj hi
              have g21 : A.tmps.getD 29 undef = undef := dep_of hdeps 19 (by kernel_rfl)
              exact each_skip hi rfl rfl (fun e => absurd (g21.symm.trans e) (by simp [undef])) rfl
            · obtain rfl := Option.some.inj hi
              have g22 : A.tmps.getD 29 undef = undef := dep_of hdeps 19 (by kernel_rfl)
              exact each_skip hi rfl rfl (fun e => absurd (g22.symm.trans e) (by simp [undef])) rfl
            · obtain rfl := Option.some.inj hi
              have g23 : A.tmps.getD 29 undef = undef := dep_of hdeps 19 (by kernel_rfl)
              exact each_skip hi rfl rfl (fun e => absurd (g23.symm.trans e) (by simp [undef])) rfl
            · obtain rfl := Option.some.inj hi
              have g24 : A.tmps.getD 29 undef = undef := dep_of hdeps 19 (by kernel_rfl)
              exact each_skip hi rfl rfl (fun e => absurd (g24.symm.trans e) (by simp [undef])) rfl
            · obtain rfl := Option.some.inj hi
              have g25 : A.tmps.getD 29 undef = undef := dep_of hdeps 19 (by kernel_rfl)
              exact each_skip hi rfl rfl (fun e => absurd (g25.symm.trans e) (by simp [undef])) rfl
            · obtain rfl := Option.some.inj hi
              have g26 : A.tmps.getD 29 undef = undef := dep_of hdeps 19 (by kernel_rfl)
              exact each_skip hi rfl rfl (fun e => absurd (g26.symm.trans e) (by simp [undef])) rfl
            · obtain rfl := Option.some.inj hi
              have g27 : A.tmps.getD 29 undef = undef := dep_of hdeps 19 (by kernel_rfl)
              exact each_skip hi rfl rfl (fun e => absurd (g27.symm.trans e) (by simp [undef])) rfl
            · obtain rfl := Option.some.inj hi
              have g28 : A.tmps.getD 29 undef = undef := dep_of hdeps 19 (by kernel_rfl)
              exact each_skip hi rfl rfl (fun e => absurd (g28.symm.trans e) (by simp [undef])) rfl
            · obtain rfl := Option.some.inj hi
              have g29 : A.tmps.getD 29 undef = undef := dep_of hdeps 19 (by kernel_rfl)
              exact each_skip hi rfl rfl (fun e => absurd (g29.symm.trans e) (by simp [undef])) rfl
            · obtain rfl := Option.some.inj hi
              have g30 : A.tmps.getD 29 undef = undef := dep_of hdeps 19 (by kernel_rfl)
              exact each_skip hi rfl rfl (fun e => absurd (g30.symm.trans e) (by simp [undef])) rfl
            · obtain rfl := Option.some.inj hi
              have g31 : A.tmps.getD 29 undef = undef := dep_of hdeps 19 (by kernel_rfl)
              exact each_skip hi rfl rfl (fun e => absurd (g31.symm.trans e) (by simp [undef])) rfl
            · obtain rfl := Option.some.inj hi
              have g32 : A.tmps.getD 29 undef = undef := dep_of hdeps 19 (by kernel_rfl)
              exact each_skip hi rfl rfl (fun e => absurd (g32.symm.trans e) (by simp [undef])) rfl
            · obtain rfl := Option.some.inj hi
              have g33 : A.tmps.getD 26 undef = .bool true := dep_of hdeps 16 (by kernel_rfl)
              exact each_skip hi rfl rfl (fun e => absurd (g33.symm.trans e) (by simp)) rfl
            · obtain rfl := Option.some.inj hi
              have s26 : A.tmps.getD 26 undef = .bool true := dep_of hdeps 16 (by kernel_rfl)
              exact r_pure hi rfl rfl (y_pickT _ _ _ s26 rfl)
          · intro w8 hB8
            simp only [putAll, Act.put, List.setIfInBounds_toArray, List.set_cons_succ, List.set_cons_zero]
            have HB8 := hide hB8
            clear hB8
            go_wp2_with fail
            go_ret
            exact ⟨by rw [HE.out]; rfl, HBW.out.trans (HB8.out.mono HBW.out.size)⟩
        | true =>
          rw [hit] at CI
          cases k with
          | zero =>
            have HT2 : Hid (∀ j, j < 0 + 1 → okAt ws j = true) := hide (fun j hj => by
              obtain rfl : j = 0 := by omega
              unfold okAt keysB
              rw [HXD.out, hkey, hit]
              rfl)
            clear hkey hit hS1
            go_wp2_with fail
            refine wp_region_vals (by kernel_rfl) [(10, .slice (some ⟨b1, o1, none⟩) L1 c1), (11, .int .i64 ((0 : Nat) : Int)), (12, .pointer (some ⟨b1, o1 + 0 * 21, none⟩)), (13, .pointer (some ⟨b1, o1 + 0 * 21, none⟩)), (14, .agg (eightA x.key)), (15, .bool true), (16, .bool false), (17, .bool false), (18, .slice (some ⟨b1, o1, none⟩) L1 c1), (19, .int .i64 ((0 : Nat) : Int)), (20, .pointer (some ⟨b1, o1 + 0 * 21, none⟩)), (21, .pointer (some ⟨b1, o1 + 0 * 21 + 8, none⟩)), (22, .agg (itA x.it)), (23, .bool true), (24, .bool false), (25, .bool false), (26, .bool false), (27, .int .i64 ((0 : Nat) : Int)), (28, .bool false), (29, .bool false), (30, undef), (31, undef), (32, undef), (33, undef), (34, undef), (35, undef), (36, undef), (37, undef), (38, undef), (39, undef), (40, undef), (41, undef), (42, undef), (43, .bool false), (44, .bool false)] (by kernel_rfl) rfl ?_ ?_
            · intro i o hi A w1 hB hold hdeps
              have hlt : i < 35 := (Array.getElem?_eq_some_iff.1 hi).1
              have hc : i = 0 ∨ i = 1 ∨ i = 2 ∨ i = 3 ∨ i = 4 ∨ i = 5 ∨ i = 6 ∨ i = 7 ∨ i = 8 ∨ i = 9 ∨ i = 10 ∨ i = 11 ∨ i = 12 ∨ i = 13 ∨ i = 14 ∨ i = 15 ∨ i = 16 ∨ i = 17 ∨ i = 18 ∨ i = 19 ∨ i = 20 ∨ i = 21 ∨ i = 22 ∨ i = 23 ∨ i = 24 ∨ i = 25 ∨ i = 26 ∨ i = 27 ∨ i = 28 ∨ i = 29 ∨ i = 30 ∨ i = 31 ∨ i = 32 ∨ i = 33 ∨ i = 34 := by omega
              clear hlt
              rcases hc with rfl | rfl | rfl | rfl | rfl | rfl | rfl | rfl | rfl | rfl | rfl | rfl | rfl | rfl | rfl | rfl | rfl | rfl | rfl | rfl | rfl | rfl | rfl | rfl | rfl | rfl | rfl | rfl | rfl | rfl | rfl | rfl | rfl | rfl | rfl
              · obtain rfl := Option.some.inj hi
                have s0 : A.tmps.getD 0 undef = .slice (some ⟨b1, o1, none⟩) L1 c1 := hold 0 (by kernel_rfl)
                exact r_pure hi rfl rfl (y_move _ s0)
              · obtain rfl := Option.some.inj hi
                have s3 : A.tmps.getD 3 undef = .int .i64 ((0 : Nat) : Int) := hold 3 (by kernel_rfl)
                exact r_pure hi rfl rfl (y_move _ s3)
              · obtain rfl := Option.some.inj hi
                have s10 : A.tmps.getD 10 undef = .slice (some ⟨b1, o1, none⟩) L1 c1 := dep_of hdeps 0 (by kernel_rfl)
                have s11 : A.tmps.getD 11 undef = .int .i64 ((0 : Nat) : Int) := dep_of hdeps 1 (by kernel_rfl)
                exact r_pure hi rfl rfl (y_idxW _ _ s10 s11 hkl)
              · obtain rfl := Option.some.inj hi
                have s12 : A.tmps.getD 12 undef = .pointer (some ⟨b1, o1 + 0 * 21, none⟩) := dep_of hdeps 2 (by kernel_rfl)
                exact r_pure hi rfl rfl (y_fldW0 _ s12)
              · obtain rfl := Option.some.inj hi
                have s13 : A.tmps.getD 13 undef = .pointer (some ⟨b1, o1 + 0 * 21, none⟩) := dep_of hdeps 3 (by kernel_rfl)
                exact r_pure hi rfl rfl (y_loadMid _ _ s13 (range_below (range_key HR1.out) hbl hB) Try.underlying53 rfl infoKey10)
              · obtain rfl := Option.some.inj hi
                have s14 : A.tmps.getD 14 undef = .agg (eightA x.key) := dep_of hdeps 4 (by kernel_rfl)
                exact r_enter hi rfl rfl (y_call 59 _ #[.agg (eightA x.key)] _ rfl (by simp only [List.map_toArray, List.map_cons, List.map_nil, show A.eval (.tmp 14) = .agg (eightA x.key) from s14]; try rfl) en10_rkey) (CK.out w1)
              · obtain rfl := Option.some.inj hi
                have s15 : A.tmps.getD 15 undef = .bool true := dep_of hdeps 5 (by kernel_rfl)
                exact r_pure hi rfl rfl (y_not (a := true) _ _ s15)
              · obtain rfl := Option.some.inj hi
                have s16 : A.tmps.getD 16 undef = .bool false := dep_of hdeps 6 (by kernel_rfl)
                exact r_pure hi rfl rfl (y_move _ s16)
              · obtain rfl := Option.some.inj hi
                have g8 : A.tmps.getD 17 undef = .bool false := dep_of hdeps 7 (by kernel_rfl)
                have s0 : A.tmps.getD 0 undef = .slice (some ⟨b1, o1, none⟩) L1 c1 := hold 0 (by kernel_rfl)
                exact r_pure hi (wanted_not rfl rfl g8) rfl (y_move _ s0)
              · obtain rfl := Option.some.inj hi
                have g9 : A.tmps.getD 17 undef = .bool false := dep_of hdeps 7 (by kernel_rfl)
                have s3 : A.tmps.getD 3 undef = .int .i64 ((0 : Nat) : Int) := hold 3 (by kernel_rfl)
                exact r_pure hi (wanted_not rfl rfl g9) rfl (y_move _ s3)
              · obtain rfl := Option.some.inj hi
                have g10 : A.tmps.getD 17 undef = .bool false := dep_of hdeps 7 (by kernel_rfl)
                have s18 : A.tmps.getD 18 undef = .slice (some ⟨b1, o1, none⟩) L1 c1 := dep_of hdeps 8 (by kernel_rfl)
                have s19 : A.tmps.getD 19 undef = .int .i64 ((0 : Nat) : Int) := dep_of hdeps 9 (by kernel_rfl)
                exact r_pure hi (wanted_not rfl rfl g10) rfl (y_idxW _ _ s18 s19 hkl)
              · obtain rfl := Option.some.inj hi
                have g11 : A.tmps.getD 17 undef = .bool false := dep_of hdeps 7 (by kernel_rfl)
                have s20 : A.tmps.getD 20 undef = .pointer (some ⟨b1, o1 + 0 * 21, none⟩) := dep_of hdeps 10 (by kernel_rfl)
                exact r_pure hi (wanted_not rfl rfl g11) rfl (y_fldW1 _ s20)
              · obtain rfl := Option.some.inj hi
                have g12 : A.tmps.getD 17 undef = .bool false := dep_of hdeps 7 (by kernel_rfl)
                have s21 : A.tmps.getD 21 undef = .pointer (some ⟨b1, o1 + 0 * 21 + 8, none⟩) := dep_of hdeps 11 (by kernel_rfl)
                exact r_pure hi (wanted_not rfl rfl g12) rfl (y_loadMid _ _ s21 (range_below (range_item HR1.out) hbl hB) Try.underlying57 rfl infoItem)
              · obtain rfl := Option.some.inj hi
                have g13 : A.tmps.getD 17 undef = .bool false := dep_of hdeps 7 (by kernel_rfl)
                have s22 : A.tmps.getD 22 undef = .agg (itA x.it) := dep_of hdeps 12 (by kernel_rfl)
                exact r_enter hi (wanted_not rfl rfl g13) rfl (y_call 60 _ #[.agg (itA x.it)] _ rfl (by simp only [List.map_toArray, List.map_cons, List.map_nil, show A.eval (.tmp 22) = .agg (itA x.it) from s22]; try rfl) en10_ritem) (CI.out w1)
              · obtain rfl := Option.some.inj hi
                have g14 : A.tmps.getD 17 undef = .bool false := dep_of hdeps 7 (by kernel_rfl)
                have s23 : A.tmps.getD 23 undef = .bool true := dep_of hdeps 13 (by kernel_rfl)
                exact r_pure hi (wanted_not rfl rfl g14) rfl (y_not (a := true) _ _ s23)
              · obtain rfl := Option.some.inj hi
                have s17 : A.tmps.getD 17 undef = .bool false := dep_of hdeps 7 (by kernel_rfl)
                have s24 : A.tmps.getD 24 undef = .bool false := dep_of hdeps 14 (by kernel_rfl)
                exact r_pure hi rfl rfl (y_pickF _ _ _ s17 s24)
              · obtain rfl := Option.some.inj hi
                have s25 : A.tmps.getD 25 undef = .bool false := dep_of hdeps 15 (by kernel_rfl)
                exact r_pure hi rfl rfl (y_move _ s25)
              · obtain rfl := Option.some.inj hi
                have g17 : A.tmps.getD 26 undef = .bool false := dep_of hdeps 16 (by kernel_rfl)
                have s3 : A.tmps.getD 3 undef = .int .i64 ((0 : Nat) : Int) := hold 3 (by kernel_rfl)
                exact r_pure hi (wanted_not rfl rfl g17) rfl (y_move _ s3)
              · obtain rfl := Option.some.inj hi
                have g18 : A.tmps.getD 26 undef = .bool false := dep_of hdeps 16 (by kernel_rfl)
                have s27 : A.tmps.getD 27 undef = .int .i64 ((0 : Nat) : Int) := dep_of hdeps 17 (by kernel_rfl)
                exact r_pure hi (wanted_not rfl rfl g18) rfl (y_gtr0 _ _ s27 rfl (by simp))
              · obtain rfl := Option.some.inj hi
                have g19 : A.tmps.getD 26 undef = .bool false := dep_of hdeps 16 (by kernel_rfl)
                have s28 : A.tmps.getD 28 undef = .bool false := dep_of hdeps 18 (by kernel_rfl)
                exact r_pure hi (wanted_not rfl rfl g19) rfl (y_move _ s28)
              · obtain rfl := Option.some.inj hi
                have g20 : A.tmps.getD 29 undef = .bool false := dep_of hdeps 19 (by kernel_rfl)
                exact each_skip hi rfl rfl (fun e => absurd (g20.symm.trans e) (by simp)) rfl
              · obtain rfl := Option.some.inj hi
                have g21 : A.tmps.getD 29 undef = .bool false := dep_of hdeps 19 (by kernel_rfl)
                exact each_skip hi rfl rfl (fun e => absurd (g21.symm.trans e) (by simp)) rfl
              · obtain rfl := Option.some.inj hi
                have g22 : A.tmps.getD 29 undef = .bool false := dep_of hdeps 19 (by kernel_rfl)
                exact each_skip hi rfl rfl (fun e => absurd (g22.symm.trans e) (by simp)) rfl
              · obtain rfl := Option.some.inj hi
                have g23 : A.tmps.getD 29 undef = .bool false := dep_of hdeps 19 (by kernel_rfl)
                exact each_skip hi rfl rfl (fun e => absurd (g23.symm.trans e) (by simp)) rfl
              · obtain rfl := Option.some.inj hi
                have g24 : A.tmps.getD 29 undef = .bool false := dep_of hdeps 19 (by kernel_rfl)
                exact each_skip hi rfl rfl (fun e => absurd (g24.symm.trans e) (by simp)) rfl
              · obtain rfl := Option.some.inj hi
                have g25 : A.tmps.getD 29 undef = .bool false := dep_of hdeps 19 (by kernel_rfl)
                exact each_skip hi rfl rfl (fun e => absurd (g25.symm.trans e) (by simp)) rfl
              · obtain rfl := Option.some.inj hi
                have g26 : A.tmps.getD 29 undef = .bool false := dep_of hdeps 19 (by kernel_rfl)
                exact each_skip hi rfl rfl (fun e => absurd (g26.symm.trans e) (by simp)) rfl
              · obtain rfl := Option.some.inj hi
                have g27 : A.tmps.getD 29 undef = .bool false := dep_of hdeps 19 (by kernel_rfl)
                exact each_skip hi rfl rfl (fun e => absurd (g27.symm.trans e) (by simp)) rfl
              · obtain rfl := Option.some.inj hi
                have g28 : A.tmps.getD 29 undef = .bool false := dep_of hdeps 19 (by kernel_rfl)
                exact each_skip hi rfl rfl (fun e => absurd (g28.symm.trans e) (by simp)) rfl
              · obtain rfl := Option.some.inj hi
                have g29 : A.tmps.getD 29 undef = .bool false := dep_of hdeps 19 (by kernel_rfl)
                exact each_skip hi rfl rfl (fun e => absurd (g29.symm.trans e) (by simp)) rfl
              · obtain rfl := Option.some.inj hi
                have g30 : A.tmps.getD 29 undef = .bool false := dep_of hdeps 19 (by kernel_rfl)
                exact each_skip hi rfl rfl (fun e => absurd (g30.symm.trans e) (by simp)) rfl
              · obtain rfl := Option.some.inj hi
                have g31 : A.tmps.getD 29 undef = .bool false := dep_of hdeps 19 (by kernel_rfl)
                exact each_skip hi rfl rfl (fun e => absurd (g31.symm.trans e) (by simp)) rfl
              · obtain rfl := Option.some.inj hi
                have g32 : A.tmps.getD 29 undef = .bool false := dep_of hdeps 19 (by kernel_rfl)
                exact each_skip hi rfl rfl (fun e => absurd (g32.symm.trans e) (by simp)) rfl
              · obtain rfl := Option.some.inj hi
                have g33 : A.tmps.getD 26 undef = .bool false := dep_of hdeps 16 (by kernel_rfl)
                have s29 : A.tmps.getD 29 undef = .bool false := dep_of hdeps 19 (by kernel_rfl)
                exact r_pure hi (wanted_not rfl rfl g33) rfl (y_pickF _ _ _ s29 rfl)
              · obtain rfl := Option.some.inj hi
                have s26 : A.tmps.getD 26 undef = .bool false := dep_of hdeps 16 (by kernel_rfl)
                have s43 : A.tmps.getD 43 undef = .bool false := dep_of hdeps 33 (by kernel_rfl)
                exact r_pure hi rfl rfl (y_pickF _ _ _ s26 s43)
            · intro w8 hB8
              simp only [putAll, Act.put, List.setIfInBounds_toArray, List.set_cons_succ, List.set_cons_zero]
              have HB8 := hide hB8
              clear hB8
              go_wp2_with fail
              go_roundg g
              case measure => omega
              case rel => exact ⟨0 + 1, by omega, by first | rfl | go_num, hide (HBW.out.trans (HB8.out.mono HBW.out.size)), HT2⟩
          | succ k =>
            have hk0 : k < ws.length := by omega
            have hkl0 : k < L1 := by omega
            obtain ⟨b2, o2, e2, hr2⟩ := hS1.range hk0
            cases e2
            obtain ⟨y, hy⟩ : ∃ y, y = ws[k] := ⟨_, rfl⟩
            rw [← hy] at hr2
            have HR2 := hide hr2
            have HYD : Hid (ws.getD k zeroWr = y) := hide (by rw [hy]; simp [List.getD, hk0])
            have HYO : Hid (KeyOk y.key) := hide (by rw [hy]; exact (HA.out _ (List.getElem_mem hk0)).1)
            have CX : Hid (∀ W, Calls Try.prog 61 #[.agg (eightA y.key), .agg (eightA x.key)] W fun e w' => e = .returned (.int .i64 (lexF y.key x.key)) ∧ Below W.heap.size W w') := hide (fun W => by
              have := rkeys_any y.key x.key W HYO.out.l HXO.out.1.l HYO.out.b HXO.out.1.b
              rw [eight_cells8 HYO.out.l, eight_cells8 HXO.out.1.l] at this
              exact this)
            have hsm : k < 1000000 := by omega
            have HKB : Hid (keysB ws (k + 1) = decide (lexF y.key x.key < 0)) := hide (by unfold keysB; rw [Nat.add_sub_cancel, HXD.out, HYD.out]; simp)
            obtain ⟨r, hr⟩ : ∃ r, r = lexF y.key x.key := ⟨_, rfl⟩
            rw [← hr] at CX HKB
            clear hr2 hy hS1 hr
            by_cases hlt : r < 0
            · have dge : decide (0 ≤ r) = false := decide_eq_false (by omega)
              have HT2 : Hid (∀ j, j < k + 1 + 1 → okAt ws j = true) := hide (fun j hj => by
                rcases Nat.lt_or_ge j (k + 1) with h | h
                · exact HT.out j h
                · obtain rfl : j = k + 1 := by omega
                  unfold okAt
                  rw [HXD.out, hkey, hit, HKB.out, decide_eq_true hlt]
                  rfl)
              clear hkey hit
              go_wp2_with fail
              refine wp_region_vals (by kernel_rfl) [(10, .slice (some ⟨b1, o1, none⟩) L1 c1), (11, .int .i64 ((k + 1 : Nat) : Int)), (12, .pointer (some ⟨b1, o1 + (k + 1) * 21, none⟩)), (13, .pointer (some ⟨b1, o1 + (k + 1) * 21, none⟩)), (14, .agg (eightA x.key)), (15, .bool true), (16, .bool false), (17, .bool false), (18, .slice (some ⟨b1, o1, none⟩) L1 c1), (19, .int .i64 ((k + 1 : Nat) : Int)), (20, .pointer (some ⟨b1, o1 + (k + 1) * 21, none⟩)), (21, .pointer (some ⟨b1, o1 + (k + 1) * 21 + 8, none⟩)), (22, .agg (itA x.it)), (23, .bool true), (24, .bool false), (25, .bool false), (26, .bool false), (27, .int .i64 ((k + 1 : Nat) : Int)), (28, .bool true), (29, .bool true), (30, .slice (some ⟨b1, o1, none⟩) L1 c1), (31, .int .i64 ((k + 1 : Nat) : Int)), (32, .int .i64 (k : Int)), (33, .pointer (some ⟨b1, o1 + k * 21, none⟩)), (34, .pointer (some ⟨b1, o1 + k * 21, none⟩)), (35, .agg (eightA y.key)), (36, .slice (some ⟨b1, o1, none⟩) L1 c1), (37, .int .i64 ((k + 1 : Nat) : Int)), (38, .pointer (some ⟨b1, o1 + (k + 1) * 21, none⟩)), (39, .pointer (some ⟨b1, o1 + (k + 1) * 21, none⟩)), (40, .agg (eightA x.key)), (41, .int .i64 r), (42, .bool false), (43, .bool false), (44, .bool false)] (by kernel_rfl) rfl ?_ ?_
              · intro i o hi A w1 hB hold hdeps
                have hlt : i < 35 := (Array.getElem?_eq_some_iff.1 hi).1
                have hc : i = 0 ∨ i = 1 ∨ i = 2 ∨ i = 3 ∨ i = 4 ∨ i = 5 ∨ i = 6 ∨ i = 7 ∨ i = 8 ∨ i = 9 ∨ i = 10 ∨ i = 11 ∨ i = 12 ∨ i = 13 ∨ i = 14 ∨ i = 15 ∨ i = 16 ∨ i = 17 ∨ i = 18 ∨ i = 19 ∨ i = 20 ∨ i = 21 ∨ i = 22 ∨ i = 23 ∨ i = 24 ∨ i = 25 ∨ i = 26 ∨ i = 27 ∨ i = 28 ∨ i = 29 ∨ i = 30 ∨ i = 31 ∨ i = 32 ∨ i = 33 ∨ i = 34 := by omega
                clear hlt
                rcases hc with rfl | rfl | rfl | rfl | rfl | rfl | rfl | rfl | rfl | rfl | rfl | rfl | rfl | rfl | rfl | rfl | rfl | rfl | rfl | rfl | rfl | rfl | rfl | rfl | rfl | rfl | rfl | rfl | rfl | rfl | rfl | rfl | rfl | rfl | rfl
                · obtain rfl := Option.some.inj hi
                  have s0 : A.tmps.getD 0 undef = .slice (some ⟨b1, o1, none⟩) L1 c1 := hold 0 (by kernel_rfl)
                  exact r_pure hi rfl rfl (y_move _ s0)
                · obtain rfl := Option.some.inj hi
                  have s3 : A.tmps.getD 3 undef = .int .i64 ((k + 1 : Nat) : Int) := hold 3 (by kernel_rfl)
                  exact r_pure hi rfl rfl (y_move _ s3)
                · obtain rfl := Option.some.inj hi
                  have s10 : A.tmps.getD 10 undef = .slice (some ⟨b1, o1, none⟩) L1 c1 := dep_of hdeps 0 (by kernel_rfl)
                  have s11 : A.tmps.getD 11 undef = .int .i64 ((k + 1 : Nat) : Int) := dep_of hdeps 1 (by kernel_rfl)
                  exact r_pure hi rfl rfl (y_idxW _ _ s10 s11 hkl)
                · obtain rfl := Option.some.inj hi
                  have s12 : A.tmps.getD 12 undef = .pointer (some ⟨b1, o1 + (k + 1) * 21, none⟩) := dep_of hdeps 2 (by kernel_rfl)
                  exact r_pure hi rfl rfl (y_fldW0 _ s12)
                · obtain rfl := Option.some.inj hi
                  have s13 : A.tmps.getD 13 undef = .pointer (some ⟨b1, o1 + (k + 1) * 21, none⟩) := dep_of hdeps 3 (by kernel_rfl)
                  exact r_pure hi rfl rfl (y_loadMid _ _ s13 (range_below (range_key HR1.out) hbl hB) Try.underlying53 rfl infoKey10)
                · obtain rfl := Option.some.inj hi
                  have s14 : A.tmps.getD 14 undef = .agg (eightA x.key) := dep_of hdeps 4 (by kernel_rfl)
                  exact r_enter hi rfl rfl (y_call 59 _ #[.agg (eightA x.key)] _ rfl (by simp only [List.map_toArray, List.map_cons, List.map_nil, show A.eval (.tmp 14) = .agg (eightA x.key) from s14]; try rfl) en10_rkey) (CK.out w1)
                · obtain rfl := Option.some.inj hi
                  have s15 : A.tmps.getD 15 undef = .bool true := dep_of hdeps 5 (by kernel_rfl)
                  exact r_pure hi rfl rfl (y_not (a := true) _ _ s15)
                · obtain rfl := Option.some.inj hi
                  have s16 : A.tmps.getD 16 undef = .bool false := dep_of hdeps 6 (by kernel_rfl)
                  exact r_pure hi rfl rfl (y_move _ s16)
                · obtain rfl := Option.some.inj hi
                  have g8 : A.tmps.getD 17 undef = .bool false := dep_of hdeps 7 (by kernel_rfl)
                  have s0 : A.tmps.getD 0 undef = .slice (some ⟨b1, o1, none⟩) L1 c1 := hold 0 (by kernel_rfl)
                  exact r_pure hi (wanted_not rfl rfl g8) rfl (y_move _ s0)
                · obtain rfl := Option.some.inj hi
                  have g9 : A.tmps.getD 17 undef = .bool false := dep_of hdeps 7 (by kernel_rfl)
                  have s3 : A.tmps.getD 3 undef = .int .i64 ((k + 1 : Nat) : Int) := hold 3 (by kernel_rfl)
                  exact r_pure hi (wanted_not rfl rfl g9) rfl (y_move _ s3)
                · obtain rfl := Option.some.inj hi
                  have g10 : A.tmps.getD 17 undef = .bool false := dep_of hdeps 7 (by kernel_rfl)
                  have s18 : A.tmps.getD 18 undef = .slice (some ⟨b1, o1, none⟩) L1 c1 := dep_of hdeps 8 (by kernel_rfl)
                  have s19 : A.tmps.getD 19 undef = .int .i64 ((k + 1 : Nat) : Int) := dep_of hdeps 9 (by kernel_rfl)
                  exact r_pure hi (wanted_not rfl rfl g10) rfl (y_idxW _ _ s18 s19 hkl)
                · obtain rfl := Option.some.inj hi
                  have g11 : A.tmps.getD 17 undef = .bool false := dep_of hdeps 7 (by kernel_rfl)
                  have s20 : A.tmps.getD 20 undef = .pointer (some ⟨b1, o1 + (k + 1) * 21, none⟩) := dep_of hdeps 10 (by kernel_rfl)
                  exact r_pure hi (wanted_not rfl rfl g11) rfl (y_fldW1 _ s20)
                · obtain rfl := Option.some.inj hi
                  have g12 : A.tmps.getD 17 undef = .bool false := dep_of hdeps 7 (by kernel_rfl)
                  have s21 : A.tmps.getD 21 undef = .pointer (some ⟨b1, o1 + (k + 1) * 21 + 8, none⟩) := dep_of hdeps 11 (by kernel_rfl)
                  exact r_pure hi (wanted_not rfl rfl g12) rfl (y_loadMid _ _ s21 (range_below (range_item HR1.out) hbl hB) Try.underlying57 rfl infoItem)
                · obtain rfl := Option.some.inj hi
                  have g13 : A.tmps.getD 17 undef = .bool false := dep_of hdeps 7 (by kernel_rfl)
                  have s22 : A.tmps.getD 22 undef = .agg (itA x.it) := dep_of hdeps 12 (by kernel_rfl)
                  exact r_enter hi (wanted_not rfl rfl g13) rfl (y_call 60 _ #[.agg (itA x.it)] _ rfl (by simp only [List.map_toArray, List.map_cons, List.map_nil, show A.eval (.tmp 22) = .agg (itA x.it) from s22]; try rfl) en10_ritem) (CI.out w1)
                · obtain rfl := Option.some.inj hi
                  have g14 : A.tmps.getD 17 undef = .bool false := dep_of hdeps 7 (by kernel_rfl)
                  have s23 : A.tmps.getD 23 undef = .bool true := dep_of hdeps 13 (by kernel_rfl)
                  exact r_pure hi (wanted_not rfl rfl g14) rfl (y_not (a := true) _ _ s23)
                · obtain rfl := Option.some.inj hi
                  have s17 : A.tmps.getD 17 undef = .bool false := dep_of hdeps 7 (by kernel_rfl)
                  have s24 : A.tmps.getD 24 undef = .bool false := dep_of hdeps 14 (by kernel_rfl)
                  exact r_pure hi rfl rfl (y_pickF _ _ _ s17 s24)
                · obtain rfl := Option.some.inj hi
                  have s25 : A.tmps.getD 25 undef = .bool false := dep_of hdeps 15 (by kernel_rfl)
                  exact r_pure hi rfl rfl (y_move _ s25)
                · obtain rfl := Option.some.inj hi
                  have g17 : A.tmps.getD 26 undef = .bool false := dep_of hdeps 16 (by kernel_rfl)
                  have s3 : A.tmps.getD 3 undef = .int .i64 ((k + 1 : Nat) : Int) := hold 3 (by kernel_rfl)
                  exact r_pure hi (wanted_not rfl rfl g17) rfl (y_move _ s3)
                · obtain rfl := Option.some.inj hi
                  have g18 : A.tmps.getD 26 undef = .bool false := dep_of hdeps 16 (by kernel_rfl)
                  have s27 : A.tmps.getD 27 undef = .int .i64 ((k + 1 : Nat) : Int) := dep_of hdeps 17 (by kernel_rfl)
                  exact r_pure hi (wanted_not rfl rfl g18) rfl (y_gtr0 _ _ s27 rfl (by simp))
                · obtain rfl := Option.some.inj hi
                  have g19 : A.tmps.getD 26 undef = .bool false := dep_of hdeps 16 (by kernel_rfl)
                  have s28 : A.tmps.getD 28 undef = .bool true := dep_of hdeps 18 (by kernel_rfl)
                  exact r_pure hi (wanted_not rfl rfl g19) rfl (y_move _ s28)
                · obtain rfl := Option.some.inj hi
                  have g20 : A.tmps.getD 29 undef = .bool true := dep_of hdeps 19 (by kernel_rfl)
                  have s0 : A.tmps.getD 0 undef = .slice (some ⟨b1, o1, none⟩) L1 c1 := hold 0 (by kernel_rfl)
                  exact r_pure hi (wanted_of rfl rfl g20) rfl (y_move _ s0)
                · obtain rfl := Option.some.inj hi
                  have g21 : A.tmps.getD 29 undef = .bool true := dep_of hdeps 19 (by kernel_rfl)
                  have s3 : A.tmps.getD 3 undef = .int .i64 ((k + 1 : Nat) : Int) := hold 3 (by kernel_rfl)
                  exact r_pure hi (wanted_of rfl rfl g21) rfl (y_move _ s3)
                · obtain rfl := Option.some.inj hi
                  have g22 : A.tmps.getD 29 undef = .bool true := dep_of hdeps 19 (by kernel_rfl)
                  have s31 : A.tmps.getD 31 undef = .int .i64 ((k + 1 : Nat) : Int) := dep_of hdeps 21 (by kernel_rfl)
                  exact r_pure hi (wanted_of rfl rfl g22) rfl (y_sub1 _ _ s31 rfl hsm)
                · obtain rfl := Option.some.inj hi
                  have g23 : A.tmps.getD 29 undef = .bool true := dep_of hdeps 19 (by kernel_rfl)
                  have s30 : A.tmps.getD 30 undef = .slice (some ⟨b1, o1, none⟩) L1 c1 := dep_of hdeps 20 (by kernel_rfl)
                  have s32 : A.tmps.getD 32 undef = .int .i64 (k : Int) := dep_of hdeps 22 (by kernel_rfl)
                  exact r_pure hi (wanted_of rfl rfl g23) rfl (y_idxW _ _ s30 s32 hkl0)
                · obtain rfl := Option.some.inj hi
                  have g24 : A.tmps.getD 29 undef = .bool true := dep_of hdeps 19 (by kernel_rfl)
                  have s33 : A.tmps.getD 33 undef = .pointer (some ⟨b1, o1 + k * 21, none⟩) := dep_of hdeps 23 (by kernel_rfl)
                  exact r_pure hi (wanted_of rfl rfl g24) rfl (y_fldW0 _ s33)
                · obtain rfl := Option.some.inj hi
                  have g25 : A.tmps.getD 29 undef = .bool true := dep_of hdeps 19 (by kernel_rfl)
                  have s34 : A.tmps.getD 34 undef = .pointer (some ⟨b1, o1 + k * 21, none⟩) := dep_of hdeps 24 (by kernel_rfl)
                  exact r_pure hi (wanted_of rfl rfl g25) rfl (y_loadMid _ _ s34 (range_below (range_key HR2.out) hbl hB) Try.underlying53 rfl infoKey10)
                · obtain rfl := Option.some.inj hi
                  have g26 : A.tmps.getD 29 undef = .bool true := dep_of hdeps 19 (by kernel_rfl)
                  have s0 : A.tmps.getD 0 undef = .slice (some ⟨b1, o1, none⟩) L1 c1 := hold 0 (by kernel_rfl)
                  exact r_pure hi (wanted_of rfl rfl g26) rfl (y_move _ s0)
                · obtain rfl := Option.some.inj hi
                  have g27 : A.tmps.getD 29 undef = .bool true := dep_of hdeps 19 (by kernel_rfl)
                  have s3 : A.tmps.getD 3 undef = .int .i64 ((k + 1 : Nat) : Int) := hold 3 (by kernel_rfl)
                  exact r_pure hi (wanted_of rfl rfl g27) rfl (y_move _ s3)
                · obtain rfl := Option.some.inj hi
                  have g28 : A.tmps.getD 29 undef = .bool true := dep_of hdeps 19 (by kernel_rfl)
                  have s36 : A.tmps.getD 36 undef = .slice (some ⟨b1, o1, none⟩) L1 c1 := dep_of hdeps 26 (by kernel_rfl)
                  have s37 : A.tmps.getD 37 undef = .int .i64 ((k + 1 : Nat) : Int) := dep_of hdeps 27 (by kernel_rfl)
                  exact r_pure hi (wanted_of rfl rfl g28) rfl (y_idxW _ _ s36 s37 hkl)
                · obtain rfl := Option.some.inj hi
                  have g29 : A.tmps.getD 29 undef = .bool true := dep_of hdeps 19 (by kernel_rfl)
                  have s38 : A.tmps.getD 38 undef = .pointer (some ⟨b1, o1 + (k + 1) * 21, none⟩) := dep_of hdeps 28 (by kernel_rfl)
                  exact r_pure hi (wanted_of rfl rfl g29) rfl (y_fldW0 _ s38)
                · obtain rfl := Option.some.inj hi
                  have g30 : A.tmps.getD 29 undef = .bool true := dep_of hdeps 19 (by kernel_rfl)
                  have s39 : A.tmps.getD 39 undef = .pointer (some ⟨b1, o1 + (k + 1) * 21, none⟩) := dep_of hdeps 29 (by kernel_rfl)
                  exact r_pure hi (wanted_of rfl rfl g30) rfl (y_loadMid _ _ s39 (range_below (range_key HR1.out) hbl hB) Try.underlying53 rfl infoKey10)
                · obtain rfl := Option.some.inj hi
                  have g31 : A.tmps.getD 29 undef = .bool true := dep_of hdeps 19 (by kernel_rfl)
                  have s35 : A.tmps.getD 35 undef = .agg (eightA y.key) := dep_of hdeps 25 (by kernel_rfl)
                  have s40 : A.tmps.getD 40 undef = .agg (eightA x.key) := dep_of hdeps 30 (by kernel_rfl)
                  exact r_enter hi (wanted_of rfl rfl g31) rfl (y_call 61 _ #[.agg (eightA y.key), .agg (eightA x.key)] _ rfl (by simp only [List.map_toArray, List.map_cons, List.map_nil, show A.eval (.tmp 35) = .agg (eightA y.key) from s35, show A.eval (.tmp 40) = .agg (eightA x.key) from s40]; try rfl) en10_rkeys) (CX.out w1)
                · obtain rfl := Option.some.inj hi
                  have g32 : A.tmps.getD 29 undef = .bool true := dep_of hdeps 19 (by kernel_rfl)
                  have s41 : A.tmps.getD 41 undef = .int .i64 r := dep_of hdeps 31 (by kernel_rfl)
                  exact r_pure hi (wanted_of rfl rfl g32) rfl (y_geq0 _ _ s41 rfl dge)
                · obtain rfl := Option.some.inj hi
                  have g33 : A.tmps.getD 26 undef = .bool false := dep_of hdeps 16 (by kernel_rfl)
                  have s29 : A.tmps.getD 29 undef = .bool true := dep_of hdeps 19 (by kernel_rfl)
                  have s42 : A.tmps.getD 42 undef = .bool false := dep_of hdeps 32 (by kernel_rfl)
                  exact r_pure hi (wanted_not rfl rfl g33) rfl (y_pickT _ _ _ s29 s42)
                · obtain rfl := Option.some.inj hi
                  have s26 : A.tmps.getD 26 undef = .bool false := dep_of hdeps 16 (by kernel_rfl)
                  have s43 : A.tmps.getD 43 undef = .bool false := dep_of hdeps 33 (by kernel_rfl)
                  exact r_pure hi rfl rfl (y_pickF _ _ _ s26 s43)
              · intro w8 hB8
                simp only [putAll, Act.put, List.setIfInBounds_toArray, List.set_cons_succ, List.set_cons_zero]
                have HB8 := hide hB8
                clear hB8
                go_wp2_with fail
                go_roundg g
                case measure => omega
                case rel => exact ⟨k + 1 + 1, by omega, by first | rfl | go_num, hide (HBW.out.trans (HB8.out.mono HBW.out.size)), HT2⟩
            · have dge : decide (0 ≤ r) = true := decide_eq_true (by omega)
              have HE : Hid (R = false) := hide (by rw [HR.out]; exact ws_not hk1 (by unfold okAt; rw [HKB.out, decide_eq_false hlt, Bool.and_false]))
              clear hkey hit
              go_wp2_with fail
              refine wp_region_vals (by kernel_rfl) [(10, .slice (some ⟨b1, o1, none⟩) L1 c1), (11, .int .i64 ((k + 1 : Nat) : Int)), (12, .pointer (some ⟨b1, o1 + (k + 1) * 21, none⟩)), (13, .pointer (some ⟨b1, o1 + (k + 1) * 21, none⟩)), (14, .agg (eightA x.key)), (15, .bool true), (16, .bool false), (17, .bool false), (18, .slice (some ⟨b1, o1, none⟩) L1 c1), (19, .int .i64 ((k + 1 : Nat) : Int)), (20, .pointer (some ⟨b1, o1 + (k + 1) * 21, none⟩)), (21, .pointer (some ⟨b1, o1 + (k + 1) * 21 + 8, none⟩)), (22, .agg (itA x.it)), (23, .bool true), (24, .bool false), (25, .bool false), (26, .bool false), (27, .int .i64 ((k + 1 : Nat) : Int)), (28, .bool true), (29, .bool true), (30, .slice (some ⟨b1, o1, none⟩) L1 c1), (31, .int .i64 ((k + 1 : Nat) : Int)), (32, .int .i64 (k : Int)), (33, .pointer (some ⟨b1, o1 + k * 21, none⟩)), (34, .pointer (some ⟨b1, o1 + k * 21, none⟩)), (35, .agg (eightA y.key)), (36, .slice (some ⟨b1, o1, none⟩) L1 c1), (37, .int .i64 ((k + 1 : Nat) : Int)), (38, .pointer (some ⟨b1, o1 + (k + 1) * 21, none⟩)), (39, .pointer (some ⟨b1, o1 + (k + 1) * 21, none⟩)), (40, .agg (eightA x.key)), (41, .int .i64 r), (42, .bool true), (43, .bool true), (44, .bool true)] (by kernel_rfl) rfl ?_ ?_
              · intro i o hi A w1 hB hold hdeps
                have hlt : i < 35 := (Array.getElem?_eq_some_iff.1 hi).1
                have hc : i = 0 ∨ i = 1 ∨ i = 2 ∨ i = 3 ∨ i = 4 ∨ i = 5 ∨ i = 6 ∨ i = 7 ∨ i = 8 ∨ i = 9 ∨ i = 10 ∨ i = 11 ∨ i = 12 ∨ i = 13 ∨ i = 14 ∨ i = 15 ∨ i = 16 ∨ i = 17 ∨ i = 18 ∨ i = 19 ∨ i = 20 ∨ i = 21 ∨ i = 22 ∨ i = 23 ∨ i = 24 ∨ i = 25 ∨ i = 26 ∨ i = 27 ∨ i = 28 ∨ i = 29 ∨ i = 30 ∨ i = 31 ∨ i = 32 ∨ i = 33 ∨ i = 34 := by omega
                clear hlt
                rcases hc with rfl | rfl | rfl | rfl | rfl | rfl | rfl | rfl | rfl | rfl | rfl | rfl | rfl | rfl | rfl | rfl | rfl | rfl | rfl | rfl | rfl | rfl | rfl | rfl | rfl | rfl | rfl | rfl | rfl | rfl | rfl | rfl | rfl | rfl | rfl
                · obtain rfl := Option.some.inj hi
                  have s0 : A.tmps.getD 0 undef = .slice (some ⟨b1, o1, none⟩) L1 c1 := hold 0 (by kernel_rfl)
                  exact r_pure hi rfl rfl (y_move _ s0)
                · obtain rfl := Option.some.inj hi
                  have s3 : A.tmps.getD 3 undef = .int .i64 ((k + 1 : Nat) : Int) := hold 3 (by kernel_rfl)
                  exact r_pure hi rfl rfl (y_move _ s3)
                · obtain rfl := Option.some.inj hi
                  have s10 : A.tmps.getD 10 undef = .slice (some ⟨b1, o1, none⟩) L1 c1 := dep_of hdeps 0 (by kernel_rfl)
                  have s11 : A.tmps.getD 11 undef = .int .i64 ((k + 1 : Nat) : Int) := dep_of hdeps 1 (by kernel_rfl)
                  exact r_pure hi rfl rfl (y_idxW _ _ s10 s11 hkl)
                · obtain rfl := Option.some.inj hi
                  have s12 : A.tmps.getD 12 undef = .pointer (some ⟨b1, o1 + (k + 1) * 21, none⟩) := dep_of hdeps 2 (by kernel_rfl)
                  exact r_pure hi rfl rfl (y_fldW0 _ s12)
                · obtain rfl := Option.some.inj hi
                  have s13 : A.tmps.getD 13 undef = .pointer (some ⟨b1, o1 + (k + 1) * 21, none⟩) := dep_of hdeps 3 (by kernel_rfl)
                  exact r_pure hi rfl rfl (y_loadMid _ _ s13 (range_below (range_key HR1.out) hbl hB) Try.underlying53 rfl infoKey10)
                · obtain rfl := Option.some.inj hi
                  have s14 : A.tmps.getD 14 undef = .agg (eightA x.key) := dep_of hdeps 4 (by kernel_rfl)
                  exact r_enter hi rfl rfl (y_call 59 _ #[.agg (eightA x.key)] _ rfl (by simp only [List.map_toArray, List.map_cons, List.map_nil, show A.eval (.tmp 14) = .agg (eightA x.key) from s14]; try rfl) en10_rkey) (CK.out w1)
                · obtain rfl := Option.some.inj hi
                  have s15 : A.tmps.getD 15 undef = .bool true := dep_of hdeps 5 (by kernel_rfl)
                  exact r_pure hi rfl rfl (y_not (a := true) _ _ s15)
                · obtain rfl := Option.some.inj hi
                  have s16 : A.tmps.getD 16 undef = .bool false := dep_of hdeps 6 (by kernel_rfl)
                  exact r_pure hi rfl rfl (y_move _ s16)
                · obtain rfl := Option.some.inj hi
                  have g8 : A.tmps.getD 17 undef = .bool false := dep_of hdeps 7 (by kernel_rfl)
                  have s0 : A.tmps.getD 0 undef = .slice (some ⟨b1, o1, none⟩) L1 c1 := hold 0 (by kernel_rfl)
                  exact r_pure hi (wanted_not rfl rfl g8) rfl (y_move _ s0)
                · obtain rfl := Option.some.inj hi
                  have g9 : A.tmps.getD 17 undef = .bool false := dep_of hdeps 7 (by kernel_rfl)
                  have s3 : A.tmps.getD 3 undef = .int .i64 ((k + 1 : Nat) : Int) := hold 3 (by kernel_rfl)
                  exact r_pure hi (wanted_not rfl rfl g9) rfl (y_move _ s3)
                · obtain rfl := Option.some.inj hi
                  have g10 : A.tmps.getD 17 undef = .bool false := dep_of hdeps 7 (by kernel_rfl)
                  have s18 : A.tmps.getD 18 undef = .slice (some ⟨b1, o1, none⟩) L1 c1 := dep_of hdeps 8 (by kernel_rfl)
                  have s19 : A.tmps.getD 19 undef = .int .i64 ((k + 1 : Nat) : Int) := dep_of hdeps 9 (by kernel_rfl)
                  exact r_pure hi (wanted_not rfl rfl g10) rfl (y_idxW _ _ s18 s19 hkl)
                · obtain rfl := Option.some.inj hi
                  have g11 : A.tmps.getD 17 undef = .bool false := dep_of hdeps 7 (by kernel_rfl)
                  have s20 : A.tmps.getD 20 undef = .pointer (some ⟨b1, o1 + (k + 1) * 21, none⟩) := dep_of hdeps 10 (by kernel_rfl)
                  exact r_pure hi (wanted_not rfl rfl g11) rfl (y_fldW1 _ s20)
                · obtain rfl := Option.some.inj hi
                  have g12 : A.tmps.getD 17 undef = .bool false := dep_of hdeps 7 (by kernel_rfl)
                  have s21 : A.tmps.getD 21 undef = .pointer (some ⟨b1, o1 + (k + 1) * 21 + 8, none⟩) := dep_of hdeps 11 (by kernel_rfl)
                  exact r_pure hi (wanted_not rfl rfl g12) rfl (y_loadMid _ _ s21 (range_below (range_item HR1.out) hbl hB) Try.underlying57 rfl infoItem)
                · obtain rfl := Option.some.inj hi
                  have g13 : A.tmps.getD 17 undef = .bool false := dep_of hdeps 7 (by kernel_rfl)
                  have s22 : A.tmps.getD 22 undef = .agg (itA x.it) := dep_of hdeps 12 (by kernel_rfl)
                  exact r_enter hi (wanted_not rfl rfl g13) rfl (y_call 60 _ #[.agg (itA x.it)] _ rfl (by simp only [List.map_toArray, List.map_cons, List.map_nil, show A.eval (.tmp 22) = .agg (itA x.it) from s22]; try rfl) en10_ritem) (CI.out w1)
                · obtain rfl := Option.some.inj hi
                  have g14 : A.tmps.getD 17 undef = .bool false := dep_of hdeps 7 (by kernel_rfl)
                  have s23 : A.tmps.getD 23 undef = .bool true := dep_of hdeps 13 (by kernel_rfl)
                  exact r_pure hi (wanted_not rfl rfl g14) rfl (y_not (a := true) _ _ s23)
                · obtain rfl := Option.some.inj hi
                  have s17 : A.tmps.getD 17 undef = .bool false := dep_of hdeps 7 (by kernel_rfl)
                  have s24 : A.tmps.getD 24 undef = .bool false := dep_of hdeps 14 (by kernel_rfl)
                  exact r_pure hi rfl rfl (y_pickF _ _ _ s17 s24)
                · obtain rfl := Option.some.inj hi
                  have s25 : A.tmps.getD 25 undef = .bool false := dep_of hdeps 15 (by kernel_rfl)
                  exact r_pure hi rfl rfl (y_move _ s25)
                · obtain rfl := Option.some.inj hi
                  have g17 : A.tmps.getD 26 undef = .bool false := dep_of hdeps 16 (by kernel_rfl)
                  have s3 : A.tmps.getD 3 undef = .int .i64 ((k + 1 : Nat) : Int) := hold 3 (by kernel_rfl)
                  exact r_pure hi (wanted_not rfl rfl g17) rfl (y_move _ s3)
                · obtain rfl := Option.some.inj hi
                  have g18 : A.tmps.getD 26 undef = .bool false := dep_of hdeps 16 (by kernel_rfl)
                  have s27 : A.tmps.getD 27 undef = .int .i64 ((k + 1 : Nat) : Int) := dep_of hdeps 17 (by kernel_rfl)
                  exact r_pure hi (wanted_not rfl rfl g18) rfl (y_gtr0 _ _ s27 rfl (by simp))
                · obtain rfl := Option.some.inj hi
                  have g19 : A.tmps.getD 26 undef = .bool false := dep_of hdeps 16 (by kernel_rfl)
                  have s28 : A.tmps.getD 28 undef = .bool true := dep_of hdeps 18 (by kernel_rfl)
                  exact r_pure hi (wanted_not rfl rfl g19) rfl (y_move _ s28)
                · obtain rfl := Option.some.inj hi
                  have g20 : A.tmps.getD 29 undef = .bool true := dep_of hdeps 19 (by kernel_rfl)
                  have s0 : A.tmps.getD 0 undef = .slice (some ⟨b1, o1, none⟩) L1 c1 := hold 0 (by kernel_rfl)
                  exact r_pure hi (wanted_of rfl rfl g20) rfl (y_move _ s0)
                · obtain rfl := Option.some.inj hi
                  have g21 : A.tmps.getD 29 undef = .bool true := dep_of hdeps 19 (by kernel_rfl)
                  have s3 : A.tmps.getD 3 undef = .int .i64 ((k + 1 : Nat) : Int) := hold 3 (by kernel_rfl)
                  exact r_pure hi (wanted_of rfl rfl g21) rfl (y_move _ s3)
                · obtain rfl := Option.some.inj hi
                  have g22 : A.tmps.getD 29 undef = .bool true := dep_of hdeps 19 (by kernel_rfl)
                  have s31 : A.tmps.getD 31 undef = .int .i64 ((k + 1 : Nat) : Int) := dep_of hdeps 21 (by kernel_rfl)
                  exact r_pure hi (wanted_of rfl rfl g22) rfl (y_sub1 _ _ s31 rfl hsm)
                · obtain rfl := Option.some.inj hi
                  have g23 : A.tmps.getD 29 undef = .bool true := dep_of hdeps 19 (by kernel_rfl)
                  have s30 : A.tmps.getD 30 undef = .slice (some ⟨b1, o1, none⟩) L1 c1 := dep_of hdeps 20 (by kernel_rfl)
                  have s32 : A.tmps.getD 32 undef = .int .i64 (k : Int) := dep_of hdeps 22 (by kernel_rfl)
                  exact r_pure hi (wanted_of rfl rfl g23) rfl (y_idxW _ _ s30 s32 hkl0)
                · obtain rfl := Option.some.inj hi
                  have g24 : A.tmps.getD 29 undef = .bool true := dep_of hdeps 19 (by kernel_rfl)
                  have s33 : A.tmps.getD 33 undef = .pointer (some ⟨b1, o1 + k * 21, none⟩) := dep_of hdeps 23 (by kernel_rfl)
                  exact r_pure hi (wanted_of rfl rfl g24) rfl (y_fldW0 _ s33)
                · obtain rfl := Option.some.inj hi
                  have g25 : A.tmps.getD 29 undef = .bool true := dep_of hdeps 19 (by kernel_rfl)
                  have s34 : A.tmps.getD 34 undef = .pointer (some ⟨b1, o1 + k * 21, none⟩) := dep_of hdeps 24 (by kernel_rfl)
                  exact r_pure hi (wanted_of rfl rfl g25) rfl (y_loadMid _ _ s34 (range_below (range_key HR2.out) hbl hB) Try.underlying53 rfl infoKey10)
                · obtain rfl := Option.some.inj hi
                  have g26 : A.tmps.getD 29 undef = .bool true := dep_of hdeps 19 (by kernel_rfl)
                  have s0 : A.tmps.getD 0 undef = .slice (some ⟨b1, o1, none⟩) L1 c1 := hold 0 (by kernel_rfl)
                  exact r_pure hi (wanted_of rfl rfl g26) rfl (y_move _ s0)
                · obtain rfl := Option.some.inj hi
                  have g27 : A.tmps.getD 29 undef = .bool true := dep_of hdeps 19 (by kernel_rfl)
                  have s3 : A.tmps.getD 3 undef = .int .i64 ((k + 1 : Nat) : Int) := hold 3 (by kernel_rfl)
                  exact r_pure hi (wanted_of rfl rfl g27) rfl (y_move _ s3)
                · obtain rfl := Option.some.inj hi
                  have g28 : A.tmps.getD 29 undef = .bool true := dep_of hdeps 19 (by kernel_rfl)
                  have s36 : A.tmps.getD 36 undef = .slice (some ⟨b1, o1, none⟩) L1 c1 := dep_of hdeps 26 (by kernel_rfl)
                  have s37 : A.tmps.getD 37 undef = .int .i64 ((k + 1 : Nat) : Int) := dep_of hdeps 27 (by kernel_rfl)
                  exact r_pure hi (wanted_of rfl rfl g28) rfl (y_idxW _ _ s36 s37 hkl)
                · obtain rfl := Option.some.inj hi
                  have g29 : A.tmps.getD 29 undef = .bool true := dep_of hdeps 19 (by kernel_rfl)
                  have s38 : A.tmps.getD 38 undef = .pointer (some ⟨b1, o1 + (k + 1) * 21, none⟩) := dep_of hdeps 28 (by kernel_rfl)
                  exact r_pure hi (wanted_of rfl rfl g29) rfl (y_fldW0 _ s38)
                · obtain rfl := Option.some.inj hi
                  have g30 : A.tmps.getD 29 undef = .bool true := dep_of hdeps 19 (by kernel_rfl)
                  have s39 : A.tmps.getD 39 undef = .pointer (some ⟨b1, o1 + (k + 1) * 21, none⟩) := dep_of hdeps 29 (by kernel_rfl)
                  exact r_pure hi (wanted_of rfl rfl g30) rfl (y_loadMid _ _ s39 (range_below (range_key HR1.out) hbl hB) Try.underlying53 rfl infoKey10)
                · obtain rfl := Option.some.inj hi
                  have g31 : A.tmps.getD 29 undef = .bool true := dep_of hdeps 19 (by kernel_rfl)
                  have s35 : A.tmps.getD 35 undef = .agg (eightA y.key) := dep_of hdeps 25 (by kernel_rfl)
                  have s40 : A.tmps.getD 40 undef = .agg (eightA x.key) := dep_of hdeps 30 (by kernel_rfl)
                  exact r_enter hi (wanted_of rfl rfl g31) rfl (y_call 61 _ #[.agg (eightA y.key), .agg (eightA x.key)] _ rfl (by simp only [List.map_toArray, List.map_cons, List.map_nil, show A.eval (.tmp 35) = .agg (eightA y.key) from s35, show A.eval (.tmp 40) = .agg (eightA x.key) from s40]; try rfl) en10_rkeys) (CX.out w1)
                · obtain rfl := Option.some.inj hi
                  have g32 : A.tmps.getD 29 undef = .bool true := dep_of hdeps 19 (by kernel_rfl)
                  have s41 : A.tmps.getD 41 undef = .int .i64 r := dep_of hdeps 31 (by kernel_rfl)
                  exact r_pure hi (wanted_of rfl rfl g32) rfl (y_geq0 _ _ s41 rfl dge)
                · obtain rfl := Option.some.inj hi
                  have g33 : A.tmps.getD 26 undef = .bool false := dep_of hdeps 16 (by kernel_rfl)
                  have s29 : A.tmps.getD 29 undef = .bool true := dep_of hdeps 19 (by kernel_rfl)
                  have s42 : A.tmps.getD 42 undef = .bool true := dep_of hdeps 32 (by kernel_rfl)
                  exact r_pure hi (wanted_not rfl rfl g33) rfl (y_pickT _ _ _ s29 s42)
                · obtain rfl := Option.some.inj hi
                  have s26 : A.tmps.getD 26 undef = .bool false := dep_of hdeps 16 (by kernel_rfl)
                  have s43 : A.tmps.getD 43 undef = .bool true := dep_of hdeps 33 (by kernel_rfl)
                  exact r_pure hi rfl rfl (y_pickF _ _ _ s26 s43)
              · intro w8 hB8
                simp only [putAll, Act.put, List.setIfInBounds_toArray, List.set_cons_succ, List.set_cons_zero]
                have HB8 := hide hB8
                clear hB8
                go_wp2_with fail
                go_ret
                exact ⟨by rw [HE.out]; rfl, HBW.out.trans (HB8.out.mono HBW.out.size)⟩
end
end Go.Proofs.Ytodomdmmffooaaa
