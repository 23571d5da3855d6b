/-
  Own texts put together: TbRef. Own work.
-/
import Derived.Test.YtlngejmojpkdkaaG15
import Derived.Test.YtlngejmojpkdkaaG17
namespace Go.Proofs.Ytlngejmojpkdkaa
section
open Go.RowKit Classical

section
variable {ρ : Operand → Value} {w : World} {dst : Option Tmp} {ty : TypeId} {pos : String} {aft : Array Edge} {gd : Option (Nat × Bool)}
theorem yt_field (x : Operand) {p : Nat} (hx : ρ x = .pointer (some ⟨p, 0, none⟩)) : (execOp ρ ⟨dst, .fieldAddr 26 x 0, ty, pos, aft, gd⟩).run Try.prog w = .ok (.value (.pointer (some ⟨p, 0, none⟩))) w := by simp [go_sem, hx]
theorem yt_wkey (x : Operand) {p o : Nat} (hx : ρ x = .pointer (some ⟨p, o, none⟩)) : (execOp ρ ⟨dst, .fieldAddr 38 x 0, ty, pos, aft, gd⟩).run Try.prog w = .ok (.value (.pointer (some ⟨p, o, none⟩))) w := by simp [go_sem, hx]
theorem yt_cell (x : Operand) {p : Nat} {v : Value} (hx : ρ x = .pointer (some ⟨p, 0, none⟩)) (hc : w.cell? ⟨p, 0, none⟩ = some v) : (execOp ρ ⟨dst, .load 22 x, ty, pos, aft, gd⟩).run Try.prog w = .ok (.value v) w := by simp [go_sem, hx, hc]
theorem yt_idx (x y : Operand) {b off n c j : Nat} (hx : ρ x = .slice (some ⟨b, off, none⟩) n c) (hy : ρ y = .int .i64 (j : Int)) (h : j < n) : (execOp ρ ⟨dst, .indexAddr 22 x y, ty, pos, aft, gd⟩).run Try.prog w = .ok (.value (.pointer (some ⟨b, off + j * 21, none⟩))) w := by
  have h1 : (0 : Int) ≤ (j : Int) := by omega
  have h2 : (j : Int) < (n : Int) := by omega
  simp [go_sem, hx, hy, h1, h2]
end
theorem lss_int (a b : Int) (c : Bool) (w : World) (h : decide (a < b) = c) : (binOp .lss 3 (.int .i64 a) (.int .i64 b)).run Try.prog w = .ok (.bool c) w := by
  subst h
  simp [go_sem]
theorem en13_keys : ∀ args w, (callFunc 42 args).run Try.prog w = .ok (.enter 42 args) w := enters_of Try.func42 (by kernel_rfl) rfl
theorem up_take {t : List WrP} {k : List Int} {j : Nat} (hj : j ≤ t.length) (h : ∀ x ∈ t.take j, lexF x.key k < 0) (h2 : ∀ hlt : j < t.length, ¬ lexF (t[j]).key k < 0) : upT t k = t.take j ∧ dnT t k = t.drop j := by
  have key : ∀ (t : List WrP) (j : Nat), j ≤ t.length → (∀ x ∈ t.take j, lexF x.key k < 0) → (∀ hlt : j < t.length, ¬ lexF (t[j]).key k < 0) → upT t k = t.take j ∧ dnT t k = t.drop j := by
    intro t
    induction t with
    | nil => intro j _ _ _; simp [upT, dnT]
    | cons x l ih =>
      intro j hj h h2
      cases j with
      | zero =>
        have hx : ¬ lexF x.key k < 0 := h2 (by simp)
        unfold upT dnT
        rw [List.takeWhile_cons, List.dropWhile_cons]
        simp [hx]
      | succ j =>
        have hx : lexF x.key k < 0 := h x (by simp)
        have := ih j (by simpa using hj) (fun y hy => h y (by rw [List.take_succ_cons]; exact List.mem_cons_of_mem _ hy)) (fun hlt => h2 (by simpa using hlt))
        unfold upT dnT at this ⊢
        rw [List.takeWhile_cons, List.dropWhile_cons]
        simp [hx, this.1, this.2]
  exact key t j hj h h2
set_option maxRecDepth 100000 in
set_option maxHeartbeats 1600000 in
theorem rplace_any (p n cap : Nat) (ao : Option Addr) (t : List WrP) (k : List Int) (w : World) (hc : w.cell? ⟨p, 0, none⟩ = some (.slice ao n cap)) (hp : p < w.heap.size) (hs : RSrc wrE w (.slice ao n cap) t) (hk : KeyOk k) (hks : ∀ x ∈ t, KeyOk x.key) (hl : t.length ≤ 100000) :
    Calls Try.prog 30 #[.pointer (some ⟨p, 0, none⟩), .agg (eightA k)] w fun e w' => e = .returned (.tuple #[.int .i64 ((upT t k).length : Int), .bool (getT t k).isSome]) ∧ Below w.heap.size w w' := by
  have hnt : n = t.length := by obtain ⟨_, _, e, _⟩ := hs; cases e; rfl
  have HA := hide (alloc_below13 w (.cells (eightA k) 31))
  have HXK0 := hide (box_new w (eightA k) 31)
  have HS := hide hs
  have HK := hide hk
  have HKS := hide hks
  have HNT := hide hnt
  have hnl : n ≤ 100000 := by omega
  obtain ⟨R1, hR1⟩ : ∃ R1, R1 = ((upT t k).length : Int) := ⟨_, rfl⟩
  obtain ⟨R2, hR2⟩ : ∃ R2, R2 = (getT t k).isSome := ⟨_, rfl⟩
  rw [← hR1, ← hR2]
  have HR : Hid (∀ j, j ≤ t.length → (∀ x ∈ t.take j, lexF x.key k < 0) → (∀ hlt : j < t.length, ¬ lexF (t[j]).key k < 0) → R1 = (j : Int) ∧ R2 = (match t.drop j with | [] => none | x :: _ => if x.key = k then some x.it else none).isSome) := hide (fun j hj h h2 => by
    obtain ⟨e1, e2⟩ := up_take hj h h2
    refine ⟨by rw [hR1, e1, List.length_take]; omega, ?_⟩
    rw [hR2]
    unfold getT
    rw [e2]
    cases t.drop j <;> rfl)
  obtain ⟨kb, hkb⟩ : ∃ kb, kb = w.heap.size := ⟨_, rfl⟩
  obtain ⟨w1, hw1⟩ : ∃ w1, w1 = w.alloc (.cells (eightA k) 31) := ⟨_, rfl⟩
  rw [← hw1] at HA HXK0
  have HC1 : Hid (∀ W, Below w1.heap.size w1 W → W.cell? ⟨p, 0, none⟩ = some (.slice ao n cap)) := hide (fun W hB => by
    have h1 := (HA.out.cell (p := ⟨p, 0, none⟩) hp).trans hc
    exact (hB.cell (p := ⟨p, 0, none⟩) (Nat.lt_of_lt_of_le hp HA.out.size)).trans h1)
  have HX1 : Hid (∀ W, Below w1.heap.size w1 W → Box W kb (eightA k) 31) := hide (fun W hB => by rw [hkb]; exact HXK0.out.belowI hB)
  have HWB : Hid (Below w.heap.size w w1) := HA
  have HW1 := hide hw1
  clear hs hk hks hnt hR1 hR2 hc hp hl HXK0
  go_enter Try.func30, Try.ntmps30
  go_wp2_with fail
  rw [← HW1.out, ← hkb]
  clear hw1 HA hkb
  go_loopg [6] n (fun g i wr => ∃ j : Nat, j + g = n ∧ i = .int .i64 j ∧ Hid (∀ x ∈ t.take j, lexF x.key k < 0) ∧ Hid (Below w1.heap.size w1 wr))
  case atStart => exact ⟨0, by omega, rfl, hide (fun x hx => by simp at hx), hide (Below.refl _ _)⟩
  case round =>
    obtain ⟨j, hj, rfl, HLTS, HB⟩ := hrel
    have HC0 : Hid (∀ W, Below wr.heap.size wr W → W.cell? ⟨p, 0, none⟩ = some (.slice ao n cap)) := hide (fun W hB => HC1.out W (HB.out.trans (hB.mono HB.out.size)))
    have HXK : Hid (∀ W, Below wr.heap.size wr W → Box W kb (eightA k) 31) := hide (fun W hB => HX1.out W (HB.out.trans (hB.mono HB.out.size)))
    cases gk with
    | zero =>
      obtain rfl : j = n := by omega
      have HLT : Hid (∀ W, (binOp .lss 3 (.int .i64 (j : Int)) (.int .i64 (j : Int))).run Try.prog W = .ok (.bool false) W) := hide (fun W => lss_int _ _ _ W (decide_eq_false (by omega)))
      have HE : Hid (R1 = (j : Int) ∧ R2 = false) := hide (by
        have h := HR.out j (by rw [HNT.out]; exact Nat.le_refl _) HLTS.out (fun hlt => by rw [HNT.out] at hlt; omega)
        rw [h.1, h.2, HNT.out]
        simp)
      go_wp2_with fail
      refine wp_region_vals (by kernel_rfl) [(7, .int .i64 (j : Int)), (8, .pointer (some ⟨p, 0, none⟩)), (9, .pointer (some ⟨p, 0, none⟩)), (10, .pointer (some ⟨p, 0, none⟩)), (11, .slice ao j cap), (12, .int .i64 (j : Int)), (13, .bool false), (14, .bool false), (15, undef), (16, undef), (17, undef), (18, undef), (19, undef), (20, undef), (21, undef), (22, undef), (23, undef), (24, undef), (25, undef), (26, .bool false)] (by kernel_rfl) rfl ?_ ?_
      · intro i o hi A w1 hB hold hdeps
        have hlt : i < 20 := (Array.getElem?_eq_some_iff.1 hi).1
        have hc : i = 0 ∨ i = 1 ∨ i = 2 ∨ i = 3 ∨ i = 4 ∨ i = 5 ∨ i = 6 ∨ i = 7 ∨ i = 8 ∨ i = 9 ∨ i = 10 ∨ i = 11 ∨ i = 12 ∨ i = 13 ∨ i = 14 ∨ i = 15 ∨ i = 16 ∨ i = 17 ∨ i = 18 ∨ i = 19 := by omega
        clear hlt
        rcases hc with rfl | rfl | rfl | rfl | rfl | rfl | rfl | rfl | rfl | rfl | rfl | rfl | rfl | rfl | rfl | rfl | rfl | rfl | rfl | rfl
        · obtain rfl := Option.some.inj hi
          have s6 : A.tmps.getD 6 undef = .int .i64 (j : Int) := hold 6 (by kernel_rfl)
          exact r_pure hi rfl rfl (y_move _ s6)
        · obtain rfl := Option.some.inj hi
          have s0 : A.tmps.getD 0 undef = .pointer (some ⟨p, 0, none⟩) := hold 0 (by kernel_rfl)
          exact r_pure hi rfl rfl (y_move _ s0)
        · obtain rfl := Option.some.inj hi
          have s8 : A.tmps.getD 8 undef = .pointer (some ⟨p, 0, none⟩) := dep_of hdeps 1 (by kernel_rfl)
          exact r_pure hi rfl rfl (y_nil _ s8)
        · obtain rfl := Option.some.inj hi
          have s9 : A.tmps.getD 9 undef = .pointer (some ⟨p, 0, none⟩) := dep_of hdeps 2 (by kernel_rfl)
          exact r_pure hi rfl rfl (yt_field _ s9)
        · obtain rfl := Option.some.inj hi
          have s10 : A.tmps.getD 10 undef = .pointer (some ⟨p, 0, none⟩) := dep_of hdeps 3 (by kernel_rfl)
          exact r_pure hi rfl rfl (yt_cell _ s10 (HC0.out w1 hB))
        · obtain rfl := Option.some.inj hi
          have s11 : A.tmps.getD 11 undef = .slice ao j cap := dep_of hdeps 4 (by kernel_rfl)
          exact r_pure hi rfl rfl (y_len _ _ s11 Try.underlying22)
        · obtain rfl := Option.some.inj hi
          have s7 : A.tmps.getD 7 undef = .int .i64 (j : Int) := dep_of hdeps 0 (by kernel_rfl)
          have s12 : A.tmps.getD 12 undef = .int .i64 (j : Int) := dep_of hdeps 5 (by kernel_rfl)
          exact r_pure hi rfl rfl (y_bin _ _ _ _ _ s7 s12 (HLT.out w1) (by kernel_rfl))
        · obtain rfl := Option.some.inj hi
          have s13 : A.tmps.getD 13 undef = .bool false := dep_of hdeps 6 (by kernel_rfl)
          exact r_pure hi rfl rfl (y_move _ s13)
        · obtain rfl := Option.some.inj hi
          have g8 : A.tmps.getD 14 undef = .bool false := dep_of hdeps 7 (by kernel_rfl)
          exact each_skip hi rfl rfl (fun e => absurd (g8.symm.trans e) (by simp)) rfl
        · obtain rfl := Option.some.inj hi
          have g9 : A.tmps.getD 14 undef = .bool false := dep_of hdeps 7 (by kernel_rfl)
          exact each_skip hi rfl rfl (fun e => absurd (g9.symm.trans e) (by simp)) rfl
        · obtain rfl := Option.some.inj hi
          have g10 : A.tmps.getD 14 undef = .bool false := dep_of hdeps 7 (by kernel_rfl)
          exact each_skip hi rfl rfl (fun e => absurd (g10.symm.trans e) (by simp)) rfl
        · obtain rfl := Option.some.inj hi
          have g11 : A.tmps.getD 14 undef = .bool false := dep_of hdeps 7 (by kernel_rfl)
          exact each_skip hi rfl rfl (fun e => absurd (g11.symm.trans e) (by simp)) rfl
        · obtain rfl := Option.some.inj hi
          have g12 : A.tmps.getD 14 undef = .bool false := dep_of hdeps 7 (by kernel_rfl)
          exact each_skip hi rfl rfl (fun e => absurd (g12.symm.trans e) (by simp)) rfl
        · obtain rfl := Option.some.inj hi
          have g13 : A.tmps.getD 14 undef = .bool false := dep_of hdeps 7 (by kernel_rfl)
          exact each_skip hi rfl rfl (fun e => absurd (g13.symm.trans e) (by simp)) rfl
        · obtain rfl := Option.some.inj hi
          have g14 : A.tmps.getD 14 undef = .bool false := dep_of hdeps 7 (by kernel_rfl)
          exact each_skip hi rfl rfl (fun e => absurd (g14.symm.trans e) (by simp)) rfl
        · obtain rfl := Option.some.inj hi
          have g15 : A.tmps.getD 14 undef = .bool false := dep_of hdeps 7 (by kernel_rfl)
          exact each_skip hi rfl rfl (fun e => absurd (g15.symm.trans e) (by simp)) rfl
        · obtain rfl := Option.some.inj hi
          have g16 : A.tmps.getD 14 undef = .bool false := dep_of hdeps 7 (by kernel_rfl)
          exact each_skip hi rfl rfl (fun e => absurd (g16.symm.trans e) (by simp)) rfl
        · obtain rfl := Option.some.inj hi
          have g17 : A.tmps.getD 14 undef = .bool false := dep_of hdeps 7 (by kernel_rfl)
          exact each_skip hi rfl rfl (fun e => absurd (g17.symm.trans e) (by simp)) rfl
        · obtain rfl := Option.some.inj hi
          have g18 : A.tmps.getD 14 undef = .bool false := dep_of hdeps 7 (by kernel_rfl)
          exact each_skip hi rfl rfl (fun e => absurd (g18.symm.trans e) (by simp)) rfl
        · obtain rfl := Option.some.inj hi
          have s14 : A.tmps.getD 14 undef = .bool false := dep_of hdeps 7 (by kernel_rfl)
          exact r_pure hi rfl rfl (y_pickF _ _ _ s14 rfl)
      · intro w9 hB9
        simp only [putAll, Act.put, List.setIfInBounds_toArray, List.set_cons_succ, List.set_cons_zero]
        have HB9 := hide (HB.out.trans (hB9.mono HB.out.size))
        go_wp2_with fail
        replace HC0 : Hid (∀ W, Below w9.heap.size w9 W → _) := hide (fun W hB => HC0.out W (hB9.trans (hB.mono hB9.size)))
        replace HXK : Hid (∀ W, Below w9.heap.size w9 W → _) := hide (fun W hB => HXK.out W (hB9.trans (hB.mono hB9.size)))
        clear hB9 HB
        have HB := HB9
        clear HB9
        go_wp2_with fail
        refine wp_region_vals (by kernel_rfl) [(29, .int .i64 (j : Int)), (30, .int .i64 (j : Int)), (31, .pointer (some ⟨p, 0, none⟩)), (32, .pointer (some ⟨p, 0, none⟩)), (33, .pointer (some ⟨p, 0, none⟩)), (34, .slice ao j cap), (35, .int .i64 (j : Int)), (36, .bool false), (37, .bool false), (38, undef), (39, undef), (40, undef), (41, undef), (42, undef), (43, undef), (44, undef), (45, undef), (46, undef), (47, undef), (48, .bool false), (4, .int .i64 (j : Int)), (5, .bool false)] (by kernel_rfl) rfl ?_ ?_
        · intro i o hi A w1 hB hold hdeps
          have hlt : i < 22 := (Array.getElem?_eq_some_iff.1 hi).1
          have hc : i = 0 ∨ i = 1 ∨ i = 2 ∨ i = 3 ∨ i = 4 ∨ i = 5 ∨ i = 6 ∨ i = 7 ∨ i = 8 ∨ i = 9 ∨ i = 10 ∨ i = 11 ∨ i = 12 ∨ i = 13 ∨ i = 14 ∨ i = 15 ∨ i = 16 ∨ i = 17 ∨ i = 18 ∨ i = 19 ∨ i = 20 ∨ i = 21 := by omega
          clear hlt
          rcases hc with rfl | rfl | rfl | rfl | rfl | rfl | rfl | rfl | rfl | rfl | rfl | rfl | rfl | rfl | rfl | rfl | rfl | rfl | rfl | rfl | rfl | rfl
          · obtain rfl := Option.some.inj hi
            have s6 : A.tmps.getD 6 undef = .int .i64 (j : Int) := hold 6 (by kernel_rfl)
            exact r_pure hi rfl rfl (y_move _ s6)
          · obtain rfl := Option.some.inj hi
            have s6 : A.tmps.getD 6 undef = .int .i64 (j : Int) := hold 6 (by kernel_rfl)
            exact r_pure hi rfl rfl (y_move _ s6)
          · obtain rfl := Option.some.inj hi
            have s0 : A.tmps.getD 0 undef = .pointer (some ⟨p, 0, none⟩) := hold 0 (by kernel_rfl)
            exact r_pure hi rfl rfl (y_move _ s0)
          · obtain rfl := Option.some.inj hi
            have s31 : A.tmps.getD 31 undef = .pointer (some ⟨p, 0, none⟩) := dep_of hdeps 2 (by kernel_rfl)
            exact r_pure hi rfl rfl (y_nil _ s31)
          · obtain rfl := Option.some.inj hi
            have s32 : A.tmps.getD 32 undef = .pointer (some ⟨p, 0, none⟩) := dep_of hdeps 3 (by kernel_rfl)
            exact r_pure hi rfl rfl (yt_field _ s32)
          · obtain rfl := Option.some.inj hi
            have s33 : A.tmps.getD 33 undef = .pointer (some ⟨p, 0, none⟩) := dep_of hdeps 4 (by kernel_rfl)
            exact r_pure hi rfl rfl (yt_cell _ s33 (HC0.out w1 hB))
          · obtain rfl := Option.some.inj hi
            have s34 : A.tmps.getD 34 undef = .slice ao j cap := dep_of hdeps 5 (by kernel_rfl)
            exact r_pure hi rfl rfl (y_len _ _ s34 Try.underlying22)
          · obtain rfl := Option.some.inj hi
            have s30 : A.tmps.getD 30 undef = .int .i64 (j : Int) := dep_of hdeps 1 (by kernel_rfl)
            have s35 : A.tmps.getD 35 undef = .int .i64 (j : Int) := dep_of hdeps 6 (by kernel_rfl)
            exact r_pure hi rfl rfl (y_bin _ _ _ _ _ s30 s35 (HLT.out w1) (by kernel_rfl))
          · obtain rfl := Option.some.inj hi
            have s36 : A.tmps.getD 36 undef = .bool false := dep_of hdeps 7 (by kernel_rfl)
            exact r_pure hi rfl rfl (y_move _ s36)
          · obtain rfl := Option.some.inj hi
            have g9 : A.tmps.getD 37 undef = .bool false := dep_of hdeps 8 (by kernel_rfl)
            exact each_skip hi rfl rfl (fun e => absurd (g9.symm.trans e) (by simp)) rfl
          · obtain rfl := Option.some.inj hi
            have g10 : A.tmps.getD 37 undef = .bool false := dep_of hdeps 8 (by kernel_rfl)
            exact each_skip hi rfl rfl (fun e => absurd (g10.symm.trans e) (by simp)) rfl
          · obtain rfl := Option.some.inj hi
            have g11 : A.tmps.getD 37 undef = .bool false := dep_of hdeps 8 (by kernel_rfl)
            exact each_skip hi rfl rfl (fun e => absurd (g11.symm.trans e) (by simp)) rfl
          · obtain rfl := Option.some.inj hi
            have g12 : A.tmps.getD 37 undef = .bool false := dep_of hdeps 8 (by kernel_rfl)
            exact each_skip hi rfl rfl (fun e => absurd (g12.symm.trans e) (by simp)) rfl
          · obtain rfl := Option.some.inj hi
            have g13 : A.tmps.getD 37 undef = .bool false := dep_of hdeps 8 (by kernel_rfl)
            exact each_skip hi rfl rfl (fun e => absurd (g13.symm.trans e) (by simp)) rfl
          · obtain rfl := Option.some.inj hi
            have g14 : A.tmps.getD 37 undef = .bool false := dep_of hdeps 8 (by kernel_rfl)
            exact each_skip hi rfl rfl (fun e => absurd (g14.symm.trans e) (by simp)) rfl
          · obtain rfl := Option.some.inj hi
            have g15 : A.tmps.getD 37 undef = .bool false := dep_of hdeps 8 (by kernel_rfl)
            exact each_skip hi rfl rfl (fun e => absurd (g15.symm.trans e) (by simp)) rfl
          · obtain rfl := Option.some.inj hi
            have g16 : A.tmps.getD 37 undef = .bool false := dep_of hdeps 8 (by kernel_rfl)
            exact each_skip hi rfl rfl (fun e => absurd (g16.symm.trans e) (by simp)) rfl
          · obtain rfl := Option.some.inj hi
            have g17 : A.tmps.getD 37 undef = .bool false := dep_of hdeps 8 (by kernel_rfl)
            exact each_skip hi rfl rfl (fun e => absurd (g17.symm.trans e) (by simp)) rfl
          · obtain rfl := Option.some.inj hi
            have g18 : A.tmps.getD 37 undef = .bool false := dep_of hdeps 8 (by kernel_rfl)
            exact each_skip hi rfl rfl (fun e => absurd (g18.symm.trans e) (by simp)) rfl
          · obtain rfl := Option.some.inj hi
            have s37 : A.tmps.getD 37 undef = .bool false := dep_of hdeps 8 (by kernel_rfl)
            exact r_pure hi rfl rfl (y_pickF _ _ _ s37 rfl)
          · obtain rfl := Option.some.inj hi
            have s29 : A.tmps.getD 29 undef = .int .i64 (j : Int) := dep_of hdeps 0 (by kernel_rfl)
            exact r_pure hi rfl rfl (y_assign _ s29)
          · obtain rfl := Option.some.inj hi
            have s48 : A.tmps.getD 48 undef = .bool false := dep_of hdeps 19 (by kernel_rfl)
            exact r_pure hi rfl rfl (y_assign _ s48)
        · intro wA hBA
          simp only [putAll, Act.put, List.setIfInBounds_toArray, List.set_cons_succ, List.set_cons_zero]
          replace HB := hide (HB.out.trans (hBA.mono HB.out.size))
          clear hBA
          go_wp2_with fail
          go_ret2
          exact ⟨by rw [HE.out.1, HE.out.2]; rfl, HWB.out.trans (HB.out.mono HWB.out.size)⟩
    | succ g =>
      have hjn : j < n := by omega
      have hjt : j < t.length := by rw [← HNT.out]; exact hjn
      obtain ⟨_, b, off, e9, hb, hcl⟩ := (HS.out.below (HWB.out.trans (HB.out.mono HWB.out.size))).at recWR.len hjt
      obtain rfl := e9
      have HRK : Hid (∀ W, Below wr.heap.size wr W → W.rangeAt b (off + j * 21) (eightE (t[j]).key)) := hide (fun W hB i v hv => (World.cell?_of_block (a := ⟨b, off + j * 21 + i, none⟩) (hB.block b hb)).trans (hcl i v (by
        have hi := (List.getElem?_eq_some_iff.1 hv).1
        rw [List.getElem?_append_left hi]
        exact hv)))
      have HKX := hide (HKS.out _ (List.getElem_mem hjt))
      have HTK : Hid (t.take (j + 1) = t.take j ++ [t[j]]) := hide (List.take_succ_eq_append_getElem hjt)
      have HDR : Hid (t.drop j = t[j] :: t.drop (j + 1)) := hide (List.drop_eq_getElem_cons hjt)
      have HRX := hide (fun (h : ¬ lexF (t[j]).key k < 0) => HR.out j (Nat.le_of_lt hjt) HLTS.out (fun _ => by first | exact h | omega))
      rw [HDR.out] at HRX
      have HLT : Hid (∀ W, (binOp .lss 3 (.int .i64 (j : Int)) (.int .i64 (n : Int))).run Try.prog W = .ok (.bool true) W) := hide (fun W => lss_int _ _ _ W (decide_eq_true (by omega)))
      clear hcl hb HDR
      generalize t[j] = x at *
      have CK : Hid (∀ W, Calls Try.prog 42 #[.agg (eightA x.key), .agg (eightA k)] W fun e w' => e = .returned (.int .i64 (lexF x.key k)) ∧ Below W.heap.size W w') := hide (fun W => by
        have := rkeys_any x.key k W HKX.out.l HK.out.l HKX.out.b HK.out.b
        rw [eight_cells8 HKX.out.l, eight_cells8 HK.out.l] at this
        exact this)
      by_cases hlt : lexF x.key k < 0
      · have HLS : Hid (∀ W, (binOp .lss 3 (.int .i64 (lexF x.key k)) (.int .i64 0)).run Try.prog W = .ok (.bool true) W) := hide (fun W => lss_int _ _ _ W (decide_eq_true hlt))
        have HLT2 : Hid (∀ y ∈ t.take (j + 1), lexF y.key k < 0) := hide (fun y hy => by
          rw [HTK.out] at hy
          rcases List.mem_append.1 hy with h | h
          · exact HLTS.out y h
          · rw [List.mem_singleton.1 h]; exact hlt)
        go_wp2_with fail
        refine wp_region_vals (by kernel_rfl) [(7, .int .i64 (j : Int)), (8, .pointer (some ⟨p, 0, none⟩)), (9, .pointer (some ⟨p, 0, none⟩)), (10, .pointer (some ⟨p, 0, none⟩)), (11, .slice (some ⟨b, off, none⟩) n cap), (12, .int .i64 (n : Int)), (13, .bool true), (14, .bool true), (15, .pointer (some ⟨p, 0, none⟩)), (16, .pointer (some ⟨p, 0, none⟩)), (17, .pointer (some ⟨p, 0, none⟩)), (18, .slice (some ⟨b, off, none⟩) n cap), (19, .int .i64 (j : Int)), (20, .pointer (some ⟨b, off + j * 21, none⟩)), (21, .pointer (some ⟨b, off + j * 21, none⟩)), (22, .agg (eightA x.key)), (23, .agg (eightA k)), (24, .int .i64 (lexF x.key k)), (25, .bool true), (26, .bool true)] (by kernel_rfl) rfl ?_ ?_
        · intro i o hi A w1 hB hold hdeps
          have hlt : i < 20 := (Array.getElem?_eq_some_iff.1 hi).1
          have hc : i = 0 ∨ i = 1 ∨ i = 2 ∨ i = 3 ∨ i = 4 ∨ i = 5 ∨ i = 6 ∨ i = 7 ∨ i = 8 ∨ i = 9 ∨ i = 10 ∨ i = 11 ∨ i = 12 ∨ i = 13 ∨ i = 14 ∨ i = 15 ∨ i = 16 ∨ i = 17 ∨ i = 18 ∨ i = 19 := by omega
          clear hlt
          rcases hc with rfl | rfl | rfl | rfl | rfl | rfl | rfl | rfl | rfl | rfl | rfl | rfl | rfl | rfl | rfl | rfl | rfl | rfl | rfl | rfl
          · obtain rfl := Option.some.inj hi
            have s6 : A.tmps.getD 6 undef = .int .i64 (j : Int) := hold 6 (by kernel_rfl)
            exact r_pure hi rfl rfl (y_move _ s6)
          · obtain rfl := Option.some.inj hi
            have s0 : A.tmps.getD 0 undef = .pointer (some ⟨p, 0, none⟩) := hold 0 (by kernel_rfl)
            exact r_pure hi rfl rfl (y_move _ s0)
          · obtain rfl := Option.some.inj hi
            have s8 : A.tmps.getD 8 undef = .pointer (some ⟨p, 0, none⟩) := dep_of hdeps 1 (by kernel_rfl)
            exact r_pure hi rfl rfl (y_nil _ s8)
          · obtain rfl := Option.some.inj hi
            have s9 : A.tmps.getD 9 undef = .pointer (some ⟨p, 0, none⟩) := dep_of hdeps 2 (by kernel_rfl)
            exact r_pure hi rfl rfl (yt_field _ s9)
          · obtain rfl := Option.some.inj hi
            have s10 : A.tmps.getD 10 undef = .pointer (some ⟨p, 0, none⟩) := dep_of hdeps 3 (by kernel_rfl)
            exact r_pure hi rfl rfl (yt_cell _ s10 (HC0.out w1 hB))
          · obtain rfl := Option.some.inj hi
            have s11 : A.tmps.getD 11 undef = .slice (some ⟨b, off, none⟩) n cap := dep_of hdeps 4 (by kernel_rfl)
            exact r_pure hi rfl rfl (y_len _ _ s11 Try.underlying22)
          · obtain rfl := Option.some.inj hi
            have s7 : A.tmps.getD 7 undef = .int .i64 (j : Int) := dep_of hdeps 0 (by kernel_rfl)
            have s12 : A.tmps.getD 12 undef = .int .i64 (n : Int) := dep_of hdeps 5 (by kernel_rfl)
            exact r_pure hi rfl rfl (y_bin _ _ _ _ _ s7 s12 (HLT.out w1) (by kernel_rfl))
          · obtain rfl := Option.some.inj hi
            have s13 : A.tmps.getD 13 undef = .bool true := dep_of hdeps 6 (by kernel_rfl)
            exact r_pure hi rfl rfl (y_move _ s13)
          · obtain rfl := Option.some.inj hi
            have g8 : A.tmps.getD 14 undef = .bool true := dep_of hdeps 7 (by kernel_rfl)
            have s0 : A.tmps.getD 0 undef = .pointer (some ⟨p, 0, none⟩) := hold 0 (by kernel_rfl)
            exact r_pure hi (wanted_of rfl rfl g8) rfl (y_move _ s0)
          · obtain rfl := Option.some.inj hi
            have g9 : A.tmps.getD 14 undef = .bool true := dep_of hdeps 7 (by kernel_rfl)
            have s15 : A.tmps.getD 15 undef = .pointer (some ⟨p, 0, none⟩) := dep_of hdeps 8 (by kernel_rfl)
            exact r_pure hi (wanted_of rfl rfl g9) rfl (y_nil _ s15)
          · obtain rfl := Option.some.inj hi
            have g10 : A.tmps.getD 14 undef = .bool true := dep_of hdeps 7 (by kernel_rfl)
            have s16 : A.tmps.getD 16 undef = .pointer (some ⟨p, 0, none⟩) := dep_of hdeps 9 (by kernel_rfl)
            exact r_pure hi (wanted_of rfl rfl g10) rfl (yt_field _ s16)
          · obtain rfl := Option.some.inj hi
            have g11 : A.tmps.getD 14 undef = .bool true := dep_of hdeps 7 (by kernel_rfl)
            have s17 : A.tmps.getD 17 undef = .pointer (some ⟨p, 0, none⟩) := dep_of hdeps 10 (by kernel_rfl)
            exact r_pure hi (wanted_of rfl rfl g11) rfl (yt_cell _ s17 (HC0.out w1 hB))
          · obtain rfl := Option.some.inj hi
            have g12 : A.tmps.getD 14 undef = .bool true := dep_of hdeps 7 (by kernel_rfl)
            have s6 : A.tmps.getD 6 undef = .int .i64 (j : Int) := hold 6 (by kernel_rfl)
            exact r_pure hi (wanted_of rfl rfl g12) rfl (y_move _ s6)
          · obtain rfl := Option.some.inj hi
            have g13 : A.tmps.getD 14 undef = .bool true := dep_of hdeps 7 (by kernel_rfl)
            have s18 : A.tmps.getD 18 undef = .slice (some ⟨b, off, none⟩) n cap := dep_of hdeps 11 (by kernel_rfl)
            have s19 : A.tmps.getD 19 undef = .int .i64 (j : Int) := dep_of hdeps 12 (by kernel_rfl)
            exact r_pure hi (wanted_of rfl rfl g13) rfl (yt_idx _ _ s18 s19 hjn)
          · obtain rfl := Option.some.inj hi
            have g14 : A.tmps.getD 14 undef = .bool true := dep_of hdeps 7 (by kernel_rfl)
            have s20 : A.tmps.getD 20 undef = .pointer (some ⟨b, off + j * 21, none⟩) := dep_of hdeps 13 (by kernel_rfl)
            exact r_pure hi (wanted_of rfl rfl g14) rfl (yt_wkey _ s20)
          · obtain rfl := Option.some.inj hi
            have g15 : A.tmps.getD 14 undef = .bool true := dep_of hdeps 7 (by kernel_rfl)
            have s21 : A.tmps.getD 21 undef = .pointer (some ⟨b, off + j * 21, none⟩) := dep_of hdeps 14 (by kernel_rfl)
            exact r_pure hi (wanted_of rfl rfl g15) rfl (y_loadMid _ _ s21 (HRK.out w1 hB) Try.underlying31 rfl infoKey13)
          · obtain rfl := Option.some.inj hi
            have g16 : A.tmps.getD 14 undef = .bool true := dep_of hdeps 7 (by kernel_rfl)
            have s3 : A.tmps.getD 3 undef = .pointer (some ⟨kb, 0, none⟩) := hold 3 (by kernel_rfl)
            exact r_pure hi (wanted_of rfl rfl g16) rfl (y_load _ _ s3 (HXK.out w1 hB) Try.underlying31 rfl infoKey13)
          · obtain rfl := Option.some.inj hi
            have g17 : A.tmps.getD 14 undef = .bool true := dep_of hdeps 7 (by kernel_rfl)
            have s22 : A.tmps.getD 22 undef = .agg (eightA x.key) := dep_of hdeps 15 (by kernel_rfl)
            have s23 : A.tmps.getD 23 undef = .agg (eightA k) := dep_of hdeps 16 (by kernel_rfl)
            exact r_enter hi (wanted_of rfl rfl g17) rfl (y_call 42 _ #[.agg (eightA x.key), .agg (eightA k)] _ rfl (by simp only [List.map_toArray, List.map_cons, List.map_nil, show A.eval (.tmp 22) = .agg (eightA x.key) from s22, show A.eval (.tmp 23) = .agg (eightA k) from s23]; try rfl) en13_keys) (CK.out w1)
          · obtain rfl := Option.some.inj hi
            have g18 : A.tmps.getD 14 undef = .bool true := dep_of hdeps 7 (by kernel_rfl)
            have s24 : A.tmps.getD 24 undef = .int .i64 (lexF x.key k) := dep_of hdeps 17 (by kernel_rfl)
            exact r_pure hi (wanted_of rfl rfl g18) rfl (y_bin _ _ _ _ _ s24 rfl (HLS.out w1) (by kernel_rfl))
          · obtain rfl := Option.some.inj hi
            have s14 : A.tmps.getD 14 undef = .bool true := dep_of hdeps 7 (by kernel_rfl)
            have s25 : A.tmps.getD 25 undef = .bool true := dep_of hdeps 18 (by kernel_rfl)
            exact r_pure hi rfl rfl (y_pickT _ _ _ s14 s25)
        · intro w9 hB9
          simp only [putAll, Act.put, List.setIfInBounds_toArray, List.set_cons_succ, List.set_cons_zero]
          have HB9 := hide (HB.out.trans (hB9.mono HB.out.size))
          clear hB9
          go_wp2_with fail
          go_roundg g
          case measure => omega
          case rel => exact ⟨j + 1, by omega, by first | rfl | go_num, HLT2, HB9⟩
      · have HLS : Hid (∀ W, (binOp .lss 3 (.int .i64 (lexF x.key k)) (.int .i64 0)).run Try.prog W = .ok (.bool false) W) := hide (fun W => lss_int _ _ _ W (decide_eq_false hlt))
        replace HRX := hide (HRX.out hlt)
        by_cases he : x.key = k
        · have HEK : Hid (∀ W, (binOp .eql 31 (.agg (eightA x.key)) (.agg (eightA k))).run Try.prog W = .ok (.bool true) W) := hide (fun W => by have h := eql_key10 HKX.out.l HK.out.l W; rw [decide_eq_true he] at h; exact h)
          have HE : Hid (R1 = (j : Int) ∧ R2 = true) := hide ⟨HRX.out.1, by rw [HRX.out.2]; simp [he]⟩
          go_wp2_with fail
          refine wp_region_vals (by kernel_rfl) [(7, .int .i64 (j : Int)), (8, .pointer (some ⟨p, 0, none⟩)), (9, .pointer (some ⟨p, 0, none⟩)), (10, .pointer (some ⟨p, 0, none⟩)), (11, .slice (some ⟨b, off, none⟩) n cap), (12, .int .i64 (n : Int)), (13, .bool true), (14, .bool true), (15, .pointer (some ⟨p, 0, none⟩)), (16, .pointer (some ⟨p, 0, none⟩)), (17, .pointer (some ⟨p, 0, none⟩)), (18, .slice (some ⟨b, off, none⟩) n cap), (19, .int .i64 (j : Int)), (20, .pointer (some ⟨b, off + j * 21, none⟩)), (21, .pointer (some ⟨b, off + j * 21, none⟩)), (22, .agg (eightA x.key)), (23, .agg (eightA k)), (24, .int .i64 (lexF x.key k)), (25, .bool false), (26, .bool false)] (by kernel_rfl) rfl ?_ ?_
          · intro i o hi A w1 hB hold hdeps
            have hlt : i < 20 := (Array.getElem?_eq_some_iff.1 hi).1
            have hc : i = 0 ∨ i = 1 ∨ i = 2 ∨ i = 3 ∨ i = 4 ∨ i = 5 ∨ i = 6 ∨ i = 7 ∨ i = 8 ∨ i = 9 ∨ i = 10 ∨ i = 11 ∨ i = 12 ∨ i = 13 ∨ i = 14 ∨ i = 15 ∨ i = 16 ∨ i = 17 ∨ i = 18 ∨ i = 19 := by omega
            clear hlt
            rcases hc with rfl | rfl | rfl | rfl | rfl | rfl | rfl | rfl | rfl | rfl | rfl | rfl | rfl | rfl | rfl | rfl | rfl | rfl | rfl | rfl
            · obtain rfl := Option.some.inj hi
              have s6 : A.tmps.getD 6 undef = .int .i64 (j : Int) := hold 6 (by kernel_rfl)
              exact r_pure hi rfl rfl (y_move _ s6)
            · obtain rfl := Option.some.inj hi
              have s0 : A.tmps.getD 0 undef = .pointer (some ⟨p, 0, none⟩) := hold 0 (by kernel_rfl)
              exact r_pure hi rfl rfl (y_move _ s0)
            · obtain rfl := Option.some.inj hi
              have s8 : A.tmps.getD 8 undef = .pointer (some ⟨p, 0, none⟩) := dep_of hdeps 1 (by kernel_rfl)
              exact r_pure hi rfl rfl (y_nil _ s8)
            · obtain rfl := Option.some.inj hi
              have s9 : A.tmps.getD 9 undef = .pointer (some ⟨p, 0, none⟩) := dep_of hdeps 2 (by kernel_rfl)
              exact r_pure hi rfl rfl (yt_field _ s9)
            · obtain rfl := Option.some.inj hi
              have s10 : A.tmps.getD 10 undef = .pointer (some ⟨p, 0, none⟩) := dep_of hdeps 3 (by kernel_rfl)
              exact r_pure hi rfl rfl (yt_cell _ s10 (HC0.out w1 hB))
            · obtain rfl := Option.some.inj hi
              have s11 : A.tmps.getD 11 undef = .slice (some ⟨b, off, none⟩) n cap := dep_of hdeps 4 (by kernel_rfl)
              exact r_pure hi rfl rfl (y_len _ _ s11 Try.underlying22)
            · obtain rfl := Option.some.inj hi
              have s7 : A.tmps.getD 7 undef = .int .i64 (j : Int) := dep_of hdeps 0 (by kernel_rfl)
              have s12 : A.tmps.getD 12 undef = .int .i64 (n : Int) := dep_of hdeps 5 (by kernel_rfl)
              exact r_pure hi rfl rfl (y_bin _ _ _ _ _ s7 s12 (HLT.out w1) (by kernel_rfl))
            · obtain rfl := Option.some.inj hi
              have s13 : A.tmps.getD 13 undef = .bool true := dep_of hdeps 6 (by kernel_rfl)
              exact r_pure hi rfl rfl (y_move _ s13)
            · obtain rfl := Option.some.inj hi
              have g8 : A.tmps.getD 14 undef = .bool true := dep_of hdeps 7 (by kernel_rfl)
              have s0 : A.tmps.getD 0 undef = .pointer (some ⟨p, 0, none⟩) := hold 0 (by kernel_rfl)
              exact r_pure hi (wanted_of rfl rfl g8) rfl (y_move _ s0)
            · obtain rfl := Option.some.inj hi
              have g9 : A.tmps.getD 14 undef = .bool true := dep_of hdeps 7 (by kernel_rfl)
              have s15 : A.tmps.getD 15 undef = .pointer (some ⟨p, 0, none⟩) := dep_of hdeps 8 (by kernel_rfl)
              exact r_pure hi (wanted_of rfl rfl g9) rfl (y_nil _ s15)
            · obtain rfl := Option.some.inj hi
              have g10 : A.tmps.getD 14 undef = .bool true := dep_of hdeps 7 (by kernel_rfl)
              have s16 : A.tmps.getD 16 undef = .pointer (some ⟨p, 0, none⟩) := dep_of hdeps 9 (by kernel_rfl)
              exact r_pure hi (wanted_of rfl rfl g10) rfl (yt_field _ s16)
            · obtain rfl := Option.some.inj hi
              have g11 : A.tmps.getD 14 undef = .bool true := dep_of hdeps 7 (by kernel_rfl)
              have s17 : A.tmps.getD 17 undef = .pointer (some ⟨p, 0, none⟩) := dep_of hdeps 10 (by kernel_rfl)
              exact r_pure hi (wanted_of rfl rfl g11) rfl (yt_cell _ s17 (HC0.out w1 hB))
            · obtain rfl := Option.some.inj hi
              have g12 : A.tmps.getD 14 undef = .bool true := dep_of hdeps 7 (by kernel_rfl)
              have s6 : A.tmps.getD 6 undef = .int .i64 (j : Int) := hold 6 (by kernel_rfl)
              exact r_pure hi (wanted_of rfl rfl g12) rfl (y_move _ s6)
            · obtain rfl := Option.some.inj hi
              have g13 : A.tmps.getD 14 undef = .bool true := dep_of hdeps 7 (by kernel_rfl)
              have s18 : A.tmps.getD 18 undef = .slice (some ⟨b, off, none⟩) n cap := dep_of hdeps 11 (by kernel_rfl)
              have s19 : A.tmps.getD 19 undef = .int .i64 (j : Int) := dep_of hdeps 12 (by kernel_rfl)
              exact r_pure hi (wanted_of rfl rfl g13) rfl (yt_idx _ _ s18 s19 hjn)
            · obtain rfl := Option.some.inj hi
              have g14 : A.tmps.getD 14 undef = .bool true := dep_of hdeps 7 (by kernel_rfl)
              have s20 : A.tmps.getD 20 undef = .pointer (some ⟨b, off + j * 21, none⟩) := dep_of hdeps 13 (by kernel_rfl)
              exact r_pure hi (wanted_of rfl rfl g14) rfl (yt_wkey _ s20)
            · obtain rfl := Option.some.inj hi
              have g15 : A.tmps.getD 14 undef = .bool true := dep_of hdeps 7 (by kernel_rfl)
              have s21 : A.tmps.getD 21 undef = .pointer (some ⟨b, off + j * 21, none⟩) := dep_of hdeps 14 (by kernel_rfl)
              exact r_pure hi (wanted_of rfl rfl g15) rfl (y_loadMid _ _ s21 (HRK.out w1 hB) Try.underlying31 rfl infoKey13)
            · obtain rfl := Option.some.inj hi
              have g16 : A.tmps.getD 14 undef = .bool true := dep_of hdeps 7 (by kernel_rfl)
              have s3 : A.tmps.getD 3 undef = .pointer (some ⟨kb, 0, none⟩) := hold 3 (by kernel_rfl)
              exact r_pure hi (wanted_of rfl rfl g16) rfl (y_load _ _ s3 (HXK.out w1 hB) Try.underlying31 rfl infoKey13)
            · obtain rfl := Option.some.inj hi
              have g17 : A.tmps.getD 14 undef = .bool true := dep_of hdeps 7 (by kernel_rfl)
              have s22 : A.tmps.getD 22 undef = .agg (eightA x.key) := dep_of hdeps 15 (by kernel_rfl)
              have s23 : A.tmps.getD 23 undef = .agg (eightA k) := dep_of hdeps 16 (by kernel_rfl)
              exact r_enter hi (wanted_of rfl rfl g17) rfl (y_call 42 _ #[.agg (eightA x.key), .agg (eightA k)] _ rfl (by simp only [List.map_toArray, List.map_cons, List.map_nil, show A.eval (.tmp 22) = .agg (eightA x.key) from s22, show A.eval (.tmp 23) = .agg (eightA k) from s23]; try rfl) en13_keys) (CK.out w1)
            · obtain rfl := Option.some.inj hi
              have g18 : A.tmps.getD 14 undef = .bool true := dep_of hdeps 7 (by kernel_rfl)
              have s24 : A.tmps.getD 24 undef = .int .i64 (lexF x.key k) := dep_of hdeps 17 (by kernel_rfl)
              exact r_pure hi (wanted_of rfl rfl g18) rfl (y_bin _ _ _ _ _ s24 rfl (HLS.out w1) (by kernel_rfl))
            · obtain rfl := Option.some.inj hi
              have s14 : A.tmps.getD 14 undef = .bool true := dep_of hdeps 7 (by kernel_rfl)
              have s25 : A.tmps.getD 25 undef = .bool false := dep_of hdeps 18 (by kernel_rfl)
              exact r_pure hi rfl rfl (y_pickT _ _ _ s14 s25)
          · intro w9 hB9
            simp only [putAll, Act.put, List.setIfInBounds_toArray, List.set_cons_succ, List.set_cons_zero]
            have HB9 := hide (HB.out.trans (hB9.mono HB.out.size))
            go_wp2_with fail
            replace HC0 : Hid (∀ W, Below w9.heap.size w9 W → _) := hide (fun W hB => HC0.out W (hB9.trans (hB.mono hB9.size)))
            replace HXK : Hid (∀ W, Below w9.heap.size w9 W → _) := hide (fun W hB => HXK.out W (hB9.trans (hB.mono hB9.size)))
            replace HRK : Hid (∀ W, Below w9.heap.size w9 W → _) := hide (fun W hB => HRK.out W (hB9.trans (hB.mono hB9.size)))
            clear hB9 HB
            have HB := HB9
            clear HB9
            go_wp2_with fail
            refine wp_region_vals (by kernel_rfl) [(29, .int .i64 (j : Int)), (30, .int .i64 (j : Int)), (31, .pointer (some ⟨p, 0, none⟩)), (32, .pointer (some ⟨p, 0, none⟩)), (33, .pointer (some ⟨p, 0, none⟩)), (34, .slice (some ⟨b, off, none⟩) n cap), (35, .int .i64 (n : Int)), (36, .bool true), (37, .bool true), (38, .pointer (some ⟨p, 0, none⟩)), (39, .pointer (some ⟨p, 0, none⟩)), (40, .pointer (some ⟨p, 0, none⟩)), (41, .slice (some ⟨b, off, none⟩) n cap), (42, .int .i64 (j : Int)), (43, .pointer (some ⟨b, off + j * 21, none⟩)), (44, .pointer (some ⟨b, off + j * 21, none⟩)), (45, .agg (eightA x.key)), (46, .agg (eightA k)), (47, .bool true), (48, .bool true), (4, .int .i64 (j : Int)), (5, .bool true)] (by kernel_rfl) rfl ?_ ?_
            · intro i o hi A w1 hB hold hdeps
              have hlt : i < 22 := (Array.getElem?_eq_some_iff.1 hi).1
              have hc : i = 0 ∨ i = 1 ∨ i = 2 ∨ i = 3 ∨ i = 4 ∨ i = 5 ∨ i = 6 ∨ i = 7 ∨ i = 8 ∨ i = 9 ∨ i = 10 ∨ i = 11 ∨ i = 12 ∨ i = 13 ∨ i = 14 ∨ i = 15 ∨ i = 16 ∨ i = 17 ∨ i = 18 ∨ i = 19 ∨ i = 20 ∨ i = 21 := by omega
              clear hlt
              rcases hc with rfl | rfl | rfl | rfl | rfl | rfl | rfl | rfl | rfl | rfl | rfl | rfl | rfl | rfl | rfl | rfl | rfl | rfl | rfl | rfl | rfl | rfl
              · obtain rfl := Option.some.inj hi
                have s6 : A.tmps.getD 6 undef = .int .i64 (j : Int) := hold 6 (by kernel_rfl)
                exact r_pure hi rfl rfl (y_move _ s6)
              · obtain rfl := Option.some.inj hi
                have s6 : A.tmps.getD 6 undef = .int .i64 (j : Int) := hold 6 (by kernel_rfl)
                exact r_pure hi rfl rfl (y_move _ s6)
              · obtain rfl := Option.some.inj hi
                have s0 : A.tmps.getD 0 undef = .pointer (some ⟨p, 0, none⟩) := hold 0 (by kernel_rfl)
                exact r_pure hi rfl rfl (y_move _ s0)
              · obtain rfl := Option.some.inj hi
                have s31 : A.tmps.getD 31 undef = .pointer (some ⟨p, 0, none⟩) := dep_of hdeps 2 (by kernel_rfl)
                exact r_pure hi rfl rfl (y_nil _ s31)
              · obtain rfl := Option.some.inj hi
                have s32 : A.tmps.getD 32 undef = .pointer (some ⟨p, 0, none⟩) := dep_of hdeps 3 (by kernel_rfl)
                exact r_pure hi rfl rfl (yt_field _ s32)
              · obtain rfl := Option.some.inj hi
                have s33 : A.tmps.getD 33 undef = .pointer (some ⟨p, 0, none⟩) := dep_of hdeps 4 (by kernel_rfl)
                exact r_pure hi rfl rfl (yt_cell _ s33 (HC0.out w1 hB))
              · obtain rfl := Option.some.inj hi
                have s34 : A.tmps.getD 34 undef = .slice (some ⟨b, off, none⟩) n cap := dep_of hdeps 5 (by kernel_rfl)
                exact r_pure hi rfl rfl (y_len _ _ s34 Try.underlying22)
              · obtain rfl := Option.some.inj hi
                have s30 : A.tmps.getD 30 undef = .int .i64 (j : Int) := dep_of hdeps 1 (by kernel_rfl)
                have s35 : A.tmps.getD 35 undef = .int .i64 (n : Int) := dep_of hdeps 6 (by kernel_rfl)
                exact r_pure hi rfl rfl (y_bin _ _ _ _ _ s30 s35 (HLT.out w1) (by kernel_rfl))
              · obtain rfl := Option.some.inj hi
                have s36 : A.tmps.getD 36 undef = .bool true := dep_of hdeps 7 (by kernel_rfl)
                exact r_pure hi rfl rfl (y_move _ s36)
              · obtain rfl := Option.some.inj hi
                have g9 : A.tmps.getD 37 undef = .bool true := dep_of hdeps 8 (by kernel_rfl)
                have s0 : A.tmps.getD 0 undef = .pointer (some ⟨p, 0, none⟩) := hold 0 (by kernel_rfl)
                exact r_pure hi (wanted_of rfl rfl g9) rfl (y_move _ s0)
              · obtain rfl := Option.some.inj hi
                have g10 : A.tmps.getD 37 undef = .bool true := dep_of hdeps 8 (by kernel_rfl)
                have s38 : A.tmps.getD 38 undef = .pointer (some ⟨p, 0, none⟩) := dep_of hdeps 9 (by kernel_rfl)
                exact r_pure hi (wanted_of rfl rfl g10) rfl (y_nil _ s38)
              · obtain rfl := Option.some.inj hi
                have g11 : A.tmps.getD 37 undef = .bool true := dep_of hdeps 8 (by kernel_rfl)
                have s39 : A.tmps.getD 39 undef = .pointer (some ⟨p, 0, none⟩) := dep_of hdeps 10 (by kernel_rfl)
                exact r_pure hi (wanted_of rfl rfl g11) rfl (yt_field _ s39)
              · obtain rfl := Option.some.inj hi
                have g12 : A.tmps.getD 37 undef = .bool true := dep_of hdeps 8 (by kernel_rfl)
                have s40 : A.tmps.getD 40 undef = .pointer (some ⟨p, 0, none⟩) := dep_of hdeps 11 (by kernel_rfl)
                exact r_pure hi (wanted_of rfl rfl g12) rfl (yt_cell _ s40 (HC0.out w1 hB))
              · obtain rfl := Option.some.inj hi
                have g13 : A.tmps.getD 37 undef = .bool true := dep_of hdeps 8 (by kernel_rfl)
                have s6 : A.tmps.getD 6 undef = .int .i64 (j : Int) := hold 6 (by kernel_rfl)
                exact r_pure hi (wanted_of rfl rfl g13) rfl (y_move _ s6)
              · obtain rfl := Option.some.inj hi
                have g14 : A.tmps.getD 37 undef = .bool true := dep_of hdeps 8 (by kernel_rfl)
                have s41 : A.tmps.getD 41 undef = .slice (some ⟨b, off, none⟩) n cap := dep_of hdeps 12 (by kernel_rfl)
                have s42 : A.tmps.getD 42 undef = .int .i64 (j : Int) := dep_of hdeps 13 (by kernel_rfl)
                exact r_pure hi (wanted_of rfl rfl g14) rfl (yt_idx _ _ s41 s42 hjn)
              · obtain rfl := Option.some.inj hi
                have g15 : A.tmps.getD 37 undef = .bool true := dep_of hdeps 8 (by kernel_rfl)
                have s43 : A.tmps.getD 43 undef = .pointer (some ⟨b, off + j * 21, none⟩) := dep_of hdeps 14 (by kernel_rfl)
                exact r_pure hi (wanted_of rfl rfl g15) rfl (yt_wkey _ s43)
              · obtain rfl := Option.some.inj hi
                have g16 : A.tmps.getD 37 undef = .bool true := dep_of hdeps 8 (by kernel_rfl)
                have s44 : A.tmps.getD 44 undef = .pointer (some ⟨b, off + j * 21, none⟩) := dep_of hdeps 15 (by kernel_rfl)
                exact r_pure hi (wanted_of rfl rfl g16) rfl (y_loadMid _ _ s44 (HRK.out w1 hB) Try.underlying31 rfl infoKey13)
              · obtain rfl := Option.some.inj hi
                have g17 : A.tmps.getD 37 undef = .bool true := dep_of hdeps 8 (by kernel_rfl)
                have s3 : A.tmps.getD 3 undef = .pointer (some ⟨kb, 0, none⟩) := hold 3 (by kernel_rfl)
                exact r_pure hi (wanted_of rfl rfl g17) rfl (y_load _ _ s3 (HXK.out w1 hB) Try.underlying31 rfl infoKey13)
              · obtain rfl := Option.some.inj hi
                have g18 : A.tmps.getD 37 undef = .bool true := dep_of hdeps 8 (by kernel_rfl)
                have s45 : A.tmps.getD 45 undef = .agg (eightA x.key) := dep_of hdeps 16 (by kernel_rfl)
                have s46 : A.tmps.getD 46 undef = .agg (eightA k) := dep_of hdeps 17 (by kernel_rfl)
                exact r_pure hi (wanted_of rfl rfl g18) rfl (y_bin _ _ _ _ _ s45 s46 (HEK.out w1) (by kernel_rfl))
              · obtain rfl := Option.some.inj hi
                have s37 : A.tmps.getD 37 undef = .bool true := dep_of hdeps 8 (by kernel_rfl)
                have s47 : A.tmps.getD 47 undef = .bool true := dep_of hdeps 18 (by kernel_rfl)
                exact r_pure hi rfl rfl (y_pickT _ _ _ s37 s47)
              · obtain rfl := Option.some.inj hi
                have s29 : A.tmps.getD 29 undef = .int .i64 (j : Int) := dep_of hdeps 0 (by kernel_rfl)
                exact r_pure hi rfl rfl (y_assign _ s29)
              · obtain rfl := Option.some.inj hi
                have s48 : A.tmps.getD 48 undef = .bool true := dep_of hdeps 19 (by kernel_rfl)
                exact r_pure hi rfl rfl (y_assign _ s48)
            · intro wA hBA
              simp only [putAll, Act.put, List.setIfInBounds_toArray, List.set_cons_succ, List.set_cons_zero]
              replace HB := hide (HB.out.trans (hBA.mono HB.out.size))
              clear hBA
              go_wp2_with fail
              go_ret2
              exact ⟨by rw [HE.out.1, HE.out.2]; rfl, HWB.out.trans (HB.out.mono HWB.out.size)⟩
        · have HEK : Hid (∀ W, (binOp .eql 31 (.agg (eightA x.key)) (.agg (eightA k))).run Try.prog W = .ok (.bool false) W) := hide (fun W => by have h := eql_key10 HKX.out.l HK.out.l W; rw [decide_eq_false he] at h; exact h)
          have HE : Hid (R1 = (j : Int) ∧ R2 = false) := hide ⟨HRX.out.1, by rw [HRX.out.2]; simp [he]⟩
          go_wp2_with fail
          refine wp_region_vals (by kernel_rfl) [(7, .int .i64 (j : Int)), (8, .pointer (some ⟨p, 0, none⟩)), (9, .pointer (some ⟨p, 0, none⟩)), (10, .pointer (some ⟨p, 0, none⟩)), (11, .slice (some ⟨b, off, none⟩) n cap), (12, .int .i64 (n : Int)), (13, .bool true), (14, .bool true), (15, .pointer (some ⟨p, 0, none⟩)), (16, .pointer (some ⟨p, 0, none⟩)), (17, .pointer (some ⟨p, 0, none⟩)), (18, .slice (some ⟨b, off, none⟩) n cap), (19, .int .i64 (j : Int)), (20, .pointer (some ⟨b, off + j * 21, none⟩)), (21, .pointer (some ⟨b, off + j * 21, none⟩)), (22, .agg (eightA x.key)), (23, .agg (eightA k)), (24, .int .i64 (lexF x.key k)), (25, .bool false), (26, .bool false)] (by kernel_rfl) rfl ?_ ?_
          · intro i o hi A w1 hB hold hdeps
            have hlt : i < 20 := (Array.getElem?_eq_some_iff.1 hi).1
            have hc : i = 0 ∨ i = 1 ∨ i = 2 ∨ i = 3 ∨ i = 4 ∨ i = 5 ∨ i = 6 ∨ i = 7 ∨ i = 8 ∨ i = 9 ∨ i = 10 ∨ i = 11 ∨ i = 12 ∨ i = 13 ∨ i = 14 ∨ i = 15 ∨ i = 16 ∨ i = 17 ∨ i = 18 ∨ i = 19 := by omega
            clear hlt
            rcases hc with rfl | rfl | rfl | rfl | rfl | rfl | rfl | rfl | rfl | rfl | rfl | rfl | rfl | rfl | rfl | rfl | rfl | rfl | rfl | rfl
            · obtain rfl := Option.some.inj hi
              have s6 : A.tmps.getD 6 undef = .int .i64 (j : Int) := hold 6 (by kernel_rfl)
              exact r_pure hi rfl rfl (y_move _ s6)
            · obtain rfl := Option.some.inj hi
              have s0 : A.tmps.getD 0 undef = .pointer (some ⟨p, 0, none⟩) := hold 0 (by kernel_rfl)
              exact r_pure hi rfl rfl (y_move _ s0)
            · obtain rfl := Option.some.inj hi
              have s8 : A.tmps.getD 8 undef = .pointer (some ⟨p, 0, none⟩) := dep_of hdeps 1 (by kernel_rfl)
              exact r_pure hi rfl rfl (y_nil _ s8)
            · obtain rfl := Option.some.inj hi
              have s9 : A.tmps.getD 9 undef = .pointer (some ⟨p, 0, none⟩) := dep_of hdeps 2 (by kernel_rfl)
              exact r_pure hi rfl rfl (yt_field _ s9)
            · obtain rfl := Option.some.inj hi
              have s10 : A.tmps.getD 10 undef = .pointer (some ⟨p, 0, none⟩) := dep_of hdeps 3 (by kernel_rfl)
              exact r_pure hi rfl rfl (yt_cell _ s10 (HC0.out w1 hB))
            · obtain rfl := Option.some.inj hi
              have s11 : A.tmps.getD 11 undef = .slice (some ⟨b, off, none⟩) n cap := dep_of hdeps 4 (by kernel_rfl)
              exact r_pure hi rfl rfl (y_len _ _ s11 Try.underlying22)
            · obtain rfl := Option.some.inj hi
              have s7 : A.tmps.getD 7 undef = .int .i64 (j : Int) := dep_of hdeps 0 (by kernel_rfl)
              have s12 : A.tmps.getD 12 undef = .int .i64 (n : Int) := dep_of hdeps 5 (by kernel_rfl)
              exact r_pure hi rfl rfl (y_bin _ _ _ _ _ s7 s12 (HLT.out w1) (by kernel_rfl))
            · obtain rfl := Option.some.inj hi
              have s13 : A.tmps.getD 13 undef = .bool true := dep_of hdeps 6 (by kernel_rfl)
              exact r_pure hi rfl rfl (y_move _ s13)
            · obtain rfl := Option.some.inj hi
              have g8 : A.tmps.getD 14 undef = .bool true := dep_of hdeps 7 (by kernel_rfl)
              have s0 : A.tmps.getD 0 undef = .pointer (some ⟨p, 0, none⟩) := hold 0 (by kernel_rfl)
              exact r_pure hi (wanted_of rfl rfl g8) rfl (y_move _ s0)
            · obtain rfl := Option.some.inj hi
              have g9 : A.tmps.getD 14 undef = .bool true := dep_of hdeps 7 (by kernel_rfl)
              have s15 : A.tmps.getD 15 undef = .pointer (some ⟨p, 0, none⟩) := dep_of hdeps 8 (by kernel_rfl)
              exact r_pure hi (wanted_of rfl rfl g9) rfl (y_nil _ s15)
            · obtain rfl := Option.some.inj hi
              have g10 : A.tmps.getD 14 undef = .bool true := dep_of hdeps 7 (by kernel_rfl)
              have s16 : A.tmps.getD 16 undef = .pointer (some ⟨p, 0, none⟩) := dep_of hdeps 9 (by kernel_rfl)
              exact r_pure hi (wanted_of rfl rfl g10) rfl (yt_field _ s16)
            · obtain rfl := Option.some.inj hi
              have g11 : A.tmps.getD 14 undef = .bool true := dep_of hdeps 7 (by kernel_rfl)
              have s17 : A.tmps.getD 17 undef = .pointer (some ⟨p, 0, none⟩) := dep_of hdeps 10 (by kernel_rfl)
              exact r_pure hi (wanted_of rfl rfl g11) rfl (yt_cell _ s17 (HC0.out w1 hB))
            · obtain rfl := Option.some.inj hi
              have g12 : A.tmps.getD 14 undef = .bool true := dep_of hdeps 7 (by kernel_rfl)
              have s6 : A.tmps.getD 6 undef = .int .i64 (j : Int) := hold 6 (by kernel_rfl)
              exact r_pure hi (wanted_of rfl rfl g12) rfl (y_move _ s6)
            · obtain rfl := Option.some.inj hi
              have g13 : A.tmps.getD 14 undef = .bool true := dep_of hdeps 7 (by kernel_rfl)
              have s18 : A.tmps.getD 18 undef = .slice (some ⟨b, off, none⟩) n cap := dep_of hdeps 11 (by kernel_rfl)
              have s19 : A.tmps.getD 19 undef = .int .i64 (j : Int) := dep_of hdeps 12 (by kernel_rfl)
              exact r_pure hi (wanted_of rfl rfl g13) rfl (yt_idx _ _ s18 s19 hjn)
            · obtain rfl := Option.some.inj hi
              have g14 : A.tmps.getD 14 undef = .bool true := dep_of hdeps 7 (by kernel_rfl)
              have s20 : A.tmps.getD 20 undef = .pointer (some ⟨b, off + j * 21, none⟩) := dep_of hdeps 13 (by kernel_rfl)
              exact r_pure hi (wanted_of rfl rfl g14) rfl (yt_wkey _ s20)
            · obtain rfl := Option.some.inj hi
              have g15 : A.tmps.getD 14 undef = .bool true := dep_of hdeps 7 (by kernel_rfl)
              have s21 : A.tmps.getD 21 undef = .pointer (some ⟨b, off + j * 21, none⟩) := dep_of hdeps 14 (by kernel_rfl)
              exact r_pure hi (wanted_of rfl rfl g15) rfl (y_loadMid _ _ s21 (HRK.out w1 hB) Try.underlying31 rfl infoKey13)
            · obtain rfl := Option.some.inj hi
              have g16 : A.tmps.getD 14 undef = .bool true := dep_of hdeps 7 (by kernel_rfl)
              have s3 : A.tmps.getD 3 undef = .pointer (some ⟨kb, 0, none⟩) := hold 3 (by kernel_rfl)
              exact r_pure hi (wanted_of rfl rfl g16) rfl (y_load _ _ s3 (HXK.out w1 hB) Try.underlying31 rfl infoKey13)
            · obtain rfl := Option.some.inj hi
              have g17 : A.tmps.getD 14 undef = .bool true := dep_of hdeps 7 (by kernel_rfl)
              have s22 : A.tmps.getD 22 undef = .agg (eightA x.key) := dep_of hdeps 15 (by kernel_rfl)
              have s23 : A.tmps.getD 23 undef = .agg (eightA k) := dep_of hdeps 16 (by kernel_rfl)
              exact r_enter hi (wanted_of rfl rfl g17) rfl (y_call 42 _ #[.agg (eightA x.key), .agg (eightA k)] _ rfl (by simp only [List.map_toArray, List.map_cons, List.map_nil, show A.eval (.tmp 22) = .agg (eightA x.key) from s22, show A.eval (.tmp 23) = .agg (eightA k) from s23]; try rfl) en13_keys) (CK.out w1)
            · obtain rfl := Option.some.inj hi
              have g18 : A.tmps.getD 14 undef = .bool true := dep_of hdeps 7 (by kernel_rfl)
              have s24 : A.tmps.getD 24 undef = .int .i64 (lexF x.key k) := dep_of hdeps 17 (by kernel_rfl)
              exact r_pure hi (wanted_of rfl rfl g18) rfl (y_bin _ _ _ _ _ s24 rfl (HLS.out w1) (by kernel_rfl))
            · obtain rfl := Option.some.inj hi
              have s14 : A.tmps.getD 14 undef = .bool true := dep_of hdeps 7 (by kernel_rfl)
              have s25 : A.tmps.getD 25 undef = .bool false := dep_of hdeps 18 (by kernel_rfl)
              exact r_pure hi rfl rfl (y_pickT _ _ _ s14 s25)
          · intro w9 hB9
            simp only [putAll, Act.put, List.setIfInBounds_toArray, List.set_cons_succ, List.set_cons_zero]
            have HB9 := hide (HB.out.trans (hB9.mono HB.out.size))
            go_wp2_with fail
            replace HC0 : Hid (∀ W, Below w9.heap.size w9 W → _) := hide (fun W hB => HC0.out W (hB9.trans (hB.mono hB9.size)))
            replace HXK : Hid (∀ W, Below w9.heap.size w9 W → _) := hide (fun W hB => HXK.out W (hB9.trans (hB.mono hB9.size)))
            replace HRK : Hid (∀ W, Below w9.heap.size w9 W → _) := hide (fun W hB => HRK.out W (hB9.trans (hB.mono hB9.size)))
            clear hB9 HB
            have HB := HB9
            clear HB9
            go_wp2_with fail
            refine wp_region_vals (by kernel_rfl) [(29, .int .i64 (j : Int)), (30, .int .i64 (j : Int)), (31, .pointer (some ⟨p, 0, none⟩)), (32, .pointer (some ⟨p, 0, none⟩)), (33, .pointer (some ⟨p, 0, none⟩)), (34, .slice (some ⟨b, off, none⟩) n cap), (35, .int .i64 (n : Int)), (36, .bool true), (37, .bool true), (38, .pointer (some ⟨p, 0, none⟩)), (39, .pointer (some ⟨p, 0, none⟩)), (40, .pointer (some ⟨p, 0, none⟩)), (41, .slice (some ⟨b, off, none⟩) n cap), (42, .int .i64 (j : Int)), (43, .pointer (some ⟨b, off + j * 21, none⟩)), (44, .pointer (some ⟨b, off + j * 21, none⟩)), (45, .agg (eightA x.key)), (46, .agg (eightA k)), (47, .bool false), (48, .bool false), (4, .int .i64 (j : Int)), (5, .bool false)] (by kernel_rfl) rfl ?_ ?_
            · intro i o hi A w1 hB hold hdeps
              have hlt : i < 22 := (Array.getElem?_eq_some_iff.1 hi).1
              have hc : i = 0 ∨ i = 1 ∨ i = 2 ∨ i = 3 ∨ i = 4 ∨ i = 5 ∨ i = 6 ∨ i = 7 ∨ i = 8 ∨ i = 9 ∨ i = 10 ∨ i = 11 ∨ i = 12 ∨ i = 13 ∨ i = 14 ∨ i = 15 ∨ i = 16 ∨ i = 17 ∨ i = 18 ∨ i = 19 ∨ i = 20 ∨ i = 21 := by omega
              clear hlt
              rcases hc with rfl | rfl | rfl | rfl | rfl | rfl | rfl | rfl | rfl | rfl | rfl | rfl | rfl | rfl | rfl | rfl | rfl | rfl | rfl | rfl | rfl | rfl
              · obtain rfl := Option.some.inj hi
                have s6 : A.tmps.getD 6 undef = .int .i64 (j : Int) := hold 6 (by kernel_rfl)
                exact r_pure hi rfl rfl (y_move _ s6)
              · obtain rfl := Option.some.inj hi
                have s6 : A.tmps.getD 6 undef = .int .i64 (j : Int) := hold 6 (by kernel_rfl)
                exact r_pure hi rfl rfl (y_move _ s6)
              · obtain rfl := Option.some.inj hi
                have s0 : A.tmps.getD 0 undef = .pointer (some ⟨p, 0, none⟩) := hold 0 (by kernel_rfl)
                exact r_pure hi rfl rfl (y_move _ s0)
              · obtain rfl := Option.some.inj hi
                have s31 : A.tmps.getD 31 undef = .pointer (some ⟨p, 0, none⟩) := dep_of hdeps 2 (by kernel_rfl)
                exact r_pure hi rfl rfl (y_nil _ s31)
              · obtain rfl := Option.some.inj hi
                have s32 : A.tmps.getD 32 undef = .pointer (some ⟨p, 0, none⟩) := dep_of hdeps 3 (by kernel_rfl)
                exact r_pure hi rfl rfl (yt_field _ s32)
              · obtain rfl := Option.some.inj hi
                have s33 : A.tmps.getD 33 undef = .pointer (some ⟨p, 0, none⟩) := dep_of hdeps 4 (by kernel_rfl)
                exact r_pure hi rfl rfl (yt_cell _ s33 (HC0.out w1 hB))
              · obtain rfl := Option.some.inj hi
                have s34 : A.tmps.getD 34 undef = .slice (some ⟨b, off, none⟩) n cap := dep_of hdeps 5 (by kernel_rfl)
                exact r_pure hi rfl rfl (y_len _ _ s34 Try.underlying22)
              · obtain rfl := Option.some.inj hi
                have s30 : A.tmps.getD 30 undef = .int .i64 (j : Int) := dep_of hdeps 1 (by kernel_rfl)
                have s35 : A.tmps.getD 35 undef = .int .i64 (n : Int) := dep_of hdeps 6 (by kernel_rfl)
                exact r_pure hi rfl rfl (y_bin _ _ _ _ _ s30 s35 (HLT.out w1) (by kernel_rfl))
              · obtain rfl := Option.some.inj hi
                have s36 : A.tmps.getD 36 undef = .bool true := dep_of hdeps 7 (by kernel_rfl)
                exact r_pure hi rfl rfl (y_move _ s36)
              · obtain rfl := Option.some.inj hi
                have g9 : A.tmps.getD 37 undef = .bool true := dep_of hdeps 8 (by kernel_rfl)
                have s0 : A.tmps.getD 0 undef = .pointer (some ⟨p, 0, none⟩) := hold 0 (by kernel_rfl)
                exact r_pure hi (wanted_of rfl rfl g9) rfl (y_move _ s0)
              · obtain rfl := Option.some.inj hi
                have g10 : A.tmps.getD 37 undef = .bool true := dep_of hdeps 8 (by kernel_rfl)
                have s38 : A.tmps.getD 38 undef = .pointer (some ⟨p, 0, none⟩) := dep_of hdeps 9 (by kernel_rfl)
                exact r_pure hi (wanted_of rfl rfl g10) rfl (y_nil _ s38)
              · obtain rfl := Option.some.inj hi
                have g11 : A.tmps.getD 37 undef = .bool true := dep_of hdeps 8 (by kernel_rfl)
                have s39 : A.tmps.getD 39 undef = .pointer (some ⟨p, 0, none⟩) := dep_of hdeps 10 (by kernel_rfl)
                exact r_pure hi (wanted_of rfl rfl g11) rfl (yt_field _ s39)
              · obtain rfl := Option.some.inj hi
                have g12 : A.tmps.getD 37 undef = .bool true := dep_of hdeps 8 (by kernel_rfl)
                have s40 : A.tmps.getD 40 undef = .pointer (some ⟨p, 0, none⟩) := dep_of hdeps 11 (by kernel_rfl)
                exact r_pure hi (wanted_of rfl rfl g12) rfl (yt_cell _ s40 (HC0.out w1 hB))
              · obtain rfl := Option.some.inj hi
                have g13 : A.tmps.getD 37 undef = .bool true := dep_of hdeps 8 (by kernel_rfl)
                have s6 : A.tmps.getD 6 undef = .int .i64 (j : Int) := hold 6 (by kernel_rfl)
                exact r_pure hi (wanted_of rfl rfl g13) rfl (y_move _ s6)
              · obtain rfl := Option.some.inj hi
                have g14 : A.tmps.getD 37 undef = .bool true := dep_of hdeps 8 (by kernel_rfl)
                have s41 : A.tmps.getD 41 undef = .slice (some ⟨b, off, none⟩) n cap := dep_of hdeps 12 (by kernel_rfl)
                have s42 : A.tmps.getD 42 undef = .int .i64 (j : Int) := dep_of hdeps 13 (by kernel_rfl)
                exact r_pure hi (wanted_of rfl rfl g14) rfl (yt_idx _ _ s41 s42 hjn)
              · obtain rfl := Option.some.inj hi
                have g15 : A.tmps.getD 37 undef = .bool true := dep_of hdeps 8 (by kernel_rfl)
                have s43 : A.tmps.getD 43 undef = .pointer (some ⟨b, off + j * 21, none⟩) := dep_of hdeps 14 (by kernel_rfl)
                exact r_pure hi (wanted_of rfl rfl g15) rfl (yt_wkey _ s43)
              · obtain rfl := Option.some.inj hi
                have g16 : A.tmps.getD 37 undef = .bool true := dep_of hdeps 8 (by kernel_rfl)
                have s44 : A.tmps.getD 44 undef = .pointer (some ⟨b, off + j * 21, none⟩) := dep_of hdeps 15 (by kernel_rfl)
                exact r_pure hi (wanted_of rfl rfl g16) rfl (y_loadMid _ _ s44 (HRK.out w1 hB) Try.underlying31 rfl infoKey13)
              · obtain rfl := Option.some.inj hi
                have g17 : A.tmps.getD 37 undef = .bool true := dep_of hdeps 8 (by kernel_rfl)
                have s3 : A.tmps.getD 3 undef = .pointer (some ⟨kb, 0, none⟩) := hold 3 (by kernel_rfl)
                exact r_pure hi (wanted_of rfl rfl g17) rfl (y_load _ _ s3 (HXK.out w1 hB) Try.underlying31 rfl infoKey13)
              · obtain rfl := Option.some.inj hi
                have g18 : A.tmps.getD 37 undef = .bool true := dep_of hdeps 8 (by kernel_rfl)
                have s45 : A.tmps.getD 45 undef = .agg (eightA x.key) := dep_of hdeps 16 (by kernel_rfl)
                have s46 : A.tmps.getD 46 undef = .agg (eightA k) := dep_of hdeps 17 (by kernel_rfl)
                exact r_pure hi (wanted_of rfl rfl g18) rfl (y_bin _ _ _ _ _ s45 s46 (HEK.out w1) (by kernel_rfl))
              · obtain rfl := Option.some.inj hi
                have s37 : A.tmps.getD 37 undef = .bool true := dep_of hdeps 8 (by kernel_rfl)
                have s47 : A.tmps.getD 47 undef = .bool false := dep_of hdeps 18 (by kernel_rfl)
                exact r_pure hi rfl rfl (y_pickT _ _ _ s37 s47)
              · obtain rfl := Option.some.inj hi
                have s29 : A.tmps.getD 29 undef = .int .i64 (j : Int) := dep_of hdeps 0 (by kernel_rfl)
                exact r_pure hi rfl rfl (y_assign _ s29)
              · obtain rfl := Option.some.inj hi
                have s48 : A.tmps.getD 48 undef = .bool false := dep_of hdeps 19 (by kernel_rfl)
                exact r_pure hi rfl rfl (y_assign _ s48)
            · intro wA hBA
              simp only [putAll, Act.put, List.setIfInBounds_toArray, List.set_cons_succ, List.set_cons_zero]
              replace HB := hide (HB.out.trans (hBA.mono HB.out.size))
              clear hBA
              go_wp2_with fail
              go_ret2
              exact ⟨by rw [HE.out.1, HE.out.2]; rfl, HWB.out.trans (HB.out.mono HWB.out.size)⟩
end
end Go.Proofs.Ytlngejmojpkdkaa
