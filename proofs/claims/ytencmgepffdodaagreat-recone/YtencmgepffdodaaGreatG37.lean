/-
  Own texts put together: RpLit, RpLit4. Own work.
-/
import Derived.Test.YtencmgepffdodaaGreatG34
import Derived.Test.YtencmgepffdodaaGreatG35
import Derived.Test.YtencmgepffdodaaGreatG36
namespace Go.Proofs.YtencmgepffdodaaGreat
section
open Go.RowKit Classical

theorem ww1_any (b1 q : Nat) (ao : Option Addr) (n c : Nat) (w : World) (h1 : w.cell? ⟨b1, 0, none⟩ = some (.pointer (some ⟨q, 0, none⟩))) (h2 : w.cell? ⟨q, 8, none⟩ = some (.slice ao n c)) :
    Calls Tryz.prog 127 #[.pointer (some ⟨b1, 0, none⟩)] w fun e w' => e = .returned (.bool (decide (n = 0))) ∧ Below w.heap.size w w' := by
  go_enter Tryz.func127, Tryz.ntmps127
  go_wp2
  go_ret
  refine ⟨?_, Below.refl _ _⟩
  cases n <;> rfl
theorem mm1_any (b1 q : Nat) (ao : Option Addr) (n c : Nat) (w : World) (h1 : w.cell? ⟨b1, 0, none⟩ = some (.pointer (some ⟨q, 0, none⟩))) (h2 : w.cell? ⟨q, 9, none⟩ = some (.slice ao n c)) :
    Calls Tryz.prog 134 #[.pointer (some ⟨b1, 0, none⟩)] w fun e w' => e = .returned (.bool (decide (n = 0))) ∧ Below w.heap.size w w' := by
  go_enter Tryz.func134, Tryz.ntmps134
  go_wp2
  go_ret
  refine ⟨?_, Below.refl _ _⟩
  cases n <;> rfl
theorem ww2_any (b1 q : Nat) (ao : Option Addr) (n c : Nat) (ws : List WrP) (w : World) (h1 : w.cell? ⟨b1, 0, none⟩ = some (.pointer (some ⟨q, 0, none⟩))) (h2 : w.cell? ⟨q, 8, none⟩ = some (.slice ao n c)) (hs : RSrc wrE w (.slice ao n c) ws) (hok : ∀ x ∈ ws, KeyOk x.key ∧ ItOk x.it) :
    Calls Tryz.prog 128 #[.pointer (some ⟨b1, 0, none⟩)] w fun e w' => e = .returned (.bool (decide (1 ≤ ws.length) && wsMayB ws)) ∧ Below w.heap.size w w' := by
  have hn : n = ws.length := by
    obtain ⟨ao2, c2, e, _⟩ := hs
    cases e
    rfl
  have C := hide (writesMay_any _ ws w hs hok)
  clear hs hok
  rw [← hn]
  clear hn
  generalize wsMayB ws = b at *
  by_cases h0 : n = 0
  · subst h0
    go_enter Tryz.func128, Tryz.ntmps128
    go_wp2_with fail
    go_ret
    exact ⟨rfl, Below.refl _ _⟩
  · have hg : (0 : Int) < (n : Int) := by omega
    have HE : Hid ((decide (1 ≤ n) && b) = b) := hide (by rw [decide_eq_true (by omega), Bool.true_and])
    rw [HE.out]
    clear h0 HE
    go_enter Tryz.func128, Tryz.ntmps128
    go_wp2_with (first | (go_at_call 129; refine C.out.mono ?_; rintro e w2 ⟨rfl, hB2⟩; have HB2 := hide hB2; clear hB2))
    go_ret
    exact ⟨rfl, HB2.out⟩
theorem ww3_any (pw b1 q : Nat) (ao : Option Addr) (n c : Nat) (R : World → Prop) (w : World) (h1 : w.cell? ⟨b1, 0, none⟩ = some (.pointer (some ⟨q, 0, none⟩))) (h2 : w.cell? ⟨q, 8, none⟩ = some (.slice ao n c))
    (hC : Calls Tryz.prog 131 #[.pointer (some ⟨pw, 0, none⟩), .slice ao n c] w fun e w' => e = .returned (.tuple #[]) ∧ R w') :
    Calls Tryz.prog 130 #[.pointer (some ⟨pw, 0, none⟩), .pointer (some ⟨b1, 0, none⟩)] w fun e w' => e = .returned (.tuple #[]) ∧ R w' := by
  have C := hide hC
  clear hC
  go_enter Tryz.func130, Tryz.ntmps130
  go_wp2_with (first | (go_at_call 131; refine C.out.mono ?_; rintro e w2 ⟨rfl, hR⟩; have HR := hide hR; clear hR))
  go_end0
  exact ⟨rfl, HR.out⟩
theorem en_setsMay : ∀ args w, (callFunc 136 args).run Tryz.prog w = .ok (.enter 136 args) w := enters_of Tryz.func136 (by kernel_rfl) rfl
theorem eql_i64_11 (a b : Nat) (w : World) : (binOp .eql 3 (.int .i64 (a : Int)) (.int .i64 (b : Int))).run Tryz.prog w = .ok (.bool (decide (a = b))) w := by
  have : ((a : Int) == (b : Int)) = decide (a = b) := by rw [Bool.eq_iff_iff]; simp [Int.ofNat_inj]
  simp [go_sem, this]
set_option maxRecDepth 100000 in
theorem mm2_any (b1 q : Nat) (ao bo : Option Addr) (n c k d : Nat) (xs : List Nat) (w : World) (h1 : Box w b1 #[.pointer (some ⟨q, 0, none⟩)] 66) (hq : q < w.heap.size) (h2 : w.cell? ⟨q, 8, none⟩ = some (.slice ao n c)) (h3 : w.cell? ⟨q, 9, none⟩ = some (.slice bo k d)) (hl : Lies .u64 w (.slice bo k d) (misI xs)) :
    Calls Tryz.prog 135 #[.pointer (some ⟨b1, 0, none⟩)] w fun e w' => e = .returned (.bool (decide (k = n) && xs.all (fun x => decide (x ≤ 255)))) ∧ Below w.heap.size w w' := by
  have H1 := hide h1
  have H2 := hide h2
  have H3 := hide h3
  have HQ := hide hq
  have C := hide (fun W (hB : Below w.heap.size w W) => setsMay_any _ xs W (hl.below hB))
  clear h1 h2 h3 hl hq
  generalize xs.all (fun x => decide (x ≤ 255)) = b at *
  by_cases hkn : k = n
  · have HE : Hid (∀ W, (binOp .eql 3 (.int .i64 (k : Int)) (.int .i64 (n : Int))).run Tryz.prog W = .ok (.bool true) W) := hide (fun W => by rw [eql_i64_11, decide_eq_true hkn])
    have HR : Hid ((decide (k = n) && b) = b) := hide (by rw [decide_eq_true hkn, Bool.true_and])
    rw [HR.out]
    clear hkn HR
    go_enter Tryz.func135, Tryz.ntmps135
    go_wp2_with fail
    refine wp_region_vals (by kernel_rfl) [(2, .pointer (some ⟨q, 0, none⟩)), (3, .pointer (some ⟨q, 0, none⟩)), (4, .pointer (some ⟨q, 9, none⟩)), (5, .slice bo k d), (6, .int .i64 (k : Int)), (7, .pointer (some ⟨q, 0, none⟩)), (8, .pointer (some ⟨q, 0, none⟩)), (9, .pointer (some ⟨q, 8, none⟩)), (10, .slice ao n c), (11, .int .i64 (n : Int)), (12, .bool true), (13, .bool true), (14, .pointer (some ⟨q, 0, none⟩)), (15, .pointer (some ⟨q, 0, none⟩)), (16, .pointer (some ⟨q, 9, none⟩)), (17, .slice bo k d), (18, .bool b), (19, .bool b), (1, .bool b)] (by kernel_rfl) rfl ?_ ?_
    · intro i o hi A w1 hB hold hdeps
      have hlt : i < 19 := (Array.getElem?_eq_some_iff.1 hi).1
      have hc : i = 0 ∨ i = 1 ∨ i = 2 ∨ i = 3 ∨ i = 4 ∨ i = 5 ∨ i = 6 ∨ i = 7 ∨ i = 8 ∨ i = 9 ∨ i = 10 ∨ i = 11 ∨ i = 12 ∨ i = 13 ∨ i = 14 ∨ i = 15 ∨ i = 16 ∨ i = 17 ∨ i = 18 := by omega
      clear hlt
      rcases hc with rfl | rfl | rfl | rfl | rfl | rfl | rfl | rfl | rfl | rfl | rfl | rfl | rfl | rfl | rfl | rfl | rfl | rfl | rfl
      · obtain rfl := Option.some.inj hi
        have s0 : A.tmps.getD 0 undef = .pointer (some ⟨b1, 0, none⟩) := hold 0 (by kernel_rfl)
        exact r_pure hi rfl rfl (y_cell_recp _ s0 ((H1.out.belowI hB).cell 0 _ rfl))
      · obtain rfl := Option.some.inj hi
        have s2 : A.tmps.getD 2 undef = .pointer (some ⟨q, 0, none⟩) := dep_of hdeps 0 (by kernel_rfl)
        exact r_pure hi rfl rfl (y_nilc _ s2)
      · obtain rfl := Option.some.inj hi
        have s3 : A.tmps.getD 3 undef = .pointer (some ⟨q, 0, none⟩) := dep_of hdeps 1 (by kernel_rfl)
        exact r_pure hi rfl rfl (y_fldT6 _ s3)
      · obtain rfl := Option.some.inj hi
        have s4 : A.tmps.getD 4 undef = .pointer (some ⟨q, 9, none⟩) := dep_of hdeps 2 (by kernel_rfl)
        exact r_pure hi rfl rfl (y_cell_u64s _ s4 ((hB.cell (p := ⟨q, 9, none⟩) HQ.out).trans H3.out))
      · obtain rfl := Option.some.inj hi
        have s5 : A.tmps.getD 5 undef = .slice bo k d := dep_of hdeps 3 (by kernel_rfl)
        exact r_pure hi rfl rfl (y_len _ _ s5 Tryz.underlying29)
      · obtain rfl := Option.some.inj hi
        have s0 : A.tmps.getD 0 undef = .pointer (some ⟨b1, 0, none⟩) := hold 0 (by kernel_rfl)
        exact r_pure hi rfl rfl (y_cell_recp _ s0 ((H1.out.belowI hB).cell 0 _ rfl))
      · obtain rfl := Option.some.inj hi
        have s7 : A.tmps.getD 7 undef = .pointer (some ⟨q, 0, none⟩) := dep_of hdeps 5 (by kernel_rfl)
        exact r_pure hi rfl rfl (y_nilc _ s7)
      · obtain rfl := Option.some.inj hi
        have s8 : A.tmps.getD 8 undef = .pointer (some ⟨q, 0, none⟩) := dep_of hdeps 6 (by kernel_rfl)
        exact r_pure hi rfl rfl (y_fldT5 _ s8)
      · obtain rfl := Option.some.inj hi
        have s9 : A.tmps.getD 9 undef = .pointer (some ⟨q, 8, none⟩) := dep_of hdeps 7 (by kernel_rfl)
        exact r_pure hi rfl rfl (y_cell_awrites _ s9 ((hB.cell (p := ⟨q, 8, none⟩) HQ.out).trans H2.out))
      · obtain rfl := Option.some.inj hi
        have s10 : A.tmps.getD 10 undef = .slice ao n c := dep_of hdeps 8 (by kernel_rfl)
        exact r_pure hi rfl rfl (y_len _ _ s10 Tryz.underlying28)
      · obtain rfl := Option.some.inj hi
        have s6 : A.tmps.getD 6 undef = .int .i64 (k : Int) := dep_of hdeps 4 (by kernel_rfl)
        have s11 : A.tmps.getD 11 undef = .int .i64 (n : Int) := dep_of hdeps 9 (by kernel_rfl)
        exact r_pure hi rfl rfl (y_bin _ _ _ _ _ s6 s11 (HE.out w1) (by kernel_rfl))
      · obtain rfl := Option.some.inj hi
        have s12 : A.tmps.getD 12 undef = .bool true := dep_of hdeps 10 (by kernel_rfl)
        exact r_pure hi rfl rfl (y_move _ s12)
      · obtain rfl := Option.some.inj hi
        have g12 : A.tmps.getD 13 undef = .bool true := dep_of hdeps 11 (by kernel_rfl)
        have s0 : A.tmps.getD 0 undef = .pointer (some ⟨b1, 0, none⟩) := hold 0 (by kernel_rfl)
        exact r_pure hi (wanted_of rfl rfl g12) rfl (y_cell_recp _ s0 ((H1.out.belowI hB).cell 0 _ rfl))
      · obtain rfl := Option.some.inj hi
        have g13 : A.tmps.getD 13 undef = .bool true := dep_of hdeps 11 (by kernel_rfl)
        have s14 : A.tmps.getD 14 undef = .pointer (some ⟨q, 0, none⟩) := dep_of hdeps 12 (by kernel_rfl)
        exact r_pure hi (wanted_of rfl rfl g13) rfl (y_nilc _ s14)
      · obtain rfl := Option.some.inj hi
        have g14 : A.tmps.getD 13 undef = .bool true := dep_of hdeps 11 (by kernel_rfl)
        have s15 : A.tmps.getD 15 undef = .pointer (some ⟨q, 0, none⟩) := dep_of hdeps 13 (by kernel_rfl)
        exact r_pure hi (wanted_of rfl rfl g14) rfl (y_fldT6 _ s15)
      · obtain rfl := Option.some.inj hi
        have g15 : A.tmps.getD 13 undef = .bool true := dep_of hdeps 11 (by kernel_rfl)
        have s16 : A.tmps.getD 16 undef = .pointer (some ⟨q, 9, none⟩) := dep_of hdeps 14 (by kernel_rfl)
        exact r_pure hi (wanted_of rfl rfl g15) rfl (y_cell_u64s _ s16 ((hB.cell (p := ⟨q, 9, none⟩) HQ.out).trans H3.out))
      · obtain rfl := Option.some.inj hi
        have g16 : A.tmps.getD 13 undef = .bool true := dep_of hdeps 11 (by kernel_rfl)
        have s17 : A.tmps.getD 17 undef = .slice bo k d := dep_of hdeps 15 (by kernel_rfl)
        exact r_enter hi (wanted_of rfl rfl g16) rfl (y_call 136 _ #[.slice bo k d] _ rfl (by simp only [List.map_toArray, List.map_cons, List.map_nil, show A.eval (.tmp 17) = .slice bo k d from s17]) en_setsMay) (C.out w1 hB)
      · obtain rfl := Option.some.inj hi
        have s13 : A.tmps.getD 13 undef = .bool true := dep_of hdeps 11 (by kernel_rfl)
        have s18 : A.tmps.getD 18 undef = .bool b := dep_of hdeps 16 (by kernel_rfl)
        exact r_pure hi rfl rfl (y_pickT _ _ _ s13 s18)
      · obtain rfl := Option.some.inj hi
        have s19 : A.tmps.getD 19 undef = .bool b := dep_of hdeps 17 (by kernel_rfl)
        exact r_pure hi rfl rfl (y_assign _ s19)
    · intro w8 hB8
      simp only [putAll, Act.put, List.setIfInBounds_toArray, List.set_cons_succ, List.set_cons_zero]
      have HB8 := hide hB8
      clear hB8
      go_wp2_with fail
      go_ret
      exact ⟨rfl, HB8.out⟩
  · have HE : Hid (∀ W, (binOp .eql 3 (.int .i64 (k : Int)) (.int .i64 (n : Int))).run Tryz.prog W = .ok (.bool false) W) := hide (fun W => by rw [eql_i64_11, decide_eq_false hkn])
    have HR : Hid ((decide (k = n) && b) = false) := hide (by rw [decide_eq_false hkn, Bool.false_and])
    rw [HR.out]
    clear hkn HR
    go_enter Tryz.func135, Tryz.ntmps135
    go_wp2_with fail
    refine wp_region_vals (by kernel_rfl) [(2, .pointer (some ⟨q, 0, none⟩)), (3, .pointer (some ⟨q, 0, none⟩)), (4, .pointer (some ⟨q, 9, none⟩)), (5, .slice bo k d), (6, .int .i64 (k : Int)), (7, .pointer (some ⟨q, 0, none⟩)), (8, .pointer (some ⟨q, 0, none⟩)), (9, .pointer (some ⟨q, 8, none⟩)), (10, .slice ao n c), (11, .int .i64 (n : Int)), (12, .bool false), (13, .bool false), (14, undef), (15, undef), (16, undef), (17, undef), (18, undef), (19, .bool false), (1, .bool false)] (by kernel_rfl) rfl ?_ ?_
    · intro i o hi A w1 hB hold hdeps
      have hlt : i < 19 := (Array.getElem?_eq_some_iff.1 hi).1
      have hc : i = 0 ∨ i = 1 ∨ i = 2 ∨ i = 3 ∨ i = 4 ∨ i = 5 ∨ i = 6 ∨ i = 7 ∨ i = 8 ∨ i = 9 ∨ i = 10 ∨ i = 11 ∨ i = 12 ∨ i = 13 ∨ i = 14 ∨ i = 15 ∨ i = 16 ∨ i = 17 ∨ i = 18 := by omega
      clear hlt
      rcases hc with rfl | rfl | rfl | rfl | rfl | rfl | rfl | rfl | rfl | rfl | rfl | rfl | rfl | rfl | rfl | rfl | rfl | rfl | rfl
      · obtain rfl := Option.some.inj hi
        have s0 : A.tmps.getD 0 undef = .pointer (some ⟨b1, 0, none⟩) := hold 0 (by kernel_rfl)
        exact r_pure hi rfl rfl (y_cell_recp _ s0 ((H1.out.belowI hB).cell 0 _ rfl))
      · obtain rfl := Option.some.inj hi
        have s2 : A.tmps.getD 2 undef = .pointer (some ⟨q, 0, none⟩) := dep_of hdeps 0 (by kernel_rfl)
        exact r_pure hi rfl rfl (y_nilc _ s2)
      · obtain rfl := Option.some.inj hi
        have s3 : A.tmps.getD 3 undef = .pointer (some ⟨q, 0, none⟩) := dep_of hdeps 1 (by kernel_rfl)
        exact r_pure hi rfl rfl (y_fldT6 _ s3)
      · obtain rfl := Option.some.inj hi
        have s4 : A.tmps.getD 4 undef = .pointer (some ⟨q, 9, none⟩) := dep_of hdeps 2 (by kernel_rfl)
        exact r_pure hi rfl rfl (y_cell_u64s _ s4 ((hB.cell (p := ⟨q, 9, none⟩) HQ.out).trans H3.out))
      · obtain rfl := Option.some.inj hi
        have s5 : A.tmps.getD 5 undef = .slice bo k d := dep_of hdeps 3 (by kernel_rfl)
        exact r_pure hi rfl rfl (y_len _ _ s5 Tryz.underlying29)
      · obtain rfl := Option.some.inj hi
        have s0 : A.tmps.getD 0 undef = .pointer (some ⟨b1, 0, none⟩) := hold 0 (by kernel_rfl)
        exact r_pure hi rfl rfl (y_cell_recp _ s0 ((H1.out.belowI hB).cell 0 _ rfl))
      · obtain rfl := Option.some.inj hi
        have s7 : A.tmps.getD 7 undef = .pointer (some ⟨q, 0, none⟩) := dep_of hdeps 5 (by kernel_rfl)
        exact r_pure hi rfl rfl (y_nilc _ s7)
      · obtain rfl := Option.some.inj hi
        have s8 : A.tmps.getD 8 undef = .pointer (some ⟨q, 0, none⟩) := dep_of hdeps 6 (by kernel_rfl)
        exact r_pure hi rfl rfl (y_fldT5 _ s8)
      · obtain rfl := Option.some.inj hi
        have s9 : A.tmps.getD 9 undef = .pointer (some ⟨q, 8, none⟩) := dep_of hdeps 7 (by kernel_rfl)
        exact r_pure hi rfl rfl (y_cell_awrites _ s9 ((hB.cell (p := ⟨q, 8, none⟩) HQ.out).trans H2.out))
      · obtain rfl := Option.some.inj hi
        have s10 : A.tmps.getD 10 undef = .slice ao n c := dep_of hdeps 8 (by kernel_rfl)
        exact r_pure hi rfl rfl (y_len _ _ s10 Tryz.underlying28)
      · obtain rfl := Option.some.inj hi
        have s6 : A.tmps.getD 6 undef = .int .i64 (k : Int) := dep_of hdeps 4 (by kernel_rfl)
        have s11 : A.tmps.getD 11 undef = .int .i64 (n : Int) := dep_of hdeps 9 (by kernel_rfl)
        exact r_pure hi rfl rfl (y_bin _ _ _ _ _ s6 s11 (HE.out w1) (by kernel_rfl))
      · obtain rfl := Option.some.inj hi
        have s12 : A.tmps.getD 12 undef = .bool false := dep_of hdeps 10 (by kernel_rfl)
        exact r_pure hi rfl rfl (y_move _ s12)
      · obtain rfl := Option.some.inj hi
        have g12 : A.tmps.getD 13 undef = .bool false := dep_of hdeps 11 (by kernel_rfl)
        exact each_skip hi rfl rfl (fun e => absurd (g12.symm.trans e) (by simp)) rfl
      · obtain rfl := Option.some.inj hi
        have g13 : A.tmps.getD 13 undef = .bool false := dep_of hdeps 11 (by kernel_rfl)
        exact each_skip hi rfl rfl (fun e => absurd (g13.symm.trans e) (by simp)) rfl
      · obtain rfl := Option.some.inj hi
        have g14 : A.tmps.getD 13 undef = .bool false := dep_of hdeps 11 (by kernel_rfl)
        exact each_skip hi rfl rfl (fun e => absurd (g14.symm.trans e) (by simp)) rfl
      · obtain rfl := Option.some.inj hi
        have g15 : A.tmps.getD 13 undef = .bool false := dep_of hdeps 11 (by kernel_rfl)
        exact each_skip hi rfl rfl (fun e => absurd (g15.symm.trans e) (by simp)) rfl
      · obtain rfl := Option.some.inj hi
        have g16 : A.tmps.getD 13 undef = .bool false := dep_of hdeps 11 (by kernel_rfl)
        exact each_skip hi rfl rfl (fun e => absurd (g16.symm.trans e) (by simp)) rfl
      · obtain rfl := Option.some.inj hi
        have s13 : A.tmps.getD 13 undef = .bool false := dep_of hdeps 11 (by kernel_rfl)
        exact r_pure hi rfl rfl (y_pickF _ _ _ s13 rfl)
      · obtain rfl := Option.some.inj hi
        have s19 : A.tmps.getD 19 undef = .bool false := dep_of hdeps 17 (by kernel_rfl)
        exact r_pure hi rfl rfl (y_assign _ s19)
    · intro w8 hB8
      simp only [putAll, Act.put, List.setIfInBounds_toArray, List.set_cons_succ, List.set_cons_zero]
      have HB8 := hide hB8
      clear hB8
      go_wp2_with fail
      go_ret
      exact ⟨rfl, HB8.out⟩
theorem misT_len (ms : List Nat) (j : Nat) (hb : ∀ x ∈ ms, x ≤ 255) : (repEnc (numC 255) (ms.take j)).length ≤ 10 * ms.length := by
  have key : ∀ l : List Nat, (∀ x ∈ l, x ≤ 255) → (repEnc (numC 255) l).length ≤ 10 * l.length := by
    intro l
    induction l with
    | nil => intro _; exact Nat.le_refl _
    | cons x l ih =>
      intro h
      have h1 := ih (fun y hy => h y (List.mem_cons_of_mem _ hy))
      have h2 : (shortS x).length ≤ 10 := shortS_len10 (by have := h x List.mem_cons_self; omega)
      unfold repEnc at *
      rw [List.flatMap_cons, List.length_append, List.length_cons]
      show (shortS x).length + _ ≤ _
      omega
  have h1 := key (ms.take j) (fun x hx => hb x (List.mem_of_mem_take hx))
  have h2 : (ms.take j).length ≤ ms.length := List.length_take_le' j ms
  omega
theorem cwrote_refl {w : World} {p : Nat} {v : Value} {xs : List Int} (h : CW w p v xs) : CWrote w w p v v xs := ⟨h, KeepBut.refl _ _, .inl rfl⟩
theorem repEnc_take {l : List Nat} {k : Nat} (hk : k < l.length) : repEnc (numC 255) (l.take (k + 1)) = repEnc (numC 255) (l.take k) ++ shortS l[k] := by
  rw [List.take_succ_eq_append_getElem hk]
  unfold repEnc
  rw [List.flatMap_append]
  simp [numC]
theorem mm3_any (w0 : World) (pw b1 q : Nat) (v : Value) (xs : List Int) (bo : Option Addr) (k c : Nat) (ms : List Nat) (w : World) (h1 : w.cell? ⟨b1, 0, none⟩ = some (.pointer (some ⟨q, 0, none⟩))) (h2 : w.cell? ⟨q, 9, none⟩ = some (.slice bo k c))
    (hw : CBl w0 w pw v xs) (hl : Lies .u64 w0 (.slice bo k c) (misI ms)) (hb : ∀ x ∈ ms, x ≤ 255) (hr : xs.length + 10 * ms.length ≤ 100000) (hm : ms.length ≤ 100) :
    Calls Tryz.prog 137 #[.pointer (some ⟨pw, 0, none⟩), .pointer (some ⟨b1, 0, none⟩)] w fun e w' => e = .returned (.tuple #[]) ∧ ∃ v', CWrote w w' pw v v' (xs ++ repEnc (numC 255) ms) := by
  have hk : k = ms.length := by
    obtain ⟨ao2, c2, e⟩ := hl.shape
    cases e
    exact misI_len ms
  subst hk
  obtain ⟨L, hL⟩ : ∃ L, L = ms.length := ⟨_, rfl⟩
  rw [← hL] at h2 hl hm
  have HL := hide hL
  have HLI := hide hl
  have HB := hide hb
  have HW := hide hw
  have HR : Hid (xs.length + 10 * L ≤ 100000) := hide (by rw [hL]; exact hr)
  clear hL hl hb hw hr
  go_enter Tryz.func137, Tryz.ntmps137
  go_wp2_with fail
  clear h1 h2
  go_loopg [10] L (fun g i wr => ∃ (j : Nat) (v' : Value), j + g = L ∧ i = .int .i64 j ∧ Hid (CWrote w wr pw v v' (xs ++ repEnc (numC 255) (ms.take j))))
  case atStart => exact ⟨0, v, by omega, rfl, hide (by
    have : xs ++ repEnc (numC 255) (ms.take 0) = xs := by simp [repEnc]
    rw [this]
    exact cwrote_refl HW.out.wr)⟩
  case round =>
    obtain ⟨j, v', hj, rfl, HC⟩ := hrel
    cases gk with
    | zero =>
      obtain rfl : j = L := by omega
      have hz : ¬ ((j : Int) < (j : Int)) := by omega
      have HE : Hid (ms.take j = ms) := hide (by rw [HL.out, List.take_length])
      go_wp2_with fail
      go_end0
      exact ⟨rfl, v', by have := HC.out; rw [HE.out] at this; exact this⟩
    | succ g =>
      have hz : (j : Int) < (L : Int) := by omega
      have hz0 : (0 : Int) ≤ (j : Int) := by omega
      have hjl : j < ms.length := by rw [← HL.out]; omega
      have H2 := HW.out.step HC.out
      have H3 := HLI.out.below H2.bl
      rcases H3 with ⟨he0, _⟩ | ⟨_, b, off, c2, e2, _, _, _, hc⟩
      · exfalso
        have := congrArg List.length he0
        rw [misI_len] at this
        have : ms.length = 0 := this
        omega
      · cases e2
        have hcell := hc j (by rw [misI_len]; exact hjl)
        rw [misI_get hjl] at hcell
        have hx := HB.out _ (List.getElem_mem hjl)
        have hln : (xs ++ repEnc (numC 255) (ms.take j)).length ≤ 100000 := by
          have h4 := misT_len ms j HB.out
          have := HR.out
          have h5 := misI_len ms
          rw [List.length_append]
          omega
        have C := hide (cwnum_any pw v' (xs ++ repEnc (numC 255) (ms.take j)) ms[j] wr H2.wr (by unfold roomFor; omega) (by omega))
        have HN : Hid (xs ++ repEnc (numC 255) (ms.take j) ++ shortS ms[j] = xs ++ repEnc (numC 255) (ms.take (j + 1))) := hide (by rw [repEnc_take hjl, List.append_assoc])
        rw [HN.out] at C
        obtain ⟨x, hx2⟩ : ∃ x, x = ms[j] := ⟨_, rfl⟩
        rw [← hx2] at hcell C
        clear hc hx hln hx2 HN H2
        go_wp2_with (go_at_call 73; refine C.out.mono ?_; rintro e w1 ⟨rfl, v1, h1⟩; have H1 := hide (HC.out.trans h1); clear h1)
        go_roundg g
        case measure => omega
        case rel => exact ⟨j + 1, v1, by omega, by first | rfl | go_num, H1⟩
theorem writesIn_any (q : Nat) (w : World) : Calls Tryz.prog 75 #[.pointer (some ⟨q, 0, none⟩)] w fun e w' => ∃ b1, e = .returned (.agg #[.func (.func 127) #[] #[.pointer (some ⟨b1, 0, none⟩)], .func (.func 128) #[] #[.pointer (some ⟨b1, 0, none⟩)], .func (.func 130) #[] #[.pointer (some ⟨b1, 0, none⟩)], .func (.func 132) #[] #[.pointer (some ⟨b1, 0, none⟩)]]) ∧ Box w' b1 #[.pointer (some ⟨q, 0, none⟩)] 66 ∧ w.heap.size ≤ b1 ∧ Below w.heap.size w w' := by
  have hmf := make_fn
  have HI := hide infoFld
  have b1 := (box_new w #[.pointer (some ⟨q, 0, none⟩)] 66).belowI (alloc_below10 _ (.cells (#[.func (.func 127) #[] #[.pointer (some ⟨w.heap.size, 0, none⟩)], .func (.func 128) #[] #[.pointer (some ⟨w.heap.size, 0, none⟩)], .func (.func 130) #[] #[.pointer (some ⟨w.heap.size, 0, none⟩)], .func (.func 132) #[] #[.pointer (some ⟨w.heap.size, 0, none⟩)]]) 70))
  have b2 := box_new (w.alloc (.cells #[.pointer (some ⟨q, 0, none⟩)] 66)) (#[.func (.func 127) #[] #[.pointer (some ⟨w.heap.size, 0, none⟩)], .func (.func 128) #[] #[.pointer (some ⟨w.heap.size, 0, none⟩)], .func (.func 130) #[] #[.pointer (some ⟨w.heap.size, 0, none⟩)], .func (.func 132) #[] #[.pointer (some ⟨w.heap.size, 0, none⟩)]]) 70
  rw [World.size_alloc] at b2
  have hB := ((Below.refl w.heap.size w).alloc (Nat.le_refl _) (.cells #[.pointer (some ⟨q, 0, none⟩)] 66)).alloc (by simp) (.cells (#[.func (.func 127) #[] #[.pointer (some ⟨w.heap.size, 0, none⟩)], .func (.func 128) #[] #[.pointer (some ⟨w.heap.size, 0, none⟩)], .func (.func 130) #[] #[.pointer (some ⟨w.heap.size, 0, none⟩)], .func (.func 132) #[] #[.pointer (some ⟨w.heap.size, 0, none⟩)]]) 70)
  go_enter Tryz.func75, Tryz.ntmps75
  go_wp2_with fail
  exact bodyPost_ret (v := .agg (#[.func (.func 127) #[] #[.pointer (some ⟨w.heap.size, 0, none⟩)], .func (.func 128) #[] #[.pointer (some ⟨w.heap.size, 0, none⟩)], .func (.func 130) #[] #[.pointer (some ⟨w.heap.size, 0, none⟩)], .func (.func 132) #[] #[.pointer (some ⟨w.heap.size, 0, none⟩)]])) (results_box Tryz.results75 _ _ (w.heap.size + 1) rfl b2 Tryz.underlying70 rfl HI.out) rfl ⟨w.heap.size, rfl, b1, Nat.le_refl _, hB⟩
theorem missingIn_any (q : Nat) (w : World) : Calls Tryz.prog 76 #[.pointer (some ⟨q, 0, none⟩)] w fun e w' => ∃ b1, e = .returned (.agg #[.func (.func 134) #[] #[.pointer (some ⟨b1, 0, none⟩)], .func (.func 135) #[] #[.pointer (some ⟨b1, 0, none⟩)], .func (.func 137) #[] #[.pointer (some ⟨b1, 0, none⟩)], .func (.func 138) #[] #[.pointer (some ⟨b1, 0, none⟩)]]) ∧ Box w' b1 #[.pointer (some ⟨q, 0, none⟩)] 66 ∧ w.heap.size ≤ b1 ∧ Below w.heap.size w w' := by
  have hmf := make_fn
  have HI := hide infoFld
  have b1 := (box_new w #[.pointer (some ⟨q, 0, none⟩)] 66).belowI (alloc_below10 _ (.cells (#[.func (.func 134) #[] #[.pointer (some ⟨w.heap.size, 0, none⟩)], .func (.func 135) #[] #[.pointer (some ⟨w.heap.size, 0, none⟩)], .func (.func 137) #[] #[.pointer (some ⟨w.heap.size, 0, none⟩)], .func (.func 138) #[] #[.pointer (some ⟨w.heap.size, 0, none⟩)]]) 70))
  have b2 := box_new (w.alloc (.cells #[.pointer (some ⟨q, 0, none⟩)] 66)) (#[.func (.func 134) #[] #[.pointer (some ⟨w.heap.size, 0, none⟩)], .func (.func 135) #[] #[.pointer (some ⟨w.heap.size, 0, none⟩)], .func (.func 137) #[] #[.pointer (some ⟨w.heap.size, 0, none⟩)], .func (.func 138) #[] #[.pointer (some ⟨w.heap.size, 0, none⟩)]]) 70
  rw [World.size_alloc] at b2
  have hB := ((Below.refl w.heap.size w).alloc (Nat.le_refl _) (.cells #[.pointer (some ⟨q, 0, none⟩)] 66)).alloc (by simp) (.cells (#[.func (.func 134) #[] #[.pointer (some ⟨w.heap.size, 0, none⟩)], .func (.func 135) #[] #[.pointer (some ⟨w.heap.size, 0, none⟩)], .func (.func 137) #[] #[.pointer (some ⟨w.heap.size, 0, none⟩)], .func (.func 138) #[] #[.pointer (some ⟨w.heap.size, 0, none⟩)]]) 70)
  go_enter Tryz.func76, Tryz.ntmps76
  go_wp2_with fail
  exact bodyPost_ret (v := .agg (#[.func (.func 134) #[] #[.pointer (some ⟨w.heap.size, 0, none⟩)], .func (.func 135) #[] #[.pointer (some ⟨w.heap.size, 0, none⟩)], .func (.func 137) #[] #[.pointer (some ⟨w.heap.size, 0, none⟩)], .func (.func 138) #[] #[.pointer (some ⟨w.heap.size, 0, none⟩)]])) (results_box Tryz.results76 _ _ (w.heap.size + 1) rfl b2 Tryz.underlying70 rfl HI.out) rfl ⟨w.heap.size, rfl, b1, Nat.le_refl _, hB⟩
end
section
open Go.RowKit Classical

def GotW (w0 W : World) (r : RS) (v : Value) (ws : List WrP) : Prop := RSrc wrE W v ws ∧ (∀ g, v.ownBlock = some g → w0.heap.size ≤ g) ∧ ((wsC.dec r).2.why = 0 → ws = (wsC.dec r).1) ∧ (∀ x ∈ ws, KeyOk x.key ∧ ItOk x.it) ∧ ws.length ≤ 16
def IW4 (w : World) (pr q : Nat) (r : RS) (i : Nat) (v : Value) (W : World) : Prop := match i with
  | 0 => v = .pointer (some ⟨q, 0, none⟩)
  | 1 => v = .pointer (some ⟨pr, 0, none⟩)
  | 2 => ∃ ws, GotW w W r v ws
  | 3 => v = .pointer (some ⟨q, 0, none⟩)
  | 4 => v = .pointer (some ⟨q, 8, none⟩)
  | _ => True
def RW4 (q : Nat) (i : Nat) (W W' : World) : Prop := match i with
  | 5 => KeepBut (fun k => k = q) W W'
  | 2 => True
  | _ => W' = W
def FinW (w : World) (pr q : Nat) (vb : Value) (all : List Int) (m : RecP) (u : Value) (r : RS) (W : World) : Prop := ∃ p' ws, Box W q (recA { m with wr := ws } p' u) 41 ∧ GotW w W r p' ws ∧ CR W pr vb all (wsC.dec r).2 ∧ KeepBut (fun k => k = pr ∨ k = q) w W
def SW4 (w : World) (pr q : Nat) (vb : Value) (all : List Int) (m : RecP) (u : Value) (r : RS) (listed : Array Bool) (W : World) : Prop :=
  (listed.getD 5 true = false → (listed.getD 2 true = false → W = w.drew) ∧ (listed.getD 2 true = true → CR W pr vb all (wsC.dec r).2 ∧ KeepBut (fun k => k = pr) w W)) ∧ (listed.getD 5 true = true → FinW w pr q vb all m u r W)
theorem SW4.next {w W : World} {pr q : Nat} {vb : Value} {all : List Int} {m : RecP} {u : Value} {r : RS} {listed : Array Bool} {i : Nat} (h : SW4 w pr q vb all m u r listed W) (hi : i ≠ 5) (hi2 : i ≠ 2) : SW4 w pr q vb all m u r (listed.setIfInBounds i true) W := by
  unfold SW4 at *
  rw [listed_ne hi, listed_ne hi2]
  exact h
theorem en10_gw : ∀ args w, (callFunc 133 args).run Tryz.prog w = .ok (.enter 133 args) w := enters_of Tryz.func133 (by kernel_rfl) rfl
theorem infoWs : (Tryz.prog.info? 28).map (·.size) = some 1 := by kernel_rfl
set_option maxRecDepth 100000 in
theorem ww4_any (pr b1 q : Nat) (vb : Value) (all : List Int) (r : RS) (m : RecP) (p u : Value) (w : World) (h1 : Box w b1 #[.pointer (some ⟨q, 0, none⟩)] 66) (h2 : Box w q (recA m p u) 41) (hcr : CR w pr vb all r) (hb1 : b1 ≠ pr) (hq : q ≠ pr) (hvq : vb.ownBlock ≠ some q) :
    Calls Tryz.prog 132 #[.pointer (some ⟨pr, 0, none⟩), .pointer (some ⟨b1, 0, none⟩)] w fun e w' => e = .returned (.tuple #[]) ∧ FinW w pr q vb all m u r w' := by
  have hBD : Hid (Below w.heap.size w w.drew) := hide (Below.refl _ _).drew
  have H1 := hide h1
  have H2 := hide h2
  have HC := hide hcr
  have HN1 := hide hb1
  have HNQ := hide hq
  have HVQ := hide hvq
  clear h1 h2 hcr hb1 hq hvq
  go_enter Tryz.func132, Tryz.ntmps132
  go_wp2_with fail
  refine wp_region_each3 (by kernel_rfl) (IW4 w pr q r) (SW4 w pr q vb all m u r) (RW4 q) (by kernel_rfl) ?_ ⟨fun _ => ⟨fun _ => rfl, fun h => by cases h⟩, fun h => by cases h⟩ ?_ ?_
  · intro i j v W W' hij hv hR
    by_cases h5 : i = 5
    · subst h5
      have hk : KeepBut (fun k => k = q) W W' := hR
      by_cases h2 : j = 2
      · subst h2
        obtain ⟨ws, g1, g2, g3, g4⟩ := hv
        exact ⟨ws, g1.keep hk (fun g hg e => by have := g2 g hg; have := H2.out.lt; omega), g2, g3, g4⟩
      · revert hv
        unfold IW4
        split <;> first | exact fun h => h | exact absurd rfl h2
    · by_cases h2 : i = 2
      · subst h2
        revert hv
        unfold IW4
        split <;> first | exact fun h => h | exact absurd rfl hij
      · have e : W' = W := by
          revert hR
          unfold RW4
          split <;> first | exact fun h => h | exact absurd rfl h5 | exact absurd rfl h2
        rw [e]
        exact hv
  · intro i o hi listed A W hsz hN hS hold hdeps
    have hlt : i < 6 := (Array.getElem?_eq_some_iff.1 hi).1
    have hc : i = 0 ∨ i = 1 ∨ i = 2 ∨ i = 3 ∨ i = 4 ∨ i = 5 := by omega
    clear hlt
    rcases hc with rfl | rfl | rfl | rfl | rfl | rfl
    · obtain rfl := Option.some.inj hi
      have h5 := unlisted_of hN.un hN.cl 5 5 (by kernel_rfl)
      have s1 : A.tmps.getD 1 undef = .pointer (some ⟨b1, 0, none⟩) := hold 1 (by kernel_rfl)
      have hcell : W.cell? ⟨b1, 0, none⟩ = some (.pointer (some ⟨q, 0, none⟩)) := by
        cases h3 : listed.getD 2 true with
        | false => rw [(hS.1 h5).1 h3]; exact (H1.out.belowI hBD.out).cell 0 _ rfl
        | true => exact (H1.out.keep ((hS.1 h5).2 h3).2 HN1.out).cell 0 _ rfl
      exact t_value (I := IW4 w pr q r) (R := RW4 q 0 W) hi rfl rfl (y_cell_recp _ s1 hcell) (hS.next (by decide) (by decide)) rfl rfl
    · obtain rfl := Option.some.inj hi
      have s0 : A.tmps.getD 0 undef = .pointer (some ⟨pr, 0, none⟩) := hold 0 (by kernel_rfl)
      exact t_value (I := IW4 w pr q r) (R := RW4 q 1 W) hi rfl rfl (y_move _ s0) (hS.next (by decide) (by decide)) rfl rfl
    · obtain rfl := Option.some.inj hi
      have h5 := unlisted_of hN.un hN.cl 5 5 (by kernel_rfl)
      have hd := (hS.1 h5).1 hN.un
      subst hd
      have s4 : A.tmps.getD 4 undef = .pointer (some ⟨pr, 0, none⟩) := dep3_of hdeps 1 (by kernel_rfl)
      refine t_enter (I := IW4 w pr q r) (R := RW4 q 2 w.drew) hi rfl rfl (y_call 133 _ #[.pointer (some ⟨pr, 0, none⟩)] _ rfl (by simp only [List.map_toArray, List.map_cons, List.map_nil, show A.eval (.tmp 4) = .pointer (some ⟨pr, 0, none⟩) from s4]) en10_gw) ((getWrites_any pr vb all r w.drew (HC.out.below hBD.out)).mono ?_)
      rintro e w' ⟨v, ws, rfl, g1, g2, g3, g4, g5, g6, g7⟩
      exact ⟨v, rfl, ⟨fun _ => ⟨fun h3 => (by rw [listed_at] at h3; cases h3), fun _ => ⟨g5, (KeepBut.of_below _ hBD.out).trans g6 (fun _ _ h => h)⟩⟩, fun h6 => (by rw [listed_ne (by decide), h5] at h6; cases h6)⟩, trivial, ws, g1, g2, g3, g4, g7⟩
    · obtain rfl := Option.some.inj hi
      have s3 : A.tmps.getD 3 undef = .pointer (some ⟨q, 0, none⟩) := dep3_of hdeps 0 (by kernel_rfl)
      exact t_value (I := IW4 w pr q r) (R := RW4 q 3 W) hi rfl rfl (y_nilc _ s3) (hS.next (by decide) (by decide)) rfl rfl
    · obtain rfl := Option.some.inj hi
      have s6 : A.tmps.getD 6 undef = .pointer (some ⟨q, 0, none⟩) := dep3_of hdeps 3 (by kernel_rfl)
      exact t_value (I := IW4 w pr q r) (R := RW4 q 4 W) hi rfl rfl (y_fldT5 _ s6) (hS.next (by decide) (by decide)) rfl rfl
    · obtain rfl := Option.some.inj hi
      have h3 := (hS.1 hN.un).2 (listed_dep hN 2 (by kernel_rfl))
      have hg : ∃ ws, GotW w W r (A.tmps.getD 5 undef) ws := dep3_of hdeps 2 (by kernel_rfl)
      obtain ⟨ws, g1, g2, g3, g4⟩ := hg
      have s7 : A.tmps.getD 7 undef = .pointer (some ⟨q, 8, none⟩) := dep3_of hdeps 4 (by kernel_rfl)
      obtain ⟨v, hv⟩ : ∃ v, A.tmps.getD 5 undef = v := ⟨_, rfl⟩
      rw [hv] at g1 g2
      obtain ⟨ao, c, rfl, _, _⟩ := g1.shape
      have hbx := H2.out.keep h3.2 HNQ.out
      have hb := setRow_box (cs' := recA { m with wr := ws } (.slice ao ws.length c) u) hbx
      have hlt := H2.out.lt
      refine t_store (I := IW4 w pr q r) (R := RW4 q 5 W) hi rfl (y_storeMid (cs' := recA { m with wr := ws } (.slice ao ws.length c) u) _ _ _ s7 hv hbx rfl rfl infoWs rfl) ⟨fun h6 => (by rw [listed_at] at h6; cases h6), fun _ => ⟨.slice ao ws.length c, ws, hb.1, ⟨g1.keep hb.2 (fun g hg e => by have := g2 g hg; omega), g2, g3, g4⟩, h3.1.keep hb.2 (fun e => HNQ.out e.symm) (fun g hg e => HVQ.out (by rw [hg, e])), ?_⟩⟩ hb.2 trivial
      exact (h3.2.mono (fun k e => .inl e)).trans (hb.2.mono (S' := fun k => k = pr ∨ k = q) (fun k e => .inr e)) (fun _ _ e => e)
  · intro listed a w8 hall hS8 hsz hdf hold hnew
    have HR := hide (hS8.2 (hall 5 (by decide)))
    obtain ⟨tm, df⟩ := a
    have hdf : df = [] := hdf
    subst hdf
    clear hS8 hall hnew hold hsz H1 H2 HC
    go_wp2_with fail
    go_end0
    exact ⟨rfl, HR.out⟩
end
end Go.Proofs.YtencmgepffdodaaGreat
