/-
  The reference's orders of names, stamps and keys. Own work.
-/
import Derived.Test.YtgjdlclkibiffaaIdPlain
import Derived.Test.YtgjdlclkibiffaaCopyAt
import Derived.Test.YtgjdlclkibiffaaIdBox
import Derived.Deep.RegionHeldLaw
import Derived.Deep.QuietTactic
import Derived.BigQuiet
import Derived.Maps.AppendAt
namespace Go.Proofs.Ytgjdlclkibiffaa
open Go.RowKit

theorem info32 : (Try.prog.info? 25).map (fun i => (i.zero, i.size, i.bytes)) = some (some (.int .u32 0), 1, 4) := by kernel_rfl
theorem drop_two (xs : List Int) (k : Nat) (h : k < xs.length) : xs.drop k = xs.getD k 0 :: xs.drop (k + 1) := by
  rw [List.drop_eq_getElem_cons h]; simp [List.getD, h]
set_option maxRecDepth 100000 in
set_option maxHeartbeats 800000 in
theorem first_any (xs ys : List Int) (v1 v2 : Value) (w : World) (h1 : Lies .u32 w v1 xs) (h2 : Lies .u32 w v2 ys) (hl : xs.length = ys.length) (hn : xs.length ≤ 100) :
    Calls Try.prog 45 #[v1, v2] w fun e w' => e = .returned (.int .i64 (lexF xs ys)) ∧ ∃ n, w' = w.drewN n := by
  rcases h1 with ⟨rfl, ao, cap, rfl, _⟩ | ⟨hx, b1, o1, c1, rfl, hb1, hl1, hm1, hc1⟩
  · clear h2
    go_enter Try.func45, Try.ntmps45
    go_wp2
    refine wp_loop_rounds 1 ?_
    rw [rounds_succ]
    go_wp2
    go_ret
    exact ⟨ret_int (by unfold lexF; rfl), 0, rfl⟩
  · rcases h2 with ⟨rfl, _⟩ | ⟨hy, b2, o2, c2, rfl, hb2, hl2, hm2, hc2⟩
    · exact absurd (List.eq_nil_of_length_eq_zero hl) hx
    · have HC1 := hide hc1
      have HC2 := hide hc2
      have HO : Hid (lexF xs ys = lexF (xs.drop 0) (ys.drop 0)) := hide rfl
      have HL := hide hl
      unfold maxLen at hm1 hm2
      clear hc1 hc2 hl
      generalize hn1 : xs.length = n1 at *
      generalize hn2 : ys.length = n2 at *
      have HN1 := hide hn1
      have HN2 := hide hn2
      clear hn1 hn2
      go_enter Try.func45, Try.ntmps45
      go_wp2
      go_loopw [5] (fun i wr => ∃ k n : Nat, k ≤ n1 ∧ i = .int .i64 k ∧ wr = w.drewN n ∧ Hid (lexF xs ys = lexF (xs.drop k) (ys.drop k))) (fun i _ => n1 - (intOf i).toNat)
      case atStart => exact ⟨0, 0, Nat.zero_le _, rfl, rfl, HO⟩
      case round =>
        obtain ⟨k, n, hk, rfl, hwr, HK⟩ := hrel
        have HW := hide hwr
        have hbk1 : b1 < wr.heap.size := by rw [hwr]; exact hb1
        by_cases hlt : k < n1
        · have hlt2 : k < n2 := by have := HL.out; omega
          have hcell1 : ∀ m, (wr.drewN m).cell? ⟨b1, o1 + k, none⟩ = some (.int .u32 (xs.getD k 0)) := fun m => by rw [hwr]; exact HC1.out k (by omega)
          have hcell2 : ∀ m, (wr.drewN m).cell? ⟨b2, o2 + k, none⟩ = some (.int .u32 (ys.getD k 0)) := fun m => by rw [hwr]; exact HC2.out k (by omega)
          have hcell3 := hcell1 0
          have hcell4 := hcell2 0
          have HD1 := hide (drop_two xs k (by rw [HN1.out]; exact hlt))
          have HD2 := hide (drop_two ys k (by rw [HN2.out]; exact hlt2))
          clear hwr
          generalize xs.getD k 0 = x at *
          generalize ys.getD k 0 = y at *
          rcases cmpF_rng x y with ⟨h, h2⟩ | ⟨h, h2⟩ | ⟨h, h2⟩
          · have HR : Hid (lexF xs ys = -1) := hide (by rw [HK.out, HD1.out, HD2.out]; unfold lexF orF; rw [h]; rfl)
            clear h
            go_wp2
            go_quiet (fail)
            go_wp2
            go_ret
            exact ⟨ret_int HR.out.symm, n + nq, by rw [HW.out, drewN2]⟩
          · have HR : Hid (lexF xs ys = lexF (xs.drop (k + 1)) (ys.drop (k + 1))) := hide (by rw [HK.out, HD1.out, HD2.out]; show orF (cmpF x y) _ = _; unfold orF; rw [if_pos h])
            clear h
            subst h2
            go_wp2
            go_quiet (fail)
            go_wp2
            go_quiet (fail)
            go_wp2
            go_roundw
            case rel => exact ⟨k + 1, _, by omega, by go_num, by rw [HW.out, drewN2], HR⟩
            case measure => simp [intOf]; omega
          · have HR : Hid (lexF xs ys = 1) := hide (by rw [HK.out, HD1.out, HD2.out]; unfold lexF orF; rw [h]; rfl)
            have h3 : ¬ x < y := by omega
            clear h
            go_wp2
            go_quiet (fail)
            go_wp2
            go_quiet (fail)
            go_wp2
            go_ret
            exact ⟨ret_int HR.out.symm, _, by rw [HW.out]; first | exact drewN3 _ _ _ _ | exact drewN2 _ _ _⟩
        · have hge : decide ((k : Int) < (n1 : Int)) = false := decide_eq_false (by omega)
          go_wp2
          go_ret
          exact ⟨ret_int (by rw [HK.out, List.drop_eq_nil_of_le (by have := HN1.out; omega)]; unfold lexF; rfl), n, rfl⟩
end Go.Proofs.Ytgjdlclkibiffaa
