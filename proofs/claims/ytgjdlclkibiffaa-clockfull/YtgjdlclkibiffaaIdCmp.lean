/-
  The program's orders of names, stamps and keys. Own work.
-/
import Derived.Test.YtgjdlclkibiffaaIdVals
import Derived.Test.YtgjdlclkibiffaaIdKeyP
import Derived.Test.YtgjdlclkibiffaaCopyAt
import Derived.Test.YtgjdlclkibiffaaIdBox
import Derived.Lib.BytesEntry
import Derived.Deep.RegionHeldLaw
import Derived.Deep.QuietTactic
import Derived.BigQuiet
import Derived.Sort.Grow
import Derived.Shelf.Abstract
namespace Go.Proofs.Ytgjdlclkibiffaa
open Go.RowKit

/-- New blocks and draws, nothing else. -/
def Grown (w w' : World) : Prop := ∃ q os, w' = Sort.grow (w.drewN q) os
theorem Grown.refl (w : World) : Grown w w := ⟨0, #[], by rw [Sort.grow_empty]; rfl⟩
theorem Grown.alloc {w w' : World} (h : Grown w w') (o : Obj) : Grown w (w'.alloc o) := by
  obtain ⟨q, os, rfl⟩ := h
  exact ⟨q, os ++ #[o], by rw [Sort.alloc_eq_grow, Sort.grow_grow]⟩
theorem Grown.drew {w w' : World} (h : Grown w w') : Grown w w'.drew := by
  obtain ⟨q, os, rfl⟩ := h
  exact ⟨q + 1, os, rfl⟩
theorem Grown.trans {a b c : World} (h : Grown a b) (h' : Grown b c) : Grown a c := by
  obtain ⟨q, os, rfl⟩ := h
  obtain ⟨q', os', rfl⟩ := h'
  refine ⟨q + q', os ++ os', ?_⟩
  simp only [Sort.grow, World.drewN, Array.append_assoc, Nat.add_assoc]
theorem Grown.below {w w' : World} (h : Grown w w') : Below w.heap.size w w' := by
  obtain ⟨q, os, rfl⟩ := h
  refine ⟨rfl, rfl, rfl, by simp [Sort.grow, World.drewN], fun k hk => ?_⟩
  simp only [Sort.grow, World.drewN]
  rw [Array.getElem?_append_left hk]

theorem nan8_any (x : Int) (w : World) : Calls Try.prog 48 #[.int .u8 x] w fun e w' => e = .returned (.bool false) ∧ w' = w := by
  go_enter Try.func48, Try.ntmps48
  go_wp2
  go_ret
  exact ⟨rfl, rfl⟩
theorem nan32_any (x : Int) (w : World) : Calls Try.prog 47 #[.int .u32 x] w fun e w' => e = .returned (.bool false) ∧ w' = w := by
  go_enter Try.func47, Try.ntmps47
  go_wp2
  go_ret
  exact ⟨rfl, rfl⟩
theorem cmp8_any (x y : Int) (w : World) : Calls Try.prog 41 #[.int .u8 x, .int .u8 y] w fun e w' => e = .returned (.int .i64 (cmpF x y)) ∧ w' = w := by
  rcases cmpF_rng x y with ⟨h, h2⟩ | ⟨h, h2⟩ | ⟨h, h2⟩
  · rw [h]
    go_enter Try.func41, Try.ntmps41
    go_wp2_with (go_at_call 48; refine (nan8_any _ _).mono ?_; rintro e w' ⟨rfl, rfl⟩)
    go_ret
    exact ⟨rfl, rfl⟩
  · rw [h]
    clear h
    subst h2
    go_enter Try.func41, Try.ntmps41
    go_wp2_with (go_at_call 48; refine (nan8_any _ _).mono ?_; rintro e w' ⟨rfl, rfl⟩)
    go_ret
    exact ⟨rfl, rfl⟩
  · rw [h]
    have h3 : ¬ x < y := by omega
    clear h
    go_enter Try.func41, Try.ntmps41
    go_wp2_with (go_at_call 48; refine (nan8_any _ _).mono ?_; rintro e w' ⟨rfl, rfl⟩)
    go_ret
    exact ⟨rfl, rfl⟩
theorem cmp32_any (x y : Int) (w : World) : Calls Try.prog 40 #[.int .u32 x, .int .u32 y] w fun e w' => e = .returned (.int .i64 (cmpF x y)) ∧ w' = w := by
  rcases cmpF_rng x y with ⟨h, h2⟩ | ⟨h, h2⟩ | ⟨h, h2⟩
  · rw [h]
    go_enter Try.func40, Try.ntmps40
    go_wp2_with (go_at_call 47; refine (nan32_any _ _).mono ?_; rintro e w' ⟨rfl, rfl⟩)
    go_ret
    exact ⟨rfl, rfl⟩
  · rw [h]
    clear h
    subst h2
    go_enter Try.func40, Try.ntmps40
    go_wp2_with (go_at_call 47; refine (nan32_any _ _).mono ?_; rintro e w' ⟨rfl, rfl⟩)
    go_ret
    exact ⟨rfl, rfl⟩
  · rw [h]
    have h3 : ¬ x < y := by omega
    clear h
    go_enter Try.func40, Try.ntmps40
    go_wp2_with (go_at_call 47; refine (nan32_any _ _).mono ?_; rintro e w' ⟨rfl, rfl⟩)
    go_ret
    exact ⟨rfl, rfl⟩
/-- The first that is not 0, of many. -/
def orL : List Int → Int
  | [] => 0
  | x :: r => orF x (orL r)
theorem or_any (xs : List Int) (v : Value) (w : World) (h : Lies .i64 w v xs) (hn : xs.length ≤ 100) : Calls Try.prog 39 #[v] w fun e w' => e = .returned (.int .i64 (orL xs)) ∧ w' = w := by
  rcases h with ⟨rfl, ao, cap, rfl, _⟩ | ⟨hx, b, off, cap, rfl, hb, hl, hm, hc⟩
  · go_enter Try.func39, Try.ntmps39
    go_wp2
    refine wp_loop_rounds 1 ?_
    rw [rounds_succ]
    go_wp2
    go_ret
    exact ⟨rfl, rfl⟩
  · have HO : Hid (orL xs = orL (xs.drop 0)) := hide rfl
    have HC := hide hc
    clear hc
    go_enter Try.func39, Try.ntmps39
    go_wp2
    go_loop [8] (fun i => ∃ k : Nat, k ≤ xs.length ∧ i = .int .i64 k ∧ Hid (orL xs = orL (xs.drop k))) (fun i => xs.length - (intOf i).toNat)
    case atStart => exact ⟨0, Nat.zero_le _, rfl, HO⟩
    case round =>
      obtain ⟨k, hk, rfl, HK⟩ := hrel
      by_cases hlt : k < xs.length
      · have hcell := HC.out k hlt
        have HD : Hid (xs.drop k = xs.getD k 0 :: xs.drop (k + 1)) := hide (by
          rw [List.drop_eq_getElem_cons hlt]; simp [List.getD, hlt])
        generalize xs.getD k 0 = c at *
        by_cases h0 : c = 0
        · subst h0
          go_wp2
          go_round
          case rel => exact ⟨k + 1, by omega, by go_num, hide (by rw [HK.out, HD.out]; rfl)⟩
          case measure => simp [intOf]; omega
        · have h0' : (c != 0) = true := bne_iff_ne.2 h0
          go_wp2
          go_ret
          exact ⟨ret_int (by rw [HK.out, HD.out]; unfold orL orF; rw [if_neg h0]), rfl⟩
      · go_wp2
        go_ret
        exact ⟨ret_int (by rw [HK.out, List.drop_eq_nil_of_le (by omega)]; rfl), rfl⟩
end Go.Proofs.Ytgjdlclkibiffaa
