/-
  Walks of the program's functions on bytes: shortSize, copyWithRoom, Short, Long; and the reference's Same. Own work.
-/
import Derived.Test.YteehkjdolmmapaaNum
import Derived.Test.YteehkjdolmmapaaTexts
import Derived.Test.YteehkjdolmmapaaAppLies
import Derived.Handy
import Derived.OwnWalk
import Derived.Laws.BytesArg
import Derived.Maps.AppendAt
namespace Go.Proofs.Yteehkjdolmmapaa
open Go.RowKit

theorem or128 (m : Nat) : bits BinOp.or IntKind.u8 ((m : Int) % 256) 128 = ((m % 128 + 128 : Nat) : Int) := by
  rw [u8_or _ _ (by omega) (by omega) (by decide) (by decide)]
  have key : ∀ x : Fin 256, (x.val ||| 128) = x.val % 128 + 128 := by decide +kernel
  have := key ⟨((m : Int) % 256).toNat, by omega⟩
  simp only at this
  show ((((m : Int) % 256).toNat ||| 128 : Nat) : Int) = _
  rw [this]
  omega
theorem and127 (c : Int) (h0 : 0 ≤ c) (h1 : c < 256) : bits BinOp.and IntKind.u8 c 127 = (((c % 128).toNat : Nat) : Int) := by
  rw [u8_and _ _ h0 h1 (by decide) (by decide)]
  have := nat_mask7 c.toNat
  show ((c.toNat &&& 127 : Nat) : Int) = _
  rw [this]; omega
theorem val_fit (c : Int) (k : Nat) (hk : k < 10) (h9 : k = 9 → c ≤ 1) (h0 : 0 ≤ c) : (c % 128).toNat * 2 ^ (7 * k) < 18446744073709551616 := by
  by_cases h : k = 9
  · subst h
    have := h9 rfl
    have : (c % 128).toNat ≤ 1 := by omega
    have : (c % 128).toNat * 2 ^ (7 * 9) ≤ 1 * 2 ^ (7 * 9) := Nat.mul_le_mul_right _ this
    exact Nat.lt_of_le_of_lt this (by decide)
  · have h1 : (c % 128).toNat ≤ 127 := by omega
    have h2 : 2 ^ (7 * k) ≤ 2 ^ 56 := Nat.pow_le_pow_right (by decide) (by omega)
    have := Nat.mul_le_mul h1 h2
    exact Nat.lt_of_le_of_lt this (by decide)
theorem val_step (xs : List Int) (k : Nat) (hk : k < xs.length) (c : Int) (hc : xs.getD k 0 = c) (h0 : 0 ≤ c) (h1 : c < 256) (hf : (c % 128).toNat * 2 ^ (7 * k) < 18446744073709551616) (hv : valS (xs.take k) < 18446744073709551616) :
    bits BinOp.or IntKind.u64 ((valS (xs.take k) : Nat) : Int) (IntKind.u64.wrap (IntKind.u64.wrap (bits BinOp.and IntKind.u8 c 127) * 2 ^ (7 * k))) = ((valS (xs.take (k + 1)) : Nat) : Int) := by
  have hl : (xs.take k).length = k := by simp; omega
  have hlt := valS_lt (xs.take k)
  rw [hl] at hlt
  rw [and127 c h0 h1]
  have e1 : IntKind.u64.wrap (((c % 128).toNat : Nat) : Int) = (((c % 128).toNat : Nat) : Int) := by rw [IntKind.wrap_u64]; omega
  rw [e1]
  have e2 : IntKind.u64.wrap ((((c % 128).toNat : Nat) : Int) * 2 ^ (7 * k)) = (((c % 128).toNat * 2 ^ (7 * k) : Nat) : Int) := by
    rw [IntKind.wrap_u64]
    have : ((((c % 128).toNat : Nat) : Int) * 2 ^ (7 * k)) = (((c % 128).toNat * 2 ^ (7 * k) : Nat) : Int) := by simp
    rw [this]; omega
  rw [e2, u64_or_nat _ _ hv hf, Nat.or_comm, nat_join (7 * k) _ _ (Nat.mul_mod_left _ _) hlt, take_snoc xs k hk, valS_snoc, hl, hc, Nat.add_comm]

theorem convert_empty (ao : Option Addr) (cap : Nat) (w : World) : (convert 35 9 (.slice ao 0 cap)).run Try.prog w = .ok (.string (strOfNums [])) w := by
  cases ao with
  | none => exact run_convert_bytes_nil (P := Try.prog) w 35 5 Try.underlying35 Try.underlying5 0 cap 9 Try.underlying9
  | some ad =>
    have hl : (loadCells ad 0).run Try.prog w = .ok (([] : List Int).map (Value.int .u8)).toArray w := by
      have := run_loadCells_list (P := Try.prog) w ad [] (fun j v hj => by simp at hj)
      simpa using this
    rw [run_convert_bytes_string w 35 9 5 _ 0 cap Try.underlying35 Try.underlying5 Try.underlying9, run_bytesToString w _ 0 cap [] hl]
    rfl
theorem Lies.convert {w : World} {v : Value} {xs : List Int} (h : Lies .u8 w v xs) : (convert 35 9 v).run Try.prog w = .ok (.string (strOfNums xs)) w := by
  rcases h with ⟨rfl, ao, cap, rfl, _⟩ | ⟨_, b, off, cap, rfl, _, _, _, hc⟩
  · exact convert_empty ao cap w
  · exact run_convert_bytes_arg w 35 5 Try.underlying35 Try.underlying5 b off xs.length cap xs rfl hc 9 Try.underlying9
theorem same_any (v1 v2 : Value) (xs : List Int) (w : World) (h1 : Lies .u8 w v1 xs) (h2 : Lies .u8 w v2 xs) :
    Calls Try.prog 26 #[v1, v2] w fun e w' => e = .returned (.bool true) ∧ w' = w := by
  have c1 := h1.convert
  have c2 := h2.convert
  clear h1 h2
  generalize strOfNums xs = s at *
  go_enter Try.func26, Try.ntmps26
  go_wp2
  go_ret
  exact ⟨ret_bool (by simp), rfl⟩

/-- What Long answers. -/
def longS (xs : List Int) : Int × Int × Int :=
  if sizeS xs = 0 then (0, 0, 4)
  else if 1 < sizeS xs ∧ xs.getD (sizeS xs - 1) 0 = 0 then (0, 0, 3)
  else if 10 < sizeS xs ∨ sizeS xs = 10 ∧ 1 < xs.getD (sizeS xs - 1) 0 then (0, 0, 3)
  else (((valS (xs.take (sizeS xs)) : Nat) : Int), (sizeS xs : Int), 0)

end Go.Proofs.Yteehkjdolmmapaa
