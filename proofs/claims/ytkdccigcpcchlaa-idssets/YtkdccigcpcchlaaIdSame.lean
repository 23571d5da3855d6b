/-
  The reference's Same, of two rows that hold the same names. Own work.
-/
import Derived.Test.YtkdccigcpcchlaaIdRSet
namespace Go.Proofs.Ytkdccigcpcchlaa
open Go.RowKit Go.Maps

theorem row_shape {w : World} {base : Nat} {v : Value} {L : List TxP} (h : w.ownsRow base 35 3 v L.length (rowOf L)) : ∃ a c, v = .slice a L.length c := by
  obtain ⟨_, ⟨rfl, h2⟩ | ⟨g, cap, cur, rfl, _⟩⟩ := h
  · exact ⟨none, 0, by rw [h2]⟩
  · exact ⟨_, _, rfl⟩
theorem row_drewN {w : World} {base n k : Nat} {e : TypeId} {v : Value} {xs : List Value} (h : w.ownsRow base e 3 v n xs) : (w.drewN k).ownsRow base e 3 v n xs := h
set_option maxRecDepth 100000 in
set_option maxHeartbeats 1600000 in
theorem same5_any (b1 b2 : Nat) (v1 v2 : Value) (L : List TxP) (w : World) (h1 : w.ownsRow b1 35 3 v1 L.length (rowOf L)) (h2 : w.ownsRow b2 35 3 v2 L.length (rowOf L)) (hl : L.length ≤ 1000) :
    Calls Try.prog 50 #[v1, v2] w fun e w' => e = .returned (.bool true) ∧ Below w.heap.size w w' := by
  have H1 := hide h1
  have H2 := hide h2
  obtain ⟨a1, c1, e1⟩ := row_shape h1
  obtain ⟨a2, c2, e2⟩ := row_shape h2
  subst e1
  subst e2
  clear h1 h2
  go_enter Try.func50, Try.ntmps50
  go_wp2_with fail
  go_loopw [5] (fun i wr => ∃ k n : Nat, k ≤ L.length ∧ i = .int .i64 k ∧ wr = w.drewN n) (fun i _ => L.length - (intOf i).toNat)
  case atStart => exact ⟨0, 0, by omega, rfl, rfl⟩
  case round =>
    obtain ⟨k, n, hk, rfl, rfl⟩ := hrel
    by_cases hlt : k < L.length
    · obtain ⟨g1, cg1, hv1, hg1, x0, x1, x2⟩ := row_cells H1.out k hlt
      obtain ⟨g2, cg2, hv2, hg2, y0, y1, y2⟩ := row_cells H2.out k hlt
      cases hv1
      cases hv2
      obtain ⟨ua, ub, uc, hu⟩ : ∃ a b c, L[k] = (a, b, c) := ⟨_, _, _, rfl⟩
      rw [hu] at x0 x1 x2 y0 y1 y2
      dsimp only at x0 x1 x2 y0 y1 y2
      have hne : ∀ w, (binOp .neq 35 (.agg #[.int .u8 ua, .int .u32 ub, .int .u32 uc]) (.agg #[.int .u8 ua, .int .u32 ub, .int .u32 uc])).run Try.prog w = .ok (.bool false) w := fun w => by rw [neq_tx]; simp
      have d1 : decide ((k : Int) < (L.length : Int)) = true := by simp; omega
      clear hu
      go_wp2_with fail
      go_quiet (fail)
      go_wp2_with fail
      go_roundw
      case rel => exact ⟨k + 1, _, hlt, by simp, rfl⟩
      case measure => simp [intOf]; omega
    · have d1 : decide ((k : Int) < (L.length : Int)) = false := by simp; omega
      go_wp2_with fail
      go_ret
      exact ⟨rfl, below_drewN (Below.refl _ _)⟩
end Go.Proofs.Ytkdccigcpcchlaa
