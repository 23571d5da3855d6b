/-
  append(own, x...) at a step of a region that draws, where x lies there as bytes, whatever its form. Own work.
-/
import Derived.Test.YtjjmcaamgoffiaaAppLies
namespace Go.Proofs.Ytjjmcaamgoffiaa
open Go.RowKit

theorem step_lies {ops : Array Oper} {o : Oper} {a : Act} {K : Act → World → Prop} {Q : Exit → Act → World → Prop} {E : Prop} (w : World) (hgd : o.guard = none) (s x : Operand)
    (ho : o.op = .call { callee := .builtin .append, args := #[s, x], argTypes := #[29, 29] })
    (base : Nat) (v vx : Value) (n : Nat) (ys xs : List Int) (hs : a.eval s = v) (hown : w.ownsRow base 5 1 v n (ys.map (Value.int .u8))) (hx : a.eval x = vx) (hL : Lies .u8 w vx xs)
    (hb : n + xs.length ≤ 200000000000000) (hbase : base ≤ w.heap.size)
    (h : ∀ v' w', w'.ownsRow base 5 1 v' (n + xs.length) ((ys ++ xs).map (Value.int .u8)) → w.grownBy w' v.ownBlock → K (a.put o.dst v') w') :
    if Region.wanted o (yielded ops a.tmps) = true then Oper.wp Try.prog o a w K Q else E := by
  have hw : Region.wanted o (yielded ops a.tmps) = true := by simp [Region.wanted, hgd]
  rw [if_pos hw]
  obtain ⟨i0, hi, hz0, hz1, hz2⟩ := info_parts info5
  rcases hL with ⟨rfl, ao, cap, rfl, h0⟩ | ⟨_, b, off, cap, rfl, _, _, _, hc⟩
  · cases ao with
    | none =>
      obtain rfl := h0 rfl
      have hk := h v w (by simpa using hown) (World.grownBy.refl _ _)
      have hrun := run_append_owned_none (P := Try.prog) (w := w) base 29 o.type 5 i0 1 Try.underlying29 hi v n _ hown
      unfold Oper.wp
      simp [execOp, ho, resolve, invoke, builtin, hs, hx, hrun, Result.andThen]
      exact hk
    | some ad =>
      exact wp_append_own_wide w s x 29 ho base 5 i0 (.int .u8 0) 1 1 Try.underlying29 hi hz0 hz1 hz2 rfl (by decide) v n _ hs hown ad 0 cap [] hx rfl (fun j u hj => by simp at hj) (fun u hu => by simp at hu)
        (by unfold maxLen; simp at hb; omega) (by simp at hb; omega) hbase (fun v' w' h1 h2 _ => h v' w' (by simpa using h1) h2)
  · exact wp_append_own_wide w s x 29 ho base 5 i0 (.int .u8 0) 1 1 Try.underlying29 hi hz0 hz1 hz2 rfl (by decide) v n _ hs hown ⟨b, off, none⟩ xs.length cap (xs.map (Value.int .u8)) hx (by simp)
        (fun j u hu => by
          have hj : j < xs.length := by
            have := (List.getElem?_eq_some_iff.1 hu).1
            simpa using this
          rw [Addr.add_lit, hc j hj]
          simp [hj] at hu ⊢
          exact hu) (ints_oneCell _ _)
        (by unfold maxLen; omega) (by omega) hbase (fun v' w' h1 h2 _ => h v' w' (by simpa using h1) h2)
end Go.Proofs.Ytjjmcaamgoffiaa
