/-
  A slice of slices of bytes, all of them one's own; append to it. Own work.
-/
import Derived.Test.YtgchgbbldhpgeabAppLies
import Derived.Test.YtgchgbbldhpgeabFrRef
namespace Go.Proofs.Ytgchgbbldhpgeab
open Go.RowKit

theorem owns_below {w w' : World} {b e size n : Nat} {v : Value} {xs : List Value} (h : w.ownsRow b e size v n xs) (hB : Below w.heap.size w w') : w'.ownsRow b e size v n xs := by
  refine ⟨h.1, ?_⟩
  rcases h.2 with hn | ⟨g, cap, cur, rfl, hb, hgg, r⟩
  · exact .inl hn
  · exact .inr ⟨g, cap, cur, rfl, hb, by rw [hB.block g (h.lt g rfl).2]; exact hgg, r⟩
/-- Rows of unlike types lie in unlike blocks. -/
theorem owns_apart {w : World} {b b' e e' s s' n n' : Nat} {v v' : Value} {xs xs' : List Value} (h : w.ownsRow b e s v n xs) (h' : w.ownsRow b' e' s' v' n' xs') (he : e ≠ e') : v.ownBlock = none ∨ v.ownBlock ≠ v'.ownBlock := by
  rcases h.2 with ⟨rfl, _⟩ | ⟨g, cap, cur, rfl, _, hg, _⟩
  · exact .inl rfl
  · refine .inr fun e => ?_
    rcases h'.2 with ⟨rfl, _⟩ | ⟨g', cap', cur', rfl, _, hg', _⟩
    · simp [Value.ownBlock] at e
    · simp [Value.ownBlock] at e
      subst e
      rw [hg] at hg'
      simp at hg'
      exact he hg'.2
def Rows (w : World) (base : Nat) (v : Value) (xss : List (List Int)) : Prop :=
  ∃ vs : List Value, vs.length = xss.length ∧ w.ownsRow base 23 1 v vs.length vs ∧
    ∀ t, t < xss.length → ∃ u, vs[t]? = some u ∧ w.ownsRow base 5 1 u (xss.getD t []).length ((xss.getD t []).map (Value.int .u8))
theorem Rows.nil (w : World) (base : Nat) : Rows w base (.slice none 0 0) [] := ⟨[], rfl, World.ownsRow_nil _ _ _ _, fun _ ht => absurd ht (Nat.not_lt_zero _)⟩
theorem Rows.below {w w' : World} {base : Nat} {v : Value} {xss : List (List Int)} (h : Rows w base v xss) (hB : Below w.heap.size w w') : Rows w' base v xss := by
  obtain ⟨vs, hl, ho, he⟩ := h
  exact ⟨vs, hl, owns_below ho hB, fun t ht => let ⟨u, h1, h2⟩ := he t ht; ⟨u, h1, owns_below h2 hB⟩⟩
theorem Rows.base {w : World} {b b' : Nat} {v : Value} {xss : List (List Int)} (h : Rows w b v xss) (hb : b' ≤ b) : Rows w b' v xss := by
  obtain ⟨vs, hl, ho, he⟩ := h
  exact ⟨vs, hl, owns_base ho hb, fun t ht => let ⟨u, h1, h2⟩ := he t ht; ⟨u, h1, owns_base h2 hb⟩⟩
theorem Rows.shape {w : World} {b : Nat} {v : Value} {xss : List (List Int)} (h : Rows w b v xss) : ∃ (ao : Option Addr) (cap : Nat), v = .slice ao xss.length cap := by
  obtain ⟨vs, hl, ho, he⟩ := h
  rcases ho.2 with ⟨rfl, hn⟩ | ⟨g, cap, cur, rfl, _⟩
  · exact ⟨none, 0, by rw [← hl, hn]⟩
  · exact ⟨_, cap, by rw [hl]⟩
theorem Rows.lt {w : World} {b : Nat} {v : Value} {xss : List (List Int)} (h : Rows w b v xss) : ∀ k, v.ownBlock = some k → b ≤ k ∧ k < w.heap.size := by
  obtain ⟨vs, hl, ho, he⟩ := h
  exact ho.lt
theorem info22 : (Try.prog.info? 23).map (fun i => (i.zero, i.size, i.bytes)) = some (some (.slice none 0 0), 1, 24) := by kernel_rfl
theorem append_row {ops : Array Oper} {rest : List Oper} {o : Oper} {a : Act} {Q : Exit → Act → World → Prop} (w : World) (hgd : o.guard = none) (s x : Operand)
    (ho : o.op = .call { callee := .builtin .append, args := #[s, x], argTypes := #[22, 22] })
    (base : Nat) (v : Value) (xss : List (List Int)) (hs : a.eval s = v) (hR : Rows w base v xss) (g : Nat) (u : Value) (ys : List Int) (hx : a.eval x = .slice (some ⟨g, 0, none⟩) 1 1) (hcell : w.cell? ⟨g, 0, none⟩ = some u)
    (hu : w.ownsRow base 5 1 u ys.length (ys.map (Value.int .u8))) (hb : xss.length ≤ 1000000000) (hbase : base ≤ w.heap.size)
    (h : ∀ v' w', Rows w' base v' (xss ++ [ys]) → w.grownBy w' v.ownBlock → wpList Try.prog ops Q rest (a.put o.dst v') w') :
    wpList Try.prog ops Q (o :: rest) a w := by
  obtain ⟨i0, hi, hz0, hz1, hz2⟩ := info_parts info22
  obtain ⟨vs, hl, hown, he⟩ := hR
  obtain ⟨au, cu, hsh⟩ := (Lies.of_own hu).shape
  refine wpList_append_own_wide w hgd s x 22 ho base 23 i0 (.slice none 0 0) 1 24 Try.underlying22 hi hz0 hz1 hz2 rfl (by decide) v vs.length vs hs hown ⟨g, 0, none⟩ 1 1 [u] hx rfl
    (fun j y hj => ?_) (fun y hy => ?_) (by unfold maxLen; omega) (by omega) hbase (fun v' w' h1 h2 _ => ?_)
  · cases j with
    | zero => simp at hj; subst hj; rw [Addr.add_lit]; exact hcell
    | succ j => simp at hj
  · simp at hy; subst hy; rw [hsh]; rfl
  · refine h v' w' ⟨vs ++ [u], by simp [hl], by simpa using h1, fun t ht => ?_⟩ h2
    by_cases hlt : t < xss.length
    · obtain ⟨y, hy1, hy2⟩ := he t hlt
      refine ⟨y, ?_, ?_⟩
      · rw [List.getElem?_append_left (by omega)]; exact hy1
      · have : (xss ++ [ys]).getD t [] = xss.getD t [] := by simp [List.getD, List.getElem?_append_left hlt]
        rw [this]
        exact hy2.kept h2 (owns_apart hy2 hown (by decide))
    · obtain rfl : t = xss.length := by simp at ht; omega
      refine ⟨u, ?_, ?_⟩
      · rw [List.getElem?_append_right (by omega), hl]; simp
      · have : (xss ++ [ys]).getD xss.length [] = ys := by simp [List.getD]
        rw [this]
        exact hu.kept h2 (owns_apart hu hown (by decide))
end Go.Proofs.Ytgchgbbldhpgeab
