/-
  Own texts put together: RvSeq. Own work.
-/
import Derived.Test.YtencmgepffdodaaGreatG21
namespace Go.Proofs.YtencmgepffdodaaGreat
section
open Go.RowKit

section
variable {P : Program} {ops : Array Oper} {Q : Exit → Act → World → Prop}
/-- Each of the operations s .. has a temporary of its own. -/
def seqOk (ops : Array Oper) (s n z : Nat) : Bool :=
  decide (s + n ≤ ops.size) && (List.range' s n).all fun i => ((ops[i]?).bind (·.dst)) == some (dstOf ops i) && decide (dstOf ops i < z) && (List.range' s n).all fun j => i == j || dstOf ops i != dstOf ops j
def offS (ops : Array Oper) (s n t : Nat) : Bool := (List.range' s n).all fun j => dstOf ops j != t
theorem seqOk_spec {s n z : Nat} (h : seqOk ops s n z = true) : s + n ≤ ops.size ∧ (∀ i, s ≤ i → i < s + n → ((ops[i]?).bind (·.dst)) = some (dstOf ops i) ∧ dstOf ops i < z) ∧ ∀ i j, s ≤ i → i < s + n → s ≤ j → j < s + n → dstOf ops i = dstOf ops j → i = j := by
  unfold seqOk at h
  simp only [Bool.and_eq_true, decide_eq_true_eq, List.all_eq_true, List.mem_range', beq_iff_eq, Bool.or_eq_true, bne_iff_ne] at h
  obtain ⟨h0, h1⟩ := h
  refine ⟨h0, fun i hi1 hi2 => ?_, fun i j hi1 hi2 hj1 hj2 e => ?_⟩
  · have := h1 i ⟨i - s, by omega, by omega⟩
    exact ⟨this.1.1, this.1.2⟩
  · have := (h1 i ⟨i - s, by omega, by omega⟩).2 j ⟨j - s, by omega, by omega⟩
    rcases this with e2 | e2
    · exact e2
    · exact absurd e e2
theorem putAll_app (a : Act) : ∀ (l m : List (Nat × Value)), putAll a (l ++ m) = putAll (putAll a l) m
  | [], _ => rfl
  | (d, v) :: l, m => by
    show putAll (a.put (some d) v) (l ++ m) = putAll (putAll (a.put (some d) v) l) m
    exact putAll_app _ l m
theorem seq_vals (a0 : Act) (w : World) (s n : Nat) (ps : List (Nat × Value)) (hok : seqOk ops s n a0.tmps.size = true) (hds : ps.map (·.1) = (List.range' s n).map (dstOf ops))
    (hstep : ∀ i o, ops[i]? = some o → s ≤ i → i < s + n → ∀ a : Act, (∀ t, offS ops s n t = true → a.tmps.getD t undef = a0.tmps.getD t undef) → (∀ j, s ≤ j → j < i → a.tmps.getD (dstOf ops j) undef = pv ps (j - s)) → wpOp P ops Q i (fun a' w' => w' = w ∧ a' = a.put o.dst (pv ps (i - s))) a w)
    (hend : wpList P ops Q (ops.toList.drop (s + n)) (putAll a0 ps) w) : wpList P ops Q (ops.toList.drop s) a0 w := by
  obtain ⟨k0, k1, k2⟩ := seqOk_spec hok
  have hlen : ps.length = n := by have := congrArg List.length hds; simpa using this
  have hp : ∀ j, j < n → ps[j]? = some (dstOf ops (s + j), pv ps j) := by
    intro j hj
    have h1 : j < ps.length := by omega
    have h2 : (ps.map (·.1))[j]? = some (dstOf ops (s + j)) := by rw [hds]; simp [hj]
    rw [List.getElem?_map, List.getElem?_eq_getElem h1] at h2
    simp only [Option.map_some, Option.some.injEq] at h2
    rw [List.getElem?_eq_getElem h1, ← h2]
    have h3 : pv ps j = (ps[j]).2 := by simp [pv, h1]
    rw [h3]
  have key : ∀ m, m ≤ n → wpList P ops Q (ops.toList.drop (s + (n - m))) (putAll a0 (ps.take (n - m))) w := by
    intro m
    induction m with
    | zero => intro _; rw [Nat.sub_zero, ← hlen, List.take_length, hlen]; exact hend
    | succ m ih =>
      intro hm
      have ih := ih (by omega)
      obtain ⟨k, hk⟩ : ∃ k, k = n - (m + 1) := ⟨_, rfl⟩
      have hk2 : n - m = k + 1 := by omega
      rw [hk2] at ih
      rw [← hk]
      have hi : s + k < ops.size := by omega
      have ho : ops[s + k]? = some ops[s + k] := by simp [hi]
      have hdrop : ops.toList.drop (s + k) = ops[s + k] :: ops.toList.drop (s + k + 1) := by
        rw [List.drop_eq_getElem_cons (by simpa using hi)]
        simp
      have hdst : ops[s + k].dst = some (dstOf ops (s + k)) := by have := (k1 (s + k) (by omega) (by omega)).1; rw [ho] at this; simpa using this
      have htake : ps.take (k + 1) = ps.take k ++ [(dstOf ops (s + k), pv ps k)] := by
        have h1 : k < ps.length := by omega
        rw [List.take_succ_eq_append_getElem h1]
        have := hp k (by omega)
        rw [List.getElem?_eq_getElem h1] at this
        rw [Option.some.inj this]
      have hoff : ∀ t, offS ops s n t = true → (putAll a0 (ps.take k)).tmps.getD t undef = a0.tmps.getD t undef := by
        intro t ht
        refine putAll_off t _ a0 (fun x hx e => ?_)
        have hm2 : x.1 ∈ ps.map (·.1) := List.mem_map_of_mem (List.mem_of_mem_take hx)
        rw [hds, List.mem_map] at hm2
        obtain ⟨j, hj, hj2⟩ := hm2
        unfold offS at ht
        rw [List.all_eq_true] at ht
        have := ht j hj
        rw [hj2, e] at this
        simp at this
      have hat : ∀ j, s ≤ j → j < s + k → (putAll a0 (ps.take k)).tmps.getD (dstOf ops j) undef = pv ps (j - s) := by
        intro j hj1 hj2
        refine putAll_at _ _ _ a0 (k1 j hj1 (by omega)).2 ?_ ?_
        · rw [List.map_take, hds]
          refine List.Nodup.sublist (List.take_sublist _ _) ?_
          refine List.pairwise_map.2 ((List.nodup_range' (s := s) (n := n)).imp_of_mem (fun {i j} hi hj hne e => ?_))
          rw [List.mem_range'] at hi hj
          obtain ⟨i', hi', rfl⟩ := hi
          obtain ⟨j', hj', rfl⟩ := hj
          exact hne (k2 _ _ (by omega) (by omega) (by omega) (by omega) e)
        · have := hp (j - s) (by omega)
          rw [show s + (j - s) = j by omega] at this
          have h2 : (ps.take k)[j - s]? = some (dstOf ops j, pv ps (j - s)) := by rw [List.getElem?_take, if_pos (by omega)]; exact this
          exact List.mem_of_getElem? h2
      have hs := hstep (s + k) _ ho (by omega) (by omega) (putAll a0 (ps.take k)) hoff (fun j h1 h2 => hat j h1 h2)
      rw [Nat.add_sub_cancel_left] at hs
      have hnext : ∀ a' w', (w' = w ∧ a' = (putAll a0 (ps.take k)).put ops[s + k].dst (pv ps k)) → wpList P ops Q (ops.toList.drop (s + k + 1)) a' w' := by
        rintro a' w' ⟨rfl, rfl⟩
        have ih2 := ih
        rw [htake, putAll_app] at ih2
        rw [hdst]
        exact ih2
      rw [hdrop]
      unfold wpOp at hs
      rw [ho] at hs
      unfold wpList
      simp only at hs
      split at hs
      · rename_i hw
        rw [if_pos hw]
        rcases hs with hs | hs
        · exact .inl (Oper.wp_mono hnext hs)
        · exact .inr hs
      · rename_i hw
        rw [if_neg hw]
        exact hnext _ _ ⟨rfl, hs.2⟩
  have := key n (Nat.le_refl _)
  rw [Nat.sub_self, List.take_zero, Nat.add_zero] at this
  exact this
/-- What comes behind, under a name. -/
theorem wp_seq_gen {x y : Code} {a : Act} {w : World} (h : ∀ K : Act → World → Prop, K = y.wp P Q → x.wp P (Exit.then K Q) a w) : (Code.seq x y).wp P Q a w := wp_seq (h _ rfl)
theorem q_pure {s i : Nat} {o : Oper} {a : Act} {w : World} {v : Value} {ps : List (Nat × Value)} (hi : ops[i]? = some o) (hw : Region.wanted o (yielded ops a.tmps) = true)
    (hv : pv ps (i - s) = v) (hr : (execOp a.eval o).run P w = .ok (.value v) w) : wpOp P ops Q i (fun a' w' => w' = w ∧ a' = a.put o.dst (pv ps (i - s))) a w :=
  each_value hi hw hr ⟨rfl, by rw [hv]⟩
end
end
end Go.Proofs.YtencmgepffdodaaGreat
