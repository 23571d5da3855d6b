/-
  Own texts put together: SgDuo, IdRSet, IdSame. Own work.
-/
import Derived.Test.YtodomdmmffooaaaG23
import Derived.Test.YtodomdmmffooaaaG10
import Derived.Test.YtodomdmmffooaaaG13
namespace Go.Proofs.Ytodomdmmffooaaa
section
open Go.RowKit Classical

section
variable {D : World → Nat → (Nat → Prop) → List OnP → Prop}
structure Duo14 (D : World → Nat → (Nat → Prop) → List OnP → Prop) (w : World) (q r : Nat) (F : Nat → Prop) (v : Value) (vs : List OnV) (l : List OnP) (W : World) : Prop where
  dd : D W q F l
  rr : RSg W r v vs
  ff : ∀ k, F k → w.heap.size ≤ k
  uu : ∀ k, usesS r v vs k → w.heap.size ≤ k
  ap : ∀ k, usesS r v vs k → ¬ F k
  B : Below w.heap.size w W
theorem Duo14.below (H : StageDo D) {w W W' : World} {q r : Nat} {F : Nat → Prop} {v : Value} {vs : List OnV} {l : List OnP} (h : Duo14 D w q r F v vs l W) (hB : Below W.heap.size W W') : Duo14 D w q r F v vs l W' :=
  ⟨H.below h.dd hB, h.rr.below hB, h.ff, h.uu, h.ap, h.B.trans (hB.mono h.B.size)⟩
theorem Duo14.keep (H : StageDo D) {S : Nat → Prop} {w W W' : World} {q r : Nat} {F : Nat → Prop} {v : Value} {vs : List OnV} {l : List OnP} (h : Duo14 D w q r F v vs l W) (hk : KeepBut S W W') (h1 : ∀ k, F k → ¬ S k) (h2 : ∀ k, usesS r v vs k → ¬ S k) (h3 : ∀ k, S k → w.heap.size ≤ k) : Duo14 D w q r F v vs l W' :=
  ⟨H.keep h.dd hk h1, h.rr.keep hk h2, h.ff, h.uu, h.ap, h.B.trans (hk.below h.B.size h3)⟩
theorem Duo14.took {w W W' : World} {q r : Nat} {F F' : Nat → Prop} {v : Value} {vs : List OnV} {l l' : List OnP} (h : Duo14 D w q r F v vs l W) (h1 : D W' q F' l') (hk : KeepBut F W W') (hu : ∀ k, F' k → F k ∨ W.heap.size ≤ k) : Duo14 D w q r F' v vs l' W' := by
  refine ⟨h1, h.rr.keep hk h.ap, fun k hk' => ?_, h.uu, fun k hu' hf => ?_, h.B.trans (hk.below h.B.size h.ff)⟩
  · rcases hu k hk' with e | e
    · exact h.ff k e
    · exact Nat.le_trans h.B.size e
  · rcases hu k hf with e | e
    · exact h.ap k hu' e
    · have := h.rr.lt k hu'; omega
theorem Duo14.ref (H : StageDo D) {w W W' : World} {q r : Nat} {F : Nat → Prop} {v : Value} {vs : List OnV} {l s' : List OnP} (h : Duo14 D w q r F v vs l W) (h2 : RSid W W' r v vs s') : ∃ v' vs', Duo14 D w q r F v' vs' l W' ∧ osV vs' = s' ∧ KeepBut (fun k => k = r) W W' ∧ ∀ k, usesS r v' vs' k → usesS r v vs k ∨ W.heap.size ≤ k := by
  obtain ⟨v', vs', h1, he, hk, hu⟩ := h2
  have hF : ∀ k, F k → ¬ k = r := fun k hf e => h.ap r (.inl rfl) (e ▸ hf)
  have hus : ∀ k, usesS r v' vs' k → usesS r v vs k ∨ W.heap.size ≤ k := by
    rintro k (e | e)
    · exact .inl (.inl e)
    · exact (hu k e).imp .inr id
  refine ⟨v', vs', ⟨H.keep h.dd hk hF, h1, h.ff, fun k hk' => ?_, fun k hu' hf => ?_, h.B.trans (hk.below h.B.size (fun k e => by rw [e]; exact h.uu r (.inl rfl)))⟩, he, hk, hus⟩
  · rcases hus k hk' with e | e
    · exact h.uu k e
    · exact Nat.le_trans h.B.size e
  · rcases hus k hu' with e | e
    · exact h.ap k e hf
    · have := H.lt h.dd k hf; omega
/-- A new one of the reference's. -/
theorem duo_new14 (H : StageDo D) {w W : World} {q : Nat} {F : Nat → Prop} (h : Since14 D w q F [] W) : Duo14 D w q W.heap.size F (.slice none 0 0) [] [] (W.alloc (.cells #[.slice none 0 0] 27)) := by
  have hA := alloc_below14 W (.cells #[.slice none 0 0] 27)
  refine ⟨H.below h.d hA, ⟨box_new W _ _, RSrc.nil _, (fun x hx => by cases hx), (fun k hk => ?_), sgall_nil, (fun x hx => by cases hx)⟩, h.new, ?_, ?_, h.b.trans (hA.mono h.b.size)⟩
  · rcases hk with e | ⟨x, hx, _⟩
    · cases e
    · cases hx
  · rintro k (rfl | e | ⟨x, hx, _⟩)
    · exact h.b.size
    · cases e
    · cases hx
  · rintro k (rfl | e | ⟨x, hx, _⟩) hf
    · have := H.lt h.d _ hf; omega
    · cases e
    · cases hx
/-- .. and a variable that neither uses. -/
structure Rn14 (D : World → Nat → (Nat → Prop) → List OnP → Prop) (w : World) (q r : Nat) (F : Nat → Prop) (v : Value) (vs : List OnV) (l : List OnP) (bx : Nat) (cs : Array Value) (t : TypeId) (W : World) : Prop where
  du : Duo14 D w q r F v vs l W
  box : Box W bx cs t
  nf : ¬ F bx
  nu : ¬ usesS r v vs bx
variable {w W W' : World} {q r bx : Nat} {F F' : Nat → Prop} {v : Value} {vs : List OnV} {l l' : List OnP} {cs : Array Value} {t : TypeId}
theorem Rn14.below (H : StageDo D) (h : Rn14 D w q r F v vs l bx cs t W) (hB : Below W.heap.size W W') : Rn14 D w q r F v vs l bx cs t W' := ⟨h.du.below H hB, h.box.belowI hB, h.nf, h.nu⟩
theorem Rn14.took (h : Rn14 D w q r F v vs l bx cs t W) (h1 : D W' q F' l') (hk : KeepBut F W W') (hu : ∀ k, F' k → F k ∨ W.heap.size ≤ k) : Rn14 D w q r F' v vs l' bx cs t W' :=
  ⟨h.du.took h1 hk hu, h.box.keep hk h.nf, fun hf => (hu _ hf).elim h.nf (fun h2 => by have := h.box.lt; omega), h.nu⟩
theorem Rn14.prog (h : Rn14 D w q r F v vs l bx cs t W) (hd : SDid D W W' q F l') : ∃ F', Rn14 D w q r F' v vs l' bx cs t W' := by
  obtain ⟨F', h1, hk, hu⟩ := hd
  exact ⟨F', h.took h1 hk hu⟩
theorem Rn14.ref (H : StageDo D) {s' : List OnP} (h : Rn14 D w q r F v vs l bx cs t W) (h2 : RSid W W' r v vs s') : ∃ v' vs', Rn14 D w q r F v' vs' l bx cs t W' ∧ osV vs' = s' ∧ KeepBut (fun k => k = r) W W' := by
  obtain ⟨v', vs', h1, he, hk, hu⟩ := h.du.ref H h2
  exact ⟨v', vs', ⟨h1, h.box.keep hk (fun e => h.nu (.inl e)), h.nf, fun hf => (hu _ hf).elim h.nu (fun h2 => by have := h.box.lt; omega)⟩, he, hk⟩
/-- A new variable is written. -/
theorem Duo14.var (H : StageDo D) {cs' : Array Value} (h : Duo14 D w q r F v vs l W) (hk : KeepBut (fun k => k = W.heap.size) (W.alloc (.cells cs t)) W') (hb : Box W' W.heap.size cs' t) : Rn14 D w q r F v vs l W.heap.size cs' t W' := by
  have hA := alloc_below14 W (.cells cs t)
  have hnf : ¬ F W.heap.size := fun hf => Nat.lt_irrefl _ (H.lt h.dd _ hf)
  have hnu : ¬ usesS r v vs W.heap.size := fun hf => Nat.lt_irrefl _ (h.rr.lt _ hf)
  exact ⟨(h.below H hA).keep H hk (fun k hf e => hnf (by rw [← e]; exact hf)) (fun k hf e => hnu (by rw [← e]; exact hf)) (fun k e => by rw [e]; exact h.B.size), hb, hnf, hnu⟩
end
end
section
open Go.RowKit Go.Maps

/-- The cells of the name at place k. -/
theorem row_cells {w : World} {base : Nat} {v : Value} {L : List TxP} (h : w.ownsRow base 33 3 v L.length (rowOf L)) (k : Nat) (hk : k < L.length) :
    ∃ g c, v = .slice (some ⟨g, 0, none⟩) L.length c ∧ g < w.heap.size ∧ w.cell? ⟨g, k * 3, none⟩ = some (.int .u8 L[k].1) ∧ w.cell? ⟨g, k * 3 + 1, none⟩ = some (.int .u32 L[k].2.1) ∧ w.cell? ⟨g, k * 3 + 2, none⟩ = some (.int .u32 L[k].2.2) := by
  obtain ⟨h1, ⟨rfl, h2⟩ | ⟨g, cap, cur, rfl, hb, hc, r1, r2, r3, r4⟩⟩ := h
  · omega
  · have key : ∀ j, j < 3 → w.cell? ⟨g, k * 3 + j, none⟩ = (txCs L[k])[j]? := fun j hj => by
      have e1 : (rowOf L)[k * 3 + j]? = (txCs L[k])[j]? := by
        clear h1 hc r1 r2 r3 r4
        induction L generalizing k with
        | nil => simp at hk
        | cons x r ih =>
          have e : rowOf (x :: r) = txCs x ++ rowOf r := by simp [rowOf]
          rw [e]
          cases k with
          | zero => rw [List.getElem?_append_left (by simp; omega)]; simp
          | succ k =>
            rw [List.getElem?_append_right (by simp; omega)]
            have e3 : (k + 1) * 3 + j - (txCs x).length = k * 3 + j := by simp; omega
            rw [e3]
            have := ih k (by simpa using hk)
            simpa using this
      rw [← r4, List.getElem?_take_of_lt (by omega)] at e1
      rw [← e1]
      simp [World.cell?, hc]
    exact ⟨g, cap, rfl, (Array.getElem?_eq_some_iff.1 hc).1, key 0 (by omega), key 1 (by omega), key 2 (by omega)⟩
end
section
open Go.RowKit Go.Maps

theorem row_shape {w : World} {base : Nat} {v : Value} {L : List TxP} (h : w.ownsRow base 33 3 v L.length (rowOf L)) : ∃ a c, v = .slice a L.length c := by
  obtain ⟨_, ⟨rfl, h2⟩ | ⟨g, cap, cur, rfl, _⟩⟩ := h
  · exact ⟨none, 0, by rw [h2]⟩
  · exact ⟨_, _, rfl⟩
set_option maxRecDepth 100000 in
set_option maxHeartbeats 1600000 in
theorem same5_any (b1 b2 : Nat) (v1 v2 : Value) (L : List TxP) (w : World) (h1 : w.ownsRow b1 33 3 v1 L.length (rowOf L)) (h2 : w.ownsRow b2 33 3 v2 L.length (rowOf L)) (hl : L.length ≤ 1000) :
    Calls Try.prog 17 #[v1, v2] w fun e w' => e = .returned (.bool true) ∧ Below w.heap.size w w' := by
  have H1 := hide h1
  have H2 := hide h2
  obtain ⟨a1, c1, e1⟩ := row_shape h1
  obtain ⟨a2, c2, e2⟩ := row_shape h2
  subst e1
  subst e2
  clear h1 h2
  go_enter Try.func17, Try.ntmps17
  go_wp2_with fail
  go_loopw [5] (fun i wr => ∃ k n : Nat, k ≤ L.length ∧ i = .int .i64 k ∧ wr = w.drewN n) (fun i _ => L.length - (intOf i).toNat)
  case atStart => exact ⟨0, 0, by omega, rfl, rfl⟩
  case round =>
    obtain ⟨k, n, hk, rfl, rfl⟩ := hrel
    by_cases hlt : k < L.length
    · obtain ⟨g1, cg1, hv1, hg1, x0, x1, x2⟩ := row_cells H1.out k hlt
      obtain ⟨g2, cg2, hv2, hg2, y0, y1, y2⟩ := row_cells H2.out k hlt
      cases hv1
      cases hv2
      obtain ⟨ua, ub, uc, hu⟩ : ∃ a b c, L[k] = (a, b, c) := ⟨_, _, _, rfl⟩
      rw [hu] at x0 x1 x2 y0 y1 y2
      dsimp only at x0 x1 x2 y0 y1 y2
      have hne : ∀ w, (binOp .neq 33 (.agg #[.int .u8 ua, .int .u32 ub, .int .u32 uc]) (.agg #[.int .u8 ua, .int .u32 ub, .int .u32 uc])).run Try.prog w = .ok (.bool false) w := fun w => by rw [neq_tx]; simp
      have d1 : decide ((k : Int) < (L.length : Int)) = true := by simp; omega
      clear hu
      go_wp2_with fail
      go_quiet (fail)
      go_wp2_with fail
      go_roundw
      case rel => exact ⟨k + 1, _, hlt, by simp, rfl⟩
      case measure => simp [intOf]; omega
    · have d1 : decide ((k : Int) < (L.length : Int)) = false := by simp; omega
      go_wp2_with fail
      go_ret
      exact ⟨rfl, below_drewN (Below.refl _ _)⟩
end
end Go.Proofs.Ytodomdmmffooaaa
