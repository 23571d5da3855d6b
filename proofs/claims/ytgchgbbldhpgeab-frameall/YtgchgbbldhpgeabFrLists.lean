/-
  Slices of slices of bytes, whatever their form; the reference's Lists. Own work.
-/
import Derived.Test.YtgchgbbldhpgeabFrScanRef
namespace Go.Proofs.Ytgchgbbldhpgeab
open Go.RowKit

/-- A slice of slices reads as these bytes. -/
def LiesL (w : World) (v : Value) (xss : List (List Int)) : Prop :=
  (xss = [] ∧ ∃ (ao : Option Addr) (cap : Nat), v = .slice ao 0 cap) ∨
  (xss ≠ [] ∧ ∃ b off cap : Nat, v = .slice (some ⟨b, off, none⟩) xss.length cap ∧ b < w.heap.size ∧ xss.length ≤ maxLen ∧
    ∀ t, t < xss.length → ∃ u, w.cell? ⟨b, off + t, none⟩ = some u ∧ Lies .u8 w u (xss.getD t []))
theorem LiesL.below {w w' : World} {v : Value} {xss : List (List Int)} (h : LiesL w v xss) (hB : Below w.heap.size w w') : LiesL w' v xss := by
  rcases h with h | ⟨hne, b, off, cap, rfl, hb, hm, hc⟩
  · exact .inl h
  · exact .inr ⟨hne, b, off, cap, rfl, Nat.lt_of_lt_of_le hb hB.size, hm, fun t ht => let ⟨u, h1, h2⟩ := hc t ht; ⟨u, (hB.cell (p := ⟨b, off + t, none⟩) hb).trans h1, h2.below hB⟩⟩
theorem Rows.lies {w : World} {base : Nat} {v : Value} {xss : List (List Int)} (h : Rows w base v xss) : LiesL w v xss := by
  have h0 := h
  obtain ⟨ao, cap, rfl⟩ := h0.shape
  obtain ⟨vs, hl, ho, he⟩ := h
  by_cases hne : xss = []
  · subst hne
    exact .inl ⟨rfl, ao, cap, rfl⟩
  · rcases ho.2 with ⟨e, hn⟩ | ⟨g, cap', cur, e, hb, hg, hnc, hcm, _⟩
    · cases xss with
      | nil => exact absurd rfl hne
      | cons _ _ => simp at hl; omega
    · rw [hl] at e
      cases e
      refine .inr ⟨hne, g, 0, cap, rfl, (ho.lt g rfl).2, by omega, fun t ht => ?_⟩
      obtain ⟨u, h1, h2⟩ := he t ht
      refine ⟨u, ?_, Lies.of_own h2⟩
      have := ho.cells (g := g) rfl t u h1
      rw [Addr.add_lit] at this
      exact this
set_option maxRecDepth 100000 in
set_option maxHeartbeats 3200000 in
theorem r4lists_true (v1 v2 : Value) (xss : List (List Int)) (w : World) (h1 : LiesL w v1 xss) (h2 : LiesL w v2 xss) :
    Calls Try.prog 7 #[v1, v2] w fun e w' => e = .returned (.bool true) ∧ Below w.heap.size w w' := by
  have hne : ((xss.length : Int) != (xss.length : Int)) = false := by simp
  rcases h1 with ⟨rfl, ao, cap, rfl⟩ | ⟨hx, b, off, cap, rfl, hb1, hm, hc⟩
  · rcases h2 with ⟨_, ao2, cap2, rfl⟩ | ⟨hx, _⟩
    · go_enter Try.func7, Try.ntmps7
      go_wp2
      go_rounds 1
      go_ret
      exact ⟨rfl, Below.refl _ _⟩
    · exact absurd rfl hx
  · rcases h2 with ⟨hx2, _⟩ | ⟨_, b2, off2, cap2, rfl, hb2, _, hc2⟩
    · exact absurd hx2 hx
    · clear hx
      have HC1 := hide hc
      have HC2 := hide hc2
      clear hc hc2
      unfold maxLen at hm
      go_enter Try.func7, Try.ntmps7
      go_wp2
      go_loopw [5] (fun i wr => ∃ k : Nat, k ≤ xss.length ∧ i = .int .i64 k ∧ Hid (Below w.heap.size w wr)) (fun i _ => xss.length - (intOf i).toNat)
      case atStart => exact ⟨0, Nat.zero_le _, rfl, hide (Below.refl _ _)⟩
      case round =>
        obtain ⟨k, hk, rfl, HB⟩ := hrel
        by_cases hlt : k < xss.length
        · obtain ⟨u1, e1, l1⟩ := HC1.out k hlt
          obtain ⟨u2, e2, l2⟩ := HC2.out k hlt
          have c1 := (HB.out.cell (p := ⟨b, off + k, none⟩) hb1).trans e1
          have c2 := (HB.out.cell (p := ⟨b2, off2 + k, none⟩) hb2).trans e2
          have s1 := fun n => (l1.below (below_drewN HB.out n)).convert
          have s2 := fun n => (l2.below (below_drewN HB.out n)).convert
          obtain ⟨a1, d1, rfl⟩ := l1.shape
          obtain ⟨a2, d2, rfl⟩ := l2.shape
          clear e1 e2 l1 l2
          generalize (xss.getD k []).length = ln at *
          generalize strOfNums (xss.getD k []) = st at *
          have hltI : (k : Int) < (xss.length : Int) := by omega
          go_wp2
          go_quiet (fail)
          go_wp2
          go_roundw
          case rel => exact ⟨k + 1, by omega, by go_num, hide (below_drewN HB.out _)⟩
          case measure => simp [intOf]; omega
        · obtain rfl : k = xss.length := by omega
          go_wp2
          go_ret
          exact ⟨rfl, HB.out⟩
end Go.Proofs.Ytgchgbbldhpgeab
