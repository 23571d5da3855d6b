/-
  An argument [][]byte, opened. Own work.
-/
import Derived.Test.YtgchgbbldhpgeabFramePlain
import Derived.Test.YtgchgbbldhpgeabFrLists
import Derived.Deep.Slices
import Derived.ChangeArms
import Derived.SizedLaws
namespace Go.Proofs.Ytgchgbbldhpgeab
open Go.ChangeShapes Go.WideShapes Go.ChangeAt Go.RowKit Go.Deep

theorem cellsBytes : Try.prog.cellsOf 23 = 1 := by kernel_rfl
theorem lies_of_cells {H : Type} {enc : TypeId × Value → H} {W : World} {fuel : Nat} {cs : List Value} {x : DataW H × List MemPlace}
    (h : DataW.trod enc Try.prog W 0 (fun _ => true) true fuel 23 cs = some x) : ∃ u xs, cs = [u] ∧ Lies .u8 W u xs ∧ ∀ c ∈ xs, 0 ≤ c ∧ c < 256 := by
  rcases open_ints Try.underlying23 Try.underlying5 (by kernel_rfl) h with ⟨hcs, _⟩ | ⟨x, l, c, zs, hcs, _, hl, hm, hz, _, hcell, hwz⟩
  · exact ⟨_, [], hcs, Lies.nil _ _, by simp⟩
  · simp only [if_true] at hz
    refine ⟨_, zs.take l, hcs, ?_, fun c hc => ?_⟩
    · by_cases h0 : l = 0
      · subst h0
        exact .inl ⟨by simp, _, _, rfl, fun h => by cases h⟩
      · obtain ⟨b, off, spot⟩ := x
        have hc0 := hcell 0 (by omega)
        have hspot : spot = none := by simpa [Addr.add] using World.cell?_spot hc0
        subst hspot
        have hxl : (zs.take l).length = l := by simp; omega
        have hb : b < W.heap.size := by
          rcases Nat.lt_or_ge b W.heap.size with h | h
          · exact h
          · have hn : W.heap[b]? = none := by simp [h]
            simp [Addr.add, World.cell?, hn] at hc0
        refine .inr ⟨?_, b, off, c, by rw [hxl], hb, by omega, hm, fun t ht => ?_⟩
        · intro e; rw [e] at hxl; simp at hxl; omega
        · have := hcell t (by omega)
          rw [Addr.add_lit] at this
          rw [this]
          have ht2 : t < l := by omega
          simp [List.getD, ht2]
    · have := bounds_u8 (hwz c (List.mem_of_mem_take hc))
      omega
theorem choose_list {n : Nat} {p : Nat → List Int → Prop} (h : ∀ i, i < n → ∃ x, p i x) : ∃ f : Nat → List Int, ∀ i, i < n → p i (f i) := by
  classical
  refine ⟨fun i => if hi : i < n then Classical.choose (h i hi) else [], fun i hi => ?_⟩
  simp only [dif_pos hi]
  exact Classical.choose_spec (h i hi)
theorem llies_of_trod {H : Type} {enc : TypeId × Value → H} {W : World} {a0 : Option Addr} {len cap : Nat} {d : DataW H} {p : List MemPlace}
    (h : DataW.Trod enc Try.prog W 0 (fun _ => true) true 22 (.slice a0 len cap) d p) : ∃ xss, LiesL W (.slice a0 len cap) xss ∧ ∀ xs ∈ xss, ∀ c ∈ xs, 0 ≤ c ∧ c < 256 := by
  obtain ⟨fuel, hf⟩ := h
  rcases open_slice Try.underlying22 hf with ⟨hcs, _⟩ | ⟨a, len', cap', m, n, D, Pl, hcs, _, hl, hm, hmm, hx, hel⟩
  · simp [Value.cells] at hcs
    obtain ⟨rfl, rfl, rfl⟩ := hcs
    exact ⟨[], .inl ⟨rfl, none, 0, rfl⟩, by simp⟩
  · simp [Value.cells] at hcs
    obtain ⟨rfl, rfl, rfl⟩ := hcs
    simp only [if_true] at hmm
    subst hmm
    have hch : ∀ i, i < len → ∃ xs : List Int, ∃ u, W.cells? 0 (a.add (i * 1)) 1 = some [u] ∧ Lies .u8 W u xs ∧ ∀ c ∈ xs, 0 ≤ c ∧ c < 256 := by
      intro i hi
      obtain ⟨cs', h1, h2⟩ := hel i (by omega)
      rw [cellsBytes] at h1
      obtain ⟨u, xs, rfl, r⟩ := lies_of_cells h2
      exact ⟨xs, u, h1, r⟩
    obtain ⟨f, hfi⟩ := choose_list hch
    by_cases h0 : len = 0
    · subst h0
      exact ⟨[], .inl ⟨rfl, _, _, rfl⟩, by simp⟩
    · obtain ⟨b, off, spot⟩ := a
      have hcell : ∀ i, i < len → ∃ u, W.cell? ((⟨b, off, spot⟩ : Addr).add i) = some u ∧ Lies .u8 W u (f i) := by
        intro i hi
        obtain ⟨u, h1, h2, _⟩ := hfi i hi
        have h3 := (World.cells?_some h1).2.2 0 (by omega)
        rw [Nat.mul_one] at h3
        refine ⟨u, ?_, h2⟩
        simpa [Addr.add] using h3
      obtain ⟨u0, hc0, _⟩ := hcell 0 (by omega)
      have hspot : spot = none := by simpa [Addr.add] using World.cell?_spot hc0
      subst hspot
      have hb : b < W.heap.size := by
        rcases Nat.lt_or_ge b W.heap.size with h | h
        · exact h
        · have hn : W.heap[b]? = none := by simp [h]
          simp [Addr.add, World.cell?, hn] at hc0
      refine ⟨(List.range len).map f, .inr ⟨?_, b, off, _, by rw [List.length_map, List.length_range], hb, by simp; omega, fun t ht => ?_⟩, fun g hg => ?_⟩
      · intro e
        have := congrArg List.length e
        simp at this
        omega
      · have htl : t < len := by simpa using ht
        obtain ⟨u, h1, h2⟩ := hcell t htl
        rw [Addr.add_lit] at h1
        refine ⟨u, h1, ?_⟩
        simpa [List.getD, htl] using h2
      · rw [List.mem_map] at hg
        obtain ⟨i, hi, rfl⟩ := hg
        obtain ⟨u, _, _, h3⟩ := hfi i (by simpa using hi)
        exact h3
end Go.Proofs.Ytgchgbbldhpgeab
