/-
  A slice of records as an argument. Of any layer. Own work.
-/
import Derived.Test.YtgjdlclkibiffaaFramePlain
import Derived.Test.YtgjdlclkibiffaaRecs
import Derived.Deep.Slices
import Derived.ChangeArms
import Derived.SizedLaws
namespace Go.Proofs.Ytgjdlclkibiffaa
open Go.ChangeShapes Go.WideShapes Go.ChangeAt Go.RowKit Go.Deep

section
variable {H : Type} {enc : TypeId × Value → H} {W : World}
theorem choose_rec {α : Type} [Inhabited α] {n : Nat} {p : Nat → α → Prop} (h : ∀ i, i < n → ∃ x, p i x) : ∃ f : Nat → α, ∀ i, i < n → p i (f i) := by
  classical
  refine ⟨fun i => if hi : i < n then Classical.choose (h i hi) else default, fun i hi => ?_⟩
  simp only [dif_pos hi]
  exact Classical.choose_spec (h i hi)
/-- A slice of records as an argument, by what the cells of one of them are. -/
theorem recs_of_trod {α : Type} [Inhabited α] {t e : TypeId} {K : Nat} {encA : α → List Value} {ok : α → Prop} (R : Rec t e K encA) (hce : Try.prog.cellsOf e = K)
    (hone : ∀ (fuel : Nat) (cs : List Value) (x : DataW H × List MemPlace), DataW.trod enc Try.prog W 0 (fun _ => true) true fuel e cs = some x → ∃ a, cs = encA a ∧ ok a)
    {a0 : Option Addr} {len cap : Nat} {d : DataW H} {p : List MemPlace}
    (h : DataW.Trod enc Try.prog W 0 (fun _ => true) true t (.slice a0 len cap) d p) : ∃ fs, RSrc encA W (.slice a0 len cap) fs ∧ (∀ f ∈ fs, ok f) := by
  obtain ⟨fuel, hf⟩ := h
  rcases open_slice R.und hf with ⟨hcs, _⟩ | ⟨a, len', cap', m, n, D, Pl, hcs, _, hl, hm, hmm, hx, hel⟩
  · simp [Value.cells] at hcs
    obtain ⟨rfl, rfl, rfl⟩ := hcs
    exact ⟨[], RSrc.nil _, by simp⟩
  · simp [Value.cells] at hcs
    obtain ⟨rfl, rfl, rfl⟩ := hcs
    simp only [if_true] at hmm
    subst hmm
    have hch : ∀ i, i < len → ∃ f : α, W.cells? 0 (a.add (i * K)) K = some (encA f) ∧ ok f := by
      intro i hi
      obtain ⟨cs', h1, h2⟩ := hel i (by omega)
      rw [hce] at h1
      obtain ⟨f, rfl, r⟩ := hone _ _ _ h2
      exact ⟨f, h1, r⟩
    obtain ⟨f, hfi⟩ := choose_rec hch
    by_cases h0 : len = 0
    · subst h0
      exact ⟨[], ⟨_, _, rfl, Nat.zero_le _, hm, fun e => (by cases e), fun hne => absurd rfl hne⟩, by simp⟩
    · obtain ⟨b, off, spot⟩ := a
      have hcell : ∀ i, i < len → ∀ j, j < K → W.cell? (((⟨b, off, spot⟩ : Addr).add (i * K)).add j) = (encA (f i))[j]? := by
        intro i hi j hj
        have h1 := World.cells?_some (hfi i hi).1
        have h2 := h1.2.2 j hj
        exact h2
      have hpos := R.pos
      have hc0 := hcell 0 (by omega) 0 hpos
      have he0 : ∃ u, (encA (f 0))[0]? = some u := ⟨_, List.getElem?_eq_getElem (by rw [R.len]; exact hpos)⟩
      obtain ⟨u0, hu0⟩ := he0
      rw [hu0] at hc0
      have hspot : spot = none := by simpa [Addr.add] using World.cell?_spot hc0
      subst hspot
      have hb : b < W.heap.size := by
        rcases Nat.lt_or_ge b W.heap.size with h | h
        · exact h
        · have hn : W.heap[b]? = none := by simp [h]
          simp [Addr.add, World.cell?, hn] at hc0
      have hlen : ((List.range len).map f).length = len := by simp
      refine ⟨(List.range len).map f, ⟨_, _, by rw [hlen], by rw [hlen]; exact hl, hm, fun e => (by cases e), fun _ => ⟨b, off, rfl, hb, fun j u hu => ?_⟩⟩, fun g hg => ?_⟩
      · have hjl : j < len * K := by
          have := (List.getElem?_eq_some_iff.1 hu).1
          rw [flat_len R.len, hlen] at this
          exact this
        have hi : j / K < len := (Nat.div_lt_iff_lt_mul hpos).2 hjl
        have hr : j % K < K := Nat.mod_lt _ hpos
        have hj : j = (j / K) * K + j % K := by rw [Nat.mul_comm]; exact (Nat.div_add_mod j K).symm
        rw [hj, flat_at R.len (by rw [hlen]; exact hi) hr] at hu
        have hc := hcell (j / K) hi (j % K) hr
        rw [Addr.add_lit, Addr.add_lit] at hc
        rw [hj, ← Nat.add_assoc, hc]
        simpa using hu
      · rw [List.mem_map] at hg
        obtain ⟨i, hi, rfl⟩ := hg
        exact (hfi i (by simpa using hi)).2
end
end Go.Proofs.Ytgjdlclkibiffaa
