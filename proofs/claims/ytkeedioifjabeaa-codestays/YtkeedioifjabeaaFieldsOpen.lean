/-
  An argument []Field, and one Field, opened. Own work.
-/
import Derived.Test.YtkeedioifjabeaaFramePlain
import Derived.Test.YtkeedioifjabeaaFields
import Derived.Deep.Slices
import Derived.ChangeArms
import Derived.SizedLaws
namespace Go.Proofs.Ytkeedioifjabeaa
open Go.ChangeShapes Go.WideShapes Go.ChangeAt Go.RowKit Go.Deep

section
variable {H : Type} {enc : TypeId × Value → H} {W : World} {base fuel : Nat} {spare : Nat → Bool} {held : Bool}
theorem cellsField : Try.prog.cellsOf 33 = 4 := by kernel_rfl
theorem cellsU8 : Try.prog.cellsOf 5 = 1 := by kernel_rfl
theorem cellsU64 : Try.prog.cellsOf 31 = 1 := by kernel_rfl
theorem cellsStr : Try.prog.cellsOf 9 = 1 := by kernel_rfl
theorem cellsInt : Try.prog.cellsOf 3 = 1 := by kernel_rfl
theorem weights_agg {t : TypeId} {fs : Array Field} {parts : List (DataW H)} (hu : Try.prog.underlying t = some (.struct fs)) {j : Nat} {ft : TypeId} {d : DataW H} (hj : (fs.toList.map (·.type))[j]? = some ft) (hd : parts[j]? = some d) {n : Nat} (hn : n ∈ d.weights Try.prog ft) :
    n ∈ DataW.weights Try.prog t (.agg parts) := by
  unfold DataW.weights
  rw [hu]
  exact DataW.weights_mem_each hj hd n hn
theorem weights_all {e : TypeId} : ∀ {l : List (DataW H)} {d : DataW H}, d ∈ l → ∀ n ∈ d.weights Try.prog e, n ∈ DataW.weightsAll Try.prog e l
  | x :: r, d, h, n, hn => by
    simp only [DataW.weightsAll, List.mem_append]
    rcases List.mem_cons.1 h with e | e
    · subst e; exact .inl hn
    · exact .inr (weights_all e n hn)
theorem fld_of_trod {cs : List Value} {x : DataW H × List MemPlace} (h : DataW.trod enc Try.prog W base spare held fuel 33 cs = some x) :
    ∃ f : Fld, cs = (fcells f).toList ∧ f.ok ∧ f.s.size ∈ x.1.weights Try.prog 33 := by
  obtain ⟨xs, n, _, rfl, hl, hlen, hf⟩ := DataW.trod_struct Try.underlying33 h
  rw [cellsField] at hl
  match cs, hl, xs, hlen with
  | [c0, c1, c2, c3], _, [y0, y1, y2, y3], _ =>
    have h0 : DataW.trod enc Try.prog W base spare held n 5 (([c0, c1, c2, c3].drop 0).take (Try.prog.cellsOf 5)) = some y0 := hf 0 _ rfl
    have h1 : DataW.trod enc Try.prog W base spare held n 31 (([c0, c1, c2, c3].drop 1).take (Try.prog.cellsOf 31)) = some y1 := hf 1 _ rfl
    have h2 : DataW.trod enc Try.prog W base spare held n 9 (([c0, c1, c2, c3].drop 2).take (Try.prog.cellsOf 9)) = some y2 := hf 2 _ rfl
    have h3 : DataW.trod enc Try.prog W base spare held n 3 (([c0, c1, c2, c3].drop 3).take (Try.prog.cellsOf 3)) = some y3 := hf 3 _ rfl
    rw [cellsU8] at h0
    rw [cellsU64] at h1
    rw [cellsStr] at h2
    rw [cellsInt] at h3
    obtain ⟨a0, e0, _, w0⟩ := DataW.trod_int Try.underlying5 h0
    obtain ⟨a1, e1, _, w1⟩ := DataW.trod_int Try.underlying31 h1
    obtain ⟨s, e2, r2, w2⟩ := DataW.trod_string Try.underlying9 h2
    obtain ⟨a3, e3, _, w3⟩ := DataW.trod_int Try.underlying3 h3
    have b0 := bounds_u8 w0
    have b1 := bounds_u64 w1
    have b3 := bounds_i64 w3
    obtain ⟨m0, rfl⟩ := Int.eq_ofNat_of_zero_le b0.1
    obtain ⟨m1, rfl⟩ := Int.eq_ofNat_of_zero_le b1.1
    simp at e0 e1 e2 e3
    subst e0; subst e1; subst e2; subst e3
    unfold maxLen at w2
    refine ⟨⟨m0, m1, s, a3⟩, rfl, ⟨?_, ?_, ?_, ?_, ?_⟩, ?_⟩
    · show m0 < 256
      omega
    · show m1 < 18446744073709551616
      omega
    · show -9223372036854775808 ≤ a3
      omega
    · show a3 ≤ 9223372036854775807
      omega
    · show s.size ≤ 9223372036854775807
      omega
    · show s.size ∈ DataW.weights Try.prog 33 (.agg [y0.1, y1.1, y2.1, y3.1])
      refine weights_agg Try.underlying33 (j := 2) (ft := 9) rfl rfl ?_
      rw [r2]
      simp [DataW.weights]
theorem choose_fld {n : Nat} {p : Nat → Fld → Prop} (h : ∀ i, i < n → ∃ x, p i x) : ∃ f : Nat → Fld, ∀ i, i < n → p i (f i) := by
  classical
  refine ⟨fun i => if hi : i < n then Classical.choose (h i hi) else fld0, fun i hi => ?_⟩
  simp only [dif_pos hi]
  exact Classical.choose_spec (h i hi)
theorem flies_of_trod {a0 : Option Addr} {len cap : Nat} {d : DataW H} {p : List MemPlace}
    (h : DataW.Trod enc Try.prog W 0 (fun _ => true) true 22 (.slice a0 len cap) d p) : ∃ fs, FLies W (.slice a0 len cap) fs ∧ (∀ f ∈ fs, f.ok) ∧ ∀ f ∈ fs, f.s.size ∈ d.weights Try.prog 22 := by
  obtain ⟨fuel, hf⟩ := h
  rcases open_slice Try.underlying22 hf with ⟨hcs, _⟩ | ⟨a, len', cap', m, n, D, Pl, hcs, _, hl, hm, hmm, hx, hel⟩
  · simp [Value.cells] at hcs
    obtain ⟨rfl, rfl, rfl⟩ := hcs
    exact ⟨[], .inl ⟨rfl, none, 0, rfl, fun _ => rfl⟩, by simp, by simp⟩
  · simp [Value.cells] at hcs
    obtain ⟨rfl, rfl, rfl⟩ := hcs
    simp only [if_true] at hmm
    subst hmm
    have hch : ∀ i, i < len → ∃ f : Fld, W.cells? 0 (a.add (i * 4)) 4 = some (fcells f).toList ∧ f.ok ∧ f.s.size ∈ (D i).weights Try.prog 33 := by
      intro i hi
      obtain ⟨cs', h1, h2⟩ := hel i (by omega)
      rw [cellsField] at h1
      obtain ⟨f, rfl, r⟩ := fld_of_trod h2
      exact ⟨f, h1, r⟩
    obtain ⟨f, hfi⟩ := choose_fld hch
    by_cases h0 : len = 0
    · subst h0
      exact ⟨[], .inl ⟨rfl, _, _, rfl, fun h => by cases h⟩, by simp, by simp⟩
    · obtain ⟨b, off, spot⟩ := a
      have hcell : ∀ i, i < len → ∀ j, j < 4 → W.cell? (((⟨b, off, spot⟩ : Addr).add (i * 4)).add j) = (fcells (f i))[j]? := by
        intro i hi j hj
        have h1 := World.cells?_some (hfi i hi).1
        have h2 := h1.2.2 j hj
        rw [h2]
        simp
      have hc0 := hcell 0 (by omega) 0 (by omega)
      have hspot : spot = none := by
        have : (fcells (f 0))[0]? = some (.int .u8 ((f 0).kind : Nat)) := rfl
        rw [this] at hc0
        simpa [Addr.add] using World.cell?_spot hc0
      subst hspot
      have hb : b < W.heap.size := by
        rcases Nat.lt_or_ge b W.heap.size with h | h
        · exact h
        · have hn : W.heap[b]? = none := by simp [h]
          have : (fcells (f 0))[0]? = some (.int .u8 ((f 0).kind : Nat)) := rfl
          rw [this] at hc0
          simp [Addr.add, World.cell?, hn] at hc0
      refine ⟨(List.range len).map f, .inr ⟨?_, b, off, _, by rw [List.length_map, List.length_range], hb, by simpa using hl, hm, fun t ht j hj => ?_⟩, fun g hg => ?_, fun g hg => ?_⟩
      · intro e
        have := congrArg List.length e
        simp at this
        omega
      · have htl : t < len := by simpa using ht
        have := hcell t htl j hj
        rw [Addr.add_lit, Addr.add_lit] at this
        rw [this]
        simp [List.getD, htl]
      · rw [List.mem_map] at hg
        obtain ⟨i, hi, rfl⟩ := hg
        exact (hfi i (by simpa using hi)).2.1
      · rw [List.mem_map] at hg
        obtain ⟨i, hi, rfl⟩ := hg
        have hil : i < len := by simpa using hi
        have h3 := (hfi i hil).2.2
        obtain ⟨rfl, _⟩ := Prod.mk.inj hx
        unfold DataW.weights
        rw [Try.underlying22]
        simp only [List.mem_cons, List.mem_append]
        exact .inr (.inl (weights_all (List.mem_map.2 ⟨i, by simpa using hil, rfl⟩) _ h3))
end
end Go.Proofs.Ytkeedioifjabeaa
