/-
  Arguments of the laws of layer 8, opened: a script of acts, one act. Own work.
-/
import Derived.Test.YteehkjdolmmapaaFramePlain
import Derived.Test.YteehkjdolmmapaaNtActs
import Derived.Deep.Slices
import Derived.ChangeArms
import Derived.SizedLaws
namespace Go.Proofs.Yteehkjdolmmapaa
open Go.ChangeShapes Go.WideShapes Go.ChangeAt Go.RowKit Go.Deep

theorem cellsBytes : Try.prog.cellsOf 35 = 1 := by kernel_rfl
theorem lies_of_cells {H : Type} {enc : TypeId × Value → H} {W : World} {fuel : Nat} {cs : List Value} {x : DataW H × List MemPlace}
    (h : DataW.trod enc Try.prog W 0 (fun _ => true) true fuel 35 cs = some x) : ∃ u xs, cs = [u] ∧ Lies .u8 W u xs ∧ ∀ c ∈ xs, 0 ≤ c ∧ c < 256 := by
  rcases open_ints Try.underlying35 Try.underlying5 (by kernel_rfl) h with ⟨hcs, _⟩ | ⟨x, l, c, zs, hcs, _, hl, hm, hz, _, hcell, hwz⟩
  · exact ⟨_, [], hcs, Lies.nil _ _, by simp⟩
  · simp only [if_true] at hz
    refine ⟨_, zs.take l, hcs, ?_, fun c hc => ?_⟩
    · by_cases h0 : l = 0
      · subst h0
        exact .inl ⟨by simp, _, _, rfl, fun h => by cases h⟩
      · obtain ⟨b, off, spot⟩ := x
        have hc0 := hcell 0 (by omega)
        have hspot : spot = none := by simpa [Addr.add] using World.cell?_spot hc0
        subst hspot
        have hxl : (zs.take l).length = l := by simp; omega
        have hb : b < W.heap.size := by
          rcases Nat.lt_or_ge b W.heap.size with h | h
          · exact h
          · have hn : W.heap[b]? = none := by simp [h]
            simp [Addr.add, World.cell?, hn] at hc0
        refine .inr ⟨?_, b, off, c, by rw [hxl], hb, by omega, hm, fun t ht => ?_⟩
        · intro e; rw [e] at hxl; simp at hxl; omega
        · have := hcell t (by omega)
          rw [Addr.add_lit] at this
          rw [this]
          have ht2 : t < l := by omega
          simp [List.getD, ht2]
    · have := bounds_u8 (hwz c (List.mem_of_mem_take hc))
      omega
theorem cNAct : Try.prog.cellsOf 37 = 5 := by kernel_rfl
theorem cU8d : Try.prog.cellsOf 5 = 1 := by kernel_rfl
theorem cIntd : Try.prog.cellsOf 3 = 1 := by kernel_rfl
theorem cBoold : Try.prog.cellsOf 4 = 1 := by kernel_rfl
section
variable {H : Type} {enc : TypeId × Value → H} {W : World} {fuel : Nat}
set_option maxRecDepth 100000 in
theorem nact_cells {cs : List Value} {x : DataW H × List MemPlace} (h : DataW.trod enc Try.prog W 0 (fun _ => true) true fuel 37 cs = some x) : ∃ (a : NAct) (sv : Value), cs = (ncells a sv).toList ∧ a.Ok ∧ Lies .u8 W sv a.b := by
  obtain ⟨xs, n, _, rfl, hl, hlen, hf⟩ := DataW.trod_struct Try.underlying37 h
  rw [cNAct] at hl
  match cs, hl, xs, hlen with
  | [c0, c1, c2, c3, c4], _, [y0, y1, y2, y3, y4], _ =>
    have h0 : DataW.trod enc Try.prog W 0 (fun _ => true) true n 5 (([c0, c1, c2, c3, c4].drop 0).take (Try.prog.cellsOf 5)) = some y0 := hf 0 _ rfl
    have h1 : DataW.trod enc Try.prog W 0 (fun _ => true) true n 5 (([c0, c1, c2, c3, c4].drop 1).take (Try.prog.cellsOf 5)) = some y1 := hf 1 _ rfl
    have h2 : DataW.trod enc Try.prog W 0 (fun _ => true) true n 5 (([c0, c1, c2, c3, c4].drop 2).take (Try.prog.cellsOf 5)) = some y2 := hf 2 _ rfl
    have h3 : DataW.trod enc Try.prog W 0 (fun _ => true) true n 3 (([c0, c1, c2, c3, c4].drop 3).take (Try.prog.cellsOf 3)) = some y3 := hf 3 _ rfl
    have h4 : DataW.trod enc Try.prog W 0 (fun _ => true) true n 35 (([c0, c1, c2, c3, c4].drop 4).take (Try.prog.cellsOf 35)) = some y4 := hf 4 _ rfl
    rw [cU8d] at h0 h1 h2
    rw [cIntd] at h3
    rw [cellsBytes] at h4
    obtain ⟨a0, e0, _, w0⟩ := DataW.trod_int Try.underlying5 h0
    obtain ⟨a1, e1, _, w1⟩ := DataW.trod_int Try.underlying5 h1
    obtain ⟨a2, e2, _, w2⟩ := DataW.trod_int Try.underlying5 h2
    obtain ⟨a3, e3, _, w3⟩ := DataW.trod_int Try.underlying3 h3
    obtain ⟨u, bs, e4, hL, hb⟩ := lies_of_cells h4
    have b0 := bounds_u8 w0
    have b1 := bounds_u8 w1
    have b2 := bounds_u8 w2
    have b3 := bounds_i64 w3
    simp at e0 e1 e2 e3 e4
    subst e0; subst e1; subst e2; subst e3; subst e4
    obtain ⟨k0, rfl⟩ := Int.eq_ofNat_of_zero_le b0.1
    obtain ⟨k1, rfl⟩ := Int.eq_ofNat_of_zero_le b1.1
    obtain ⟨k2, rfl⟩ := Int.eq_ofNat_of_zero_le b2.1
    exact ⟨⟨k0, k1, k2, a3, bs⟩, c4, rfl, ⟨by simp only; omega, by simp only; omega, by simp only; omega, by simp only; omega, by simp only; omega, hb⟩, hL⟩
theorem choose_nact {n : Nat} {p : Nat → NAct → Prop} (h : ∀ i, i < n → ∃ x, p i x) : ∃ f : Nat → NAct, ∀ i, i < n → p i (f i) := by
  classical
  refine ⟨fun i => if hi : i < n then Classical.choose (h i hi) else ⟨0, 0, 0, 0, []⟩, fun i hi => ?_⟩
  simp only [dif_pos hi]
  exact Classical.choose_spec (h i hi)
theorem nlies_of_trod {a0 : Option Addr} {len cap : Nat} {d : DataW H} {p : List MemPlace}
    (h : DataW.Trod enc Try.prog W 0 (fun _ => true) true 22 (.slice a0 len cap) d p) : ∃ fs, NLies W (.slice a0 len cap) fs ∧ (∀ f ∈ fs, f.Ok) := by
  obtain ⟨fuel, hf⟩ := h
  rcases open_slice Try.underlying22 hf with ⟨hcs, _⟩ | ⟨a, len', cap', m, n, D, Pl, hcs, _, hl, hm, hmm, hx, hel⟩
  · simp [Value.cells] at hcs
    obtain ⟨rfl, rfl, rfl⟩ := hcs
    exact ⟨[], .inl ⟨rfl, none, 0, rfl, fun _ => rfl⟩, by simp⟩
  · simp [Value.cells] at hcs
    obtain ⟨rfl, rfl, rfl⟩ := hcs
    simp only [if_true] at hmm
    subst hmm
    have hch : ∀ i, i < len → ∃ f : NAct, ∃ sv, W.cells? 0 (a.add (i * 5)) 5 = some (ncells f sv).toList ∧ f.Ok ∧ Lies .u8 W sv f.b := by
      intro i hi
      obtain ⟨cs', h1, h2⟩ := hel i (by omega)
      rw [cNAct] at h1
      obtain ⟨f, sv, rfl, r⟩ := nact_cells h2
      exact ⟨f, sv, h1, r⟩
    obtain ⟨f, hfi⟩ := choose_nact hch
    by_cases h0 : len = 0
    · subst h0
      exact ⟨[], .inl ⟨rfl, _, _, rfl, fun h => by cases h⟩, by simp⟩
    · obtain ⟨b, off, spot⟩ := a
      have hcell : ∀ i, i < len → ∃ sv, Lies .u8 W sv (f i).b ∧ ∀ j, j < 5 → W.cell? (((⟨b, off, spot⟩ : Addr).add (i * 5)).add j) = (ncells (f i) sv)[j]? := by
        intro i hi
        obtain ⟨sv, g1, _, g3⟩ := hfi i hi
        refine ⟨sv, g3, fun j hj => ?_⟩
        have h1 := World.cells?_some g1
        have h2 := h1.2.2 j hj
        rw [h2]
        simp
      obtain ⟨sv0, _, hc00⟩ := hcell 0 (by omega)
      have hc0 := hc00 0 (by omega)
      have e0 : (ncells (f 0) sv0)[0]? = some (.int .u8 ((f 0).kind : Int)) := rfl
      have hspot : spot = none := by
        rw [e0] at hc0
        simpa [Addr.add] using World.cell?_spot hc0
      subst hspot
      have hb : b < W.heap.size := by
        rcases Nat.lt_or_ge b W.heap.size with h | h
        · exact h
        · have hn : W.heap[b]? = none := by simp [h]
          rw [e0] at hc0
          simp [Addr.add, World.cell?, hn] at hc0
      refine ⟨(List.range len).map f, .inr ⟨?_, b, off, _, by rw [List.length_map, List.length_range], hb, by simpa using hl, hm, fun t ht => ?_⟩, fun g hg => ?_⟩
      · intro e
        have := congrArg List.length e
        simp at this
        omega
      · have htl : t < len := by simpa using ht
        obtain ⟨sv, g1, g2⟩ := hcell t htl
        have et : ((List.range len).map f)[t] = f t := by simp
        rw [et]
        refine ⟨sv, g1, fun j hj => ?_⟩
        have := g2 j hj
        rw [Addr.add_lit, Addr.add_lit] at this
        exact this
      · rw [List.mem_map] at hg
        obtain ⟨i, hi, rfl⟩ := hg
        obtain ⟨_, _, g2, _⟩ := hfi i (by simpa using hi)
        exact g2
theorem nact_of_trod {r : Reach} {b0 : Nat} {v : Value} {d : DataW H} {p : List MemPlace} (hv : Value.okWide Try.prog W r b0 37 v) (h : DataW.Trod enc Try.prog W 0 (fun _ => true) true 37 v d p) : ∃ (a : NAct) (sv : Value), v = .agg (ncells a sv) ∧ a.Ok ∧ Lies .u8 W sv a.b := by
  obtain ⟨cs, rfl, _⟩ := okWide_struct Try.underlying37 hv
  obtain ⟨fuel, hf⟩ := h
  obtain ⟨a, sv, e, ok, hL⟩ := nact_cells hf
  have e2 : cs.toList = (ncells a sv).toList := e
  exact ⟨a, sv, by rw [← Array.toList_inj.1 e2], ok, hL⟩
end
end Go.Proofs.Yteehkjdolmmapaa
