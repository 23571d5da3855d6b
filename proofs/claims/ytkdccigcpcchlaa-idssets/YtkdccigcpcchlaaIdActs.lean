/-
  An argument []Act, opened. Own work.
-/
import Derived.Test.YtkdccigcpcchlaaFramePlain
import Derived.Test.YtkdccigcpcchlaaIdOpen
import Derived.Deep.Slices
import Derived.ChangeArms
import Derived.SizedLaws
namespace Go.Proofs.Ytkdccigcpcchlaa
open Go.ChangeShapes Go.WideShapes Go.ChangeAt Go.RowKit Go.Deep

abbrev ActP := Int × Int × Int × Int
abbrev acells (a : ActP) : Array Value := #[.int .u8 a.1, .int .u8 a.2.1, .int .u32 a.2.2.1, .int .u32 a.2.2.2]
def actOk (a : ActP) : Prop := (0 ≤ a.1 ∧ a.1 < 256) ∧ txOk a.2
/-- A slice that holds these acts. -/
def ALies (w : World) (v : Value) (fs : List ActP) : Prop :=
  (fs = [] ∧ ∃ (ao : Option Addr) (cap : Nat), v = .slice ao 0 cap ∧ (ao = none → cap = 0)) ∨
  (fs ≠ [] ∧ ∃ b off cap : Nat, v = .slice (some ⟨b, off, none⟩) fs.length cap ∧ b < w.heap.size ∧ fs.length ≤ cap ∧ cap ≤ maxLen ∧
    ∀ t (ht : t < fs.length), ∀ j, j < 4 → w.cell? ⟨b, off + t * 4 + j, none⟩ = (acells fs[t])[j]?)
section
variable {H : Type} {enc : TypeId × Value → H} {W : World} {base fuel : Nat} {spare : Nat → Bool} {held : Bool}
theorem cAct : Try.prog.cellsOf 87 = 4 := by kernel_rfl
set_option maxRecDepth 100000 in
theorem act_cells {cs : List Value} {x : DataW H × List MemPlace} (h : DataW.trod enc Try.prog W base spare held fuel 87 cs = some x) : ∃ a : ActP, cs = (acells a).toList ∧ actOk a := by
  obtain ⟨xs, n, _, rfl, hl, hlen, hf⟩ := DataW.trod_struct Try.underlying87 h
  rw [cAct] at hl
  match cs, hl, xs, hlen with
  | [c0, c1, c2, c3], _, [y0, y1], _ =>
    have h0 : DataW.trod enc Try.prog W base spare held n 5 (([c0, c1, c2, c3].drop 0).take (Try.prog.cellsOf 5)) = some y0 := hf 0 _ rfl
    have h1 : DataW.trod enc Try.prog W base spare held n 35 (([c0, c1, c2, c3].drop 1).take (Try.prog.cellsOf 35)) = some y1 := hf 1 _ rfl
    rw [cU8] at h0
    rw [cTx] at h1
    obtain ⟨a0, e0, _, w0⟩ := DataW.trod_int Try.underlying5 h0
    obtain ⟨a1, a2, a3, e1, ok⟩ := tx_cells h1
    have b0 := bounds_u8 w0
    simp at e0 e1
    obtain ⟨rfl, rfl, rfl⟩ := e1
    subst e0
    refine ⟨(a0, a1, a2, a3), rfl, ⟨?_, ok⟩⟩
    simp only
    omega
theorem choose_act {n : Nat} {p : Nat → ActP → Prop} (h : ∀ i, i < n → ∃ x, p i x) : ∃ f : Nat → ActP, ∀ i, i < n → p i (f i) := by
  classical
  refine ⟨fun i => if hi : i < n then Classical.choose (h i hi) else (0, 0, 0, 0), fun i hi => ?_⟩
  simp only [dif_pos hi]
  exact Classical.choose_spec (h i hi)
theorem alies_of_trod {a0 : Option Addr} {len cap : Nat} {d : DataW H} {p : List MemPlace}
    (h : DataW.Trod enc Try.prog W 0 (fun _ => true) true 80 (.slice a0 len cap) d p) : ∃ fs, ALies W (.slice a0 len cap) fs ∧ (∀ f ∈ fs, actOk f) := by
  obtain ⟨fuel, hf⟩ := h
  rcases open_slice Try.underlying80 hf with ⟨hcs, _⟩ | ⟨a, len', cap', m, n, D, Pl, hcs, _, hl, hm, hmm, hx, hel⟩
  · simp [Value.cells] at hcs
    obtain ⟨rfl, rfl, rfl⟩ := hcs
    exact ⟨[], .inl ⟨rfl, none, 0, rfl, fun _ => rfl⟩, by simp⟩
  · simp [Value.cells] at hcs
    obtain ⟨rfl, rfl, rfl⟩ := hcs
    simp only [if_true] at hmm
    subst hmm
    have hch : ∀ i, i < len → ∃ f : ActP, W.cells? 0 (a.add (i * 4)) 4 = some (acells f).toList ∧ actOk f := by
      intro i hi
      obtain ⟨cs', h1, h2⟩ := hel i (by omega)
      rw [cAct] at h1
      obtain ⟨f, rfl, r⟩ := act_cells h2
      exact ⟨f, h1, r⟩
    obtain ⟨f, hfi⟩ := choose_act hch
    by_cases h0 : len = 0
    · subst h0
      exact ⟨[], .inl ⟨rfl, _, _, rfl, fun h => by cases h⟩, by simp⟩
    · obtain ⟨b, off, spot⟩ := a
      have hcell : ∀ i, i < len → ∀ j, j < 4 → W.cell? (((⟨b, off, spot⟩ : Addr).add (i * 4)).add j) = (acells (f i))[j]? := by
        intro i hi j hj
        have h1 := World.cells?_some (hfi i hi).1
        have h2 := h1.2.2 j hj
        rw [h2]
        simp
      have hc0 := hcell 0 (by omega) 0 (by omega)
      have hspot : spot = none := by
        have : (acells (f 0))[0]? = some (.int .u8 (f 0).1) := rfl
        rw [this] at hc0
        simpa [Addr.add] using World.cell?_spot hc0
      subst hspot
      have hb : b < W.heap.size := by
        rcases Nat.lt_or_ge b W.heap.size with h | h
        · exact h
        · have hn : W.heap[b]? = none := by simp [h]
          have : (acells (f 0))[0]? = some (.int .u8 (f 0).1) := rfl
          rw [this] at hc0
          simp [Addr.add, World.cell?, hn] at hc0
      refine ⟨(List.range len).map f, .inr ⟨?_, b, off, _, by rw [List.length_map, List.length_range], hb, by simpa using hl, hm, fun t ht j hj => ?_⟩, fun g hg => ?_⟩
      · intro e
        have := congrArg List.length e
        simp at this
        omega
      · have htl : t < len := by simpa using ht
        have := hcell t htl j hj
        rw [Addr.add_lit, Addr.add_lit] at this
        rw [this]
        simp
      · rw [List.mem_map] at hg
        obtain ⟨i, hi, rfl⟩ := hg
        exact (hfi i (by simpa using hi)).2
end
theorem ALies.shape {w : World} {v : Value} {fs : List ActP} (h : ALies w v fs) : ∃ (ao : Option Addr) (cap : Nat), v = .slice ao fs.length cap ∧ fs.length ≤ cap ∧ (ao = none → cap = 0) ∧ fs.length ≤ maxLen := by
  rcases h with ⟨rfl, ao, cap, rfl, h0⟩ | ⟨_, b, off, cap, rfl, _, h1, h2, _⟩
  · exact ⟨ao, cap, rfl, Nat.zero_le _, h0, Nat.zero_le _⟩
  · exact ⟨_, cap, rfl, h1, (fun h => by cases h), Nat.le_trans h1 h2⟩
/-- The cells of an act. -/
theorem ALies.at {w w' : World} {v : Value} {fs : List ActP} (h : ALies w v fs) (hB : Below w.heap.size w w') (k : Nat) (hk : k < fs.length) : ∃ b off cap, v = .slice (some ⟨b, off, none⟩) fs.length cap ∧ b < w.heap.size ∧
    w'.cell? ⟨b, off + k * 4, none⟩ = some (.int .u8 fs[k].1) ∧ w'.cell? ⟨b, off + k * 4 + 1, none⟩ = some (.int .u8 fs[k].2.1) ∧ w'.cell? ⟨b, off + k * 4 + 2, none⟩ = some (.int .u32 fs[k].2.2.1) ∧ w'.cell? ⟨b, off + k * 4 + 3, none⟩ = some (.int .u32 fs[k].2.2.2) := by
  rcases h with ⟨rfl, _⟩ | ⟨_, b, off, cap, rfl, hb, _, _, hc⟩
  · simp at hk
  · refine ⟨b, off, cap, rfl, hb, ?_, ?_, ?_, ?_⟩
    · exact (hB.cell (p := ⟨b, off + k * 4, none⟩) hb).trans (hc k hk 0 (by omega))
    · exact (hB.cell (p := ⟨b, off + k * 4 + 1, none⟩) hb).trans (hc k hk 1 (by omega))
    · exact (hB.cell (p := ⟨b, off + k * 4 + 2, none⟩) hb).trans (hc k hk 2 (by omega))
    · exact (hB.cell (p := ⟨b, off + k * 4 + 3, none⟩) hb).trans (hc k hk 3 (by omega))
end Go.Proofs.Ytkdccigcpcchlaa
