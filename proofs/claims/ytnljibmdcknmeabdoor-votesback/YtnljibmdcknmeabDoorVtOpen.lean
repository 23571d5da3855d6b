/-
  A configuration as an argument of a law, opened. Own work.
-/
import Derived.Test.YtnljibmdcknmeabDoorFrame
import Derived.Test.YtnljibmdcknmeabDoorVtMake
import Derived.Deep.Slices
import Derived.ChangeArms
import Derived.ChangeMaps5
import Derived.SizedLaws
namespace Go.Proofs.YtnljibmdcknmeabDoor
open Go.ChangeShapes Go.WideShapes Go.ChangeAt Go.RowKit Go.Deep

theorem cCfg : Tryd.prog.cellsOf 25 = 11 := by kernel_rfl
theorem cArr8 : Tryd.prog.cellsOf 23 = 8 := by kernel_rfl
theorem cU8 : Tryd.prog.cellsOf 5 = 1 := by kernel_rfl
theorem cU32 : Tryd.prog.cellsOf 22 = 1 := by kernel_rfl
/-- Numbers that are not below 0, as what they are. -/
theorem nats_of (ks : List Int) (h : ∀ c ∈ ks, 0 ≤ c ∧ c < 256) : ∃ xs : List Nat, ks = natI xs ∧ ∀ x ∈ xs, x < 256 := by
  refine ⟨ks.map Int.toNat, ?_, fun x hx => ?_⟩
  · unfold natI
    rw [List.map_map]
    conv => lhs; rw [← List.map_id ks]
    refine List.map_congr_left (fun c hc => ?_)
    have := h c hc
    simp only [Function.comp, id]
    omega
  · obtain ⟨c, hc, rfl⟩ := List.mem_map.1 hx
    have := h c hc
    omega
section Opened
variable {H : Type} {enc : TypeId × Value → H} {W : World} {base fuel : Nat} {spare : Nat → Bool} {held : Bool}
theorem ints_of : ∀ (cs : List Value) (n : Nat), cs.length = n → (∀ i, i < n → ∃ k : Int, (cs.drop i).take 1 = [.int .u8 k] ∧ 0 ≤ k ∧ k < 256) → ∃ ks : List Int, ks.length = n ∧ cs = ks.map (Value.int .u8) ∧ ∀ c ∈ ks, 0 ≤ c ∧ c < 256
  | [], n, h, _ => ⟨[], by simpa using h, rfl, by simp⟩
  | c :: r, 0, h, _ => by simp at h
  | c :: r, n + 1, h, hc => by
    obtain ⟨ks, h1, h2, h3⟩ := ints_of r n (by simpa using h) (fun i hi => by
      obtain ⟨k, e, b⟩ := hc (i + 1) (by omega)
      exact ⟨k, by simpa using e, b⟩)
    obtain ⟨k, e, b⟩ := hc 0 (by omega)
    simp at e
    refine ⟨k :: ks, by simp [h1], by rw [e, h2]; rfl, fun c hc2 => ?_⟩
    rcases List.mem_cons.1 hc2 with rfl | hc2
    · exact b
    · exact h3 c hc2
set_option maxRecDepth 100000 in
theorem arr8_cells {cs : List Value} {x : DataW H × List MemPlace} (h : DataW.trod enc Tryd.prog W base spare held fuel 23 cs = some x) : ∃ ks : List Int, ks.length = 8 ∧ cs = ks.map (Value.int .u8) ∧ ∀ c ∈ ks, 0 ≤ c ∧ c < 256 := by
  obtain ⟨xs, m, _, _, hl, hn, hf⟩ := DataW.trod_array Tryd.underlying23 h
  rw [cArr8] at hl
  refine ints_of cs 8 hl (fun i hi => ?_)
  have h0 := hf i hi
  rw [cU8, Nat.mul_one] at h0
  obtain ⟨y, hy⟩ : ∃ y, xs[i]? = some y := ⟨xs[i]'(by omega), by simp⟩
  rw [hy] at h0
  obtain ⟨a0, e0, _, w0⟩ := DataW.trod_int Tryd.underlying5 h0
  have := bounds_u8 w0
  exact ⟨a0, e0, by omega, by omega⟩
set_option maxRecDepth 100000 in
theorem cfg_cells {cs : List Value} {x : DataW H × List MemPlace} (h : DataW.trod enc Tryd.prog W base spare held fuel 25 cs = some x) : ∃ c : Cf, cs = c.cells ∧ c.Ok := by
  obtain ⟨xs, n, _, rfl, hl, hlen, hf⟩ := DataW.trod_struct Tryd.underlying25 h
  rw [cCfg] at hl
  match cs, hl, xs, hlen with
  | c0 :: c1 :: c2 :: rest, hl, [y0, y1, y2, y3], _ =>
    have h0 : DataW.trod enc Tryd.prog W base spare held n 22 (((c0 :: c1 :: c2 :: rest).drop 0).take (Tryd.prog.cellsOf 22)) = some y0 := hf 0 _ rfl
    have h1 : DataW.trod enc Tryd.prog W base spare held n 5 (((c0 :: c1 :: c2 :: rest).drop 1).take (Tryd.prog.cellsOf 5)) = some y1 := hf 1 _ rfl
    have h2 : DataW.trod enc Tryd.prog W base spare held n 5 (((c0 :: c1 :: c2 :: rest).drop 2).take (Tryd.prog.cellsOf 5)) = some y2 := hf 2 _ rfl
    have h3 : DataW.trod enc Tryd.prog W base spare held n 23 (((c0 :: c1 :: c2 :: rest).drop 3).take (Tryd.prog.cellsOf 23)) = some y3 := hf 3 _ rfl
    rw [cU32] at h0
    rw [cU8] at h1 h2
    rw [cArr8] at h3
    obtain ⟨a0, e0, _, w0⟩ := DataW.trod_int Tryd.underlying22 h0
    obtain ⟨a1, e1, _, w1⟩ := DataW.trod_int Tryd.underlying5 h1
    obtain ⟨a2, e2, _, w2⟩ := DataW.trod_int Tryd.underlying5 h2
    obtain ⟨ks, kl, e3, kb⟩ := arr8_cells h3
    have b0 := bounds_u32 w0
    have b1 := bounds_u8 w1
    have b2 := bounds_u8 w2
    have hr : rest.length = 8 := by simpa using hl
    simp at e0 e1 e2
    have e3' : rest = ks.map (Value.int .u8) := by
      have h8 : rest.take 8 = ks.map (Value.int .u8) := by simpa using e3
      rw [List.take_of_length_le (by omega)] at h8
      exact h8
    obtain ⟨vs, hv, hvb⟩ := nats_of ks kb
    obtain ⟨n0, rfl⟩ := Int.eq_ofNat_of_zero_le b0.1
    obtain ⟨n1, rfl⟩ := Int.eq_ofNat_of_zero_le b1.1
    obtain ⟨n2, rfl⟩ := Int.eq_ofNat_of_zero_le b2.1
    refine ⟨⟨n0, n1, n2, vs⟩, ?_, ⟨?_, ?_, ?_, ?_, hvb⟩⟩
    · rw [e0, e1, e2, e3', hv, ← votL_natI]
      rfl
    · simp only; omega
    · simp only; omega
    · simp only; omega
    · have := congrArg List.length hv
      rw [natI_len, kl] at this
      exact this.symm
variable {r : Reach} {b0 : Nat} {v : Value} {d : DataW H} {p : List MemPlace}
set_option maxRecDepth 100000 in
theorem cfg_of_trod (hv : Value.okWide Tryd.prog W r b0 25 v) (h : DataW.Trod enc Tryd.prog W base spare held 25 v d p) : ∃ c : Cf, v = .agg c.arr ∧ c.Ok := by
  obtain ⟨cs, rfl, _⟩ := okWide_struct Tryd.underlying25 hv
  obtain ⟨fuel, hf⟩ := h
  obtain ⟨c, e, ok⟩ := cfg_cells hf
  have e2 : cs.toList = c.cells := e
  refine ⟨c, ?_, ok⟩
  rw [show c.arr = cs from (by unfold Cf.arr; rw [← e2])]
end Opened
end Go.Proofs.YtnljibmdcknmeabDoor
