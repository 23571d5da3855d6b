/-
  Arguments of the laws of layer 5, opened: names, stamps, regs, keys, texts. Own work.
-/
import Derived.Test.YtkdccigcpcchlaaFramePlain
import Derived.Test.YtkdccigcpcchlaaIdPlain
import Derived.Test.YtkdccigcpcchlaaCopyAt
import Derived.Deep.Slices
import Derived.ChangeArms
import Derived.ChangeMaps5
import Derived.SizedLaws
namespace Go.Proofs.Ytkdccigcpcchlaa
open Go.ChangeShapes Go.WideShapes Go.ChangeAt Go.RowKit Go.Deep

theorem cTx : Try.prog.cellsOf 35 = 3 := by kernel_rfl
theorem cSt : Try.prog.cellsOf 37 = 4 := by kernel_rfl
theorem cReg : Try.prog.cellsOf 39 = 2 := by kernel_rfl
theorem cKey : Try.prog.cellsOf 23 = 8 := by kernel_rfl
theorem cU8 : Try.prog.cellsOf 5 = 1 := by kernel_rfl
theorem cU32 : Try.prog.cellsOf 33 = 1 := by kernel_rfl
section Opened
variable {H : Type} {enc : TypeId × Value → H} {W : World} {base fuel : Nat} {spare : Nat → Bool} {held : Bool}
set_option maxRecDepth 100000 in
theorem tx_cells {cs : List Value} {x : DataW H × List MemPlace} (h : DataW.trod enc Try.prog W base spare held fuel 35 cs = some x) : ∃ n b m : Int, cs = [.int .u8 n, .int .u32 b, .int .u32 m] ∧ txOk (n, b, m) := by
  obtain ⟨xs, n, _, rfl, hl, hlen, hf⟩ := DataW.trod_struct Try.underlying35 h
  rw [cTx] at hl
  match cs, hl, xs, hlen with
  | [c0, c1, c2], _, [y0, y1, y2], _ =>
    have h0 : DataW.trod enc Try.prog W base spare held n 5 (([c0, c1, c2].drop 0).take (Try.prog.cellsOf 5)) = some y0 := hf 0 _ rfl
    have h1 : DataW.trod enc Try.prog W base spare held n 33 (([c0, c1, c2].drop 1).take (Try.prog.cellsOf 33)) = some y1 := hf 1 _ rfl
    have h2 : DataW.trod enc Try.prog W base spare held n 33 (([c0, c1, c2].drop 2).take (Try.prog.cellsOf 33)) = some y2 := hf 2 _ rfl
    rw [cU8] at h0
    rw [cU32] at h1 h2
    obtain ⟨a0, e0, _, w0⟩ := DataW.trod_int Try.underlying5 h0
    obtain ⟨a1, e1, _, w1⟩ := DataW.trod_int Try.underlying33 h1
    obtain ⟨a2, e2, _, w2⟩ := DataW.trod_int Try.underlying33 h2
    have b0 := bounds_u8 w0
    have b1 := bounds_u32 w1
    have b2 := bounds_u32 w2
    simp at e0 e1 e2
    subst e0; subst e1; subst e2
    refine ⟨a0, a1, a2, rfl, ?_⟩
    unfold txOk
    simp only
    omega
set_option maxRecDepth 100000 in
theorem st_cells {cs : List Value} {x : DataW H × List MemPlace} (h : DataW.trod enc Try.prog W base spare held fuel 37 cs = some x) : ∃ t n b m : Int, cs = [.int .u32 t, .int .u8 n, .int .u32 b, .int .u32 m] ∧ stOk (t, n, b, m) := by
  obtain ⟨xs, n, _, rfl, hl, hlen, hf⟩ := DataW.trod_struct Try.underlying37 h
  rw [cSt] at hl
  match cs, hl, xs, hlen with
  | [c0, c1, c2, c3], _, [y0, y1], _ =>
    have h0 : DataW.trod enc Try.prog W base spare held n 33 (([c0, c1, c2, c3].drop 0).take (Try.prog.cellsOf 33)) = some y0 := hf 0 _ rfl
    have h1 : DataW.trod enc Try.prog W base spare held n 35 (([c0, c1, c2, c3].drop 1).take (Try.prog.cellsOf 35)) = some y1 := hf 1 _ rfl
    rw [cU32] at h0
    rw [cTx] at h1
    obtain ⟨a0, e0, _, w0⟩ := DataW.trod_int Try.underlying33 h0
    obtain ⟨a1, a2, a3, e1, ok⟩ := tx_cells h1
    have b0 := bounds_u32 w0
    simp at e0 e1
    obtain ⟨rfl, rfl, rfl⟩ := e1
    subst e0
    refine ⟨a0, a1, a2, a3, rfl, ⟨?_, ok⟩⟩
    simp only
    omega
set_option maxRecDepth 100000 in
theorem reg_cells {cs : List Value} {x : DataW H × List MemPlace} (h : DataW.trod enc Try.prog W base spare held fuel 39 cs = some x) : ∃ b m : Int, cs = [.int .u32 b, .int .u32 m] ∧ regOk (b, m) := by
  obtain ⟨xs, n, _, rfl, hl, hlen, hf⟩ := DataW.trod_struct Try.underlying39 h
  rw [cReg] at hl
  match cs, hl, xs, hlen with
  | [c0, c1], _, [y0, y1], _ =>
    have h0 : DataW.trod enc Try.prog W base spare held n 33 (([c0, c1].drop 0).take (Try.prog.cellsOf 33)) = some y0 := hf 0 _ rfl
    have h1 : DataW.trod enc Try.prog W base spare held n 33 (([c0, c1].drop 1).take (Try.prog.cellsOf 33)) = some y1 := hf 1 _ rfl
    rw [cU32] at h0 h1
    obtain ⟨a0, e0, _, w0⟩ := DataW.trod_int Try.underlying33 h0
    obtain ⟨a1, e1, _, w1⟩ := DataW.trod_int Try.underlying33 h1
    have b0 := bounds_u32 w0
    have b1 := bounds_u32 w1
    simp at e0 e1
    subst e0; subst e1
    refine ⟨a0, a1, rfl, ?_⟩
    unfold regOk
    simp only
    omega
theorem ints_of : ∀ (cs : List Value) (n : Nat), cs.length = n → (∀ i, i < n → ∃ k : Int, (cs.drop i).take 1 = [.int .u8 k] ∧ 0 ≤ k ∧ k < 256) → ∃ ks : List Int, ks.length = n ∧ cs = ks.map (Value.int .u8) ∧ ∀ c ∈ ks, 0 ≤ c ∧ c < 256
  | [], n, h, _ => ⟨[], by simpa using h, rfl, by simp⟩
  | c :: r, 0, h, _ => by simp at h
  | c :: r, n + 1, h, hc => by
    obtain ⟨ks, h1, h2, h3⟩ := ints_of r n (by simpa using h) (fun i hi => by
      obtain ⟨k, e, b⟩ := hc (i + 1) (by omega)
      exact ⟨k, by simpa using e, b⟩)
    obtain ⟨k, e, b⟩ := hc 0 (by omega)
    simp at e
    refine ⟨k :: ks, by simp [h1], by rw [e, h2]; rfl, fun c hc2 => ?_⟩
    rcases List.mem_cons.1 hc2 with rfl | hc2
    · exact b
    · exact h3 c hc2
set_option maxRecDepth 100000 in
theorem key_cells {cs : List Value} {x : DataW H × List MemPlace} (h : DataW.trod enc Try.prog W base spare held fuel 23 cs = some x) : ∃ ks : List Int, ks.length = 8 ∧ cs = ks.map (Value.int .u8) ∧ ∀ c ∈ ks, 0 ≤ c ∧ c < 256 := by
  obtain ⟨xs, m, _, _, hl, hn, hf⟩ := DataW.trod_array Try.underlying23 h
  rw [cKey] at hl
  refine ints_of cs 8 hl (fun i hi => ?_)
  have h0 := hf i hi
  rw [cU8, Nat.mul_one] at h0
  obtain ⟨y, hy⟩ : ∃ y, xs[i]? = some y := ⟨xs[i]'(by omega), by simp⟩
  rw [hy] at h0
  obtain ⟨a0, e0, _, w0⟩ := DataW.trod_int Try.underlying5 h0
  have := bounds_u8 w0
  exact ⟨a0, e0, by omega, by omega⟩
theorem okWide_array {P : Program} {w : World} {r : Reach} {b0 : Nat} {t e : TypeId} {n : Nat} {v : Value} (ht : P.underlying t = some (.array n e)) (h : Value.okWide P w r b0 t v) : ∃ cs, v = .agg cs := by
  simp only [Value.okWide, ht] at h
  obtain ⟨cs, h1, _⟩ := h
  exact ⟨cs, h1⟩
variable {r : Reach} {b0 : Nat} {v : Value} {d : DataW H} {p : List MemPlace}
set_option maxRecDepth 100000 in
theorem stamp_of_trod (hv : Value.okWide Try.prog W r b0 37 v) (h : DataW.Trod enc Try.prog W base spare held 37 v d p) : ∃ t n b m : Int, v = .agg #[.int .u32 t, .int .u8 n, .int .u32 b, .int .u32 m] ∧ stOk (t, n, b, m) := by
  obtain ⟨cs, rfl, _⟩ := okWide_struct Try.underlying37 hv
  obtain ⟨fuel, hf⟩ := h
  obtain ⟨t, n, b, m, e, ok⟩ := st_cells hf
  have e2 : cs.toList = [.int .u32 t, .int .u8 n, .int .u32 b, .int .u32 m] := e
  exact ⟨t, n, b, m, by rw [← Array.toList_inj.1 (show cs.toList = (#[.int .u32 t, .int .u8 n, .int .u32 b, .int .u32 m] : Array Value).toList from e2)], ok⟩
set_option maxRecDepth 100000 in
theorem reg_of_trod (hv : Value.okWide Try.prog W r b0 39 v) (h : DataW.Trod enc Try.prog W base spare held 39 v d p) : ∃ b m : Int, v = .agg #[.int .u32 b, .int .u32 m] ∧ regOk (b, m) := by
  obtain ⟨cs, rfl, _⟩ := okWide_struct Try.underlying39 hv
  obtain ⟨fuel, hf⟩ := h
  obtain ⟨b, m, e, ok⟩ := reg_cells hf
  have e2 : cs.toList = [.int .u32 b, .int .u32 m] := e
  exact ⟨b, m, by rw [← Array.toList_inj.1 (show cs.toList = (#[.int .u32 b, .int .u32 m] : Array Value).toList from e2)], ok⟩
set_option maxRecDepth 100000 in
theorem key_of_trod (hv : Value.okWide Try.prog W r b0 23 v) (h : DataW.Trod enc Try.prog W base spare held 23 v d p) : ∃ ks : List Int, v = .agg (cells8 ks) ∧ ks.length = 8 ∧ ∀ c ∈ ks, 0 ≤ c ∧ c < 256 := by
  obtain ⟨cs, rfl⟩ := okWide_array Try.underlying23 hv
  obtain ⟨fuel, hf⟩ := h
  obtain ⟨ks, hl, e, ok⟩ := key_cells hf
  have e2 : cs.toList = ks.map (Value.int .u8) := e
  exact ⟨ks, by rw [show cells8 ks = cs from (by unfold cells8; rw [← e2])], hl, ok⟩
set_option maxRecDepth 100000 in
theorem keys2_of_trod (hv : Value.okWide Try.prog W r b0 44 v) (h : DataW.Trod enc Try.prog W base spare held 44 v d p) : ∃ ka kb : List Int, v = .agg (cells8 (ka ++ kb)) ∧ ka.length = 8 ∧ kb.length = 8 ∧ (∀ c ∈ ka, 0 ≤ c ∧ c < 256) ∧ ∀ c ∈ kb, 0 ≤ c ∧ c < 256 := by
  obtain ⟨cs, rfl⟩ := okWide_array Try.underlying44 hv
  obtain ⟨fuel, hf⟩ := h
  obtain ⟨xs, m, _, _, hl, hn, hf2⟩ := DataW.trod_array Try.underlying44 hf
  rw [show Try.prog.cellsOf 44 = 16 by kernel_rfl] at hl
  have hl2 : cs.toList.length = 16 := hl
  have e0 := hf2 0 (by omega)
  have e1 := hf2 1 (by omega)
  rw [cKey] at e0 e1
  obtain ⟨y0, hy0⟩ : ∃ y, xs[0]? = some y := ⟨xs[0]'(by omega), by simp⟩
  obtain ⟨y1, hy1⟩ : ∃ y, xs[1]? = some y := ⟨xs[1]'(by omega), by simp⟩
  rw [hy0] at e0
  rw [hy1] at e1
  obtain ⟨ka, la, ea, oka⟩ := key_cells e0
  obtain ⟨kb, lb, eb, okb⟩ := key_cells e1
  refine ⟨ka, kb, ?_, la, lb, oka, okb⟩
  have hcs : (Value.agg cs).cells.toList = cs.toList := rfl
  rw [hcs] at ea eb
  have hl3 : cs.size = 16 := by simpa using hl2
  have ea2 : cs.toList.take 8 = ka.map (Value.int .u8) := by simpa using ea
  have eb2 : cs.toList.drop 8 = kb.map (Value.int .u8) := by
    have h8 : (cs.toList.drop 8).take 8 = kb.map (Value.int .u8) := by simpa using eb
    rw [List.take_of_length_le (by simp; omega)] at h8
    exact h8
  have e : cs.toList = (ka ++ kb).map (Value.int .u8) := by rw [List.map_append, ← ea2, ← eb2, List.take_append_drop]
  rw [show cells8 (ka ++ kb) = cs from (by unfold cells8; rw [← e])]
end Opened
end Go.Proofs.Ytkdccigcpcchlaa
