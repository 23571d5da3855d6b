/-
  Arguments of the laws of layer 9, opened: a script of acts, one act, a name. Own work.
-/
import Derived.Test.YtgjdlclkibiffaaFramePlain
import Derived.Test.YtgjdlclkibiffaaCkKit
import Derived.Test.YtgjdlclkibiffaaRecsOpen
import Derived.Deep.Slices
import Derived.ChangeArms
import Derived.SizedLaws
namespace Go.Proofs.Ytgjdlclkibiffaa
open Go.ChangeShapes Go.WideShapes Go.ChangeAt Go.RowKit Go.Deep

section
variable {H : Type} {enc : TypeId × Value → H} {W : World}
theorem cTx9 : Try.prog.cellsOf 32 = 3 := by kernel_rfl
theorem cRN9 : Try.prog.cellsOf 34 = 4 := by kernel_rfl
theorem cKA9 : Try.prog.cellsOf 36 = 6 := by kernel_rfl
theorem cU8_9 : Try.prog.cellsOf 5 = 1 := by kernel_rfl
theorem cU32_9 : Try.prog.cellsOf 25 = 1 := by kernel_rfl
section
variable {base fuel : Nat} {spare : Nat → Bool} {held : Bool}
set_option maxRecDepth 100000 in
theorem tx_cells9 {cs : List Value} {x : DataW H × List MemPlace} (h : DataW.trod enc Try.prog W base spare held fuel 32 cs = some x) : ∃ t : TxP, cs = [.int .u8 t.1, .int .u32 t.2.1, .int .u32 t.2.2] ∧ txOk t := by
  obtain ⟨xs, n, _, rfl, hl, hlen, hf⟩ := DataW.trod_struct Try.underlying32 h
  rw [cTx9] at hl
  match cs, hl, xs, hlen with
  | [c0, c1, c2], _, [y0, y1, y2], _ =>
    have h0 : DataW.trod enc Try.prog W base spare held n 5 (([c0, c1, c2].drop 0).take (Try.prog.cellsOf 5)) = some y0 := hf 0 _ rfl
    have h1 : DataW.trod enc Try.prog W base spare held n 25 (([c0, c1, c2].drop 1).take (Try.prog.cellsOf 25)) = some y1 := hf 1 _ rfl
    have h2 : DataW.trod enc Try.prog W base spare held n 25 (([c0, c1, c2].drop 2).take (Try.prog.cellsOf 25)) = some y2 := hf 2 _ rfl
    rw [cU8_9] at h0
    rw [cU32_9] at h1 h2
    obtain ⟨a0, e0, _, w0⟩ := DataW.trod_int Try.underlying5 h0
    obtain ⟨a1, e1, _, w1⟩ := DataW.trod_int Try.underlying25 h1
    obtain ⟨a2, e2, _, w2⟩ := DataW.trod_int Try.underlying25 h2
    have b0 := bounds_u8 w0
    have b1 := bounds_u32 w1
    have b2 := bounds_u32 w2
    simp at e0 e1 e2
    subst e0
    subst e1
    subst e2
    exact ⟨(a0, a1, a2), rfl, by unfold txOk; simp only; omega⟩
set_option maxRecDepth 100000 in
theorem rn_cells9 {cs : List Value} {x : DataW H × List MemPlace} (h : DataW.trod enc Try.prog W base spare held fuel 34 cs = some x) : ∃ a : NmP, cs = nmE a ∧ nmOk a := by
  obtain ⟨xs, n, _, rfl, hl, hlen, hf⟩ := DataW.trod_struct Try.underlying34 h
  rw [cRN9] at hl
  match cs, hl, xs, hlen with
  | [c0, c1, c2, c3], _, [y0, y1], _ =>
    have h0 : DataW.trod enc Try.prog W base spare held n 5 (([c0, c1, c2, c3].drop 0).take (Try.prog.cellsOf 5)) = some y0 := hf 0 _ rfl
    have h1 : DataW.trod enc Try.prog W base spare held n 32 (([c0, c1, c2, c3].drop 1).take (Try.prog.cellsOf 32)) = some y1 := hf 1 _ rfl
    rw [cU8_9] at h0
    rw [cTx9] at h1
    obtain ⟨a0, e0, _, w0⟩ := DataW.trod_int Try.underlying5 h0
    obtain ⟨t, e1, ok⟩ := tx_cells9 h1
    have b0 := bounds_u8 w0
    simp at e0 e1
    obtain ⟨rfl, rfl, rfl⟩ := e1
    subst e0
    exact ⟨(a0, t), rfl, ⟨by simp only; omega, ok⟩⟩
set_option maxRecDepth 100000 in
theorem ka_cells9 {cs : List Value} {x : DataW H × List MemPlace} (h : DataW.trod enc Try.prog W base spare held fuel 36 cs = some x) : ∃ a : KaP, cs = kaE a ∧ kaOk a := by
  obtain ⟨xs, n, _, rfl, hl, hlen, hf⟩ := DataW.trod_struct Try.underlying36 h
  rw [cKA9] at hl
  match cs, hl, xs, hlen with
  | [c0, c1, c2, c3, c4, c5], _, [y0, y1, y2], _ =>
    have h0 : DataW.trod enc Try.prog W base spare held n 5 (([c0, c1, c2, c3, c4, c5].drop 0).take (Try.prog.cellsOf 5)) = some y0 := hf 0 _ rfl
    have h1 : DataW.trod enc Try.prog W base spare held n 34 (([c0, c1, c2, c3, c4, c5].drop 1).take (Try.prog.cellsOf 34)) = some y1 := hf 1 _ rfl
    have h2 : DataW.trod enc Try.prog W base spare held n 25 (([c0, c1, c2, c3, c4, c5].drop 5).take (Try.prog.cellsOf 25)) = some y2 := hf 2 _ rfl
    rw [cU8_9] at h0
    rw [cRN9] at h1
    rw [cU32_9] at h2
    obtain ⟨a0, e0, _, w0⟩ := DataW.trod_int Try.underlying5 h0
    obtain ⟨nn, e1, ok⟩ := rn_cells9 h1
    obtain ⟨a2, e2, _, w2⟩ := DataW.trod_int Try.underlying25 h2
    have b0 := bounds_u8 w0
    have b2 := bounds_u32 w2
    simp at e0 e1 e2
    obtain ⟨rfl, rfl, rfl, rfl⟩ := e1
    subst e0
    subst e2
    exact ⟨(a0, nn, a2), rfl, ⟨by simp only; omega, ok, by simp only; omega⟩⟩
end
theorem kacts_of_trod {a0 : Option Addr} {len cap : Nat} {d : DataW H} {p : List MemPlace}
    (h : DataW.Trod enc Try.prog W 0 (fun _ => true) true 22 (.slice a0 len cap) d p) : ∃ fs, RSrc kaE W (.slice a0 len cap) fs ∧ (∀ f ∈ fs, kaOk f) :=
  recs_of_trod recKA cKA9 (fun _ _ _ h => ka_cells9 h) h
theorem kact_of_trod {r : Reach} {b0 : Nat} {v : Value} {d : DataW H} {p : List MemPlace} (hv : Value.okWide Try.prog W r b0 36 v) (h : DataW.Trod enc Try.prog W 0 (fun _ => true) true 36 v d p) : ∃ a : KaP, v = .agg (kaA a) ∧ kaOk a := by
  obtain ⟨cs, rfl, _⟩ := okWide_struct Try.underlying36 hv
  obtain ⟨fuel, hf⟩ := h
  obtain ⟨a, e, ok⟩ := ka_cells9 hf
  have e2 : cs.toList = (kaA a).toList := e
  exact ⟨a, by rw [Array.toList_inj.1 e2], ok⟩
theorem rname_of_trod {r : Reach} {b0 : Nat} {v : Value} {d : DataW H} {p : List MemPlace} (hv : Value.okWide Try.prog W r b0 34 v) (h : DataW.Trod enc Try.prog W 0 (fun _ => true) true 34 v d p) : ∃ a : NmP, v = .agg (nmA a) ∧ nmOk a := by
  obtain ⟨cs, rfl, _⟩ := okWide_struct Try.underlying34 hv
  obtain ⟨fuel, hf⟩ := h
  obtain ⟨a, e, ok⟩ := rn_cells9 hf
  have e2 : cs.toList = (nmA a).toList := e
  exact ⟨a, by rw [Array.toList_inj.1 e2], ok⟩
end
end Go.Proofs.Ytgjdlclkibiffaa
