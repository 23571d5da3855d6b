/-
  Names as keys of a map: what a name reads as, and back. Own work.
-/
import Derived.Test.YtkdccigcpcchlaaIdVals
import Derived.Test.YtkdccigcpcchlaaBoxes
import Derived.Maps.OwnSet
import Derived.DeepKeys4
import Derived.OpenShut
namespace Go.Proofs.Ytkdccigcpcchlaa
open Go.RowKit Go.Maps

abbrev txV (t : TxP) : Value := .agg #[.int .u8 t.1, .int .u32 t.2.1, .int .u32 t.2.2]
/-- What a name reads as, as a key. -/
def txKey (t : TxP) : Lit := .string (keyBytes [.int .u8 t.1, .int .u32 t.2.1, .int .u32 t.2.2])
theorem idLaid : laidOutB Try.prog = true := by kernel_rfl
theorem txRow : (35 : TypeId) < Try.prog.types.size := of_decide_eq_true (by kernel_rfl)
theorem txKeyed : Keyed Try.prog 35 := Keyed.of_law (deep_law_laid idLaid (m := 2) (by omega) txRow (by kernel_rfl) (by kernel_rfl))
theorem txIsKey : Try.prog.keyType 35 = true := by kernel_rfl
theorem txCells : Try.prog.cellsOf 35 = 3 := by kernel_rfl
theorem u8Cells : Try.prog.cellsOf 5 = 1 := by kernel_rfl
theorem u32Cells : Try.prog.cellsOf 33 = 1 := by kernel_rfl
theorem zeroUnit (w : World) : (zeroValue 119).run Try.prog w = .ok (.agg #[]) w := by kernel_rfl
theorem typesPos : ∃ k, Try.prog.types.size = k + 1 := ⟨Try.prog.types.size - 1, by
  have : 0 < Try.prog.types.size := of_decide_eq_true (by kernel_rfl)
  omega⟩
theorem wf_u8 {n : Int} (h0 : 0 ≤ n) (h1 : n < 256) : (Lit.int .u8 n).wf = true := by
  simp [Lit.wf, IntKind.min, IntKind.max, IntKind.signed, IntKind.bits]; omega
theorem wf_u32 {n : Int} (h0 : 0 ≤ n) (h1 : n < 4294967296) : (Lit.int .u32 n).wf = true := by
  simp [Lit.wf, IntKind.min, IntKind.max, IntKind.signed, IntKind.bits]; omega
theorem lits_tx (t : TxP) (h : txOk t) : Try.prog.keyLits (Try.prog.types.size + 1) 35 [.int .u8 t.1, .int .u32 t.2.1, .int .u32 t.2.2] = some [.int .u8 t.1, .int .u32 t.2.1, .int .u32 t.2.2] := by
  obtain ⟨k, hk⟩ := typesPos
  obtain ⟨⟨a0, a1⟩, ⟨b0, b1⟩, ⟨c0, c1⟩⟩ := h
  have w1 := wf_u8 a0 a1
  have w2 := wf_u32 b0 b1
  have w3 := wf_u32 c0 c1
  rw [hk]
  unfold Program.keyLits
  rw [Try.underlying35]
  simp [txCells, u8Cells, u32Cells, Program.keyLits, Try.underlying5, Try.underlying33, w1, w2, w3]
theorem keyOf_tx (t : TxP) (h : txOk t) : keyOf Try.prog 35 (txV t) = some (txKey t) := by
  have hl := lits_tx t h
  unfold keyOf
  rw [Try.underlying35]
  simp only [txIsKey, Bool.true_and]
  have hf : (txV t).formed Try.prog 35 = true := by
    simp [Value.formed, Try.underlying35, txCells]
  rw [if_pos hf]
  have hc : (txV t).cells.toList = [.int .u8 t.1, .int .u32 t.2.1, .int .u32 t.2.2] := rfl
  rw [hc, hl]
  rfl
theorem three_cells (cs : Array Value) (h : cs.size = 3) : ∃ a b c, cs = #[a, b, c] := by
  obtain ⟨l⟩ := cs
  match l, h with
  | [a, b, c], _ => exact ⟨a, b, c, rfl⟩
theorem lits_open (k : Nat) (c0 c1 c2 : Value) (ls : List Lit) : Try.prog.keyLits (k + 1 + 1) 35 [c0, c1, c2] = some ls →
    ∃ a b c, Try.prog.keyLits (k + 1) 5 [c0] = some a ∧ Try.prog.keyLits (k + 1) 33 [c1] = some b ∧ Try.prog.keyLits (k + 1) 33 [c2] = some c ∧ ls = a ++ b ++ c := by
  rw [Program.keyLits.eq_def]
  simp only [Try.underlying35]
  simp [txCells, u8Cells, u32Cells]
  intro h
  cases ha : Try.prog.keyLits (k + 1) 5 [c0] with
  | none => rw [ha] at h; simp at h
  | some a =>
    cases hb : Try.prog.keyLits (k + 1) 33 [c1] with
    | none => rw [ha, hb] at h; simp at h
    | some b =>
      cases hc : Try.prog.keyLits (k + 1) 33 [c2] with
      | none => rw [ha, hb, hc] at h; simp at h
      | some c =>
        rw [ha, hb, hc] at h
        simp at h
        exact ⟨a, rfl, b, rfl, c, rfl, h.symm⟩
theorem keyOf_tx_inv {v : Value} {kl : Lit} (h : keyOf Try.prog 35 v = some kl) : ∃ t, txOk t ∧ v = txV t ∧ kl = txKey t := by
  obtain ⟨k, hk⟩ := typesPos
  simp only [keyOf, Try.underlying35, txIsKey, Bool.true_and] at h
  split at h
  · rename_i hf
    cases v <;> simp [Value.formed, Try.underlying35] at hf
    rename_i cs
    rw [txCells] at hf
    obtain ⟨c0, c1, c2, rfl⟩ := three_cells cs hf
    rw [hk] at h
    have hc : (Value.agg #[c0, c1, c2]).cells.toList = [c0, c1, c2] := rfl
    rw [hc] at h
    obtain ⟨ls, h1, rfl⟩ := Option.map_eq_some_iff.1 h
    obtain ⟨a, b, c, ha, hb, hcc, rfl⟩ := lits_open k c0 c1 c2 ls h1
    obtain ⟨x, e1, e2⟩ := keyLits_int' Try.underlying5 ha
    obtain ⟨y, f1, f2⟩ := keyLits_int' Try.underlying33 hb
    obtain ⟨z, g1, g2⟩ := keyLits_int' Try.underlying33 hcc
    simp at e1 f1 g1
    subst e1; subst f1; subst g1; subst e2; subst f2; subst g2
    have w1 := bounds_u8 (keyLits_wf ha _ (List.mem_singleton.2 rfl))
    have w2 := bounds_u32 (keyLits_wf hb _ (List.mem_singleton.2 rfl))
    have w3 := bounds_u32 (keyLits_wf hcc _ (List.mem_singleton.2 rfl))
    refine ⟨(x, y, z), ?_, rfl, rfl⟩
    unfold txOk
    simp only
    omega
  · simp at h
theorem txKey_inj {t u : TxP} (ht : txOk t) (hu : txOk u) (h : txKey t = txKey u) : t = u := by
  have := txKeyed.inj (keyOf_tx t ht) (by rw [keyOf_tx u hu, h])
  obtain ⟨a, b, c⟩ := t
  obtain ⟨d, e, f⟩ := u
  simp [txV] at this
  obtain ⟨rfl, rfl, rfl⟩ := this
  rfl
end Go.Proofs.Ytkdccigcpcchlaa
