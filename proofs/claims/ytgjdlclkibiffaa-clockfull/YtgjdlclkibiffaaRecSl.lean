/-
  Rows of records as package slices treats them: copy, clear, cuts of a row of one's own, in terms of the cells of its block. Of any layer. Own work.
-/
import Derived.Test.YtgjdlclkibiffaaRecs
import Derived.ArgAppend
import Derived.Lib.Overlaps
import Derived.Lib.AppendZerosOnto
import Derived.Laws.NewBlocks
import Derived.Shelf.Spec.SlicesInsert
namespace Go.Proofs.Ytgjdlclkibiffaa
open Go.RowKit

/-- Cells written one behind the other. -/
def layC (cs : Array Value) : Nat → List Value → Array Value
  | _, [] => cs
  | o, v :: r => layC (cs.setIfInBounds o v) (o + 1) r
theorem Box.setCells {g : Nat} {t : TypeId} : ∀ (vs : List Value) (o : Nat) (w : World) (cs : Array Value), Box w g cs t → Box (w.setCells g o vs) g (layC cs o vs) t
  | [], _, _, _, h => h
  | _ :: r, o, _, _, h => Box.setCells r (o + 1) _ _ h.set
theorem KeepBut.setCells {S : Nat → Prop} {g : Nat} : ∀ (vs : List Value) (o : Nat) (a w : World), KeepBut S a w → (S g ∨ a.heap.size ≤ g) → KeepBut S a (w.setCells g o vs)
  | [], _, _, _, h, _ => h
  | v :: r, o, a, _, h, hS => KeepBut.setCells r (o + 1) a _ (h.setCell (p := ⟨g, o, none⟩) hS v) hS
theorem layC_size : ∀ (vs : List Value) (o : Nat) (cs : Array Value), (layC cs o vs).size = cs.size
  | [], _, _ => rfl
  | v :: r, o, cs => by rw [layC, layC_size r]; simp
theorem layC_list : ∀ (vs : List Value) (o : Nat) (cs : Array Value), o + vs.length ≤ cs.size → (layC cs o vs).toList = cs.toList.take o ++ vs ++ cs.toList.drop (o + vs.length)
  | [], o, cs, _ => by simp [layC]
  | v :: r, o, cs, h => by
    have h1 : o + (r.length + 1) ≤ cs.size := by simpa using h
    rw [layC, layC_list r (o + 1) _ (by simp; omega)]
    have h2 : (cs.setIfInBounds o v).toList = cs.toList.take o ++ v :: cs.toList.drop (o + 1) := by
      rw [Array.toList_setIfInBounds, List.set_eq_take_append_cons_drop, if_pos (by simp; omega)]
    have hl : (cs.toList.take o).length = o := by simp; omega
    have h3 : (cs.toList.take o ++ v :: cs.toList.drop (o + 1)).take (o + 1) = cs.toList.take o ++ [v] := by
      rw [List.take_append, hl, List.take_of_length_le (by omega), show o + 1 - o = 1 by omega]; rfl
    have h4 : (cs.toList.take o ++ v :: cs.toList.drop (o + 1)).drop (o + 1 + r.length) = cs.toList.drop (o + (v :: r).length) := by
      rw [List.drop_append, hl, List.drop_eq_nil_of_le (by omega), show o + 1 + r.length - o = r.length + 1 by omega, List.nil_append, List.drop_succ_cons, List.drop_drop]
      congr 1
      simp
      omega
    rw [h2, h3, h4]
    simp
section
variable {α : Type} {t e : TypeId} {K : Nat} {enc : α → List Value}
theorem Rec.sizeOf (R : Rec t e K enc) (w : World) : (Go.sizeOf e).run Try.prog w = .ok K w := by
  obtain ⟨i0, z, B, hi, hz0, hz1, hz2, hzs, hB⟩ := R.info
  simp [Go.sizeOf, typeInfo, hi, hz1]
/-- copy(dst, src): all is read before anything is written. -/
theorem run_copyR (R : Rec t e K enc) (w : World) (ty : TypeId) (b o dLen dCap : Nat) (a : Addr) (sLen sCap : Nat) (cs : List Value) (m : Nat) (hm : Nat.min sLen dLen = m) (hn : cs.length = m * K)
    (hsrc : ∀ j v, cs[j]? = some v → w.cell? (a.add j) = some v) (hc : ∀ j, j < cs.length → (w.cell? ⟨b, o + j, none⟩).isSome = true) (hf : ∀ j, j < cs.length → w.frozen? ⟨b, o + j, none⟩ = false) (h1 : ∀ v ∈ cs, v.oneCell' = true) :
    (Builtin.copy_ #[t, t] ty #[.slice (some ⟨b, o, none⟩) dLen dCap, .slice (some a) sLen sCap]).run Try.prog w = .ok (goInt m) (w.setCells b o cs) := by
  obtain ⟨i0, z, B, hi, hz0, hz1, hz2, hzs, hB⟩ := R.info
  have hfc := run_firstCells_some (P := Try.prog) w K m a sLen sCap cs hn hsrc
  have hst := run_storeCells_cells (P := Try.prog) b o cs 0 w (by simpa using hc) (by simpa using hf) h1
  simp only [Nat.add_zero] at hst
  simp [Builtin.copy_, run_underlying R.und, Builtin.lenOf, Go.sizeOf, typeInfo, hi, hz1, hm, hfc, hst]
/-- x[s:n], x[s:n:m] of a row that begins its block. -/
theorem run_midR (R : Rec t e K enc) (w : World) (g m cap s n : Nat) (hs : s < n) (hn : n ≤ cap) : (Instr.sliceAt t (.slice (some ⟨g, 0, none⟩) m cap) (some (.int .i64 s)) (some (.int .i64 n)) none).run Try.prog w = .ok (.slice (some ⟨g, s * K, none⟩) (n - s) (cap - s)) w := by
  obtain ⟨i0, z, B, hi, hz0, hz1, hz2, hzs, hB⟩ := R.info
  simp [Instr.sliceAt, Instr.slice, run_underlying R.und, Instr.sliceBounds, Instr.sliceBound, asIntOf, Go.sizeOf, typeInfo, hi, hz1, Addr.add_lit]
  rw [if_pos hn, if_pos (by omega)]
  simp [show ¬ cap = s by omega]
theorem run_threeR (R : Rec t e K enc) (w : World) (ao : Option Addr) (m cap s n u : Nat) (hs : s ≤ n) (hn : n ≤ u) (ht : u ≤ cap) : ∃ v, (Instr.sliceAt t (.slice ao m cap) (some (.int .i64 s)) (some (.int .i64 n)) (some (.int .i64 u))).run Try.prog w = .ok v w := by
  obtain ⟨i0, z, B, hi, hz0, hz1, hz2, hzs, hB⟩ := R.info
  simp [Instr.sliceAt, Instr.slice, run_underlying R.und, Instr.sliceBounds, Instr.sliceBound, asIntOf, Go.sizeOf, typeInfo, hi, hz1]
  rw [if_pos ht, if_pos hn, if_pos hs]
  exact ⟨_, rfl⟩
theorem run_fromB (R : Rec t e K enc) (w : World) (g n cap s : Nat) (hs : s ≤ n) (hc : s < cap) : (Instr.sliceAt t (.slice (some ⟨g, 0, none⟩) n cap) (some (.int .i64 s)) none none).run Try.prog w = .ok (.slice (some ⟨g, s * K, none⟩) (n - s) (cap - s)) w := by
  rw [run_fromR R w _ n cap s hs, if_neg (by omega)]
  simp [Addr.add_lit]
/-- The cells of an element's zero are single. -/
def ZeroOne (e : TypeId) : Prop := ∀ i z, Try.prog.info? e = some i → i.zero = some z → ∀ v ∈ z.cells.toList, v.oneCell' = true
theorem zero_one_of {e : TypeId} {z : Value} (h : (Try.prog.info? e).map (·.zero) = some (some z)) (h1 : z.cells.all (·.oneCell') = true) : ZeroOne e := by
  intro i z' hi hz v hv
  rw [hi] at h
  simp only [Option.map_some, hz, Option.some.injEq] at h
  subst h
  rw [Array.all_eq_true'] at h1
  exact h1 v (by simpa using hv)
theorem zeros_one {e : TypeId} (h : ZeroOne e) {i : TypeInfo} {z : Value} (hi : Try.prog.info? e = some i) (hz : i.zero = some z) (hp : 0 < z.cells.size) (n : Nat) : ∀ v ∈ (Builtin.zeroCells z.cells n).toList, v.oneCell' = true := by
  intro v hv
  simp only [Builtin.zeroCells, Array.toList_map, List.mem_map] at hv
  obtain ⟨j, _, rfl⟩ := hv
  have hlt : j % z.cells.size < z.cells.size := Nat.mod_lt _ hp
  rw [getElem!_pos z.cells _ hlt]
  exact h i z hi hz _ (by simp)
/-- clear(x) -/
theorem run_clearR (R : Rec t e K enc) (hzo : ZeroOne e) (w : World) (g o n c : Nat) (cs : Array Value) (hb : Box w g cs e) (ho : o + n * K ≤ cs.size) (hn : 0 < n) : ∃ zs : List Value, zs.length = n * K ∧ ∀ ty, (Builtin.clear_ #[t] ty #[.slice (some ⟨g, o, none⟩) n c]).run Try.prog w = .ok (.tuple #[]) (w.setCells g o zs) := by
  obtain ⟨i0, z, B, hi, hz0, hz1, hz2, hzs, hB⟩ := R.info
  have hzv : (zeroValue e).run Try.prog w = .ok z w := by simp [zeroValue, typeInfo, hi, hz0]
  have hl : (Builtin.zeroCells z.cells n).toList.length = n * K := by simp [size_zeroCells, hzs]
  have hone := zeros_one hzo hi hz0 (by rw [hzs]; exact R.pos) n
  refine ⟨_, hl, fun ty => ?_⟩
  have hst := run_storeCells_cells (P := Try.prog) g o (Builtin.zeroCells z.cells n).toList 0 w (fun j hj => by
      have hlt : o + 0 + j < cs.size := by omega
      rw [hb.cell _ _ (Array.getElem?_eq_getElem hlt)]; rfl) (fun j hj => hb.frozen _) hone
  simp only [Nat.add_zero] at hst
  obtain ⟨m, rfl⟩ : ∃ m, n = m + 1 := ⟨n - 1, by omega⟩
  simp [Builtin.clear_, run_underlying R.und, hzv, hst]
end
end Go.Proofs.Ytgjdlclkibiffaa
