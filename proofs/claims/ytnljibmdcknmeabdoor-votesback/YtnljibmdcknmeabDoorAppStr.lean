/-
  append(own, s...) for a string s, and append(own, x...) for bytes, with where the new row lies. Own work.
-/
import Derived.Test.YtnljibmdcknmeabDoorBoxes
import Derived.Lib.AppendStr
import Derived.Maps.AppendAt
namespace Go.Proofs.YtnljibmdcknmeabDoor
open Go.RowKit

/-- A text's bytes as numbers. -/
def strI (s : ByteArray) : List Int := s.data.toList.map fun b => (b.toNat : Int)
theorem strI_length (s : ByteArray) : (strI s).length = s.size := by simp [strI]
theorem strI_cells (s : ByteArray) : Lib.strCells s = (strI s).map (Value.int .u8) := by simp [Lib.strCells, strI, List.map_map, Function.comp_def]
theorem strI_byte (s : ByteArray) : ∀ c ∈ strI s, 0 ≤ c ∧ c < 256 := by
  intro c hc
  unfold strI at hc
  rw [List.mem_map] at hc
  obtain ⟨b, _, rfl⟩ := hc
  have := UInt8.toNat_lt b
  omega
/-- Where the new row lies: where the old one lay, or in a new block. -/
theorem str_block (w : World) (ty : TypeId) (v : Value) (n : Nat) (xs : List Value) (hown : w.ownsRow 0 5 1 v n xs) (s : ByteArray) (hb : n + s.size ≤ 140737488355328) (v' : Value) (w' : World)
    (hr : (Builtin.append_ #[41, 9] ty #[v, .string s]).run Tryd.prog w = .ok v' w') : v'.ownBlock = v.ownBlock ∨ v'.ownBlock = some w.heap.size := by
  obtain ⟨i0, hi, hz0, hz1, hz2⟩ := info_parts info5
  have hxl : xs.length = n := by simpa using hown.1
  rcases hown.2 with ⟨rfl, rfl⟩ | ⟨g, cap, cur, rfl, _, hg, hnc, hcm, hcs, htake⟩
  · obtain ⟨v2, w2, hr2, _, _, h4⟩ := Lib.run_append_own_string (P := Tryd.prog) w w.heap.size 41 9 ty 5 i0 Tryd.underlying41 Tryd.underlying9 hi hz0 hz1 hz2 (.slice none 0 0) 0 [] (World.ownsRow_nil _ _ _ _) s (by unfold maxLen; omega) (by omega) (Nat.le_refl _)
    by_cases h0 : s.size = 0
    · rw [hr2] at hr
      cases hr
      rw [h4.2 ⟨rfl, h0⟩]
      exact .inl rfl
    · have h1 := run_append_nil_string (P := Tryd.prog) w 41 9 ty 5 i0 (.int .u8 0) Tryd.underlying41 Tryd.underlying9 hi hz0 s (by omega) (by omega) (by rw [hz2]; omega)
      rw [h1] at hr
      cases hr
      exact .inr rfl
  · by_cases hroom : n + s.size ≤ cap
    · have h1 := Lib.run_append_room_string (P := Tryd.prog) w 41 9 ty 5 i0 Tryd.underlying41 Tryd.underlying9 hi hz1 g n cap cur hg s hroom (by omega)
      rw [h1] at hr
      cases hr
      exact .inl rfl
    · have holds : ∀ j u, xs[j]? = some u → w.cell? ((⟨g, 0, none⟩ : Addr).add j) = some u := hown.cells (g := g) rfl
      have h1 := Lib.run_append_grow_string (P := Tryd.prog) w 41 9 ty 5 i0 (.int .u8 0) Tryd.underlying41 Tryd.underlying9 hi hz0 ⟨g, 0, none⟩ n cap xs (by rw [hz1]; simpa using hxl) holds s (by omega) (by omega) (by rw [hz2]; exact growslice_fits (by omega) (by omega))
      rw [h1] at hr
      cases hr
      exact .inr rfl
/-- 'append(v, s...)', s a text. -/
theorem append_str {ops : Array Oper} {rest : List Oper} {o : Oper} {a : Act} {Q : Exit → Act → World → Prop} (w : World) (hgd : o.guard = none) (sl x : Operand)
    (ho : o.op = .call { callee := .builtin .append, args := #[sl, x], argTypes := #[41, 9] })
    (v : Value) (n : Nat) (ys : List Int) (hs : a.eval sl = v) (hown : w.ownsRow 0 5 1 v n (ys.map (Value.int .u8))) (s : ByteArray) (hx : a.eval x = .string s) (hb : n + s.size ≤ 140737488355328)
    (h : ∀ v' w', w'.ownsRow 0 5 1 v' (n + s.size) ((ys ++ strI s).map (Value.int .u8)) → w.grownBy w' v.ownBlock → (v'.ownBlock = v.ownBlock ∨ v'.ownBlock = some w.heap.size) → wpList Tryd.prog ops Q rest (a.put o.dst v') w') :
    wpList Tryd.prog ops Q (o :: rest) a w := by
  obtain ⟨i0, hi, hz0, hz1, hz2⟩ := info_parts info5
  refine wpList_plain hgd fun K hK => ?_
  obtain ⟨v', w', hr, h2, h3, _⟩ := Lib.run_append_own_string (P := Tryd.prog) w 0 41 9 o.type 5 i0 Tryd.underlying41 Tryd.underlying9 hi hz0 hz1 hz2 v n _ hown s (by unfold maxLen; omega) hb (Nat.zero_le _)
  have h5 := str_block w o.type v n _ hown s hb v' w' hr
  unfold Oper.wp execOp
  simp only [ho, resolve, invoke, builtin, Sem.run_bind, Sem.run_pure, Result.andThen_ok, List.map_toArray, List.map_cons, List.map_nil, hs, hx, hr]
  exact hK _ _ (h v' w' (by rw [List.map_append, ← strI_cells]; exact h2) h3 h5)
/-- 'append(v, c)', c one byte that lies in a new block. -/
theorem grown_keep {w w' : World} {v : Value} {S : Nat → Prop} (hg : w.grownBy w' v.ownBlock) (hS : ∀ g, v.ownBlock = some g → S g) : KeepBut S w w' :=
  ⟨hg.os, hg.tape, hg.output, hg.size, fun k hk hn => hg.block k hk (fun e => hn (hS k e.symm))⟩
end Go.Proofs.YtnljibmdcknmeabDoor
