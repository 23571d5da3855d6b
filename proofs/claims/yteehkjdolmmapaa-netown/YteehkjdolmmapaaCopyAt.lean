/-
  copy(x, y) into bytes that are a whole variable, at any place of it, from bytes that lie there in whatever form, or from a text: as an arm, and as a step of a region that draws. Own work.
-/
import Derived.Test.YteehkjdolmmapaaBoxes
import Derived.Laws.CopyRow
import Derived.Laws.IdiomCopy
import Derived.Lib.BufferWrite
namespace Go.Proofs.Yteehkjdolmmapaa
open Go.RowKit

def cells8 (xs : List Int) : Array Value := (xs.map (Value.int .u8)).toArray
theorem cells8_size (xs : List Int) : (cells8 xs).size = xs.length := by simp [cells8]
theorem cells8_one (xs : List Int) : (cells8 xs).all (·.oneCell') = true := by simp [cells8, Value.oneCell']
theorem run_copy_at (w : World) (ty : TypeId) (p off n cap : Nat) (t : TypeId) (cs ys zs : List Int) (hb : Box w p (cells8 cs) t) (vx : Value) (hL : Lies .u8 w vx ys) (m : Nat) (hm : Nat.min ys.length n = m) (hfit : off + m ≤ cs.length)
    (hz : zs = cs.take off ++ ys.take m ++ cs.drop (off + m)) :
    ∃ w', (Builtin.copy_ #[35, 35] ty #[.slice (some ⟨p, off, none⟩) n cap, vx]).run Try.prog w = .ok (.int .i64 m) w' ∧ Box w' p (cells8 zs) t ∧ KeepBut (fun k => k = p) w w' := by
  obtain ⟨i0, hi, hz0, hz1, hz2⟩ := info_parts info5
  by_cases h0 : m = 0
  · subst h0
    obtain ⟨ao, c, rfl⟩ := hL.shape
    have e : zs = cs := by rw [hz]; simp
    rw [e]
    exact ⟨w, run_copy_none (P := Try.prog) w 35 35 ty 5 _ _ _ _ _ _ Try.underlying35 (by simp [hi, hz1]) hm, hb, KeepBut.refl _ _⟩
  · rcases hL with ⟨rfl, _⟩ | ⟨hne, b, o2, c2, rfl, hlt, hl, hmx, hc⟩
    · simp at hm; omega
    · have hmy : m ≤ ys.length := by rw [← hm]; exact Nat.min_le_left _ _
      have hlen : ((ys.take m).map (Value.int .u8)).length = m := by simp; omega
      have hr := run_copy_row (P := Try.prog) w 35 35 ty 5 p off n cap ⟨b, o2, none⟩ ys.length c2 (cells8 cs) t ((ys.take m).map (Value.int .u8)) Try.underlying35 (by simp [hi, hz1]) hb
        (by rw [hlen]; exact hm.symm) (fun j v hj => by
          have hjl : j < m := by have := (List.getElem?_eq_some_iff.1 hj).1; omega
          rw [Addr.add_lit, hc j (by omega)]
          rw [List.getElem?_map, List.getElem?_take_of_lt hjl] at hj
          simp [List.getD] at hj ⊢
          obtain ⟨x, h1, h2⟩ := hj
          simp [h1, h2]) (by rw [hlen, cells8_size]; exact hfit) (ints_oneCell _ _)
      rw [hlen] at hr
      have e : ((cells8 cs).toList.take off ++ (ys.take m).map (Value.int .u8) ++ (cells8 cs).toList.drop (off + m)).toArray = cells8 zs := by
        rw [hz]; simp [cells8]
      rw [e] at hr
      exact ⟨_, hr, setRow_heap w p _ _ t (0, 0) hb, ⟨rfl, rfl, rfl, by simp [World.setRow], fun k _ hS => setRow_other w p k _ hS⟩⟩
/-- 'copy(x, y)' -/
theorem wp_copy_at {ops : Array Oper} {rest : List Oper} {o : Oper} {a : Act} {Q : Exit → Act → World → Prop} (w : World) (hgd : o.guard = none) (d s : Operand)
    (ho : o.op = .call { callee := .builtin .copy, args := #[d, s], argTypes := #[35, 35] }) (p off n cap : Nat) (t : TypeId) (cs ys zs : List Int) (hb : Box w p (cells8 cs) t) (hd : a.eval d = .slice (some ⟨p, off, none⟩) n cap)
    (vx : Value) (hs : a.eval s = vx) (hL : Lies .u8 w vx ys) (m : Nat) (hm : Nat.min ys.length n = m) (hfit : off + m ≤ cs.length) (hz : zs = cs.take off ++ ys.take m ++ cs.drop (off + m))
    (h : ∀ w', Box w' p (cells8 zs) t → KeepBut (fun k => k = p) w w' → wpList Try.prog ops Q rest (a.put o.dst (.int .i64 m)) w') : wpList Try.prog ops Q (o :: rest) a w := by
  obtain ⟨w', hr, h1, h2⟩ := run_copy_at w o.type p off n cap t cs ys zs hb vx hL m hm hfit hz
  refine wpList_plain hgd fun K hK => ?_
  unfold Oper.wp execOp
  simp only [ho, resolve, invoke, builtin, Sem.run_bind, Sem.run_pure, Result.andThen_ok, List.map_toArray, List.map_cons, List.map_nil, hd, hs, hr]
  exact hK _ _ (h _ h1 h2)
/-- The same at a step of a region that draws. -/
theorem step_copy_at {ops : Array Oper} {o : Oper} {a : Act} {K : Act → World → Prop} {Q : Exit → Act → World → Prop} {E : Prop} (w : World) (hgd : o.guard = none) (d s : Operand)
    (ho : o.op = .call { callee := .builtin .copy, args := #[d, s], argTypes := #[35, 35] }) (p off n cap : Nat) (t : TypeId) (cs ys zs : List Int) (hb : Box w p (cells8 cs) t) (hd : a.eval d = .slice (some ⟨p, off, none⟩) n cap)
    (vx : Value) (hs : a.eval s = vx) (hL : Lies .u8 w vx ys) (m : Nat) (hm : Nat.min ys.length n = m) (hfit : off + m ≤ cs.length) (hz : zs = cs.take off ++ ys.take m ++ cs.drop (off + m))
    (h : ∀ w', Box w' p (cells8 zs) t → KeepBut (fun k => k = p) w w' → K (a.put o.dst (.int .i64 m)) w') : if Region.wanted o (yielded ops a.tmps) = true then Oper.wp Try.prog o a w K Q else E := by
  have hw : Region.wanted o (yielded ops a.tmps) = true := by simp [Region.wanted, hgd]
  rw [if_pos hw]
  obtain ⟨w', hr, h1, h2⟩ := run_copy_at w o.type p off n cap t cs ys zs hb vx hL m hm hfit hz
  unfold Oper.wp execOp
  simp only [ho, resolve, invoke, builtin, Sem.run_bind, Sem.run_pure, Result.andThen_ok, List.map_toArray, List.map_cons, List.map_nil, hd, hs, hr]
  exact h _ h1 h2
/-- 'copy(x, s)' of a text that fits. -/
theorem wp_copy_str {ops : Array Oper} {rest : List Oper} {o : Oper} {a : Act} {Q : Exit → Act → World → Prop} (w : World) (hgd : o.guard = none) (d s : Operand)
    (ho : o.op = .call { callee := .builtin .copy, args := #[d, s], argTypes := #[35, 9] }) (p off n cap : Nat) (t : TypeId) (cs zs : List Int) (hb : Box w p (cells8 cs) t) (hd : a.eval d = .slice (some ⟨p, off, none⟩) n cap)
    (st : ByteArray) (hs : a.eval s = .string st) (hle : st.size ≤ n) (hfit : off + st.size ≤ cs.length) (hz : zs = cs.take off ++ (st.data.toList.map fun b => (b.toNat : Int)) ++ cs.drop (off + st.size))
    (h : ∀ w', Box w' p (cells8 zs) t → KeepBut (fun k => k = p) w w' → wpList Try.prog ops Q rest (a.put o.dst (.int .i64 st.size)) w') : wpList Try.prog ops Q (o :: rest) a w := by
  obtain ⟨i0, hi, hz0, hz1, hz2⟩ := info_parts info5
  have hr := Lib.run_copy_row_string (P := Try.prog) w 35 9 o.type 5 p off n cap st (cells8 cs) t Try.underlying35 (by simp [hi, hz1]) hb hle (by rw [cells8_size]; exact hfit)
  have e : ((cells8 cs).toList.take off ++ Lib.byteCells st.data.toList ++ (cells8 cs).toList.drop (off + st.size)).toArray = cells8 zs := by
    rw [hz]; simp [cells8, Lib.byteCells]
  rw [e] at hr
  refine wpList_plain hgd fun K hK => ?_
  unfold Oper.wp execOp
  simp only [ho, resolve, invoke, builtin, Sem.run_bind, Sem.run_pure, Result.andThen_ok, List.map_toArray, List.map_cons, List.map_nil, hd, hs, hr]
  exact hK _ _ (h _ (setRow_heap w p _ _ t (0, 0) hb) ⟨rfl, rfl, rfl, by simp [World.setRow], fun k _ hS => setRow_other w p k _ hS⟩)
end Go.Proofs.Yteehkjdolmmapaa
