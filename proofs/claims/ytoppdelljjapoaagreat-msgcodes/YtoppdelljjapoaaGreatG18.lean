/-
  Own texts put together: VtMake. Own work.
-/
import Derived.Test.YtoppdelljjapoaaGreatG07
import Derived.Test.YtoppdelljjapoaaGreatG17
import Derived.Test.YtoppdelljjapoaaGreatG12
namespace Go.Proofs.YtoppdelljjapoaaGreat
section
open Go.RowKit

def natI (xs : List Nat) : List Int := xs.map fun (x : Nat) => (x : Int)
theorem natI_len (xs : List Nat) : (natI xs).length = xs.length := by simp [natI]
theorem natI_at (xs : List Nat) (k : Nat) : (natI xs).getD k 0 = ((xs.getD k 0 : Nat) : Int) := by
  simp only [natI, List.getD_eq_getElem?_getD, List.getElem?_map]
  cases xs[k]? <;> simp
theorem votL_natI (xs : List Nat) : votL xs = (natI xs).map (Value.int .u8) := by simp [votL, natI]
def zeroCv : Cf := ⟨0, 0, 0, [0, 0, 0, 0, 0, 0, 0, 0]⟩
theorem zeroC_arr : zeroCv.arr = #[.int .u32 0, .int .u8 0, .int .u8 0, .int .u8 0, .int .u8 0, .int .u8 0, .int .u8 0, .int .u8 0, .int .u8 0, .int .u8 0, .int .u8 0] := rfl
theorem zeroC_ok : zeroCv.Ok := ⟨by decide, by decide, by decide, rfl, by simp [zeroCv]⟩
/-- What it is made of: as far as k. -/
def mkTo (e r w : Nat) (xs : List Nat) (k : Nat) : Cf := ⟨e, r, w, xs.take k ++ List.replicate (8 - k) 0⟩
def mkC (e r w : Nat) (xs : List Nat) : Cf := mkTo e r w xs xs.length
theorem mkTo_ok (e r w : Nat) (xs : List Nat) (k : Nat) (he : e < 4294967296) (hr : r < 256) (hw : w < 256) (hx : ∀ x ∈ xs, x < 256) (hk : k ≤ 8) (hl : k ≤ xs.length) : (mkTo e r w xs k).Ok := by
  refine ⟨he, hr, hw, ?_, fun v hv => ?_⟩
  · simp [mkTo]; omega
  · simp only [mkTo, List.mem_append, List.mem_replicate] at hv
    rcases hv with hv | ⟨_, rfl⟩
    · exact hx v (List.mem_of_mem_take hv)
    · decide
theorem mkC_eq (e r w : Nat) (xs : List Nat) : mkC e r w xs = ⟨(mkTo e r w xs 0).e, (mkTo e r w xs 0).r, (mkTo e r w xs 0).w, xs.take xs.length ++ (mkTo e r w xs 0).vs.drop xs.length⟩ := by
  unfold mkC mkTo
  simp only [List.take_zero, List.nil_append, List.drop_replicate, Nat.sub_zero]
def makeF (e r w : Nat) (xs : List Nat) : Cf := if decide (xs.length ≤ 8) && mayB (mkC e r w xs) then mkC e r w xs else zeroCv
def makeW (e r w : Nat) (xs : List Nat) : Int := if decide (xs.length ≤ 8) && mayB (mkC e r w xs) then 0 else 16
theorem run_copy_cfg (w : World) (ty : TypeId) (p : Nat) (t : TypeId) (c c' : Cf) (xs : List Nat) (hok : c.Ok) (hb : Box w p c.arr t) (vx : Value) (hL : Lies .u8 w vx (natI xs)) (m : Nat) (hm : Nat.min xs.length 8 = m)
    (hz : c' = ⟨c.e, c.r, c.w, xs.take m ++ c.vs.drop m⟩) :
    ∃ w', (Builtin.copy_ #[45, 45] ty #[.slice (some ⟨p, 3, none⟩) 8 8, vx]).run Tryz.prog w = .ok (.int .i64 m) w' ∧ Box w' p c'.arr t ∧ KeepBut (fun k => k = p) w w' := by
  obtain ⟨i0, hi, hz0, hz1, hz2⟩ := info_parts info5
  have hyl := natI_len xs
  have hm8 : m ≤ 8 := by rw [← hm]; exact Nat.min_le_right _ _
  by_cases h0 : m = 0
  · subst h0
    obtain ⟨ao, cc, rfl⟩ := hL.shape
    have e : c' = c := by rw [hz]; cases c; simp
    rw [e]
    exact ⟨w, run_copy_none (P := Tryz.prog) w 45 45 ty 5 _ _ _ _ _ _ Tryz.underlying45 (by simp [hi, hz1]) (by rw [hyl]; exact hm), hb, KeepBut.refl _ _⟩
  · rcases hL with ⟨h1, _⟩ | ⟨hne, b, o2, c2, rfl, hlt, hl, hmx, hc⟩
    · rw [h1] at hyl; simp at hyl; simp [← hyl] at hm; omega
    · have hmy : m ≤ xs.length := by rw [← hm]; exact Nat.min_le_left _ _
      have hlen : (((natI xs).take m).map (Value.int .u8)).length = m := by simp [hyl]; omega
      have hr := run_copy_row (P := Tryz.prog) w 45 45 ty 5 p 3 8 8 ⟨b, o2, none⟩ (natI xs).length c2 c.arr t (((natI xs).take m).map (Value.int .u8)) Tryz.underlying45 (by simp [hi, hz1]) hb
        (by rw [hlen, hyl]; exact hm.symm) (fun j v hj => by
          have hjl : j < m := by have := (List.getElem?_eq_some_iff.1 hj).1; omega
          rw [Addr.add_lit, hc j (by omega)]
          rw [List.getElem?_map, List.getElem?_take_of_lt hjl] at hj
          simp [List.getD] at hj ⊢
          obtain ⟨x, h1, h2⟩ := hj
          simp [h1, h2]) (by rw [hlen, hok.size]; omega) (ints_oneCell _ _)
      rw [hlen] at hr
      have e : (c.arr.toList.take 3 ++ ((natI xs).take m).map (Value.int .u8) ++ c.arr.toList.drop (3 + m)).toArray = c'.arr := by
        rw [hz]
        have h3 : 3 + m = m + 1 + 1 + 1 := by omega
        rw [h3]
        simp [Cf.arr, Cf.cells, votL, natI, List.map_take, List.map_drop]
        rfl
      rw [e] at hr
      exact ⟨_, hr, setRow_heap w p _ _ t (0, 0) hb, ⟨rfl, rfl, rfl, by simp [World.setRow], fun k _ hS => setRow_other w p k _ hS⟩⟩
/-- 'copy(c.Votes[:], votes)' -/
theorem wp_copy_cfg {ops : Array Oper} {rest : List Oper} {o : Oper} {a : Act} {Q : Exit → Act → World → Prop} (w : World) (hgd : o.guard = none) (d s : Operand)
    (ho : o.op = .call { callee := .builtin .copy, args := #[d, s], argTypes := #[45, 45] }) (p : Nat) (t : TypeId) (c c' : Cf) (xs : List Nat) (hok : c.Ok) (hb : Box w p c.arr t) (hd : a.eval d = .slice (some ⟨p, 3, none⟩) 8 8)
    (vx : Value) (hs : a.eval s = vx) (hL : Lies .u8 w vx (natI xs)) (m : Nat) (hm : Nat.min xs.length 8 = m) (hz : c' = ⟨c.e, c.r, c.w, xs.take m ++ c.vs.drop m⟩)
    (h : ∀ w', Box w' p c'.arr t → KeepBut (fun k => k = p) w w' → wpList Tryz.prog ops Q rest (a.put o.dst (.int .i64 m)) w') : wpList Tryz.prog ops Q (o :: rest) a w := by
  obtain ⟨w', hr, h1, h2⟩ := run_copy_cfg w o.type p t c c' xs hok hb vx hL m hm hz
  refine wpList_plain hgd fun K hK => ?_
  unfold Oper.wp execOp
  simp only [ho, resolve, invoke, builtin, Sem.run_bind, Sem.run_pure, Result.andThen_ok, List.map_toArray, List.map_cons, List.map_nil, hd, hs, hr]
  exact hK _ _ (h _ h1 h2)
theorem results_box2v {P : Program} {fn : Func} {q t1 : Tmp} {t t0 : TypeId} {d : TypeDesc} (h : fn.results = #[.cell q t, .tmp t1]) (tmps : Array Value) (w : World) (p : Nat) (hq : tmps.getD q undef = .pointer (some ⟨p, 0, none⟩)) {v1 : Value} (h1 : tmps.getD t1 undef = v1) {cs : Array Value} (hb : Box w p cs t0)
    (hu : P.underlying t = some d) (hd : d.isRow = true) (hi : (P.info? t).map (·.size) = some cs.size) : (results fn tmps).run P w = .ok (.tuple #[.agg cs, v1]) w := by
  subst h1
  have hr : w.rangeAt p 0 cs.toList := fun j v hv => by
    rw [Nat.zero_add]; exact hb.cell j v (by simpa using hv)
  have hl := run_loadVar_mid (P := P) w p 0 t cs.toList d hr hu hd (by simpa using hi)
  have hq' : tmps[q]?.getD undef = .pointer (some ⟨p, 0, none⟩) := by rw [← Array.getD_eq_getD_getElem?]; exact hq
  simp only [results, h]
  simp [hq', asAddr, hl]
/-- A configuration is stored over one. -/
theorem wp_store_cfg {ops : Array Oper} {rest : List Oper} {op : Oper} {a : Act} {w : World} {Q : Exit → Act → World → Prop} {t0 : TypeId} (hgd : op.guard = none) (hdst : op.dst = none) (x y : Operand) (ho : op.op = .store 30 x y)
    (p : Nat) (hx : a.eval x = .pointer (some ⟨p, 0, none⟩)) {c c' : Cf} (hok : c.Ok) (hok' : c'.Ok) (hy : a.eval y = .agg c'.arr) (hb : Box w p c.arr t0)
    (h : ∀ w', Box w' p c'.arr t0 → KeepBut (fun k => k = p) w w' → wpList Tryz.prog ops Q rest a w') : wpList Tryz.prog ops Q (op :: rest) a w :=
  wp_store_box hgd hdst x y ho p hx hy hb (by rw [hok.size, hok'.size]) (by rw [hok'.size]; exact infoCfg) c'.one h
end
end Go.Proofs.YtoppdelljjapoaaGreat
