/-
  Own texts put together: TbMap, TbLaw, IdBox, MgLaw, MgDo, IdVals, CopyAt. Own work.
-/
import Derived.Test.YtlngejmojpkdkaaG08
import Derived.Test.YtlngejmojpkdkaaG01
import Derived.Test.YtlngejmojpkdkaaG02
import Derived.Test.YtlngejmojpkdkaaG06
import Derived.Maps.OwnSet
import Derived.DeepKeys4
import Derived.OpenShut
import Derived.BigQuiet
import Derived.Deep.LoopGhost
import Derived.Deep.QuietTactic
import Derived.Laws.StructEq
import Derived.Laws.CopyRow
import Derived.Laws.IdiomCopy
import Derived.Lib.BufferWrite
namespace Go.Proofs.Ytlngejmojpkdkaa
section
open Go.RowKit Go.Maps Classical

/-- A key that is one. -/
abbrev KeyT : Type := {k : List Int // KeyOk k}
abbrev kyV (k : List Int) : Value := .agg (eightA k)
abbrev kyL (k : List Int) : List Lit := [.int .u8 (at8 k 0), .int .u8 (at8 k 1), .int .u8 (at8 k 2), .int .u8 (at8 k 3), .int .u8 (at8 k 4), .int .u8 (at8 k 5), .int .u8 (at8 k 6), .int .u8 (at8 k 7)]
/-- What a key reads as, as a map's key. -/
def kyKey (k : List Int) : Lit := .string (keyBytes (kyL k))
theorem kyLaid : laidOutB Try.prog = true := by kernel_rfl
theorem kyRow : (31 : TypeId) < Try.prog.types.size := of_decide_eq_true (by kernel_rfl)
theorem kyKeyed : Keyed Try.prog 31 := Keyed.of_law (deep_law_laid kyLaid (m := 2) (by omega) kyRow (by kernel_rfl) (by kernel_rfl))
theorem kyIsKey : Try.prog.keyType 31 = true := by kernel_rfl
theorem kyCells : Try.prog.cellsOf 31 = 8 := by kernel_rfl
theorem kyu8Cells : Try.prog.cellsOf 5 = 1 := by kernel_rfl
theorem kyTypes : ∃ k, Try.prog.types.size = k + 1 := ⟨Try.prog.types.size - 1, by
  have : 0 < Try.prog.types.size := of_decide_eq_true (by kernel_rfl)
  omega⟩
theorem kwf_u8 {n : Int} (h0 : 0 ≤ n) (h1 : n < 256) : (Lit.int .u8 n).wf = true := by
  simp [Lit.wf, IntKind.min, IntKind.max, IntKind.signed, IntKind.bits]; omega
theorem at8_rng {k : List Int} (h : KeyOk k) (i : Nat) : 0 ≤ at8 k i ∧ at8 k i < 256 := by
  unfold at8
  by_cases hi : i < k.length
  · have : k.getD i 0 = k[i] := by simp [List.getD, hi]
    rw [this]
    exact h.b _ (List.getElem_mem hi)
  · have : k.getD i 0 = 0 := by simp [List.getD, List.getElem?_eq_none (Nat.not_lt.1 hi)]
    rw [this]
    omega
theorem lits_ky (k : List Int) (h : KeyOk k) : Try.prog.keyLits (Try.prog.types.size + 1) 31 (eightE k) = some (kyL k) := by
  obtain ⟨n, hn⟩ := kyTypes
  have w := fun i => kwf_u8 (at8_rng h i).1 (at8_rng h i).2
  rw [hn]
  unfold Program.keyLits
  rw [Try.underlying31]
  simp [kyCells, kyu8Cells, Program.keyLits, Try.underlying5, w, List.range_succ]
theorem keyOf_ky (k : List Int) (h : KeyOk k) : keyOf Try.prog 31 (kyV k) = some (kyKey k) := by
  have hl := lits_ky k h
  unfold keyOf
  rw [Try.underlying31]
  simp only [kyIsKey, Bool.true_and]
  have hf : (kyV k).formed Try.prog 31 = true := by
    simp [Value.formed, Try.underlying31, kyCells]
  rw [if_pos hf]
  have hc : (kyV k).cells.toList = eightE k := rfl
  rw [hc, hl]
  rfl
theorem eight_cellsK (cs : Array Value) (h : cs.size = 8) : ∃ a b c d e f g i, cs = #[a, b, c, d, e, f, g, i] := by
  obtain ⟨l⟩ := cs
  match l, h with
  | [a, b, c, d, e, f, g, i], _ => exact ⟨a, b, c, d, e, f, g, i, rfl⟩
theorem klits_open (k : Nat) (c0 c1 c2 c3 c4 c5 c6 c7 : Value) (ls : List Lit) : Try.prog.keyLits (k + 1 + 1) 31 [c0, c1, c2, c3, c4, c5, c6, c7] = some ls →
    ∃ a0 a1 a2 a3 a4 a5 a6 a7, Try.prog.keyLits (k + 1) 5 [c0] = some a0 ∧ Try.prog.keyLits (k + 1) 5 [c1] = some a1 ∧ Try.prog.keyLits (k + 1) 5 [c2] = some a2 ∧ Try.prog.keyLits (k + 1) 5 [c3] = some a3 ∧ Try.prog.keyLits (k + 1) 5 [c4] = some a4 ∧ Try.prog.keyLits (k + 1) 5 [c5] = some a5 ∧ Try.prog.keyLits (k + 1) 5 [c6] = some a6 ∧ Try.prog.keyLits (k + 1) 5 [c7] = some a7 := by
  rw [Program.keyLits.eq_def]
  simp only [Try.underlying31]
  simp [kyCells, kyu8Cells, List.range_succ]
  intro h
  cases h0 : Try.prog.keyLits (k + 1) 5 [c0] with
  | none => rw [h0] at h; simp at h
  | some a0 =>
  cases h1 : Try.prog.keyLits (k + 1) 5 [c1] with
  | none => rw [h0, h1] at h; simp at h
  | some a1 =>
  cases h2 : Try.prog.keyLits (k + 1) 5 [c2] with
  | none => rw [h0, h1, h2] at h; simp at h
  | some a2 =>
  cases h3 : Try.prog.keyLits (k + 1) 5 [c3] with
  | none => rw [h0, h1, h2, h3] at h; simp at h
  | some a3 =>
  cases h4 : Try.prog.keyLits (k + 1) 5 [c4] with
  | none => rw [h0, h1, h2, h3, h4] at h; simp at h
  | some a4 =>
  cases h5 : Try.prog.keyLits (k + 1) 5 [c5] with
  | none => rw [h0, h1, h2, h3, h4, h5] at h; simp at h
  | some a5 =>
  cases h6 : Try.prog.keyLits (k + 1) 5 [c6] with
  | none => rw [h0, h1, h2, h3, h4, h5, h6] at h; simp at h
  | some a6 =>
  cases h7 : Try.prog.keyLits (k + 1) 5 [c7] with
  | none => rw [h0, h1, h2, h3, h4, h5, h6, h7] at h; simp at h
  | some a7 => simp
theorem ky_int {n : Nat} {c : Value} {a : List Lit} (h : Try.prog.keyLits n 5 [c] = some a) : ∃ x : Int, c = .int .u8 x ∧ 0 ≤ x ∧ x < 256 := by
  obtain ⟨x, e1, e2⟩ := keyLits_int' Try.underlying5 h
  simp at e1
  subst e1
  subst e2
  have w1 := bounds_u8 (keyLits_wf h _ (List.mem_singleton.2 rfl))
  exact ⟨x, rfl, by omega, by omega⟩
theorem keyOf_ky_inv {v : Value} {kl : Lit} (h : keyOf Try.prog 31 v = some kl) : ∃ k : KeyT, v = kyV k.1 ∧ kl = kyKey k.1 := by
  have hkeep := h
  obtain ⟨n, hn⟩ := kyTypes
  simp only [keyOf, Try.underlying31, kyIsKey, Bool.true_and] at h
  split at h
  · rename_i hf
    cases v <;> simp [Value.formed, Try.underlying31] at hf
    rename_i cs
    rw [kyCells] at hf
    obtain ⟨c0, c1, c2, c3, c4, c5, c6, c7, rfl⟩ := eight_cellsK cs hf
    rw [hn] at h
    have hc : (Value.agg #[c0, c1, c2, c3, c4, c5, c6, c7]).cells.toList = [c0, c1, c2, c3, c4, c5, c6, c7] := rfl
    rw [hc] at h
    obtain ⟨ls, h1, _⟩ := Option.map_eq_some_iff.1 h
    obtain ⟨a0, a1, a2, a3, a4, a5, a6, a7, g0, g1, g2, g3, g4, g5, g6, g7⟩ := klits_open n c0 c1 c2 c3 c4 c5 c6 c7 ls h1
    obtain ⟨x0, rfl, p0, q0⟩ := ky_int g0
    obtain ⟨x1, rfl, p1, q1⟩ := ky_int g1
    obtain ⟨x2, rfl, p2, q2⟩ := ky_int g2
    obtain ⟨x3, rfl, p3, q3⟩ := ky_int g3
    obtain ⟨x4, rfl, p4, q4⟩ := ky_int g4
    obtain ⟨x5, rfl, p5, q5⟩ := ky_int g5
    obtain ⟨x6, rfl, p6, q6⟩ := ky_int g6
    obtain ⟨x7, rfl, p7, q7⟩ := ky_int g7
    have hk : KeyOk [x0, x1, x2, x3, x4, x5, x6, x7] := ⟨rfl, fun c hc => by
      simp at hc
      rcases hc with rfl | rfl | rfl | rfl | rfl | rfl | rfl | rfl <;> exact ⟨by assumption, by assumption⟩⟩
    refine ⟨⟨_, hk⟩, rfl, ?_⟩
    have h2 := keyOf_ky _ hk
    exact Option.some.inj (hkeep.symm.trans h2)
  · simp at h
theorem eight_eq {k l : List Int} (hk : k.length = 8) (hl : l.length = 8) (h : eightE k = eightE l) : k = l := by
  rw [eightE_map hk, eightE_map hl] at h
  exact List.map_inj_right (fun a b e => by cases e; rfl) |>.1 h
theorem kyKey_inj {k l : List Int} (hk : KeyOk k) (hl : KeyOk l) (h : kyKey k = kyKey l) : k = l := by
  have := kyKeyed.inj (keyOf_ky k hk) (by rw [keyOf_ky l hl, h])
  have h2 : eightA k = eightA l := Value.agg.inj this
  exact eight_eq hk.l hl.l (List.toArray_inj h2)
/-- Items are told by their cells. -/
theorem itA_inj {a b : ItP} (ha : ItOk a) (hb : ItOk b) (h : itA a = itA b) : a = b := by
  have e1 := eq_it 0 ha ha (default : World)
  have e2 := eq_it 0 ha hb (default : World)
  rw [← h, e1] at e2
  have : decide (a = a) = decide (a = b) := by injection e2
  simpa using this.symm
/-- A way to read an element. -/
structure ElemI (R : Value → Option (DataW ItP × List MemPlace)) : Prop where
  reads : ∀ {i : ItP}, ItOk i → R (.agg (itA i)) = some (.held i, [])
  inv : ∀ {v : Value} {z : DataW ItP × List MemPlace}, R v = some z → ∃ i, ItOk i ∧ v = .agg (itA i) ∧ z = (.held i, [])
theorem elem_ex : ∃ R, ElemI R := by
  refine ⟨fun v => if h : ∃ i, ItOk i ∧ v = .agg (itA i) then some (.held h.choose, []) else none, ⟨fun {i} hi => ?_, fun {v z} h => ?_⟩⟩
  · have h : ∃ j, ItOk j ∧ (Value.agg (itA i)) = .agg (itA j) := ⟨i, hi, rfl⟩
    show (if h : ∃ j, ItOk j ∧ (Value.agg (itA i)) = .agg (itA j) then some (DataW.held h.choose, []) else none) = _
    rw [dif_pos h]
    have h2 := h.choose_spec
    have h3 : h.choose = i := (itA_inj hi h2.1 (Value.agg.inj h2.2)).symm
    rw [h3]
  · replace h : (if h : ∃ i, ItOk i ∧ v = .agg (itA i) then some (DataW.held h.choose, []) else none) = some z := h
    split at h
    · rename_i hx
      cases h
      exact ⟨_, hx.choose_spec.1, hx.choose_spec.2, rfl⟩
    · cases h
theorem zeroI_ok : ItOk zeroIt := ⟨by decide, (fun c hc => by cases hc), (show Cf.Ok zeroCf from ⟨by decide, by decide, by decide, by decide, by decide⟩)⟩
theorem zeroItem (w : World) : (zeroValue 36).run Try.prog w = .ok (.agg (itA zeroIt)) w := by kernel_rfl
/-- Block b is a map that has just these items. -/
structure MapI (w : World) (b : Nat) (t : List WrP) : Prop where
  own : ∃ (R : Value → Option (DataW ItP × List MemPlace)) (D : DataW ItP), ElemI R ∧ w.ownsMap Try.prog 31 R b (Maps.size D) D ∧ Maps.size D = t.length ∧ (∀ k, KeyOk k → Maps.has D (kyKey k) = (getT t k).isSome) ∧ ∀ k i, KeyOk k → getT t k = some i → ∀ z, D.atKey (kyKey k) z = .held i
  ok : TbOk t
  oks : ∀ x ∈ t, KeyOk x.key ∧ ItOk x.it
theorem tight_it {R : Value → Option (DataW ItP × List MemPlace)} {w : World} {b n : Nat} {D : DataW ItP} (h : w.ownsMap Try.prog 31 R b n D) : w.ownsMap Try.prog 31 R b (Maps.size D) D := by
  obtain ⟨es, clock, hb, F, hs, rfl⟩ := h
  refine ⟨es, clock, hb, F, ?_, rfl⟩
  simp [Maps.size, length_sorted]
theorem mapI_made (w : World) : MapI (w.alloc (.map #[] 0)) w.heap.size [] := by
  obtain ⟨R, hR⟩ := elem_ex
  exact ⟨⟨R, .map [], hR, World.ownsMap_made _ _ _ _, rfl, fun _ _ => rfl, fun k i _ h => by cases h⟩, tb_nil, fun x hx => by cases hx⟩
section
variable {w w' : World} {b : Nat} {t : List WrP}
theorem MapI.lt (h : MapI w b t) : b < w.heap.size := by obtain ⟨_, _, _, h, _⟩ := h.own; exact h.lt
theorem MapI.isMap (h : MapI w b t) : ∃ es c, w.heap[b]? = some (.map es c) := by
  obtain ⟨_, _, _, ⟨es, c, hb, _⟩, _⟩ := h.own
  exact ⟨es, c, hb⟩
theorem MapI.keep {S : Nat → Prop} (h : MapI w b t) (hk : KeepBut S w w') (hS : ¬ S b) : MapI w' b t := by
  obtain ⟨⟨R, D, hR, ho, r⟩, h2, h3⟩ := h
  have hlt := ho.lt
  obtain ⟨es, clock, hb, F, hs, hD⟩ := ho
  exact ⟨⟨R, D, hR, ⟨es, clock, (hk.block b hlt hS).trans hb, F, hs, hD⟩, r⟩, h2, h3⟩
theorem MapI.below (h : MapI w b t) (hB : Below w.heap.size w w') : MapI w' b t := h.keep (KeepBut.of_below (fun _ => False) hB) (fun h => h)
theorem grown_keepI {c : Nat} (h : w.grownBy w' (some c)) : KeepBut (fun k => k = c) w w' := by
  obtain ⟨a1, a2, a3, a4, a5⟩ := h
  exact ⟨a1, a2, a3, a4, fun k hk hn => a5 k hk (fun e => hn (Option.some.inj e))⟩
theorem getT_ok (h : ∀ x ∈ t, KeyOk x.key ∧ ItOk x.it) (hT : TbOk t) {k : List Int} {i : ItP} (hg : getT t k = some i) : ItOk i := (h _ ((get_iff hT k i).1 hg)).2
theorem mapI_val {R : Value → Option (DataW ItP × List MemPlace)} (hR : ElemI R) {k : List Int} {D : DataW ItP} (hh : Maps.has D (kyKey k) = (getT t k).isSome) (ha : ∀ i, getT t k = some i → ∀ z, D.atKey (kyKey k) z = .held i) {v : Value} {ps : List MemPlace} (hv : R v = some (D.atKey (kyKey k) (.held zeroIt), ps)) : v = .agg (itA ((getT t k).getD zeroIt)) := by
  obtain ⟨i, _, rfl, hz⟩ := hR.inv hv
  simp only [Prod.mk.injEq] at hz
  cases hg : getT t k with
  | none =>
    rw [atKey_of_not_has (by rw [hh, hg]; rfl)] at hz
    cases hz.1
    rfl
  | some j =>
    rw [ha j hg] at hz
    cases hz.1
    rfl
/-- v, ok := m[k] -/
theorem MapI.look (h : MapI w b t) {k : List Int} (hk : KeyOk k) : (Instr.lookup 55 (.map (some b)) (kyV k) true).run Try.prog w = .ok (.tuple #[.agg (itA ((getT t k).getD zeroIt)), .bool (getT t k).isSome]) w := by
  obtain ⟨R, D, hR, ho, hs, hh, ha⟩ := h.own
  obtain ⟨v, ps, hrun, hv⟩ := ho.look_ok kyKeyed Try.underlying55 (zeroItem w) (hR.reads zeroI_ok) (keyOf_ky k hk)
  rw [hrun, hh k hk, mapI_val hR (hh k hk) (fun i hi => ha k i hk hi) hv]
/-- m[k] -/
theorem MapI.look1 (h : MapI w b t) {k : List Int} (hk : KeyOk k) : (Instr.lookup 55 (.map (some b)) (kyV k) false).run Try.prog w = .ok (.agg (itA ((getT t k).getD zeroIt))) w := by
  obtain ⟨R, D, hR, ho, hs, hh, ha⟩ := h.own
  obtain ⟨v, ps, hrun, hv⟩ := ho.lookup kyKeyed Try.underlying55 (zeroItem w) (hR.reads zeroI_ok) (keyOf_ky k hk)
  rw [hrun, mapI_val hR (hh k hk) (fun i hi => ha k i hk hi) hv]
/-- len(m) -/
theorem MapI.len (h : MapI w b t) (ty : TypeId) : (Builtin.len_ #[55] ty #[.map (some b)]).run Try.prog w = .ok (.int .i64 (t.length : Int)) w := by
  obtain ⟨⟨_, D, _, ho, hs, _⟩, _⟩ := h
  rw [ho.len Try.underlying55 ty, hs]
/-- m[k] = i -/
theorem MapI.put (h : MapI w b t) {k : List Int} {i : ItP} (hk : KeyOk k) (hi : ItOk i) (hA : insA t k i = 0) : ∃ w', (Instr.mapUpdate 55 (.map (some b)) (kyV k) (.agg (itA i))).run Try.prog w = .ok () w' ∧ MapI w' b (putT t k i) ∧ KeepBut (fun k => k = b) w w' := by
  obtain ⟨⟨R, D, hR, ho, hs, hh, ha⟩, h2, h3⟩ := h
  obtain ⟨w', hrun, ho', hg⟩ := ho.update kyKeyed Try.underlying55 (by rw [hs]; have := h2.few; unfold maxLen; omega) (keyOf_ky k hk) (hR.reads hi)
  have hkl := kyKeyed.key (keyOf_ky k hk)
  refine ⟨w', hrun, ⟨⟨R, _, hR, tight_it ho', ?_, fun k' hk' => ?_, fun k' j hk' hj z => ?_⟩, put_ok h2 hk.l i hA, fun x hx => ?_⟩, grown_keepI hg⟩
  · rw [size_put (ho.tidy kyKeyed), hh k hk, put_len, hs]
  · rw [get_put h2 hk.l hA]
    by_cases e : k' = k
    · subst e
      rw [has_put_same ho.isMap hkl, if_pos rfl]
      rfl
    · rw [if_neg e, has_put_other (fun e2 => e (kyKey_inj hk' hk e2)), hh k' hk']
  · rw [get_put h2 hk.l hA] at hj
    by_cases e : k' = k
    · subst e
      rw [if_pos rfl] at hj
      cases hj
      exact atKey_put_same ho.isMap hkl _ _
    · rw [if_neg e] at hj
      rw [atKey_put_other (fun e2 => e (kyKey_inj hk' hk e2))]
      exact ha k' j hk' hj z
  · rcases (put_mem h2 hk.l i x).1 hx with rfl | ⟨_, hx⟩
    · exact ⟨hk, hi⟩
    · exact h3 x hx
end
theorem neqSomeMapI (b : Nat) (w : World) : (binOp .neq 55 (.map (some b)) (.map none)).run Try.prog w = .ok (.bool true) w := by kernel_rfl
theorem neqNoneMapI (w : World) : (binOp .neq 55 (.map none) (.map none)).run Try.prog w = .ok (.bool false) w := by kernel_rfl
end
section
open Go.RowKit

theorem alloc_below13 (w : World) (o : Obj) : Below w.heap.size w (w.alloc o) := (Below.refl _ _).alloc (Nat.le_refl _) o
theorem short_any13 (v : Value) (fs : List WrP) (w w0 : World) (h : RSrc wrE w0 v fs) :
    Calls Try.prog 11 #[v] w fun e w' => ∃ v', e = .returned v' ∧ w' = w ∧ RSrc wrE w0 v' (fs.take 150) := by
  obtain ⟨ao, cap, rfl, hc, hm⟩ := h.shape
  unfold maxLen at hm
  have HH := hide h
  clear h
  by_cases hl : fs.length ≤ 150
  · have hto := fun W => run_toR recWR W ao fs.length cap fs.length hc
    have HT : Hid (RSrc wrE w0 (.slice ao fs.length cap) (fs.take 150)) := hide (by rw [List.take_of_length_le hl]; exact HH.out)
    have d1 : ¬ ((150 : Int) < (fs.length : Int)) := by omega
    go_enter Try.func11, Try.ntmps11
    go_wp2
    go_ret
    exact ⟨_, rfl, rfl, HT.out⟩
  · have hto := fun W => run_toR recWR W ao fs.length cap 150 (by omega)
    have HT : Hid (RSrc wrE w0 (.slice ao 150 cap) (fs.take 150)) := hide (src_takeR HH.out recWR.len (by omega))
    have d1 : (150 : Int) < (fs.length : Int) := by omega
    go_enter Try.func11, Try.ntmps11
    go_wp2
    go_ret
    exact ⟨_, rfl, rfl, HT.out⟩
/-- How many bytes the values have. -/
def bulk13 (l : List WrP) : Nat := ((l.take 150).map fun x => min x.it.val.length 65536).sum
theorem bulk13_take (l : List WrP) {k : Nat} (h : k < l.length) : ((l.take (k + 1)).map fun x : WrP => min x.it.val.length 65536).sum = ((l.take k).map fun x : WrP => min x.it.val.length 65536).sum + min l[k].it.val.length 65536 := by
  rw [List.take_succ_eq_append_getElem h, List.map_append, List.sum_append]
  simp only [List.map_cons, List.map_nil, List.sum_cons, List.sum_nil, Nat.add_zero]
theorem wrA_one13 (x : WrP) : (wrA x).all (·.oneCell') = true := by simp [Value.oneCell']
set_option maxRecDepth 100000 in
set_option maxHeartbeats 3200000 in
theorem long_any13 (v : Value) (fs : List WrP) (w : World) (h : RSrc wrE w v fs) (hv : ∀ x ∈ fs, x.it.val.length ≤ 9223372036854775807) :
    Calls Try.prog 9 #[v] w fun e w' => e = .returned (.bool (decide (65536 < bulk13 fs))) ∧ Below w.heap.size w w' := by
  have CS := hide (short_any13 v fs w w h)
  obtain ⟨ao0, cap0, rfl, _, _⟩ := h.shape
  have HV : Hid (∀ x ∈ fs.take 150, x.it.val.length ≤ 9223372036854775807) := hide (fun x hx => hv x (List.mem_of_mem_take hx))
  have hKl : (fs.take 150).length ≤ 150 := by rw [List.length_take]; omega
  obtain ⟨R, hR⟩ : ∃ R, R = decide (65536 < bulk13 fs) := ⟨_, rfl⟩
  rw [← hR]
  obtain ⟨ts, hts⟩ : ∃ ts, ts = fs.take 150 := ⟨_, rfl⟩
  have HR : Hid (R = decide (65536 < (ts.map fun x : WrP => min x.it.val.length 65536).sum)) := hide (by rw [hR, hts]; rfl)
  rw [← hts] at hKl HV CS
  obtain ⟨LN, hLN⟩ : ∃ LN, LN = ts.length := ⟨_, rfl⟩
  rw [← hLN] at hKl
  have HLN := hide hLN
  obtain ⟨LF, hLF⟩ : ∃ LF, LF = fs.length := ⟨_, rfl⟩
  rw [← hLF] at CS ⊢
  clear hR hts h hLN hv hLF
  go_enter Try.func9, Try.ntmps9
  go_wp2_with fail
  refine CS.out.mono ?_
  rintro e w1 ⟨v1, rfl, hw1, hT⟩
  obtain ⟨ao, cap, e1, _, _⟩ := hT.shape
  rw [← HLN.out] at e1
  subst e1
  subst hw1
  have HT := hide hT
  clear hT CS
  go_wp2_with fail
  go_loopg [3, 9] LN (fun g x i wr => ∃ (k S : Nat), k + g = LN ∧ x = .int .i64 (S : Int) ∧ i = .int .i64 k ∧ S ≤ k * 65536 ∧ Hid (S = ((ts.take k).map fun x : WrP => min x.it.val.length 65536).sum) ∧ Hid (Below w1.heap.size w1 wr))
  case atStart => exact ⟨0, 0, by omega, rfl, rfl, by omega, hide (by simp), hide (Below.refl _ _)⟩
  case round =>
    obtain ⟨k, S, hk, rfl, rfl, hS, HS, HB⟩ := hrel
    cases gk with
    | zero =>
      obtain rfl : k = LN := by omega
      have hz : ¬ ((k : Int) < (k : Int)) := by omega
      have HE : Hid (ts.take k = ts) := hide (by rw [HLN.out]; exact List.take_length)
      rw [HE.out] at HS
      have HV2 : Hid (R = decide (65536 < S)) := hide (by rw [HR.out, HS.out])
      by_cases hb : 65536 < S
      · have d2 : (65536 : Int) < (S : Int) := by omega
        have HW : Hid (R = true) := hide (by rw [HV2.out, decide_eq_true hb])
        go_wp2
        go_ret
        exact ⟨by rw [HW.out]; first | rfl | (simp; omega), HB.out⟩
      · have d2 : ¬ ((65536 : Int) < (S : Int)) := by omega
        have HW : Hid (R = false) := hide (by rw [HV2.out, decide_eq_false hb])
        go_wp2
        go_ret
        exact ⟨by rw [HW.out]; first | rfl | (simp; omega), HB.out⟩
    | succ g =>
      have hz : (k : Int) < (LN : Int) := by omega
      have hkn : k < ts.length := by rw [← HLN.out]; omega
      obtain ⟨en, b, off, rfl, hb, hcl⟩ := (HT.out.below HB.out).at recWR.len hkn
      have HRg : Hid (wr.rangeAt b (off + k * 21) (wrE ts[k])) := hide (fun j v hv => hcl j v hv)
      have HSS := hide (bulk13_take ts hkn)
      have hvl := HV.out _ (List.getElem_mem hkn)
      generalize ts[k] = x at *
      have HZ := hide (box_new wr (wrA zeroWr) 38)
      have HZB : Hid (Below wr.heap.size wr (wr.alloc (.cells (wrA zeroWr) 38))) := hide (alloc_below13 _ _)
      have HWS := HB.out.size
      obtain ⟨LV, hLV⟩ : ∃ LV, LV = x.it.val.length := ⟨_, rfl⟩
      have hsz : (strOfNums x.it.val).size = LV := by rw [hLV]; simp [strOfNums, ByteArray.size]
      rw [← hLV] at HSS hvl
      clear hcl en hb hLV
      by_cases hb : (65536 : Int) < (LV : Int)
      · have HS2 : Hid (S + 65536 = ((ts.take (k + 1)).map fun x : WrP => min x.it.val.length 65536).sum) := hide (by rw [HSS.out, HS.out]; omega)
        go_wp2_with (first | (refine wpList_load_mid rfl 38 _ rfl b (off + k * 21) rfl (wrE x) _ HRg.out Try.underlying38 rfl infoWrite ?_) | (refine wp_store_box rfl rfl _ _ rfl wr.heap.size rfl (cs' := wrA x) rfl HZ.out rfl infoWrite (wrA_one13 x) ?_; intro w3 hb3 hk3; have y9 := hb3.cell 9 (.string (strOfNums x.it.val)) rfl; have HK3 : Hid (Below w1.heap.size w1 w3) := hide (HB.out.trans ((HZB.out.trans (hk3.below HZB.out.size (fun k hk => by omega))).mono HB.out.size)); clear hb3 hk3))
        go_roundg g
        case measure => omega
        case rel => exact ⟨k + 1, S + 65536, by omega, by first | rfl | go_num, by first | rfl | go_num, by omega, HS2, HK3⟩
      · have HS2 : Hid (S + LV = ((ts.take (k + 1)).map fun x : WrP => min x.it.val.length 65536).sum) := hide (by rw [HSS.out, HS.out]; omega)
        go_wp2_with (first | (refine wpList_load_mid rfl 38 _ rfl b (off + k * 21) rfl (wrE x) _ HRg.out Try.underlying38 rfl infoWrite ?_) | (refine wp_store_box rfl rfl _ _ rfl wr.heap.size rfl (cs' := wrA x) rfl HZ.out rfl infoWrite (wrA_one13 x) ?_; intro w3 hb3 hk3; have y9 := hb3.cell 9 (.string (strOfNums x.it.val)) rfl; have HK3 : Hid (Below w1.heap.size w1 w3) := hide (HB.out.trans ((HZB.out.trans (hk3.below HZB.out.size (fun k hk => by omega))).mono HB.out.size)); clear hb3 hk3))
        all_goals
          go_roundg g
          case measure => omega
          case rel => exact ⟨k + 1, S + LV, by omega, by first | rfl | go_num, by first | rfl | go_num, by omega, HS2, HK3⟩
/-- The law's own item. -/
def oneI (n : Nat) (s : List Int) : ItP := ⟨n, s, ⟨1, 1, 1, [1, 0, 0, 0, 0, 0, 0, 0]⟩⟩
end
section
open Go.RowKit

theorem Box.two {w : World} {p : Nat} {a b : Value} {t : TypeId} (h : Box w p #[a, b] t) : w.cell? ⟨p, 0, none⟩ = some a ∧ w.cell? ⟨p, 1, none⟩ = some b := ⟨h.cell 0 _ rfl, h.cell 1 _ rfl⟩
theorem Box.three {w : World} {p : Nat} {a b c : Value} {t : TypeId} (h : Box w p #[a, b, c] t) : w.cell? ⟨p, 0, none⟩ = some a ∧ w.cell? ⟨p, 1, none⟩ = some b ∧ w.cell? ⟨p, 2, none⟩ = some c := ⟨h.cell 0 _ rfl, h.cell 1 _ rfl, h.cell 2 _ rfl⟩
theorem Box.eight {w : World} {p : Nat} {a b c d e f g i : Value} {t : TypeId} (h : Box w p #[a, b, c, d, e, f, g, i] t) : w.cell? ⟨p, 0, none⟩ = some a ∧ w.cell? ⟨p, 1, none⟩ = some b ∧ w.cell? ⟨p, 2, none⟩ = some c ∧ w.cell? ⟨p, 3, none⟩ = some d ∧ w.cell? ⟨p, 4, none⟩ = some e ∧ w.cell? ⟨p, 5, none⟩ = some f ∧ w.cell? ⟨p, 6, none⟩ = some g ∧ w.cell? ⟨p, 7, none⟩ = some i :=
  ⟨h.cell 0 _ rfl, h.cell 1 _ rfl, h.cell 2 _ rfl, h.cell 3 _ rfl, h.cell 4 _ rfl, h.cell 5 _ rfl, h.cell 6 _ rfl, h.cell 7 _ rfl⟩
theorem Box.belowI {w w' : World} {p : Nat} {cs : Array Value} {t : TypeId} (h : Box w p cs t) (hB : Below w.heap.size w w') : Box w' p cs t := h.keep (KeepBut.of_below (fun _ => False) hB) id
theorem below_drewN {B n : Nat} {w w' : World} (h : Below B w w') : Below B w (w'.drewN n) := ⟨h.os, h.tape, h.output, h.size, h.block⟩
theorem drewN2 (w : World) (a b : Nat) : (w.drewN a).drewN b = w.drewN (a + b) := by simp [World.drewN, Nat.add_assoc]
theorem drewN3 (w : World) (a b c : Nat) : ((w.drewN a).drewN b).drewN c = w.drewN (a + b + c) := by simp [World.drewN, Nat.add_assoc]
end
section
open Go.RowKit

theorem alloc_below10 (w : World) (o : Obj) : Below w.heap.size w (w.alloc o) := (Below.refl _ _).alloc (Nat.le_refl _) o
theorem strOf_size10 (xs : List Int) : (strOfNums xs).size = xs.length := by simp [strOfNums, ByteArray.size]
end
section
open Go.RowKit Classical

/-- A message as a value: its writes lie there. -/
def MgLies (w : World) (v : Value) (m : MsgP) : Prop := ∃ (ao : Option Addr) (cap : Nat), v = .agg (msgA m (.slice ao m.wr.length cap)) ∧ RSrc wrE w (.slice ao m.wr.length cap) m.wr
theorem MgLies.below {w w' : World} {v : Value} {m : MsgP} (h : MgLies w v m) (hB : Below w.heap.size w w') : MgLies w' v m := by
  obtain ⟨ao, cap, rfl, hs⟩ := h
  exact ⟨ao, cap, rfl, hs.below hB⟩
end
section
open Go.RowKit

theorem eqi_key (a0 a1 a2 a3 a4 a5 a6 a7 b0 b1 b2 b3 b4 b5 b6 b7 : Int) (w : World) :
    (Op.equalIn 10000 31 (.agg #[.int .u8 a0, .int .u8 a1, .int .u8 a2, .int .u8 a3, .int .u8 a4, .int .u8 a5, .int .u8 a6, .int .u8 a7]) (.agg #[.int .u8 b0, .int .u8 b1, .int .u8 b2, .int .u8 b3, .int .u8 b4, .int .u8 b5, .int .u8 b6, .int .u8 b7])).run Try.prog w
      = .ok (decide ([a0, a1, a2, a3, a4, a5, a6, a7] = [b0, b1, b2, b3, b4, b5, b6, b7])) w := by
  rw [show (10000 : Nat) = 9999 + 1 from rfl, Op.equalIn]
  simp only [Sem.run_bind, run_underlying Try.underlying31, Result.andThen_ok]
  simp only [Std.Legacy.Range.forIn_eq_forIn_range', Std.Legacy.Range.size, Nat.sub_zero, Nat.add_sub_cancel, Nat.div_one, List.range'_succ, List.range'_zero, List.forIn_cons, List.forIn_nil]
  go_simp
  by_cases h0 : a0 = b0
  · by_cases h1 : a1 = b1
    · by_cases h2 : a2 = b2
      · by_cases h3 : a3 = b3
        · by_cases h4 : a4 = b4
          · by_cases h5 : a5 = b5
            · by_cases h6 : a6 = b6
              · by_cases h7 : a7 = b7 <;> simp [h0, h1, h2, h3, h4, h5, h6, h7]
              · simp [h0, h1, h2, h3, h4, h5, h6]
            · simp [h0, h1, h2, h3, h4, h5]
          · simp [h0, h1, h2, h3, h4]
        · simp [h0, h1, h2, h3]
      · simp [h0, h1, h2]
    · simp [h0, h1]
  · simp [h0]
theorem eqli_key (a0 a1 a2 a3 a4 a5 a6 a7 b0 b1 b2 b3 b4 b5 b6 b7 : Int) (w : World) :
    (binOp .eql 31 (.agg #[.int .u8 a0, .int .u8 a1, .int .u8 a2, .int .u8 a3, .int .u8 a4, .int .u8 a5, .int .u8 a6, .int .u8 a7]) (.agg #[.int .u8 b0, .int .u8 b1, .int .u8 b2, .int .u8 b3, .int .u8 b4, .int .u8 b5, .int .u8 b6, .int .u8 b7])).run Try.prog w
      = .ok (.bool (decide ([a0, a1, a2, a3, a4, a5, a6, a7] = [b0, b1, b2, b3, b4, b5, b6, b7]))) w := by
  rw [run_eql_struct, eqi_key]; rfl
theorem neqi_key (a0 a1 a2 a3 a4 a5 a6 a7 b0 b1 b2 b3 b4 b5 b6 b7 : Int) (w : World) :
    (binOp .neq 31 (.agg #[.int .u8 a0, .int .u8 a1, .int .u8 a2, .int .u8 a3, .int .u8 a4, .int .u8 a5, .int .u8 a6, .int .u8 a7]) (.agg #[.int .u8 b0, .int .u8 b1, .int .u8 b2, .int .u8 b3, .int .u8 b4, .int .u8 b5, .int .u8 b6, .int .u8 b7])).run Try.prog w
      = .ok (.bool (!decide ([a0, a1, a2, a3, a4, a5, a6, a7] = [b0, b1, b2, b3, b4, b5, b6, b7]))) w := by
  rw [run_neq_struct, eqi_key]; rfl
end
section
open Go.RowKit

def cells8 (xs : List Int) : Array Value := (xs.map (Value.int .u8)).toArray
theorem cells8_size (xs : List Int) : (cells8 xs).size = xs.length := by simp [cells8]
theorem cells8_one (xs : List Int) : (cells8 xs).all (·.oneCell') = true := by simp [cells8, Value.oneCell']
/-- 'copy(x, s)' of a text that fits. -/
theorem wp_copy_str {ops : Array Oper} {rest : List Oper} {o : Oper} {a : Act} {Q : Exit → Act → World → Prop} (w : World) (hgd : o.guard = none) (d s : Operand)
    (ho : o.op = .call { callee := .builtin .copy, args := #[d, s], argTypes := #[52, 9] }) (p off n cap : Nat) (t : TypeId) (cs zs : List Int) (hb : Box w p (cells8 cs) t) (hd : a.eval d = .slice (some ⟨p, off, none⟩) n cap)
    (st : ByteArray) (hs : a.eval s = .string st) (hle : st.size ≤ n) (hfit : off + st.size ≤ cs.length) (hz : zs = cs.take off ++ (st.data.toList.map fun b => (b.toNat : Int)) ++ cs.drop (off + st.size))
    (h : ∀ w', Box w' p (cells8 zs) t → KeepBut (fun k => k = p) w w' → wpList Try.prog ops Q rest (a.put o.dst (.int .i64 st.size)) w') : wpList Try.prog ops Q (o :: rest) a w := by
  obtain ⟨i0, hi, hz0, hz1, hz2⟩ := info_parts info5
  have hr := Lib.run_copy_row_string (P := Try.prog) w 52 9 o.type 5 p off n cap st (cells8 cs) t Try.underlying52 (by simp [hi, hz1]) hb hle (by rw [cells8_size]; exact hfit)
  have e : ((cells8 cs).toList.take off ++ Lib.byteCells st.data.toList ++ (cells8 cs).toList.drop (off + st.size)).toArray = cells8 zs := by
    rw [hz]; simp [cells8, Lib.byteCells]
  rw [e] at hr
  refine wpList_plain hgd fun K hK => ?_
  unfold Oper.wp execOp
  simp only [ho, resolve, invoke, builtin, Sem.run_bind, Sem.run_pure, Result.andThen_ok, List.map_toArray, List.map_cons, List.map_nil, hd, hs, hr]
  exact hK _ _ (h _ (setRow_heap w p _ _ t (0, 0) hb) ⟨rfl, rfl, rfl, by simp [World.setRow], fun k _ hS => setRow_other w p k _ hS⟩)
end
end Go.Proofs.Ytlngejmojpkdkaa
