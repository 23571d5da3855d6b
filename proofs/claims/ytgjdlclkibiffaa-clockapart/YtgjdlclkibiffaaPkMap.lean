/-
  The program's map of timers by their names. Own work.
-/
import Derived.Test.YtgjdlclkibiffaaCkKit
import Derived.Maps.OwnSet
import Derived.DeepKeys4
import Derived.OpenShut
namespace Go.Proofs.Ytgjdlclkibiffaa
open Go.RowKit Go.Maps

/-- What a name reads as, as a key. -/
def nmKey (n : NmP) : Lit := .string (keyBytes [.int .u8 n.1, .int .u8 n.2.1, .int .u32 n.2.2.1, .int .u32 n.2.2.2])
theorem ckLaid : laidOutB Try.prog = true := by kernel_rfl
theorem nmRow : (47 : TypeId) < Try.prog.types.size := of_decide_eq_true (by kernel_rfl)
theorem nmKeyed : Keyed Try.prog 47 := Keyed.of_law (deep_law_laid ckLaid (m := 3) (by omega) nmRow (by kernel_rfl) (by kernel_rfl))
theorem nmIsKey : Try.prog.keyType 47 = true := by kernel_rfl
theorem nmCells : Try.prog.cellsOf 47 = 4 := by kernel_rfl
theorem ntxCells : Try.prog.cellsOf 32 = 3 := by kernel_rfl
theorem nu8Cells : Try.prog.cellsOf 5 = 1 := by kernel_rfl
theorem nu32Cells : Try.prog.cellsOf 25 = 1 := by kernel_rfl
theorem ntypesPos : ∃ k, Try.prog.types.size = k + 1 + 1 := ⟨Try.prog.types.size - 2, by
  have : 1 < Try.prog.types.size := of_decide_eq_true (by kernel_rfl)
  omega⟩
theorem nwf_u8 {n : Int} (h0 : 0 ≤ n) (h1 : n < 256) : (Lit.int .u8 n).wf = true := by
  simp [Lit.wf, IntKind.min, IntKind.max, IntKind.signed, IntKind.bits]; omega
theorem nwf_u32 {n : Int} (h0 : 0 ≤ n) (h1 : n < 4294967296) : (Lit.int .u32 n).wf = true := by
  simp [Lit.wf, IntKind.min, IntKind.max, IntKind.signed, IntKind.bits]; omega
theorem nlits_tx (k : Nat) (t : TxP) (h : txOk t) : Try.prog.keyLits (k + 1 + 1) 32 [.int .u8 t.1, .int .u32 t.2.1, .int .u32 t.2.2] = some [.int .u8 t.1, .int .u32 t.2.1, .int .u32 t.2.2] := by
  obtain ⟨⟨a0, a1⟩, ⟨b0, b1⟩, ⟨c0, c1⟩⟩ := h
  have w1 := nwf_u8 a0 a1
  have w2 := nwf_u32 b0 b1
  have w3 := nwf_u32 c0 c1
  unfold Program.keyLits
  rw [Try.underlying32]
  simp [ntxCells, nu8Cells, nu32Cells, Program.keyLits, Try.underlying5, Try.underlying25, w1, w2, w3]
theorem lits_nm (n : NmP) (h : nmOk n) : Try.prog.keyLits (Try.prog.types.size + 1) 47 (nmE n) = some [.int .u8 n.1, .int .u8 n.2.1, .int .u32 n.2.2.1, .int .u32 n.2.2.2] := by
  obtain ⟨k, hk⟩ := ntypesPos
  have hl := nlits_tx k n.2 h.2
  have w1 := nwf_u8 h.1.1 h.1.2
  have hu : Try.prog.keyLits (k + 1 + 1) 5 [.int .u8 n.1] = some [.int .u8 n.1] := by
    simp [Program.keyLits, Try.underlying5, w1]
  rw [hk]
  unfold Program.keyLits
  rw [Try.underlying47]
  simp [nmCells, ntxCells, nu8Cells, hl, hu]
theorem keyOf_nm (n : NmP) (h : nmOk n) : keyOf Try.prog 47 (.agg (nmA n)) = some (nmKey n) := by
  have hl := lits_nm n h
  unfold keyOf
  rw [Try.underlying47]
  simp only [nmIsKey, Bool.true_and]
  have hf : (Value.agg (nmA n)).formed Try.prog 47 = true := by
    simp [Value.formed, Try.underlying47, nmCells]
  rw [if_pos hf]
  have hc : (Value.agg (nmA n)).cells.toList = nmE n := rfl
  rw [hc, hl]
  rfl
theorem nmKey_inj {n m : NmP} (hn : nmOk n) (hm : nmOk m) (h : nmKey n = nmKey m) : n = m := by
  have := nmKeyed.inj (keyOf_nm n hn) (by rw [keyOf_nm m hm, h])
  obtain ⟨a, b, c, d⟩ := n
  obtain ⟨e, f, g, i⟩ := m
  simp [nmA] at this
  obtain ⟨rfl, rfl, rfl, rfl⟩ := this
  rfl
theorem zeroU32 (w : World) : (zeroValue 25).run Try.prog w = .ok (.int .u32 0) w := by kernel_rfl
/-- Block b is a map that has just these timers. -/
structure MapC (w : World) (b : Nat) (l : List TmP) : Prop where
  own : ∃ D : DataW Unit, w.ownsMap Try.prog 47 (plainElem Try.prog 25) b (Maps.size D) D ∧ Maps.size D = l.length ∧ (∀ n, nmOk n → Maps.has D (nmKey n) = l.any (fun t => decide (t.1 = n))) ∧ ∀ t ∈ l, D.atKey (nmKey t.1) (.lit (.int .u32 0)) = .lit (.int .u32 t.2)
  names : (l.map Prod.fst).Nodup
  ok : ∀ t ∈ l, nmOk t.1 ∧ 0 ≤ t.2 ∧ t.2 < 4294967296
theorem owns_tight {w : World} {b n : Nat} {D : DataW Unit} (h : w.ownsMap Try.prog 47 (plainElem Try.prog 25) b n D) : w.ownsMap Try.prog 47 (plainElem Try.prog 25) b (Maps.size D) D := by
  obtain ⟨es, clock, hb, F, hs, rfl⟩ := h
  refine ⟨es, clock, hb, F, ?_, rfl⟩
  simp [Maps.size, length_sorted]
theorem mapC_made (w : World) : MapC (w.alloc (.map #[] 0)) w.heap.size [] :=
  ⟨⟨.map [], World.ownsMap_made _ _ _ _, rfl, fun _ _ => rfl, fun t ht => by cases ht⟩, List.nodup_nil, fun t ht => by cases ht⟩
section
variable {w w' : World} {b : Nat} {l : List TmP}
theorem MapC.lt (h : MapC w b l) : b < w.heap.size := by obtain ⟨D, h, _⟩ := h.own; exact h.lt
theorem MapC.isMap (h : MapC w b l) : ∃ es c, w.heap[b]? = some (.map es c) := by
  obtain ⟨D, ⟨es, c, hb, _⟩, _⟩ := h.own
  exact ⟨es, c, hb⟩
theorem MapC.keep {S : Nat → Prop} (h : MapC w b l) (hk : KeepBut S w w') (hS : ¬ S b) : MapC w' b l := by
  obtain ⟨⟨D, ho, r⟩, h2, h3⟩ := h
  have hlt := ho.lt
  obtain ⟨es, clock, hb, F, hs, hD⟩ := ho
  exact ⟨⟨D, ⟨es, clock, (hk.block b hlt hS).trans hb, F, hs, hD⟩, r⟩, h2, h3⟩
theorem MapC.below (h : MapC w b l) (hB : Below w.heap.size w w') : MapC w' b l := h.keep (KeepBut.of_below (fun _ => False) hB) (fun h => h)
theorem MapC.perm (h : MapC w b l) {l' : List TmP} (hp : l.Perm l') : MapC w b l' := by
  obtain ⟨⟨D, ho, hs, hh, ha⟩, h2, h3⟩ := h
  exact ⟨⟨D, ho, hs.trans hp.length_eq, fun n hn => (hh n hn).trans (by rw [Bool.eq_iff_iff, List.any_eq_true, List.any_eq_true]; exact ⟨fun ⟨x, hx, e⟩ => ⟨x, hp.mem_iff.1 hx, e⟩, fun ⟨x, hx, e⟩ => ⟨x, hp.mem_iff.2 hx, e⟩⟩), fun t ht => ha t (hp.mem_iff.2 ht)⟩, (hp.map _).nodup_iff.1 h2, fun t ht => h3 t (hp.mem_iff.2 ht)⟩
theorem map_grown {c : Nat} (h : w.grownBy w' (some c)) : KeepBut (fun k => k = c) w w' := by
  obtain ⟨a1, a2, a3, a4, a5⟩ := h
  exact ⟨a1, a2, a3, a4, fun k hk hn => a5 k hk (fun e => hn (Option.some.inj e))⟩
theorem lit_u32 {a c : Int} (h : (DataW.lit (.int .u32 a) : DataW Unit) = .lit (.int .u32 c)) : a = c := by
  have h1 := DataW.lit.inj h
  exact (Lit.int.inj h1).2
/-- v, ok := m[n] -/
theorem MapC.look (h : MapC w b l) {n : NmP} (hn : nmOk n) : (Instr.lookup 65 (.map (some b)) (.agg (nmA n)) true).run Try.prog w = .ok (.tuple #[.int .u32 (((l.find? (fun t => decide (t.1 = n))).map Prod.snd).getD 0), .bool (l.any (fun t => decide (t.1 = n)))]) w := by
  obtain ⟨⟨D, ho, hs, hh, ha⟩, h2, h3⟩ := h
  have hw0 : (Lit.int .u32 0).wf = true := by decide
  obtain ⟨v, ps, hrun, hv⟩ := ho.look_ok nmKeyed Try.underlying65 (zeroU32 w) (plainElem_int Try.underlying25 hw0) (keyOf_nm n hn)
  obtain ⟨c, rfl, hc, _⟩ := plainElem_int_inv Try.underlying25 hv
  simp only [Prod.mk.injEq] at hc
  rw [hrun, hh n hn]
  have hcc : c = ((l.find? (fun t => decide (t.1 = n))).map Prod.snd).getD 0 := by
    cases hf : l.find? (fun t => decide (t.1 = n)) with
    | none =>
      have hno : l.any (fun t => decide (t.1 = n)) = false := by
        rw [List.any_eq_false]
        intro x hx
        exact List.find?_eq_none.1 hf x hx
      rw [atKey_of_not_has (by rw [hh n hn, hno])] at hc
      exact (lit_u32 hc.1).symm
    | some t =>
      have h1 := List.find?_some hf
      have h2 := List.mem_of_find?_eq_some hf
      have e : t.1 = n := by simpa using h1
      have := ha t h2
      rw [e, hc.1] at this
      exact lit_u32 this
  rw [hcc]
/-- len(m) -/
theorem MapC.len (h : MapC w b l) (ty : TypeId) : (Builtin.len_ #[65] ty #[.map (some b)]).run Try.prog w = .ok (.int .i64 (l.length : Int)) w := by
  obtain ⟨⟨D, ho, hs, _⟩, _⟩ := h
  rw [ho.len Try.underlying65 ty, hs]
/-- m[n] = x -/
theorem MapC.put (h : MapC w b l) (hl : l.length ≤ 1000000) {n : NmP} {x : Int} (hn : nmOk n) (hx0 : 0 ≤ x) (hx1 : x < 4294967296) (hno : n ∉ l.map Prod.fst) : ∃ w', (Instr.mapUpdate 65 (.map (some b)) (.agg (nmA n)) (.int .u32 x)).run Try.prog w = .ok () w' ∧ MapC w' b ((n, x) :: l) ∧ KeepBut (fun k => k = b) w w' := by
  obtain ⟨⟨D, ho, hs, hh, ha⟩, h2, h3⟩ := h
  obtain ⟨w', hrun, ho', hg⟩ := ho.update nmKeyed Try.underlying65 (by rw [hs]; unfold maxLen; omega) (keyOf_nm n hn) (plainElem_int Try.underlying25 (nwf_u32 hx0 hx1))
  have hkl := nmKeyed.key (keyOf_nm n hn)
  have hnot : Maps.has D (nmKey n) = false := by
    rw [hh n hn, List.any_eq_false]
    intro t ht e
    exact hno (List.mem_map.2 ⟨t, ht, by simpa using e⟩)
  refine ⟨w', hrun, ⟨⟨_, owns_tight ho', ?_, fun m hm => ?_, fun t ht => ?_⟩, ?_, fun t ht => ?_⟩, map_grown hg⟩
  · rw [size_put (ho.tidy nmKeyed), hnot]
    simp [hs]
  · rw [List.any_cons]
    by_cases e : n = m
    · subst e
      rw [has_put_same ho.isMap hkl]
      simp
    · rw [has_put_other (fun e2 => e (nmKey_inj hn hm e2.symm)), hh m hm]
      simp [e]
  · rcases List.mem_cons.1 ht with rfl | ht
    · exact atKey_put_same ho.isMap hkl _ _
    · have hne : t.1 ≠ n := fun e => hno (List.mem_map.2 ⟨t, ht, e⟩)
      rw [atKey_put_other (fun e => hne (nmKey_inj (h3 t ht).1 hn e))]
      exact ha t ht
  · rw [List.map_cons, List.nodup_cons]
    exact ⟨hno, h2⟩
  · rcases List.mem_cons.1 ht with rfl | ht
    · exact ⟨hn, hx0, hx1⟩
    · exact h3 t ht
/-- delete(m, n) -/
theorem MapC.del (h : MapC w b l) {n : NmP} (hn : nmOk n) (ty : TypeId) : ∃ w', (Builtin.delete_ #[65, 47] ty #[.map (some b), .agg (nmA n)]).run Try.prog w = .ok (.tuple #[]) w' ∧ MapC w' b (l.filter (fun t => decide (t.1 ≠ n))) ∧ KeepBut (fun k => k = b) w w' := by
  obtain ⟨⟨D, ho, hs, hh, ha⟩, h2, h3⟩ := h
  obtain ⟨w', hrun, ho', hg⟩ := ho.drop nmKeyed Try.underlying65 (keyOf_nm n hn) ty
  have hsub : (l.filter (fun t => decide (t.1 ≠ n))).Sublist l := List.filter_sublist
  refine ⟨w', hrun, ⟨⟨_, owns_tight ho', ?_, fun m hm => ?_, fun t ht => ?_⟩, h2.sublist (hsub.map _), fun t ht => h3 t (hsub.subset ht)⟩, map_grown hg.grown⟩
  · have h4 := size_del (k := nmKey n) (ho.tidy nmKeyed)
    have h5 : (l.filter (fun t => decide (t.1 ≠ n))).length + (if l.any (fun t => decide (t.1 = n)) then 1 else 0) = l.length := by
      clear h4 hrun ho' hg hs hh ha h3 hsub ho
      induction l with
      | nil => simp
      | cons t l ih =>
        rw [List.map_cons, List.nodup_cons] at h2
        have ih := ih h2.2
        rw [List.filter_cons, List.any_cons]
        by_cases e : t.1 = n
        · have hno : l.any (fun t => decide (t.1 = n)) = false := by
            rw [List.any_eq_false]
            intro x hx hxe
            exact h2.1 (List.mem_map.2 ⟨x, hx, by rw [e]; simpa using hxe⟩)
          rw [hno] at ih
          simp [e] at ih ⊢
          omega
        · simp [e] at ih ⊢
          split at ih <;> simp_all <;> omega
    rw [hh n hn] at h4
    omega
  · by_cases e : n = m
    · subst e
      rw [has_del_same]
      symm
      rw [List.any_eq_false]
      intro t ht e
      have := (List.mem_filter.1 ht).2
      simp at this e
      exact this e
    · rw [has_del_other (fun e2 => e (nmKey_inj hn hm e2.symm)), hh m hm, Bool.eq_iff_iff, List.any_eq_true, List.any_eq_true]
      constructor
      · rintro ⟨x, hx, hxe⟩
        have hxe2 : x.1 = m := by simpa using hxe
        exact ⟨x, List.mem_filter.2 ⟨hx, by simp [hxe2]; exact fun e2 => e e2.symm⟩, hxe⟩
      · rintro ⟨x, hx, hxe⟩
        exact ⟨x, (List.mem_filter.1 hx).1, hxe⟩
  · have h4 := List.mem_filter.1 ht
    have hne : t.1 ≠ n := by simpa using h4.2
    rw [atKey_del_other (fun e => hne (nmKey_inj (h3 t h4.1).1 hn e))]
    exact ha t h4.1
end
theorem neqSomeMap (b : Nat) (w : World) : (binOp .neq 65 (.map (some b)) (.map none)).run Try.prog w = .ok (.bool true) w := by kernel_rfl
theorem neqNoneMap (w : World) : (binOp .neq 65 (.map none) (.map none)).run Try.prog w = .ok (.bool false) w := by kernel_rfl
end Go.Proofs.Ytgjdlclkibiffaa
