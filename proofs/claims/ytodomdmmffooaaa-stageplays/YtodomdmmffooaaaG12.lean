/-
  Own texts put together: SgIter, TbMore, TbDo, TbMap, MgLaw, MgDo, IdKey, Cuts. Own work.
-/
import Derived.Test.YtodomdmmffooaaaG10
import Derived.Test.YtodomdmmffooaaaG11
import Derived.Test.YtodomdmmffooaaaG09
import Derived.Test.YtodomdmmffooaaaG08
import Derived.Test.YtodomdmmffooaaaG01
import Derived.Test.YtodomdmmffooaaaG02
import Derived.Test.YtodomdmmffooaaaG06
import Derived.Maps.OwnSet
import Derived.DeepKeys4
import Derived.OpenShut
import Derived.BigQuiet
import Derived.Deep.QuietTactic
import Derived.Deep.LoopGhost
import Derived.Shelf.Abstract
namespace Go.Proofs.Ytodomdmmffooaaa
section
open Go.RowKit Go.Maps Go.Shelf
attribute [local go_sem] Oper.semAt_some

/-- What was met so far of a map's names. -/
def MetG {E : Type} (D0 : DataW E) (left : Lit → Bool) (ss : List TxP) : Prop := ss.Nodup ∧ (∀ t ∈ ss, txOk t) ∧ ∀ t, txOk t → (t ∈ ss ↔ (has D0 (txKey t) = true ∧ left (txKey t) = false))
theorem MetG.start {E : Type} (D0 : DataW E) : MetG D0 (has D0) [] := ⟨List.nodup_nil, by simp, fun t _ => by cases has D0 (txKey t) <;> simp⟩
theorem MetG.step {E : Type} {D0 : DataW E} {left : Lit → Bool} {ss : List TxP} (h : MetG D0 left ss) {t : TxP} (ht : txOk t) {y : DataW E} (hlk : left (txKey t) = true) (hat : ∀ zd, D0.atKey (txKey t) zd = y) : MetG D0 (fun z => left z && !z.sameKey (txKey t)) (ss ++ [t]) := by
  have hhas : has D0 (txKey t) = true := has_true_of_atKey hat
  have hnew : t ∉ ss := fun hx => by have := ((h.2.2 t ht).1 hx).2; rw [hlk] at this; cases this
  refine ⟨List.nodup_append.2 ⟨h.1, by simp, fun a ha b hb => by simp at hb; subst hb; exact fun e => hnew (e ▸ ha)⟩, fun u hu => ?_, fun u hu => ?_⟩
  · rcases List.mem_append.1 hu with hu | hu
    · exact h.2.1 u hu
    · simp at hu; subst hu; exact ht
  · by_cases hy : u = t
    · subst hy
      have hss : (txKey u).sameKey (txKey u) = true := by unfold txKey; simp [Lit.sameKey]
      simp [hhas, hss]
    · have hne : txKey u ≠ txKey t := fun e => hy (txKey_inj hu ht e)
      have hsk : (txKey u).sameKey (txKey t) = false := by
        unfold txKey at hne ⊢
        simp [Lit.sameKey]
        intro e
        exact hne (by rw [e])
      simp [h.2.2 u hu, hy, hsk]
/-- The names of a set. -/
def NamesG {E : Type} (D : DataW E) (ss : List TxP) : Prop := ss.Nodup ∧ (∀ t ∈ ss, txOk t) ∧ ∀ t, txOk t → (t ∈ ss ↔ has D (txKey t) = true)
theorem MetG.done {E : Type} {D0 : DataW E} {left : Lit → Bool} {ss : List TxP} (h : MetG D0 left ss) (hl : ∀ kl, left kl = false) : NamesG D0 ss := ⟨h.1, h.2.1, fun t ht => by rw [h.2.2 t ht, hl]; simp⟩

set_option maxRecDepth 100000 in
set_option maxHeartbeats 2000000 in
theorem keys1G_in (n : Nat) (hn : 1 ≤ n) (l Bm b nn : Nat) {E : Type} {R : Value → Option (DataW E × List MemPlace)} (D0 : DataW E) (J Jx : List TxP → World → Prop)
    (hY : ∀ pre x W, J pre W → pre.length < Maps.size D0 → YieldAt Fence.wide (n - 1) Try.prog l #[txV x] W fun e W' => (e = .returned (.bool true) ∧ J (pre ++ [x]) W' ∧ KeepsWalks W W') ∨ (e = .returned (.bool false) ∧ Jx (pre ++ [x]) W'))
    (W : World) (hJ : AbidesFrom W.heap.size J) (hm : W.cell? ⟨Bm, 0, none⟩ = some (.map (some b))) (hown : W.ownsMap Try.prog 33 R b nn D0) (h0 : J [] W) :
    CallsIn Fence.wide n Try.prog 66 #[.func (.yield l) #[] #[], .pointer (some ⟨Bm, 0, none⟩)] W fun e W' => (∃ v, e = .returned v) ∧ ((∃ ss : List TxP, (NamesG D0 ss ∧ ss.length ≤ Maps.size D0) ∧ J ss W') ∨ (∃ pre : List TxP, True ∧ Jx pre W')) := by
  have hF : Fence.wide.fn 66 := trivial
  have HI := hide infoTx3
  refine callsIn_of_wp Try.func66 rfl hF ?_ rfl
  simp only [Try.ntmps66, List.size_toArray, List.length_cons, List.length_nil, Nat.reduceAdd, Nat.reduceSub, Array.replicate_succ, Array.replicate_zero, List.push_toArray, List.append_toArray, List.nil_append, List.cons_append]
  gi_wp2_with (gi_at_range; refine wpListIn_range_own _ rfl _ 62 rfl 33 86 txKeyed Try.underlying62 _ b nn _ rfl hown ?_; intro w0 hrg0 hg0 hs0)
  go_frame
  gi_loopw [3] (fun _ wr => ∃ (left : Lit → Bool) (cnt : Nat) (ss : List TxP), wr.ranges Try.prog 33 R b W.heap.size nn D0 left cnt ∧ ss.length + cnt ≤ Maps.size D0 ∧ MetG D0 left ss ∧ J ss wr)
    (fun _ wr => wr.rangeLeft b W.heap.size)
  case atStart =>
    exact ⟨_, _, [], hrg0, by simp, MetG.start D0, hJ [] W w0 none h0 hg0 (fun r e => by cases e)⟩
  case round =>
    obtain ⟨left, cnt, ss, hrg, hcs, hC, hJs⟩ := hrel
    gi_wp2_with (gi_at_next; refine wpListIn_next_ranges _ rfl _ rfl 33 txKeyed R txV id (fun key kl hk => by obtain ⟨x, _, hx, _⟩ := keyOf_tx_inv hk; exact ⟨x, hx⟩) (fun v _ _ => ⟨v, rfl⟩) b W.heap.size nn _ _ _ rfl hrg ?_ ?_)
    · intro hc0 hl0
      gi_wp2
      go_end0
      exact ⟨⟨_, rfl⟩, .inl ⟨ss, ⟨hC.done hl0, by omega⟩, hJs⟩⟩
    · intro xa xb xc c kl yd yp w2 cnt2 hkey hlk hv hat hrg2 hlt hg2 hs2 hen
      obtain ⟨x', hok, ex, rfl⟩ := keyOf_tx_inv hkey
      obtain rfl : (xa, xb, xc) = x' := by
        obtain ⟨d, e, f⟩ := x'
        simp [txV] at ex
        obtain ⟨rfl, rfl, rfl⟩ := ex
        rfl
      have hJ2 : J ss w2 := hJ ss wr w2 (some W.heap.size) hJs hg2 (fun r e => by cases e; exact ⟨Nat.le_refl _, hrg.iter_walk⟩)
      have HX := hide (box_new w2 #[.int .u8 0, .int .u32 0, .int .u32 0] 33)
      clear hs2 ex
      gi_wp2_with (refine wpIn_store_box (cs' := #[.int .u8 xa, .int .u32 xb, .int .u32 xc]) rfl rfl _ _ rfl _ rfl rfl HX.out rfl HI.out (by simp [Value.oneCell']) ?_; intro w3 hb3 hk3; have HB3 := hide hb3; have HK3 := hide hk3; clear hb3 hk3; obtain ⟨z0, z1, z2⟩ := HB3.out.three; have zl := HB3.out.lt; have hg3 := grown_new _ HK3.out; have hJ3 : J ss w3 := hJ ss w2 w3 none hJ2 hg3 (fun r e => by cases e); have hrg3 := hrg2.of_walks (KeepsWalks.of_grownBy hg3 (fun j o e => by cases e)); obtain ⟨fn, tmps, assign, body, hy, hR⟩ := hY ss (xa, xb, xc) w3 hJ3 (by omega); have HR := hide hR; have HG3 := hide hg3; clear hg3 hR)
      refine HR.out.mono ?_
      rintro e W4 (⟨rfl, hJ4, hk4⟩ | ⟨rfl, hJx4⟩)
      · have hrg4 := hrg3.of_walks hk4
        gi_wp2
        go_roundw
        case rel => exact ⟨_, cnt2, ss ++ [(xa, xb, xc)], hrg4, by simp; omega, hC.step hok hlk hat, hJ4⟩
        case measure => rw [hrg4.left_eq, hrg.left_eq]; exact hlt
      · gi_wp2
        refine bodyPost_ret (results_none rfl _ _ _) rfl ?_
        exact ⟨⟨_, rfl⟩, .inr ⟨_, trivial, hJx4⟩⟩
theorem keysG_in (n : Nat) (mb : Option Nat) (w : World) :
    CallsIn Fence.wide n Try.prog 43 #[.map mb] w fun e w' => e = .returned (.func (.func 66) #[] #[.pointer (some ⟨w.heap.size, 0, none⟩)]) ∧ w' = w.alloc (.cells #[.map mb] 62) := by
  have hF : Fence.wide.fn 43 := trivial
  refine callsIn_of_wp Try.func43 rfl hF ?_ rfl
  simp only [Try.ntmps43, List.size_toArray, List.length_cons, List.length_nil, Nat.reduceAdd, Nat.reduceSub, Array.replicate_succ, Array.replicate_zero, List.push_toArray, List.append_toArray, List.nil_append, List.cons_append]
  gi_wp2
  go_ret
  exact ⟨rfl, rfl⟩
theorem keysG_stops {E : Type} {R : Value → Option (DataW E × List MemPlace)} (n : Nat) (hn : 1 ≤ n) (Bm b nn : Nat) (D0 : DataW E) (w : World) (hBm : Bm < w.heap.size) (hm : w.cell? ⟨Bm, 0, none⟩ = some (.map (some b))) (hown : w.ownsMap Try.prog 33 R b nn D0) :
    SeqStopsK Fence.wide n Try.prog 66 #[.pointer (some ⟨Bm, 0, none⟩)] (fun x : TxP => #[txV x]) KeepsWalks (fun ss => NamesG D0 ss ∧ ss.length ≤ Maps.size D0) (fun _ => True) (Maps.size D0) w := fun l J Jx W hW hJ _ hY h0 =>
  keys1G_in n hn l Bm b nn D0 J Jx hY W hJ ((hW.cell (p := ⟨Bm, 0, none⟩) hBm).trans hm) (by obtain ⟨es, clock, g1, g2⟩ := hown; exact ⟨es, clock, (hW.block b (Array.getElem?_eq_some_iff.1 g1).1).trans g1, g2⟩) h0
end
section
open Go.RowKit

/-- What a call leaves of a table. -/
def TDid (D : World → Nat → (Nat → Prop) → List WrP → Prop) (w w' : World) (q : Nat) (F : Nat → Prop) (t' : List WrP) : Prop :=
  ∃ F', D w' q F' t' ∧ KeepBut F w w' ∧ ∀ k, F' k → F k ∨ w.heap.size ≤ k
section
variable {D : World → Nat → (Nat → Prop) → List WrP → Prop}
theorem TDid.before {w w1 w2 : World} {q : Nat} {F : Nat → Prop} {t' : List WrP} (hB : Below w.heap.size w w1) (h : TDid D w1 w2 q F t') : TDid D w w2 q F t' := by
  obtain ⟨F', h1, hk, hF⟩ := h
  refine ⟨F', h1, (KeepBut.of_below F hB).trans hk (fun _ _ h => h), fun k hk => ?_⟩
  rcases hF k hk with h | h
  · exact .inl h
  · exact .inr (Nat.le_trans hB.size h)
/-- A table, and nothing below w turned since. -/
def Since13 (D : World → Nat → (Nat → Prop) → List WrP → Prop) (w : World) (q : Nat) (t : List WrP) (W : World) : Prop := ∃ F, D W q F t ∧ (∀ k, F k → w.heap.size ≤ k) ∧ Below w.heap.size w W
theorem Since13.did {w w1 w2 : World} {q : Nat} {F : Nat → Prop} {t' : List WrP} (hB : Below w.heap.size w w1) (hF : ∀ k, F k → w.heap.size ≤ k) (h : TDid D w1 w2 q F t') : Since13 D w q t' w2 := by
  obtain ⟨F', h1, hk, h2⟩ := h
  refine ⟨F', h1, fun k hk' => ?_, hB.trans (hk.below hB.size hF)⟩
  rcases h2 k hk' with h | h
  · exact hF k h
  · exact Nat.le_trans hB.size h
end
end
section
open Go.RowKit Go.Maps Classical

/-- A key that is one. -/
abbrev KeyT : Type := {k : List Int // KeyOk k}
abbrev kyV (k : List Int) : Value := .agg (eightA k)
abbrev kyL (k : List Int) : List Lit := [.int .u8 (at8 k 0), .int .u8 (at8 k 1), .int .u8 (at8 k 2), .int .u8 (at8 k 3), .int .u8 (at8 k 4), .int .u8 (at8 k 5), .int .u8 (at8 k 6), .int .u8 (at8 k 7)]
/-- What a key reads as, as a map's key. -/
def kyKey (k : List Int) : Lit := .string (keyBytes (kyL k))
theorem kyLaid : laidOutB Try.prog = true := by kernel_rfl
theorem kyRow : (53 : TypeId) < Try.prog.types.size := of_decide_eq_true (by kernel_rfl)
theorem kyKeyed : Keyed Try.prog 53 := Keyed.of_law (deep_law_laid kyLaid (m := 2) (by omega) kyRow (by kernel_rfl) (by kernel_rfl))
theorem kyIsKey : Try.prog.keyType 53 = true := by kernel_rfl
theorem kyCells : Try.prog.cellsOf 53 = 8 := by kernel_rfl
theorem kyu8Cells : Try.prog.cellsOf 5 = 1 := by kernel_rfl
theorem kyTypes : ∃ k, Try.prog.types.size = k + 1 := ⟨Try.prog.types.size - 1, by
  have : 0 < Try.prog.types.size := of_decide_eq_true (by kernel_rfl)
  omega⟩
theorem kwf_u8 {n : Int} (h0 : 0 ≤ n) (h1 : n < 256) : (Lit.int .u8 n).wf = true := by
  simp [Lit.wf, IntKind.min, IntKind.max, IntKind.signed, IntKind.bits]; omega
theorem at8_rng {k : List Int} (h : KeyOk k) (i : Nat) : 0 ≤ at8 k i ∧ at8 k i < 256 := by
  unfold at8
  by_cases hi : i < k.length
  · have : k.getD i 0 = k[i] := by simp [List.getD, hi]
    rw [this]
    exact h.b _ (List.getElem_mem hi)
  · have : k.getD i 0 = 0 := by simp [List.getD, List.getElem?_eq_none (Nat.not_lt.1 hi)]
    rw [this]
    omega
theorem lits_ky (k : List Int) (h : KeyOk k) : Try.prog.keyLits (Try.prog.types.size + 1) 53 (eightE k) = some (kyL k) := by
  obtain ⟨n, hn⟩ := kyTypes
  have w := fun i => kwf_u8 (at8_rng h i).1 (at8_rng h i).2
  rw [hn]
  unfold Program.keyLits
  rw [Try.underlying53]
  simp [kyCells, kyu8Cells, Program.keyLits, Try.underlying5, w, List.range_succ]
theorem keyOf_ky (k : List Int) (h : KeyOk k) : keyOf Try.prog 53 (kyV k) = some (kyKey k) := by
  have hl := lits_ky k h
  unfold keyOf
  rw [Try.underlying53]
  simp only [kyIsKey, Bool.true_and]
  have hf : (kyV k).formed Try.prog 53 = true := by
    simp [Value.formed, Try.underlying53, kyCells]
  rw [if_pos hf]
  have hc : (kyV k).cells.toList = eightE k := rfl
  rw [hc, hl]
  rfl
theorem eight_cellsK (cs : Array Value) (h : cs.size = 8) : ∃ a b c d e f g i, cs = #[a, b, c, d, e, f, g, i] := by
  obtain ⟨l⟩ := cs
  match l, h with
  | [a, b, c, d, e, f, g, i], _ => exact ⟨a, b, c, d, e, f, g, i, rfl⟩
theorem klits_open (k : Nat) (c0 c1 c2 c3 c4 c5 c6 c7 : Value) (ls : List Lit) : Try.prog.keyLits (k + 1 + 1) 53 [c0, c1, c2, c3, c4, c5, c6, c7] = some ls →
    ∃ a0 a1 a2 a3 a4 a5 a6 a7, Try.prog.keyLits (k + 1) 5 [c0] = some a0 ∧ Try.prog.keyLits (k + 1) 5 [c1] = some a1 ∧ Try.prog.keyLits (k + 1) 5 [c2] = some a2 ∧ Try.prog.keyLits (k + 1) 5 [c3] = some a3 ∧ Try.prog.keyLits (k + 1) 5 [c4] = some a4 ∧ Try.prog.keyLits (k + 1) 5 [c5] = some a5 ∧ Try.prog.keyLits (k + 1) 5 [c6] = some a6 ∧ Try.prog.keyLits (k + 1) 5 [c7] = some a7 := by
  rw [Program.keyLits.eq_def]
  simp only [Try.underlying53]
  simp [kyCells, kyu8Cells, List.range_succ]
  intro h
  cases h0 : Try.prog.keyLits (k + 1) 5 [c0] with
  | none => rw [h0] at h; simp at h
  | some a0 =>
  cases h1 : Try.prog.keyLits (k + 1) 5 [c1] with
  | none => rw [h0, h1] at h; simp at h
  | some a1 =>
  cases h2 : Try.prog.keyLits (k + 1) 5 [c2] with
  | none => rw [h0, h1, h2] at h; simp at h
  | some a2 =>
  cases h3 : Try.prog.keyLits (k + 1) 5 [c3] with
  | none => rw [h0, h1, h2, h3] at h; simp at h
  | some a3 =>
  cases h4 : Try.prog.keyLits (k + 1) 5 [c4] with
  | none => rw [h0, h1, h2, h3, h4] at h; simp at h
  | some a4 =>
  cases h5 : Try.prog.keyLits (k + 1) 5 [c5] with
  | none => rw [h0, h1, h2, h3, h4, h5] at h; simp at h
  | some a5 =>
  cases h6 : Try.prog.keyLits (k + 1) 5 [c6] with
  | none => rw [h0, h1, h2, h3, h4, h5, h6] at h; simp at h
  | some a6 =>
  cases h7 : Try.prog.keyLits (k + 1) 5 [c7] with
  | none => rw [h0, h1, h2, h3, h4, h5, h6, h7] at h; simp at h
  | some a7 => simp
theorem ky_int {n : Nat} {c : Value} {a : List Lit} (h : Try.prog.keyLits n 5 [c] = some a) : ∃ x : Int, c = .int .u8 x ∧ 0 ≤ x ∧ x < 256 := by
  obtain ⟨x, e1, e2⟩ := keyLits_int' Try.underlying5 h
  simp at e1
  subst e1
  subst e2
  have w1 := bounds_u8 (keyLits_wf h _ (List.mem_singleton.2 rfl))
  exact ⟨x, rfl, by omega, by omega⟩
theorem keyOf_ky_inv {v : Value} {kl : Lit} (h : keyOf Try.prog 53 v = some kl) : ∃ k : KeyT, v = kyV k.1 ∧ kl = kyKey k.1 := by
  have hkeep := h
  obtain ⟨n, hn⟩ := kyTypes
  simp only [keyOf, Try.underlying53, kyIsKey, Bool.true_and] at h
  split at h
  · rename_i hf
    cases v <;> simp [Value.formed, Try.underlying53] at hf
    rename_i cs
    rw [kyCells] at hf
    obtain ⟨c0, c1, c2, c3, c4, c5, c6, c7, rfl⟩ := eight_cellsK cs hf
    rw [hn] at h
    have hc : (Value.agg #[c0, c1, c2, c3, c4, c5, c6, c7]).cells.toList = [c0, c1, c2, c3, c4, c5, c6, c7] := rfl
    rw [hc] at h
    obtain ⟨ls, h1, _⟩ := Option.map_eq_some_iff.1 h
    obtain ⟨a0, a1, a2, a3, a4, a5, a6, a7, g0, g1, g2, g3, g4, g5, g6, g7⟩ := klits_open n c0 c1 c2 c3 c4 c5 c6 c7 ls h1
    obtain ⟨x0, rfl, p0, q0⟩ := ky_int g0
    obtain ⟨x1, rfl, p1, q1⟩ := ky_int g1
    obtain ⟨x2, rfl, p2, q2⟩ := ky_int g2
    obtain ⟨x3, rfl, p3, q3⟩ := ky_int g3
    obtain ⟨x4, rfl, p4, q4⟩ := ky_int g4
    obtain ⟨x5, rfl, p5, q5⟩ := ky_int g5
    obtain ⟨x6, rfl, p6, q6⟩ := ky_int g6
    obtain ⟨x7, rfl, p7, q7⟩ := ky_int g7
    have hk : KeyOk [x0, x1, x2, x3, x4, x5, x6, x7] := ⟨rfl, fun c hc => by
      simp at hc
      rcases hc with rfl | rfl | rfl | rfl | rfl | rfl | rfl | rfl <;> exact ⟨by assumption, by assumption⟩⟩
    refine ⟨⟨_, hk⟩, rfl, ?_⟩
    have h2 := keyOf_ky _ hk
    exact Option.some.inj (hkeep.symm.trans h2)
  · simp at h
theorem eight_eq {k l : List Int} (hk : k.length = 8) (hl : l.length = 8) (h : eightE k = eightE l) : k = l := by
  rw [eightE_map hk, eightE_map hl] at h
  exact List.map_inj_right (fun a b e => by cases e; rfl) |>.1 h
theorem kyKey_inj {k l : List Int} (hk : KeyOk k) (hl : KeyOk l) (h : kyKey k = kyKey l) : k = l := by
  have := kyKeyed.inj (keyOf_ky k hk) (by rw [keyOf_ky l hl, h])
  have h2 : eightA k = eightA l := Value.agg.inj this
  exact eight_eq hk.l hl.l (List.toArray_inj h2)
/-- A way to read an element. -/
structure ElemI (R : Value → Option (DataW ItP × List MemPlace)) : Prop where
  reads : ∀ {i : ItP}, ItOk i → R (.agg (itA i)) = some (.held i, [])
  inv : ∀ {v : Value} {z : DataW ItP × List MemPlace}, R v = some z → ∃ i, ItOk i ∧ v = .agg (itA i) ∧ z = (.held i, [])
/-- Block b is a map that has just these items. -/
structure MapI (w : World) (b : Nat) (t : List WrP) : Prop where
  own : ∃ (R : Value → Option (DataW ItP × List MemPlace)) (D : DataW ItP), ElemI R ∧ w.ownsMap Try.prog 53 R b (Maps.size D) D ∧ Maps.size D = t.length ∧ (∀ k, KeyOk k → Maps.has D (kyKey k) = (getT t k).isSome) ∧ ∀ k i, KeyOk k → getT t k = some i → ∀ z, D.atKey (kyKey k) z = .held i
  ok : TbOk t
  oks : ∀ x ∈ t, KeyOk x.key ∧ ItOk x.it
section
variable {w w' : World} {b : Nat} {t : List WrP}
theorem MapI.lt (h : MapI w b t) : b < w.heap.size := by obtain ⟨_, _, _, h, _⟩ := h.own; exact h.lt
theorem MapI.isMap (h : MapI w b t) : ∃ es c, w.heap[b]? = some (.map es c) := by
  obtain ⟨_, _, _, ⟨es, c, hb, _⟩, _⟩ := h.own
  exact ⟨es, c, hb⟩
theorem MapI.keep {S : Nat → Prop} (h : MapI w b t) (hk : KeepBut S w w') (hS : ¬ S b) : MapI w' b t := by
  obtain ⟨⟨R, D, hR, ho, r⟩, h2, h3⟩ := h
  have hlt := ho.lt
  obtain ⟨es, clock, hb, F, hs, hD⟩ := ho
  exact ⟨⟨R, D, hR, ⟨es, clock, (hk.block b hlt hS).trans hb, F, hs, hD⟩, r⟩, h2, h3⟩
theorem MapI.below (h : MapI w b t) (hB : Below w.heap.size w w') : MapI w' b t := h.keep (KeepBut.of_below (fun _ => False) hB) (fun h => h)
end
end
section
open Go.RowKit

theorem alloc_below10 (w : World) (o : Obj) : Below w.heap.size w (w.alloc o) := (Below.refl _ _).alloc (Nat.le_refl _) o
theorem strOf_size10 (xs : List Int) : (strOfNums xs).size = xs.length := by simp [strOfNums, ByteArray.size]
end
section
open Go.RowKit Classical

/-- A message as a value: its writes lie there. -/
def MgLies (w : World) (v : Value) (m : MsgP) : Prop := ∃ (ao : Option Addr) (cap : Nat), v = .agg (msgA m (.slice ao m.wr.length cap)) ∧ RSrc wrE w (.slice ao m.wr.length cap) m.wr
theorem MgLies.below {w w' : World} {v : Value} {m : MsgP} (h : MgLies w v m) (hB : Below w.heap.size w w') : MgLies w' v m := by
  obtain ⟨ao, cap, rfl, hs⟩ := h
  exact ⟨ao, cap, rfl, hs.below hB⟩
end
section
open Go.RowKit

/-- A text's bytes as numbers. -/
def numsS (s : ByteArray) : List Int := s.data.toList.map fun b => (b.toNat : Int)
theorem numsS_length (s : ByteArray) : (numsS s).length = s.size := by
  obtain ⟨d⟩ := s
  simp [numsS, ByteArray.size]
theorem numsS_byte (s : ByteArray) : ∀ c ∈ numsS s, 0 ≤ c ∧ c < 256 := by
  intro c hc
  simp only [numsS, List.mem_map] at hc
  obtain ⟨b, _, rfl⟩ := hc
  have := b.toNat_lt
  omega
theorem bytesOf_numsS (s : ByteArray) : Lib.bytesOf (numsS s) = s.data.toList := by
  unfold Lib.bytesOf numsS
  rw [List.map_map]
  conv => rhs; rw [← List.map_id s.data.toList]
  apply List.map_congr_left
  intro b _
  simp
theorem infoKeyI : (Try.prog.info? 53).map (·.size) = some 8 := by kernel_rfl
theorem results_box2 {P : Program} {fn : Func} {q t1 : Tmp} {t t0 : TypeId} {d : TypeDesc} (h : fn.results = #[.cell q t, .tmp t1]) (tmps : Array Value) (w : World) (p : Nat) (hq : tmps.getD q undef = .pointer (some ⟨p, 0, none⟩)) {v1 : Value} (h1 : tmps.getD t1 undef = v1) {cs : Array Value} (hb : Box w p cs t0)
    (hu : P.underlying t = some d) (hd : d.isRow = true) (hi : (P.info? t).map (·.size) = some cs.size) : (results fn tmps).run P w = .ok (.tuple #[.agg cs, v1]) w := by
  subst h1
  have hr : w.rangeAt p 0 cs.toList := fun j v hv => by
    rw [Nat.zero_add]; exact hb.cell j v (by simpa using hv)
  have hl := run_loadVar_mid (P := P) w p 0 t cs.toList d hr hu hd (by simpa using hi)
  have hq' : tmps[q]?.getD undef = .pointer (some ⟨p, 0, none⟩) := by rw [← Array.getD_eq_getD_getElem?]; exact hq
  simp only [results, h]
  simp [hq', asAddr, hl]

set_option maxRecDepth 100000 in
theorem slidx_any (s : ByteArray) (c : Int) (w : World) : Calls Try.prog 139 #[.string s, .int .u8 c] w fun e w' => e = .returned (.int .i64 (Lib.indexByte s.data.toList c.toNat.toUInt8)) ∧ w' = w := by
  go_enter Try.func139, Try.ntmps139
  go_wp2
  rw [run_callFunc_extern Try.func148 (by kernel_rfl) (by kernel_rfl) (by kernel_rfl) (e := Extern.BytealgIndexByte.indexByte) (by kernel_rfl), Lib.run_indexByteString]
  simp only [Result.andThen]
  rw [Oper.upon_value]
  go_wp2
  go_ret
  exact ⟨rfl, rfl⟩
theorem stidx_any (s : ByteArray) (c : Int) (w : World) : Calls Try.prog 118 #[.string s, .int .u8 c] w fun e w' => e = .returned (.int .i64 (Lib.indexByte s.data.toList c.toNat.toUInt8)) ∧ w' = w := by
  go_enter Try.func118, Try.ntmps118
  go_wp2_with (go_at_call 139; refine (slidx_any _ _ _).mono ?_; rintro e w' ⟨rfl, rfl⟩)
  go_ret
  exact ⟨rfl, rfl⟩
abbrev zeroC : Array Value := #[.int .u8 0, .int .u8 0, .int .u8 0, .int .u8 0, .int .u8 0, .int .u8 0, .int .u8 0, .int .u8 0]
theorem drop_zero8 (n : Nat) : zero8i.drop n = List.replicate (8 - n) 0 := by
  rw [show zero8i = List.replicate 8 (0 : Int) from rfl, List.drop_replicate]
theorem keyOfF_bad {xs : List Int} (h : xs.length = 0 ∨ 8 < xs.length ∨ 0 ∈ xs) : keyOfF xs = (zero8i, 1) := by unfold keyOfF; rw [if_pos h]
set_option maxRecDepth 100000 in
set_option maxHeartbeats 1600000 in
theorem keyOf_any (s : ByteArray) (hs : s.size ≤ maxLen) (w : World) :
    Calls Try.prog 101 #[.string s] w fun e w' => e = .returned (.tuple #[.agg (cells8 (keyOfF (numsS s)).1), .int .i64 (keyOfF (numsS s)).2]) ∧ Below w.heap.size w w' := by
  unfold maxLen at hs
  have hlen := numsS_length s
  have hix := index_zero (numsS s) (numsS_byte s)
  rw [bytesOf_numsS] at hix
  have HI := hide infoKeyI
  have hbA := (Below.refl w.heap.size w).alloc (Nat.le_refl _) (.cells zeroC 53)
  have hbB := hbA.alloc (by simp) (.cells zeroC 53)
  have HB := hide hbB
  have HBR : Hid (Box ((w.alloc (.cells zeroC 53)).alloc (.cells zeroC 53)) w.heap.size zeroC 53) := hide ((box_new w zeroC 53).keep (KeepBut.of_below (fun _ => False) ((Below.refl _ _).alloc (Nat.le_refl _) _)) id)
  have HBK : Hid (Box ((w.alloc (.cells zeroC 53)).alloc (.cells zeroC 53)) (w.heap.size + 1) (cells8 zero8i) 53) := hide (by
    have := box_new (w.alloc (.cells zeroC 53)) zeroC 53
    rw [show cells8 zero8i = zeroC from rfl]
    simpa using this)
  have HZS : Hid ((zeroC).size = (cells8 (numsS s ++ List.replicate (8 - s.size) 0)).size ∨ ¬ s.size ≤ 8) := hide (by
    by_cases h8 : s.size ≤ 8
    · left; rw [cells8_size]; simp [hlen]; omega
    · exact .inr h8)
  clear hbA hbB
  have he0 : ∀ z : Int, z = 0 → Lib.indexByte s.data.toList z.toNat.toUInt8 = Lib.indexByte s.data.toList 0 := fun z hz => by rw [hz]; rfl
  have HCI : Hid (∀ w, Calls Try.prog 118 #[.string s, .int .u8 0] w fun e w' => e = .returned (.int .i64 (Lib.indexByte s.data.toList 0)) ∧ w' = w) := hide (fun w => stidx_any s 0 w)
  clear he0
  generalize hxs : numsS s = xs at *
  generalize Lib.indexByte s.data.toList 0 = ix at *
  by_cases hbad : xs.length = 0 ∨ 8 < xs.length ∨ 0 ∈ xs
  · rw [keyOfF_bad hbad]
    have HCE : Hid (cells8 zero8i = zeroC) := hide rfl
    by_cases h1 : s.size = 0
    · have h1' : (s.size : Int) = 0 := by omega
      clear hbad hix hlen HZS
      go_enter Try.func101, Try.ntmps101
      go_wp2_with fail
      exact bodyPost_ret (v := .tuple #[.agg zeroC, .int .i64 1]) (results_box2 (v1 := .int .i64 1) Try.results101 _ _ w.heap.size rfl rfl HBR.out Try.underlying53 rfl HI.out) rfl ⟨rfl, HB.out⟩
    · by_cases h2 : 8 < s.size
      · have h1' : ((s.size : Int) == 0) = false := beq_eq_false_iff_ne.2 (by omega)
        have h2' : (8 : Int) < (s.size : Int) := by omega
        clear hbad hix hlen HZS
        go_enter Try.func101, Try.ntmps101
        go_wp2_with fail
        exact bodyPost_ret (v := .tuple #[.agg zeroC, .int .i64 1]) (results_box2 (v1 := .int .i64 1) Try.results101 _ _ w.heap.size rfl rfl HBR.out Try.underlying53 rfl HI.out) rfl ⟨rfl, HB.out⟩
      · have h0 : (0 : Int) ∈ xs := by
          rcases hbad with h | h | h
          · omega
          · omega
          · exact h
        rw [if_pos h0] at hix
        have hix0 : 0 ≤ ix := by omega
        have h1' : ((s.size : Int) == 0) = false := beq_eq_false_iff_ne.2 (by omega)
        have h2' : decide ((8 : Int) < (s.size : Int)) = false := decide_eq_false (by omega)
        clear hbad hix hlen HZS h0 h1 h2
        go_enter Try.func101, Try.ntmps101
        go_wp2_with (go_at_call 118; refine (HCI.out _).mono ?_; rintro e w' ⟨rfl, rfl⟩)
        exact bodyPost_ret (v := .tuple #[.agg zeroC, .int .i64 1]) (results_box2 (v1 := .int .i64 1) Try.results101 _ _ w.heap.size rfl rfl HBR.out Try.underlying53 rfl HI.out) rfl ⟨rfl, HB.out⟩
  · have hE : keyOfF xs = (xs ++ List.replicate (8 - xs.length) 0, 0) := by unfold keyOfF; rw [if_neg hbad]
    simp only [not_or] at hbad
    rw [if_neg hbad.2.2] at hix
    have h1' : ((s.size : Int) == 0) = false := beq_eq_false_iff_ne.2 (by omega)
    have h2' : decide ((8 : Int) < (s.size : Int)) = false := decide_eq_false (by omega)
    have hs8 : s.size ≤ 8 := by omega
    have HZ : Hid (xs ++ List.replicate (8 - xs.length) 0 = zero8i.take 0 ++ (s.data.toList.map fun b => (b.toNat : Int)) ++ zero8i.drop (0 + s.size)) := hide (by
      have : (s.data.toList.map fun b => (b.toNat : Int)) = xs := hxs
      rw [this, ← hlen, Nat.zero_add, drop_zero8]
      rfl)
    rw [hE]
    have HL8 : Hid ((xs ++ List.replicate (8 - xs.length) 0).length = 8) := hide (by simp; omega)
    generalize xs ++ List.replicate (8 - xs.length) 0 = ks at *
    have HS8 : Hid ((cells8 ks).size = 8) := hide (by rw [cells8_size]; exact HL8.out)
    have HI2 : Hid ((Try.prog.info? 53).map (·.size) = some (cells8 ks).size) := hide (by rw [HS8.out]; exact HI.out)
    have HZZ : Hid ((zeroC : Array Value).size = (cells8 ks).size) := hide (by rw [HS8.out]; rfl)
    have HO : Hid ((cells8 ks).all (·.oneCell') = true) := hide (cells8_one ks)
    obtain ⟨h0a, h0b, h0c⟩ := hbad
    clear hlen HZS h0a h0b h0c hE hxs
    subst hix
    go_enter Try.func101, Try.ntmps101
    go_wp2_with (first
      | (go_at_call 118; refine (HCI.out _).mono ?_; rintro e w' ⟨rfl, rfl⟩)
      | (refine wp_copy_str _ rfl _ _ rfl (w.heap.size + 1) 0 8 8 53 zero8i ks HBK.out rfl s rfl hs8 (by simp [zero8i]; omega) HZ.out ?_; intro w2 hb2 hk2; have HB2 := hide hb2; have HK2 := hide hk2; have HR2 := hide (HBR.out.keep hk2 (fun e => absurd e (by omega))); clear hb2 hk2)
      | (refine wp_load_box rfl _ rfl _ rfl HB2.out Try.underlying53 rfl HI2.out ?_)
      | (refine wp_store_box rfl rfl _ _ rfl _ rfl rfl HR2.out HZZ.out HI2.out HO.out ?_; intro w3 hb3 hk3; have HB3 := hide hb3; have HK3 := hide hk3; clear hb3 hk3))
    refine bodyPost_ret (v := .tuple #[.agg (cells8 ks), .int .i64 0]) (results_box2 (v1 := .int .i64 0) Try.results101 _ _ w.heap.size rfl rfl HB3.out Try.underlying53 rfl HI2.out) rfl ⟨rfl, ?_⟩
    exact (HB.out.trans (HK2.out.below HB.out.size (fun k hk => by omega))).trans (HK3.out.below (Nat.le_trans HB.out.size HK2.out.size) (fun k hk => by omega))
end
section
open Go.RowKit

theorem Lies.cap {k : IntKind} {w : World} {ao : Option Addr} {cap : Nat} {xs : List Int} (h : Lies k w (.slice ao xs.length cap) xs) : xs.length ≤ cap := by
  rcases h with ⟨rfl, _⟩ | ⟨_, b, off, cap', e, _, hl, _⟩
  · simp
  · cases e; exact hl
theorem Lies.drop {k : IntKind} {w : World} {ao : Option Addr} {cap s : Nat} {xs : List Int} (h : Lies k w (.slice ao xs.length cap) xs) (hs : s ≤ xs.length) :
    Lies k w (.slice (if cap = s then ao else ao.map (·.add (s * 1))) (xs.length - s) (cap - s)) (xs.drop s) := by
  rcases h with ⟨rfl, ao', cap', e, h0⟩ | ⟨hne, b, off, cap', e, hb, hl, hm, hc⟩
  · cases e
    obtain rfl : s = 0 := by simpa using hs
    refine .inl ⟨by simp, _, cap, rfl, fun hn => ?_⟩
    split at hn
    · assumption
    · cases ao with
      | none => exact h0 rfl
      | some ad => cases hn
  · cases e
    by_cases hlt : s < xs.length
    · rw [if_neg (by omega)]
      have hlen : (xs.drop s).length = xs.length - s := by simp
      refine .inr ⟨fun e => by rw [e] at hlen; simp at hlen; omega, b, off + s, cap - s, by simp [Addr.add_lit], hb, by omega, by omega, fun t ht => ?_⟩
      rw [Nat.add_assoc, hc (s + t) (by omega)]
      simp [List.getD]
    · obtain rfl : s = xs.length := by omega
      refine .inl ⟨by simp, _, _, by rw [Nat.sub_self], fun hn => ?_⟩
      split at hn
      · cases hn
      · cases hn
theorem Lies.take {k : IntKind} {w : World} {ao : Option Addr} {cap n : Nat} {xs : List Int} (h : Lies k w (.slice ao xs.length cap) xs) (hn : n ≤ xs.length) : Lies k w (.slice ao n cap) (xs.take n) := by
  rcases h with ⟨rfl, ao', cap', e, h0⟩ | ⟨hne, b, off, cap', e, hb, hl, hm, hc⟩
  · cases e
    obtain rfl : n = 0 := by simpa using hn
    exact .inl ⟨by simp, ao, cap, rfl, h0⟩
  · cases e
    by_cases h0 : n = 0
    · subst h0
      exact .inl ⟨by simp, _, _, rfl, fun h => by cases h⟩
    · have hlen : (xs.take n).length = n := by simp; omega
      refine .inr ⟨fun e => by rw [e] at hlen; simp at hlen; omega, b, off, cap, by rw [hlen], hb, by omega, hm, fun t ht => ?_⟩
      rw [hc t (by omega)]
      have : t < n := by omega
      simp [List.getD, this]
/-- 'x[s:]' -/
theorem run_from (w : World) (ao : Option Addr) (n cap s : Nat) (hs : s ≤ n) : (Instr.sliceAt 139 (.slice ao n cap) (some (.int .i64 s)) none none).run Try.prog w = .ok (.slice (if cap = s then ao else ao.map (·.add (s * 1))) (n - s) (cap - s)) w := by
  simp [Instr.sliceAt, Instr.slice, run_underlying Try.underlying139, Instr.sliceBounds, Instr.sliceBound, asIntOf]
  omega
/-- 'x[:n]' -/
theorem run_to (w : World) (kd : IntKind) (ao : Option Addr) (m cap n : Nat) (hn : n ≤ cap) : (Instr.sliceAt 139 (.slice ao m cap) none (some (.int kd n)) none).run Try.prog w = .ok (.slice ao n cap) w := by
  have h2 : (if cap = 0 then ao else Option.map (fun x => x.add 0) ao) = ao := by
    split
    · rfl
    · cases ao with
      | none => rfl
      | some ad => simp [Addr.add]
  simp [Instr.sliceAt, Instr.slice, run_underlying Try.underlying139, Instr.sliceBounds, Instr.sliceBound, asIntOf, h2]
  omega
end
end Go.Proofs.Ytodomdmmffooaaa
