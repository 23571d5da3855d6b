/-
  Own texts put together: LkIter, LkUsers, LkDo, LkDone, LkOne, LkSort, LkIns1, LkCmp. Own work.
-/
import Derived.Test.YtddflccjmigloaaGreatG10
import Derived.Test.YtddflccjmigloaaGreatG21
import Derived.Test.YtddflccjmigloaaGreatG08
import Derived.Test.YtddflccjmigloaaGreatG11
import Derived.Test.YtddflccjmigloaaGreatG20
import Derived.Test.YtddflccjmigloaaGreatG14
import Derived.Test.YtddflccjmigloaaGreatG17
import Derived.Test.YtddflccjmigloaaGreatIdLay
import Derived.Shelf.SlSortCmp.NoneTotal
import Derived.Sort.LotA
import Derived.Sort.WalkA
namespace Go.Proofs.YtddflccjmigloaaGreat
section
open Go.RowKit Go.Maps Go.Shelf
attribute [local go_sem] Oper.semAt_some

/-- What was met so far of a map's names. -/
def MetG {E : Type} (D0 : DataW E) (left : Lit → Bool) (ss : List TxP) : Prop := ss.Nodup ∧ (∀ t ∈ ss, txOk t) ∧ ∀ t, txOk t → (t ∈ ss ↔ (has D0 (txKey t) = true ∧ left (txKey t) = false))
theorem MetG.start {E : Type} (D0 : DataW E) : MetG D0 (has D0) [] := ⟨List.nodup_nil, by simp, fun t _ => by cases has D0 (txKey t) <;> simp⟩
theorem MetG.step {E : Type} {D0 : DataW E} {left : Lit → Bool} {ss : List TxP} (h : MetG D0 left ss) {t : TxP} (ht : txOk t) {y : DataW E} (hlk : left (txKey t) = true) (hat : ∀ zd, D0.atKey (txKey t) zd = y) : MetG D0 (fun z => left z && !z.sameKey (txKey t)) (ss ++ [t]) := by
  have hhas : has D0 (txKey t) = true := has_true_of_atKey hat
  have hnew : t ∉ ss := fun hx => by have := ((h.2.2 t ht).1 hx).2; rw [hlk] at this; cases this
  refine ⟨List.nodup_append.2 ⟨h.1, by simp, fun a ha b hb => by simp at hb; subst hb; exact fun e => hnew (e ▸ ha)⟩, fun u hu => ?_, fun u hu => ?_⟩
  · rcases List.mem_append.1 hu with hu | hu
    · exact h.2.1 u hu
    · simp at hu; subst hu; exact ht
  · by_cases hy : u = t
    · subst hy
      have hss : (txKey u).sameKey (txKey u) = true := by unfold txKey; simp [Lit.sameKey]
      simp [hhas, hss]
    · have hne : txKey u ≠ txKey t := fun e => hy (txKey_inj hu ht e)
      have hsk : (txKey u).sameKey (txKey t) = false := by
        unfold txKey at hne ⊢
        simp [Lit.sameKey]
        intro e
        exact hne (by rw [e])
      simp [h.2.2 u hu, hy, hsk]
/-- The names of a set. -/
def NamesG {E : Type} (D : DataW E) (ss : List TxP) : Prop := ss.Nodup ∧ (∀ t ∈ ss, txOk t) ∧ ∀ t, txOk t → (t ∈ ss ↔ has D (txKey t) = true)
theorem MetG.done {E : Type} {D0 : DataW E} {left : Lit → Bool} {ss : List TxP} (h : MetG D0 left ss) (hl : ∀ kl, left kl = false) : NamesG D0 ss := ⟨h.1, h.2.1, fun t ht => by rw [h.2.2 t ht, hl]; simp⟩

set_option maxRecDepth 100000 in
set_option maxHeartbeats 2000000 in
theorem keys1G_in (n : Nat) (hn : 1 ≤ n) (l Bm b nn : Nat) {E : Type} {R : Value → Option (DataW E × List MemPlace)} (D0 : DataW E) (J Jx : List TxP → World → Prop)
    (hY : ∀ pre x W, J pre W → pre.length < Maps.size D0 → YieldAt Fence.wide (n - 1) Tryz.prog l #[txV x] W fun e W' => (e = .returned (.bool true) ∧ J (pre ++ [x]) W' ∧ KeepsWalks W W') ∨ (e = .returned (.bool false) ∧ Jx (pre ++ [x]) W'))
    (W : World) (hJ : AbidesFrom W.heap.size J) (hm : W.cell? ⟨Bm, 0, none⟩ = some (.map (some b))) (hown : W.ownsMap Tryz.prog 34 R b nn D0) (h0 : J [] W) :
    CallsIn Fence.wide n Tryz.prog 68 #[.func (.yield l) #[] #[], .pointer (some ⟨Bm, 0, none⟩)] W fun e W' => (∃ v, e = .returned v) ∧ ((∃ ss : List TxP, (NamesG D0 ss ∧ ss.length ≤ Maps.size D0) ∧ J ss W') ∨ (∃ pre : List TxP, True ∧ Jx pre W')) := by
  have hF : Fence.wide.fn 68 := trivial
  have HI := hide infoTx3
  refine callsIn_of_wp Tryz.func68 rfl hF ?_ rfl
  simp only [Tryz.ntmps68, List.size_toArray, List.length_cons, List.length_nil, Nat.reduceAdd, Nat.reduceSub, Array.replicate_succ, Array.replicate_zero, List.push_toArray, List.append_toArray, List.nil_append, List.cons_append]
  gi_wp2_with (gi_at_range; refine wpListIn_range_own _ rfl _ 67 rfl 34 83 txKeyed Tryz.underlying67 _ b nn _ rfl hown ?_; intro w0 hrg0 hg0 hs0)
  go_frame
  gi_loopw [3] (fun _ wr => ∃ (left : Lit → Bool) (cnt : Nat) (ss : List TxP), wr.ranges Tryz.prog 34 R b W.heap.size nn D0 left cnt ∧ ss.length + cnt ≤ Maps.size D0 ∧ MetG D0 left ss ∧ J ss wr)
    (fun _ wr => wr.rangeLeft b W.heap.size)
  case atStart =>
    exact ⟨_, _, [], hrg0, by simp, MetG.start D0, hJ [] W w0 none h0 hg0 (fun r e => by cases e)⟩
  case round =>
    obtain ⟨left, cnt, ss, hrg, hcs, hC, hJs⟩ := hrel
    gi_wp2_with (gi_at_next; refine wpListIn_next_ranges _ rfl _ rfl 34 txKeyed R txV id (fun key kl hk => by obtain ⟨x, _, hx, _⟩ := keyOf_tx_inv hk; exact ⟨x, hx⟩) (fun v _ _ => ⟨v, rfl⟩) b W.heap.size nn _ _ _ rfl hrg ?_ ?_)
    · intro hc0 hl0
      gi_wp2
      go_end0
      exact ⟨⟨_, rfl⟩, .inl ⟨ss, ⟨hC.done hl0, by omega⟩, hJs⟩⟩
    · intro xa xb xc c kl yd yp w2 cnt2 hkey hlk hv hat hrg2 hlt hg2 hs2 hen
      obtain ⟨x', hok, ex, rfl⟩ := keyOf_tx_inv hkey
      obtain rfl : (xa, xb, xc) = x' := by
        obtain ⟨d, e, f⟩ := x'
        simp [txV] at ex
        obtain ⟨rfl, rfl, rfl⟩ := ex
        rfl
      have hJ2 : J ss w2 := hJ ss wr w2 (some W.heap.size) hJs hg2 (fun r e => by cases e; exact ⟨Nat.le_refl _, hrg.iter_walk⟩)
      have HX := hide (box_new w2 #[.int .u8 0, .int .u32 0, .int .u32 0] 34)
      clear hs2 ex
      gi_wp2_with (refine wpIn_store_box (cs' := #[.int .u8 xa, .int .u32 xb, .int .u32 xc]) rfl rfl _ _ rfl _ rfl rfl HX.out rfl HI.out (by simp [Value.oneCell']) ?_; intro w3 hb3 hk3; have HB3 := hide hb3; have HK3 := hide hk3; clear hb3 hk3; obtain ⟨z0, z1, z2⟩ := HB3.out.three; have zl := HB3.out.lt; have hg3 := grown_new _ HK3.out; have hJ3 : J ss w3 := hJ ss w2 w3 none hJ2 hg3 (fun r e => by cases e); have hrg3 := hrg2.of_walks (KeepsWalks.of_grownBy hg3 (fun j o e => by cases e)); obtain ⟨fn, tmps, assign, body, hy, hR⟩ := hY ss (xa, xb, xc) w3 hJ3 (by omega); have HR := hide hR; have HG3 := hide hg3; clear hg3 hR)
      refine HR.out.mono ?_
      rintro e W4 (⟨rfl, hJ4, hk4⟩ | ⟨rfl, hJx4⟩)
      · have hrg4 := hrg3.of_walks hk4
        gi_wp2
        go_roundw
        case rel => exact ⟨_, cnt2, ss ++ [(xa, xb, xc)], hrg4, by simp; omega, hC.step hok hlk hat, hJ4⟩
        case measure => rw [hrg4.left_eq, hrg.left_eq]; exact hlt
      · gi_wp2
        refine bodyPost_ret (results_none rfl _ _ _) rfl ?_
        exact ⟨⟨_, rfl⟩, .inr ⟨_, trivial, hJx4⟩⟩
theorem keysG_in (n : Nat) (mb : Option Nat) (w : World) :
    CallsIn Fence.wide n Tryz.prog 38 #[.map mb] w fun e w' => e = .returned (.func (.func 68) #[] #[.pointer (some ⟨w.heap.size, 0, none⟩)]) ∧ w' = w.alloc (.cells #[.map mb] 67) := by
  have hF : Fence.wide.fn 38 := trivial
  refine callsIn_of_wp Tryz.func38 rfl hF ?_ rfl
  simp only [Tryz.ntmps38, List.size_toArray, List.length_cons, List.length_nil, Nat.reduceAdd, Nat.reduceSub, Array.replicate_succ, Array.replicate_zero, List.push_toArray, List.append_toArray, List.nil_append, List.cons_append]
  gi_wp2
  go_ret
  exact ⟨rfl, rfl⟩
theorem keysG_stops {E : Type} {R : Value → Option (DataW E × List MemPlace)} (n : Nat) (hn : 1 ≤ n) (Bm b nn : Nat) (D0 : DataW E) (w : World) (hBm : Bm < w.heap.size) (hm : w.cell? ⟨Bm, 0, none⟩ = some (.map (some b))) (hown : w.ownsMap Tryz.prog 34 R b nn D0) :
    SeqStopsK Fence.wide n Tryz.prog 68 #[.pointer (some ⟨Bm, 0, none⟩)] (fun x : TxP => #[txV x]) KeepsWalks (fun ss => NamesG D0 ss ∧ ss.length ≤ Maps.size D0) (fun _ => True) (Maps.size D0) w := fun l J Jx W hW hJ _ hY h0 =>
  keys1G_in n hn l Bm b nn D0 J Jx hY W hJ ((hW.cell (p := ⟨Bm, 0, none⟩) hBm).trans hm) (by obtain ⟨es, clock, g1, g2⟩ := hown; exact ⟨es, clock, (hW.block b (Array.getElem?_eq_some_iff.1 g1).1).trans g1, g2⟩) h0
end
section
open Go.RowKit Go.Maps Go.Shelf Classical
attribute [local go_sem] Oper.semAt_some

set_option maxRecDepth 100000 in
theorem lkUsers_any (q b1 C : Nat) (p : TxN → Nat × Nat) (l : List (UsP KeyT)) (w : World) (h : PLk w q b1 C p l) :
    Calls Tryz.prog 15 #[.pointer (some ⟨q, 0, none⟩)] w fun e w' => ∃ v, e = .returned v ∧ w'.ownsRow w.heap.size 34 3 v l.length (rowOf (l.map fun x => txI x.tx)) ∧ Below w.heap.size w w' := by
  refine (callsIn_wide (n := 9)).1 ?_
  have hlt := h.box.lt
  have hp0 := h.box.cell 0 _ rfl
  obtain ⟨R, D, hR, hown, hsz, hhas, _⟩ := h.m.own
  have hsl := h.ok.few
  have HRS : Hid (∀ ss, NamesG D ss → sortT ss = l.map fun x => txI x.tx) := hide (fun ss hss => sortT_unique ss _ hss.1 (by
      unfold Rising
      rw [List.pairwise_map]
      exact h.ok.rise) (fun t => by
      constructor
      · intro ht
        obtain ⟨x, hx, rfl⟩ := List.mem_map.1 ht
        have hok : TxB x.tx := (h.ok.oks x hx).1
        refine (hss.2.2 _ (txI_ok hok)).2 ?_
        rw [hhas ⟨x.tx, hok⟩]
        show ((usL l x.tx).map _).isSome = true
        rw [(usL_some h.ok).2 ⟨hx, rfl⟩]
        rfl
      · intro ht
        have hok := hss.2.1 t ht
        have hh := (hss.2.2 t hok).1 ht
        obtain ⟨u, rfl⟩ := tx_back hok
        rw [hhas u] at hh
        obtain ⟨y, hy⟩ := Option.isSome_iff_exists.1 hh
        obtain ⟨x, hx, _⟩ := Option.map_eq_some_iff.1 hy
        have hxx := (usL_some h.ok).1 hx
        exact List.mem_map.2 ⟨x, hxx.1, by rw [hxx.2]⟩))
  have hF : Fence.wide.fn 15 := trivial
  have C := hide (made15 q b1 w h.box)
  have HS := hide (keysG_stops 5 (by omega) w.heap.size b1 _ D (w.alloc (.cells #[.map (some b1)] 67)) (by simp) (Boxed.new w 67 (.map (some b1))).cell (hown.alloc _))
  clear h hown hhas
  refine callsIn_of_wp Tryz.func15 rfl hF ?_ rfl
  simp only [Tryz.ntmps15, List.size_toArray, List.length_cons, List.length_nil, Nat.reduceAdd, Nat.reduceSub, Array.replicate_succ, Array.replicate_zero, List.push_toArray, List.append_toArray, List.nil_append, List.cons_append]
  gi_wp2_with (first | (refine ⟨trivial, ?_⟩; gi_at_call 36; refine (callsIn_wide.2 C.out).mono ?_; rintro e w' ⟨rfl, hw'⟩; rw [hw']; clear hw') | (refine ⟨trivial, ?_⟩; gi_at_call 38; refine (keysG_in _ (some b1) _).mono ?_; rintro e w' ⟨rfl, hw'⟩; rw [hw']; clear hw'))
  refine ⟨trivial, ?_⟩
  refine (sorted_in 8 (by omega) 68 _ (enters_of Tryz.func68 (by kernel_rfl) rfl) (fun ss => NamesG D ss ∧ ss.length ≤ Maps.size D) (Maps.size D) (by omega) _ (fun ss h => h.2) HS.out).mono ?_
  rintro e w' ⟨v, ss, rfl, ⟨hN, _⟩, ho, hB⟩
  have hso := HRS.out ss hN
  have hsl2 := sortT_length ss
  rw [hso] at ho hsl2
  rw [List.length_map] at hsl2
  rw [← hsl2] at ho
  have HO := hide ho
  have HB := hide hB
  clear ho hB hso hsl2
  gi_wp2
  go_ret
  refine ⟨v, rfl, ?_, ((Below.refl _ w).alloc (Nat.le_refl _) _).trans (HB.out.mono (by simp))⟩
  exact own_base HO.out (by simp)
end
section
open Go.RowKit

abbrev stV15 (tm : Nat) (t : TxN) : Value := .agg #[.int .u32 (tm : Int), .int .u8 (t.1 : Int), .int .u32 (t.2.1 : Int), .int .u32 (t.2.2 : Int)]
/-- What a call leaves of a table. -/
def LDid (D : World → Nat → (Nat → Prop) → Nat → List (UsP KeyT) → Prop) (w w' : World) (q : Nat) (F : Nat → Prop) (C : Nat) (l' : List (UsP KeyT)) : Prop :=
  ∃ F', D w' q F' C l' ∧ KeepBut F w w' ∧ ∀ k, F' k → F k ∨ w.heap.size ≤ k
abbrev outV15 (a b : Value) : Value := .agg #[a, b]
abbrev ptr15 (q : Nat) : Value := .pointer (some ⟨q, 0, none⟩)
/-- What a program's table must do. -/
structure LockDo (D : World → Nat → (Nat → Prop) → Nat → List (UsP KeyT) → Prop) : Prop where
  keep : ∀ {w w' : World} {q C : Nat} {F S : Nat → Prop} {l : List (UsP KeyT)}, D w q F C l → KeepBut S w w' → (∀ k, F k → ¬ S k) → D w' q F C l
  lt : ∀ {w : World} {q C : Nat} {F : Nat → Prop} {l : List (UsP KeyT)}, D w q F C l → ∀ k, F k → k < w.heap.size
  ok : ∀ {w : World} {q C : Nat} {F : Nat → Prop} {l : List (UsP KeyT)}, D w q F C l → LkB l
  new : ∀ (w : World), Calls Tryz.prog 6 #[] w fun e w' => ∃ q F, e = .returned (ptr15 q) ∧ D w' q F 0 [] ∧ (∀ k, F k → w.heap.size ≤ k) ∧ Below w.heap.size w w'
  ask : ∀ {w : World} {q C : Nat} {F : Nat → Prop} {l : List (UsP KeyT)} (tm : Nat) (t : TxN) (k : KeyT) (m : Nat), D w q F C l → C ≤ 150 → TxB t → tm < 4294967296 → m < 256 →
    Calls Tryz.prog 28 #[ptr15 q, stV15 tm t, .agg (eightA k.1), .int .u8 (m : Int)] w fun e w' => ∃ vw vg er wn gr l', e = .returned (.tuple #[outV15 vw vg, .int .i64 er]) ∧ AskR kysF (mayA15 tm t k m) l t tm k m er l' wn gr ∧ LDid D w w' q F (C + 1) l' ∧
      w'.ownsRow w.heap.size 34 3 vw wn.length (rowOf (wn.map txI)) ∧ w'.ownsRow w.heap.size 76 12 vg gr.length (flat gtE gr)
  prep : ∀ {w : World} {q C : Nat} {F : Nat → Prop} {l : List (UsP KeyT)} (t : TxN), D w q F C l → C ≤ 150 → TxB t →
    Calls Tryz.prog 30 #[ptr15 q, txVN t] w fun e w' => ∃ vg er gr l', e = .returned (.tuple #[outV15 (.slice none 0 0) vg, .int .i64 er]) ∧ PrepR kysF l t er l' gr ∧ LDid D w w' q F C l' ∧ w'.ownsRow w.heap.size 76 12 vg gr.length (flat gtE gr)
  rel : ∀ {w : World} {q C : Nat} {F : Nat → Prop} {l : List (UsP KeyT)} (t : TxN), D w q F C l → C ≤ 150 → TxB t →
    Calls Tryz.prog 27 #[ptr15 q, txVN t] w fun e w' => ∃ vg er gr l', e = .returned (.tuple #[outV15 (.slice none 0 0) vg, .int .i64 er]) ∧ RelR kysF l t er l' gr ∧ LDid D w w' q F C l' ∧ w'.ownsRow w.heap.size 76 12 vg gr.length (flat gtE gr)
  rest : ∀ {w : World} {q C : Nat} {F : Nat → Prop} {l : List (UsP KeyT)} (t : TxN) (ks : List KeyT) (v : Value), D w q F C l → C ≤ 150 → ks.length ≤ 100000 → TxB t → RSrc kyCs w v ks →
    Calls Tryz.prog 31 #[ptr15 q, txVN t, v] w fun e w' => ∃ er l', e = .returned (.int .i64 er) ∧ RestR (mayR15 t ks) l t ks er l' ∧ LDid D w w' q F (max C ks.length) l'
  mode : ∀ {w : World} {q C : Nat} {F : Nat → Prop} {l : List (UsP KeyT)} (t : TxN) (k : KeyT), D w q F C l → TxB t →
    Calls Tryz.prog 19 #[ptr15 q, txVN t, .agg (eightA k.1)] w fun e w' => e = .returned (.int .u8 ((getU l t).h k : Int)) ∧ Below w.heap.size w w'
  waits : ∀ {w : World} {q C : Nat} {F : Nat → Prop} {l : List (UsP KeyT)} (t : TxN), D w q F C l → TxB t →
    Calls Tryz.prog 21 #[ptr15 q, txVN t] w fun e w' => ∃ b, e = .returned (.bool b) ∧ (b = true ↔ ∃ k, (getU l t).w k ≠ 0) ∧ Below w.heap.size w w'
  prepd : ∀ {w : World} {q C : Nat} {F : Nat → Prop} {l : List (UsP KeyT)} (t : TxN), D w q F C l → TxB t →
    Calls Tryz.prog 23 #[ptr15 q, txVN t] w fun e w' => e = .returned (.bool (getU l t).pr) ∧ Below w.heap.size w w'
  users : ∀ {w : World} {q C : Nat} {F : Nat → Prop} {l : List (UsP KeyT)}, D w q F C l → Calls Tryz.prog 15 #[ptr15 q] w fun e w' => ∃ v, e = .returned v ∧ w'.ownsRow w.heap.size 34 3 v l.length (rowOf (l.map fun x => txI x.tx)) ∧ Below w.heap.size w w'
  queue : ∀ {w : World} {q C : Nat} {F : Nat → Prop} {l : List (UsP KeyT)} (k : KeyT), D w q F C l → Calls Tryz.prog 17 #[ptr15 q, .agg (eightA k.1)] w fun e w' => ∃ v, e = .returned v ∧ w'.ownsRow w.heap.size 34 3 v (queU l k).length (rowOf ((queU l k).map txI)) ∧ Below w.heap.size w w'
section
variable {D : World → Nat → (Nat → Prop) → Nat → List (UsP KeyT) → Prop}
theorem LockDo.below (H : LockDo D) {w w' : World} {q C : Nat} {F : Nat → Prop} {l : List (UsP KeyT)} (h : D w q F C l) (hB : Below w.heap.size w w') : D w' q F C l := H.keep h (KeepBut.of_below (fun _ => False) hB) (fun _ _ h => h)
/-- A table, and nothing below B turned since. -/
structure Since15 (D : World → Nat → (Nat → Prop) → Nat → List (UsP KeyT) → Prop) (w : World) (q : Nat) (F : Nat → Prop) (C : Nat) (l : List (UsP KeyT)) (W : World) : Prop where
  d : D W q F C l
  new : ∀ k, F k → w.heap.size ≤ k
  b : Below w.heap.size w W
theorem Since15.did {w w1 w2 : World} {q C C' : Nat} {F : Nat → Prop} {l l' : List (UsP KeyT)} (h : Since15 D w q F C l w1) (hd : LDid D w1 w2 q F C' l') : ∃ F', Since15 D w q F' C' l' w2 ∧ KeepBut F w1 w2 ∧ ∀ k, F' k → F k ∨ w1.heap.size ≤ k := by
  obtain ⟨F', h1, hk, h2⟩ := hd
  exact ⟨F', ⟨h1, fun k hk' => (h2 k hk').elim (h.new k) (fun h3 => Nat.le_trans h.b.size h3), h.b.trans (hk.below h.b.size h.new)⟩, hk, h2⟩
theorem Since15.below (H : LockDo D) {w W W' : World} {q C : Nat} {F : Nat → Prop} {l : List (UsP KeyT)} (h : Since15 D w q F C l W) (hB : Below W.heap.size W W') : Since15 D w q F C l W' :=
  ⟨H.below h.d hB, h.new, h.b.trans (hB.mono h.b.size)⟩
theorem Since15.keep (H : LockDo D) {S : Nat → Prop} {w W W' : World} {q C : Nat} {F : Nat → Prop} {l : List (UsP KeyT)} (h : Since15 D w q F C l W) (hk : KeepBut S W W') (h1 : ∀ k, F k → ¬ S k) (h2 : ∀ k, S k → w.heap.size ≤ k) : Since15 D w q F C l W' :=
  ⟨H.keep h.d hk h1, h.new, h.b.trans (hk.below h.b.size h2)⟩
end
end
section
open Go.RowKit Go.Maps Classical

theorem ldid15 {w w' : World} {q b b' C : Nat} {F : Nat → Prop} {p p' : TxN → Nat × Nat} {l l' : List (UsP KeyT)} (hF : ∀ k, F k ↔ FLk q b p l k) (h : PLk w' q b' C p' l') (hk : KeepBut (fun g => FLk q b p l g) w w') (hs : ∀ g, FLk q b' p' l' g → FLk q b p l g ∨ w.heap.size ≤ g) : LDid PL15 w w' q F C l' :=
  ⟨FLk q b' p' l', ⟨b', p', h, fun _ => Iff.rfl⟩, hk.mono (fun g hg => (hF g).2 hg), fun g hg => (hs g hg).imp (fun h => (hF g).2 h) id⟩
theorem rel_flk {l l' : List (UsP KeyT)} {t : TxN} {er : Int} {gr : List (GtP KeyT)} (h : RelR kysF l t er l' gr) {q b : Nat} {p : TxN → Nat × Nat} {g : Nat} (hg : FLk q b p l' g) : FLk q b p l g := by
  rcases h with ⟨rfl, _⟩ | ⟨x, ks, _, _, _, _, rfl⟩
  · exact hg
  · exact flk_sub (fun u hu => (List.mem_filter.1 hu).1) (flk_names (onA_names ks (dropU l t)) hg)
theorem prep_flk {l l' : List (UsP KeyT)} {t : TxN} {er : Int} {gr : List (GtP KeyT)} (h : PrepR kysF l t er l' gr) {q b : Nat} {p : TxN → Nat × Nat} {g : Nat} (hg : FLk q b p l' g) : FLk q b p l g := by
  rcases h with ⟨rfl, _⟩ | ⟨x, ks, _, _, _, _, _, rfl⟩
  · exact hg
  · exact flk_names (by unfold updU; rw [List.map_map]; exact List.map_congr_left (fun u _ => by show (if u.tx = t then prepU u else u).tx = u.tx; split <;> rfl)) (flk_names (onA_names ks (updU l t prepU)) hg)
theorem wnd_len {l : List (UsP KeyT)} (hb : LkB l) (t : TxN) (k : KeyT) : (wndU l t k).length ≤ 64 := by
  unfold wndU sortU
  rw [List.length_map, List.length_mergeSort]
  exact Nat.le_trans (List.length_filter_le _ _) hb.few
theorem ask_b {l : List (UsP KeyT)} (hb : LkB l) {t : TxN} {tm : Nat} {k : KeyT} {m : Nat} (ht : TxB t) (htm : tm < 4294967296) (hmay : mayA15 tm t k m = true) (hf : usL l t = none → l.length < 64) : LkB (updU (askU l t tm) t (waitU k m)) := by
  refine wait_b ?_ t k (ask_mode2 hmay)
  unfold askU
  cases hu : usL l t with
  | none => exact insU_b hb hu (hf hu) ⟨ht, htm, fun _ => Nat.zero_le _, fun _ => Nat.zero_le _⟩
  | some x => exact hb
theorem lk_do (HS : SortB 64) : LockDo PL15 where
  keep := pl_keep
  lt := pl_lt
  ok := fun ⟨_, _, h, _⟩ => h.ok
  new := lkNew_any
  ask := fun {w q C F l} tm t k m ⟨b, p, h, hF⟩ hC ht htm hm => by
    refine (lkAsk_any 64 HS q b C p l tm t k m w h ht htm hm hC (fun h1 h2 => ⟨wnd_len (ask_b h.ok ht htm h1 h2) t k, qn64 (filter_b (ask_b h.ok ht htm h1 h2) _)⟩)).mono ?_
    rintro e w' ⟨vw, vg, er, wn, gr, l', p', rfl, hR, hp, hk, hs, ho, ho2⟩
    exact ⟨vw, vg, er, wn, gr, l', rfl, hR, ldid15 hF hp hk hs, ho, ho2⟩
  prep := fun {w q C F l} t ⟨b, p, h, hF⟩ hC ht => by
    refine (lkPrepare_any 64 HS q b C p l t w h ht hC (qn64 (prep_b h.ok t))).mono ?_
    rintro e w' ⟨vg, er, gr, l', rfl, hR, hp, hk, ho⟩
    exact ⟨vg, er, gr, l', rfl, hR, ldid15 hF hp hk (fun g hg => .inl (prep_flk hR hg)), ho⟩
  rel := fun {w q C F l} t ⟨b, p, h, hF⟩ hC ht => by
    refine (lkRelease_any 64 HS q b C p l t w h ht hC (qn64 (filter_b h.ok _))).mono ?_
    rintro e w' ⟨vg, er, gr, l', rfl, hR, hp, hk, ho⟩
    exact ⟨vg, er, gr, l', rfl, hR, ldid15 hF hp hk (fun g hg => .inl (rel_flk hR hg)), ho⟩
  rest := fun {w q C F l} t ks v ⟨b, p, h, hF⟩ hC hl ht hs => by
    refine (lkRestore_any q b C p l t ks v w h ht hs hl).mono ?_
    rintro e w' ⟨er, l', p', rfl, hR, hp, hk, hs'⟩
    exact ⟨er, l', rfl, hR, ldid15 hF hp hk hs'⟩
  mode := fun t k ⟨b, p, h, _⟩ ht => lkMode_any _ b _ p _ t k _ h ht
  waits := fun t ⟨b, p, h, _⟩ ht => lkWaits_any _ b _ p _ t _ h ht
  prepd := fun t ⟨b, p, h, _⟩ ht => lkPrepared_any _ b _ p _ t _ h ht
  users := fun ⟨b, p, h, _⟩ => lkUsers_any _ b _ p _ _ h
  queue := fun k ⟨b, p, h, _⟩ => lkQueue_any 64 HS _ b _ p _ k _ h (que_len h.ok k)
end
section
open Go.RowKit Go.Maps Go.Shelf Go.Sort Classical

theorem insOne (p : Option Addr) (cap : Nat) (fv : Value) (w : World) :
    Calls Tryz.prog 94 #[.slice p 1 cap, .int .i64 0, .int .i64 1, fv] w fun e w' => e = .returned (.tuple #[]) ∧ w' = w := by
  go_enter Tryz.func94, Tryz.ntmps94
  go_wp2
  refine wp_loop_rounds 1 ?_
  rw [rounds_succ]
  go_wp2
  go_end0
  exact ⟨rfl, rfl⟩
theorem pdqOne (p : Option Addr) (cap : Nat) (lim : Int) (fv : Value) (w : World) :
    Calls Tryz.prog 72 #[.slice p 1 cap, .int .i64 0, .int .i64 1, .int .i64 lim, fv] w fun e w' => e = .returned (.tuple #[]) ∧ w' = w := by
  have hi := fun W => insOne p cap fv W
  go_enter Tryz.func72, Tryz.ntmps72
  go_wp2
  refine wp_loop_rounds 1 ?_
  rw [rounds_succ]
  go_wp2_with (go_at_call 94; refine (hi _).mono ?_; rintro e w' ⟨rfl, rfl⟩)
  (try simp only [Exit.inBlock, Exit.then]); refine bodyPost_ret (results_none rfl _ _ _) rfl ?_
  exact ⟨rfl, rfl⟩
theorem sortOne (p : Option Addr) (cap : Nat) (fv : Value) (w : World) :
    Calls Tryz.prog 40 #[.slice p 1 cap, fv] w fun e w' => e = .returned (.tuple #[]) ∧ w' = w := by
  have hp := fun lim W => pdqOne p cap lim fv W
  have hl : ∀ W, Calls Tryz.prog 73 #[.int .u64 1] W fun e w' => e = .returned (.int .i64 (Lib.bitLen 1 : Nat)) ∧ w' = W := fun W => by
    have h := Any.bits_Len (SlLaysF0.n15.bits (P := Tryz.prog) { Tryz.sortL with }) 1 W (by omega) (by omega)
    exact h
  go_enter Tryz.func40, Tryz.ntmps40
  go_wp2_with (first | (go_at_call 73; refine (hl _).mono ?_; rintro e w' ⟨rfl, rfl⟩) | (go_at_call 72; refine (hp _ _).mono ?_; rintro e w' ⟨rfl, rfl⟩))
  go_end0
  exact ⟨rfl, rfl⟩
theorem sortB1 : SortB 1 := by
  intro W q b C p l base v ss h ho hss hnd hlen hvb
  obtain ⟨av, cv, rfl, _⟩ := owns_shapeR ho
  have hres : ss.Pairwise (OldN l) := by
    match ss, hlen with
    | [], _ => exact List.Pairwise.nil
    | [a], _ => exact List.pairwise_singleton _ _
  by_cases h0 : ss.length = 0
  · rw [h0]
    refine (AnyF.slices_SortFunc_none Tryz.sortL av cv _ W).mono ?_
    rintro e w' ⟨rfl, rfl⟩
    exact ⟨rfl, ss, fun _ => Iff.rfl, hres, by rw [h0] at ho ⊢; exact ho, KeepBut.refl _ _⟩
  · have h1 : ss.length = 1 := by omega
    rw [h1]
    refine (sortOne av cv _ W).mono ?_
    rintro e w' ⟨rfl, rfl⟩
    exact ⟨rfl, ss, fun _ => Iff.rfl, hres, by rw [h1] at ho ⊢; exact ho, KeepBut.refl _ _⟩
end
section
open Go.RowKit Go.Maps Go.Shelf Go.Sort Classical

/-- Block g has these names, and perhaps more. -/
structure TRow (w : World) (g : Nat) (d : Array TxN) : Prop where
  bx : ∃ cur, Box w g cur 34 ∧ d.size * 3 ≤ cur.size
  rd : ∀ i, i < d.size → w.rangeAt g (i * 3) (txCs (txI d[i]!))
theorem TRow.keep {S : Nat → Prop} {w w' : World} {g : Nat} {d : Array TxN} (h : TRow w g d) (hk : KeepBut S w w') (hS : ¬ S g) : TRow w' g d := by
  obtain ⟨cur, hb, hn⟩ := h.bx
  refine ⟨⟨cur, hb.keep hk hS, hn⟩, fun i hi j v hv => ?_⟩
  rw [← h.rd i hi j v hv]
  exact World.cell?_of_block (hk.block g hb.lt hS)
theorem TRow.below {w w' : World} {g : Nat} {d : Array TxN} (h : TRow w g d) (hB : Below w.heap.size w w') : TRow w' g d := h.keep (KeepBut.of_below (fun _ => False) hB) (fun h => h)
theorem TRow.cells {w : World} {g : Nat} {d : Array TxN} (h : TRow w g d) {i : Nat} (hi : i < d.size) : w.cell? ⟨g, i * 3, none⟩ = some (.int .u8 (d[i]!.1 : Int)) ∧ w.cell? ⟨g, i * 3 + 1, none⟩ = some (.int .u32 (d[i]!.2.1 : Int)) ∧ w.cell? ⟨g, i * 3 + 2, none⟩ = some (.int .u32 (d[i]!.2.2 : Int)) :=
  ⟨h.rd i hi 0 _ rfl, h.rd i hi 1 _ rfl, h.rd i hi 2 _ rfl⟩
theorem TRow.there {w : World} {g : Nat} {d : Array TxN} (h : TRow w g d) {i : Nat} (hi : i < d.size) : w.there g (i * 3) 3 := by
  obtain ⟨cur, hb, hn⟩ := h.bx
  intro j hj
  have hlt : i * 3 + j < cur.size := by omega
  refine ⟨?_, hb.frozen _⟩
  rw [hb.cell _ _ (Array.getElem?_eq_getElem hlt)]
  rfl
theorem TRow.set {w : World} {g : Nat} {d : Array TxN} (h : TRow w g d) {i : Nat} (hi : i < d.size) (y : TxN) : TRow (w.setCells g (i * 3) (txCs (txI y))) g (d.setIfInBounds i y) := by
  obtain ⟨cur, hb, hn⟩ := h.bx
  refine ⟨⟨_, hb.setCells (txCs (txI y)) (i * 3), by rw [layC_size]; simpa using hn⟩, fun j hj => ?_⟩
  have hj' : j < d.size := by simpa using hj
  by_cases e : j = i
  · subst e
    have e2 : (d.setIfInBounds j y)[j]! = y := by simp [hj']
    rw [e2]
    exact World.rangeAt_setCells_same _ _ _ _ (h.there hi)
  · have e2 : (d.setIfInBounds i y)[j]! = d[j]! := by
      simp [hj', Ne.symm e]
    rw [e2]
    refine World.rangeAt_setCells_apart (h.rd j hj') _ _ _ (.inr ?_)
    show j * 3 + 3 ≤ i * 3 ∨ i * 3 + 3 ≤ j * 3
    omega
/-- The order of names by their users' ages. -/
def ageF (l : List (UsP KeyT)) (a b : TxN) : Int := stsF (getU l a).ag (getU l b).ag
theorem lt_age {l : List (UsP KeyT)} {x y : TxN} : ltOf (ageF l) x y = true ↔ stsF (getU l x).ag (getU l y).ag < 0 := decide_eq_true_iff
theorem nlt_age {l : List (UsP KeyT)} {x y : TxN} : ltOf (ageF l) x y = false ↔ ¬ stsF (getU l x).ag (getU l y).ag < 0 := decide_eq_false_iff_not
theorem ageSWO (l : List (UsP KeyT)) : SWO (ltOf (ageF l)) := by
  refine ⟨fun x => by rw [nlt_age, stsF_self]; omega, fun x y z h1 h2 => ?_, fun x y z h1 h2 => ?_⟩
  · rw [lt_age] at *
    exact stsF_trans h1 h2
  · rw [nlt_age] at *
    have e1 := stsF_neg (getU l x).ag (getU l y).ag
    have e2 := stsF_neg (getU l y).ag (getU l z).ag
    have e3 := stsF_neg (getU l x).ag (getU l z).ag
    have h4 := lexF_trans (stL (getU l z).ag) (stL (getU l y).ag) (stL (getU l x).ag) rfl rfl (by unfold stsF at *; omega) (by unfold stsF at *; omega)
    unfold stsF at *
    omega
/-- What is asked of the world in which is sorted: block g apart, and the order by a call. -/
def AgeAt (l : List (UsP KeyT)) (q g : Nat) (w0 : World) : Prop := ∀ W x y, KeepBut (fun j => j = g) w0 W → (∃ u ∈ l, u.tx = x) → (∃ u ∈ l, u.tx = y) →
  Calls Tryz.prog 41 #[.pointer (some ⟨q, 0, none⟩), txVN x, txVN y] W fun e w' => e = .returned (.int .i64 (ageF l x y)) ∧ Grown W w'
theorem ageAt15 {q b C : Nat} {p : TxN → Nat × Nat} {l : List (UsP KeyT)} {g : Nat} {w0 : World} (h : PLk w0 q b C p l) (hg : ¬ FLk q b p l g) : AgeAt l q g w0 := fun W x y hk hx hy => by
  have hW := h.keep hk (fun j hj e => hg (e ▸ hj))
  obtain ⟨u, hu, rfl⟩ := hx
  obtain ⟨v, hv, rfl⟩ := hy
  exact byAge15 q b C p l u.tx v.tx W hW (h.ok.oks u hu).1 (h.ok.oks v hv).1
abbrev ageV (q : Nat) : Value := .func (.func 41) #[.pointer (some ⟨q, 0, none⟩)] #[]
/-- All are users. -/
def AllU (l : List (UsP KeyT)) (d : Array TxN) : Prop := ∀ i, i < d.size → ∃ u ∈ l, u.tx = d[i]!
theorem AllU.swp {l : List (UsP KeyT)} {d : Array TxN} (h : AllU l d) {i j : Nat} (hi : i < d.size) (hj : j < d.size) : AllU l (swp d i j) := fun t ht => by
  have ht' : t < d.size := by rw [size_swp] at ht; exact ht
  by_cases e1 : t = j
  · subst e1
    have : (Go.Sort.swp d i t)[t]! = d[i]! := by unfold Go.Sort.swp; simp [hj]
    rw [this]
    exact h i hi
  · by_cases e2 : t = i
    · subst e2
      have : (Go.Sort.swp d t j)[t]! = d[j]! := by
        unfold Go.Sort.swp
        simp [Array.getElem!_eq_getD, Array.getD, hi, Ne.symm e1]
      rw [this]
      exact h j hj
    · rw [swp_other d i j t e2 e1]
      exact h t ht'
end
section
open Go.RowKit Go.Maps Go.Shelf Go.Sort Classical

def dnK (x : Value) : Nat := match x with | .int _ i => i.toNat | _ => 0
theorem dnK_at (m : Nat) (k : IntKind) : dnK (.int k ((m : Nat) : Int)) = m := by unfold dnK; simp
/-- A name stored whole, under a name. -/
def stT (a v : Value) : Sem Unit := Instr.storeAt 34 a v
theorem stT_hide (a v : Value) : Instr.storeAt 34 a v = stT a v := rfl
theorem run_stT {w : World} {g : Nat} {d : Array TxN} (h : TRow w g d) {i : Nat} (hi : i < d.size) (y : TxN) : (stT (.pointer (some ⟨g, i * 3, none⟩)) (txVN y)).run Tryz.prog w = .ok () (w.setCells g (i * 3) (txCs (txI y))) := by
  have hr := run_storeAt_mid (P := Tryz.prog) w g (i * 3) 34 (txCs (txI y)).toArray (h.there hi) infoTx15 (by simp [Value.oneCell'])
  exact hr
theorem swp_row {w : World} {g : Nat} {d : Array TxN} (h : TRow w g d) {i j : Nat} (hi : i < d.size) (hj : j < d.size) : TRow ((w.setCells g (i * 3) (txCs (txI d[j]!))).setCells g (j * 3) (txCs (txI d[i]!))) g (swp d i j) :=
  (h.set hi d[j]!).set (by simpa using hj) d[i]!
theorem keep_set2 {w0 w : World} {g : Nat} (h : KeepBut (fun j => j = g) w0 w) (o : Nat) (vs : List Value) : KeepBut (fun j => j = g) w0 (w.setCells g o vs) := KeepBut.setCells (g := g) vs o w0 w h (.inl rfl)
end
section
open Go.RowKit Go.Maps Go.Shelf Go.Sort Classical

/-- A row at a world: the names, all of them users, and nothing but the row turned since w0. -/
structure RowAt (l : List (UsP KeyT)) (g : Nat) (w0 w : World) (n : Nat) (d : Array TxN) : Prop where
  sz : d.size = n
  us : AllU l d
  row : TRow w g d
  kb : KeepBut (fun j => j = g) w0 w
  cz : ∀ cur0, Box w0 g cur0 34 → ∃ cur, Box w g cur 34 ∧ cur.size = cur0.size
theorem RowAt.keepS {S : Nat → Prop} {l : List (UsP KeyT)} {g n : Nat} {w0 w w' : World} {d : Array TxN} (h : RowAt l g w0 w n d) (hk : KeepBut S w w') (hS : ¬ S g) (hk0 : KeepBut (fun j => j = g) w0 w') : RowAt l g w0 w' n d :=
  ⟨h.sz, h.us, h.row.keep hk hS, hk0, fun c hc => by
    obtain ⟨cur, h1, h2⟩ := h.cz c hc
    exact ⟨cur, h1.keep hk hS, h2⟩⟩
theorem RowAt.below {l : List (UsP KeyT)} {g n : Nat} {w0 w w' : World} {d : Array TxN} (h : RowAt l g w0 w n d) (hB : Below w.heap.size w w') : RowAt l g w0 w' n d :=
  h.keepS (KeepBut.of_below (fun _ => False) hB) (fun h => h) (h.kb.trans (KeepBut.of_below (fun _ => False) hB) (fun _ _ h => h.elim))
theorem RowAt.drew {l : List (UsP KeyT)} {g n : Nat} {w0 w : World} {d : Array TxN} (h : RowAt l g w0 w n d) : RowAt l g w0 w.drew n d := h.below (below_drew14 w)
/-- A name's three cells. -/
abbrev C3 (w : World) (g i : Nat) (x : TxN) : Prop := w.cell? ⟨g, i * 3, none⟩ = some (.int .u8 (x.1 : Int)) ∧ w.cell? ⟨g, i * 3 + 1, none⟩ = some (.int .u32 (x.2.1 : Int)) ∧ w.cell? ⟨g, i * 3 + 2, none⟩ = some (.int .u32 (x.2.2 : Int))
theorem cmpAt {l : List (UsP KeyT)} {q g n : Nat} {w0 w : World} {d : Array TxN} (hC : AgeAt l q g w0) (h : RowAt l g w0 w n d) {i j : Nat} (hi : i < n) (hj : j < n) :
    ∃ (X Y : TxN) (A : Int), Hid (X = d[i]! ∧ Y = d[j]! ∧ (A < 0 → ltOf (ageF l) d[i]! d[j]! = true) ∧ (¬ A < 0 → ltOf (ageF l) d[i]! d[j]! = false)) ∧ C3 w g i X ∧ C3 w g j Y ∧
      Hid (Calls Tryz.prog 41 #[.pointer (some ⟨q, 0, none⟩), txVN X, txVN Y] w.drew fun e w' => e = .returned (.int .i64 A) ∧ Hid (RowAt l g w0 w' n d) ∧ C3 w' g i X ∧ C3 w' g j Y) := by
  have hs := h.sz
  refine ⟨d[i]!, d[j]!, ageF l d[i]! d[j]!, hide ⟨rfl, rfl, fun h => by rw [lt_age]; exact h, fun h => by rw [nlt_age]; exact h⟩, h.row.cells (by omega), h.row.cells (by omega), hide ?_⟩
  refine (hC w.drew _ _ h.drew.kb (h.us i (by omega)) (h.us j (by omega))).mono ?_
  rintro e w' ⟨rfl, hG⟩
  have h2 := h.drew.below hG.below
  exact ⟨rfl, hide h2, h2.row.cells (by omega), h2.row.cells (by omega)⟩
/-- The same, in a world that was drawn already. -/
theorem swpAt {l : List (UsP KeyT)} {g n : Nat} {w0 w : World} {d : Array TxN} (h : RowAt l g w0 w n d) {i j : Nat} (hi : i < n) (hj : j < n) {X Y : TxN} (hX : X = d[i]!) (hY : Y = d[j]!) :
    (stT (.pointer (some ⟨g, i * 3, none⟩)) (txVN Y)).run Tryz.prog w.drew = .ok () (w.drew.setCells g (i * 3) (txCs (txI Y))) ∧
    (stT (.pointer (some ⟨g, j * 3, none⟩)) (txVN X)).run Tryz.prog (w.drew.setCells g (i * 3) (txCs (txI Y))) = .ok () ((w.drew.setCells g (i * 3) (txCs (txI Y))).setCells g (j * 3) (txCs (txI X))) ∧
    Hid (RowAt l g w0 ((w.drew.setCells g (i * 3) (txCs (txI Y))).setCells g (j * 3) (txCs (txI X))) n (swp d i j)) := by
  have hs := h.sz
  have hi' : i < d.size := by omega
  have hj' : j < d.size := by omega
  subst hX hY
  exact ⟨run_stT h.drew.row hi' _, run_stT (h.drew.row.set hi' _) (by simpa using hj') _, hide ⟨by rw [size_swp]; exact hs, h.us.swp hi' hj', swp_row h.drew.row hi' hj', keep_set2 (keep_set2 h.drew.kb _ _) _ _, fun c hc => by
    obtain ⟨cur, h1, h2⟩ := h.drew.cz c hc
    exact ⟨_, (h1.setCells _ _).setCells _ _, by rw [layC_size, layC_size]; exact h2⟩⟩⟩
end
end Go.Proofs.YtddflccjmigloaaGreat
