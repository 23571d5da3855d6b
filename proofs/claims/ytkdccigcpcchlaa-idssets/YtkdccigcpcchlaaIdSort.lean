/-
  slices.SortFunc of names; what it leaves is the one list in order. Own work.
-/
import Derived.Test.YtkdccigcpcchlaaIdLay
import Derived.Test.YtkdccigcpcchlaaIdColl
import Derived.Test.YtkdccigcpcchlaaIdCmp2
import Derived.Shelf.SlSortCmp.NoneTotal
import Derived.Sort.OwnSorted
namespace Go.Proofs.Ytkdccigcpcchlaa
open Go.RowKit Go.Maps Go.Shelf Go.Sort

theorem txsF_neg (a b : TxP) : txsF b a = - txsF a b := lexF_neg _ _
theorem txsF_trans (a b c : TxP) (h : txsF a b ≤ 0) (h' : txsF b c ≤ 0) : txsF a c ≤ 0 := lexF_trans (txL a) (txL b) (txL c) rfl rfl h h'
theorem txsF_self (a : TxP) : txsF a a = 0 := (txsF_zero a a).2 rfl
theorem txsSWO : SWO (ltOf txsF) := by
  refine ⟨fun x => by simp [ltOf, txsF_self], fun x y z h1 h2 => ?_, fun x y z h1 h2 => ?_⟩
  · simp only [ltOf, decide_eq_true_eq] at *
    have h3 := txsF_trans x y z (by omega) (by omega)
    rcases Int.lt_or_eq_of_le h3 with h | h
    · exact h
    · have := (txsF_zero x z).1 h
      subst this
      have := txsF_neg x y
      omega
  · simp only [ltOf, decide_eq_false_iff_not] at *
    have e1 := txsF_neg x y
    have e2 := txsF_neg y z
    have e3 := txsF_neg x z
    have h3 := txsF_trans z y x (by omega) (by omega)
    omega
theorem txsTotal (x y : TxP) (h1 : ltOf txsF x y = false) (h2 : ltOf txsF y x = false) : x = y := by
  simp only [ltOf, decide_eq_false_iff_not] at *
  have := txsF_neg x y
  exact (txsF_zero x y).1 (by omega)
/-- The names in order. -/
def sortT (ss : List TxP) : List TxP := ss.mergeSort fun x y => !(ltOf txsF) y x
theorem sortT_nil : sortT [] = [] := by simp [sortT]
/-- Strictly rising. -/
def Rising (ss : List TxP) : Prop := ss.Pairwise (fun a b => txsF a b < 0)
theorem Rising.nodup {ss : List TxP} (h : Rising ss) : ss.Nodup := h.imp (fun {a b} hab e => by subst e; rw [txsF_self] at hab; omega)
theorem sortT_unique (ss L : List TxP) (hn : ss.Nodup) (hL : Rising L) (hm : ∀ t, t ∈ L ↔ t ∈ ss) : sortT ss = L := by
  have hp : (sortT ss).Perm L := (List.mergeSort_perm ss _).trans ((List.perm_ext_iff_of_nodup hn hL.nodup).2 (fun t => (hm t).symm))
  refine List.Perm.eq_of_pairwise (le := fun a b => txsF a b ≤ 0) (fun a b _ _ h1 h2 => ?_) ?_ (hL.imp (fun h => by omega)) hp
  · have := txsF_neg a b
    exact (txsF_zero a b).1 (by omega)
  · have := List.pairwise_mergeSort (le := fun x y : TxP => !(ltOf txsF) y x) (fun a b c h1 h2 => ?_) (fun a b => ?_) ss
    · exact this.imp (fun {a b} h => by
        simp only [ltOf, Bool.not_eq_true', decide_eq_false_iff_not] at h
        have := txsF_neg a b
        omega)
    · simp only [Bool.not_eq_true'] at h1 h2 ⊢
      exact txsSWO.ntrans _ _ _ h2 h1
    · simp only [ltOf, Bool.or_eq_true, Bool.not_eq_true', decide_eq_false_iff_not]
      have := txsF_neg a b
      omega
theorem rowOf_get : ∀ (ss : List TxP) (t : Nat), t < ss.length * 3 → (rowOf ss)[t]? = some ((txCs ss[t / 3]!)[t % 3]!)
  | [], t, h => by simp at h
  | x :: r, t, h => by
    have e : rowOf (x :: r) = txCs x ++ rowOf r := by simp [rowOf]
    rw [e]
    by_cases h3 : t < 3
    · have : t = 0 ∨ t = 1 ∨ t = 2 := by omega
      rcases this with rfl | rfl | rfl <;> simp
    · obtain ⟨s, rfl⟩ : ∃ s, t = s + 3 := ⟨t - 3, by omega⟩
      rw [List.getElem?_append_right (by simp)]
      have ih := rowOf_get r s (by simp at h; omega)
      have e1 : (s + 3) / 3 = s / 3 + 1 := by omega
      have e2 : (s + 3) % 3 = s % 3 := by omega
      rw [e1, e2]
      simpa using ih
theorem flat_row (ss : List TxP) : flatK txCs 3 ss.toArray = (rowOf ss).toArray := by
  apply Array.ext
  · simp [rowOf_length]
  · intro i h1 h2
    have hi : i < ss.length * 3 := by simpa using h1
    have e := rowOf_get ss i hi
    have h3 : i < (rowOf ss).length := by rw [rowOf_length]; exact hi
    rw [List.getElem?_eq_getElem h3] at e
    have e' := Option.some.inj e
    simp only [List.getElem_toArray, e']
    simp [flatK]
theorem holds_row {w : World} {g : Nat} {cur : Array Value} {e : TypeId} {ss : List TxP} (hb : w.heap[g]? = some (.cells cur e (0, 0))) (ht : cur.toList.take (ss.length * 3) = rowOf ss) : HoldsK txCs 3 w g 0 ss.toArray := by
  unfold HoldsK
  rw [flat_row]
  intro j hj
  have hj' : j < (rowOf ss).length := by simpa using hj
  refine ⟨?_, by simp [World.frozen?, hb]⟩
  have h1 : (cur.toList.take (ss.length * 3))[j]? = (rowOf ss)[j]? := by rw [ht]
  rw [List.getElem?_take_of_lt (by rw [rowOf_length] at hj'; exact hj')] at h1
  simp only [World.cell?, hb, Nat.zero_add]
  simp only [Option.isSome_none, Bool.false_eq_true, if_false]
  rw [← Array.getElem?_toList, h1]
  simp [hj']
theorem heap_sortW {w : World} {g n : Nat} {os : Array Obj} {cur : Array Value} {e : TypeId} (ts : List TxP) (hb : w.heap[g]? = some (.cells cur e (0, 0))) :
    (sortWorldK txCs 3 w g 0 n ts.toArray os).heap[g]? = some (.cells (putCells id 0 (rowOf ts).toArray cur) e (0, 0)) := by
  have hg : g < w.heap.size := (Array.getElem?_eq_some_iff.1 hb).1
  unfold sortWorldK putRowK
  rw [flat_row, heap_grow_old _ _ (by simpa using hg)]
  simp [putRow, mapBlock, Sort.ahead, Array.getElem?_modify, hb, onCells]
theorem grown_sortW {w : World} {g n : Nat} {os : Array Obj} (d : Array TxP) : w.grownBy (sortWorldK txCs 3 w g 0 n d os) (some g) := by
  unfold sortWorldK putRowK
  refine ⟨rfl, rfl, rfl, by simp, fun k hk hne => ?_⟩
  rw [heap_grow_old _ _ (by simpa using hk)]
  have : g ≠ k := fun e => hne (by rw [e])
  simp [putRow, mapBlock, Sort.ahead, Array.getElem?_modify, this]
theorem take_putIds (cur : Array Value) (ts : List Value) (h : ts.length ≤ cur.size) : (putCells id 0 ts.toArray cur).toList.take ts.length = ts := by
  apply List.ext_getElem?
  intro j
  by_cases hj : j < ts.length
  · rw [List.getElem?_take_of_lt hj, Array.getElem?_toList]
    simp [putCells, hj, show j < cur.size by omega]
  · rw [List.getElem?_take_eq_none (by omega), List.getElem?_eq_none (by omega)]
theorem sortT_length (ss : List TxP) : (sortT ss).length = ss.length := by simp [sortT]
theorem owns_sorted {w : World} {base g cap n : Nat} {e : TypeId} {os : Array Obj} {cur : Array Value} {ss : List TxP} (hbase : base ≤ g) (hb : w.heap[g]? = some (.cells cur e (0, 0)))
    (h1 : ss.length ≤ cap) (h2 : cap ≤ maxLen) (h3 : cur.size = cap * 3) :
    (sortWorldK txCs 3 w g 0 n (sortT ss).toArray os).ownsRow base e 3 (.slice (some ⟨g, 0, none⟩) ss.length cap) ss.length (rowOf (sortT ss)) := by
  have hl : (rowOf (sortT ss)).length = ss.length * 3 := by rw [rowOf_length, sortT_length]
  refine ⟨hl, .inr ⟨g, cap, _, rfl, hbase, heap_sortW _ hb, h1, h2, by simp [putCells, h3], ?_⟩⟩
  have := take_putIds cur (rowOf (sortT ss)) (by rw [hl]; omega)
  rw [hl] at this
  exact this
theorem cmpLays (blk off size : Nat) (w : World) : CmpLays Try.prog 22 #[] txCs 3 txsF blk off size w := by
  intro m os dk _ x y
  obtain ⟨a, b, c⟩ := x
  obtain ⟨d, e, f⟩ := y
  refine (txs_any a b c d e f _).mono ?_
  rintro e' w' ⟨rfl, q, os', h⟩
  exact ⟨rfl, q, os', h⟩
theorem sortF_any (g cap : Nat) (cur : Array Value) (ss : List TxP) (w : World) (hb : w.heap[g]? = some (.cells cur 35 (0, 0))) (h1 : ss.length ≤ cap) (h2 : cap ≤ maxLen) (h3 : cur.size = cap * 3) (h4 : cur.toList.take (ss.length * 3) = rowOf ss) (base : Nat) (hbase : base ≤ g) (hss : ss.length ≤ 1000000) :
    Calls Try.prog 91 #[.slice (some ⟨g, 0, none⟩) ss.length cap, .func (.func 22) #[] #[]] w fun e w' => e = .returned (.tuple #[]) ∧ w'.ownsRow base 35 3 (.slice (some ⟨g, 0, none⟩) ss.length cap) ss.length (rowOf (sortT ss)) ∧ w.grownBy w' (some g) := by
  have hg : g < w.heap.size := (Array.getElem?_eq_some_iff.1 hb).1
  have h := AnyQ.slices_SortFunc_total Try.sortL 3 Try.isAgg35 Try.sizeOf35 txCs (fun _ => rfl) (fun x v hv => by simp at hv; rcases hv with rfl | rfl | rfl <;> rfl) txsF txsSWO 22 #[] g 0 cap ss.toArray w
    (enters_of Try.func22 (by kernel_rfl) rfl) (cmpLays _ _ _ _) (holds_row hb h4) hg (by simp; omega) txsTotal
  refine Calls.mono h ?_
  rintro e w' ⟨rfl, n, os, rfl⟩
  exact ⟨rfl, owns_sorted hbase hb h1 h2 h3, grown_sortW _⟩
theorem sortF_none (p : Option Addr) (cap : Nat) (fv : Value) (w : World) :
    Calls Try.prog 91 #[.slice p 0 cap, fv] w fun e w' => e = .returned (.tuple #[]) ∧ w' = w := AnyF.slices_SortFunc_none Try.sortL p cap fv w
set_option maxRecDepth 100000 in
set_option maxHeartbeats 2000000 in
theorem sorted_in (n : Nat) (hn : 4 ≤ n) (g : Nat) (lb : Array Value) (eg : ∀ args w, (callFunc g args).run Try.prog w = .ok (.enter g args) w) (S : List TxP → Prop) (N : Nat) (hN : N ≤ 1000000) (w : World) (hS : ∀ ss, S ss → ss.length ≤ N)
    (hseq : SeqStopsK Fence.wide (n - 1 - 1 - 1) Try.prog g lb (fun x : TxP => #[txV x]) KeepsWalks S (fun _ => True) N w) :
    CallsIn Fence.wide n Try.prog 75 #[.func (.func g) #[] lb, .func (.func 22) #[] #[]] w fun e w' => ∃ (v : Value) (ss : List TxP), e = .returned v ∧ S ss ∧ w'.ownsRow w.heap.size 35 3 v ss.length (rowOf (sortT ss)) ∧ Below w.heap.size w w' := by
  have h1 : 1 ≤ n := by omega
  have hF : Fence.wide.fn 75 := trivial
  refine callsIn_of_wp Try.func75 rfl hF ?_ rfl
  simp only [Try.ntmps75, List.size_toArray, List.length_cons, List.length_nil, Nat.reduceAdd, Nat.reduceSub, Array.replicate_succ, Array.replicate_zero, List.push_toArray, List.append_toArray, List.nil_append, List.cons_append]
  gi_wp2_with (refine ⟨trivial, ?_⟩; gi_at_call 90; refine (collect_in (n - 1) (by omega) g lb eg S N hN _ hseq).mono ?_; rintro e W ⟨v, ss, rfl, hS1, hrow, hb⟩; have HROW := hide hrow; have HB := hide hb; clear hrow hb; rcases HROW.out.2 with ⟨rfl, hz⟩ | ⟨gb, cap, cur, rfl, hbase, hgb, r1, r2, r3, r4⟩)
  · have hss : ss = [] := List.eq_nil_of_length_eq_zero hz
    subst hss
    refine ⟨trivial, ?_⟩
    refine (callsIn_wide.2 (sortF_none none 0 _ W)).mono ?_
    rintro e w' ⟨rfl, rfl⟩
    gi_wp2
    go_ret
    refine ⟨.slice none 0 0, [], rfl, hS1, ?_, HB.out⟩
    rw [sortT_nil]
    exact World.ownsRow_nil _ _ _ _
  · refine ⟨trivial, ?_⟩
    refine (callsIn_wide.2 (sortF_any gb cap cur ss W hgb r1 r2 r3 r4 w.heap.size hbase (by have := hS ss hS1; omega))).mono ?_
    rintro e w' ⟨rfl, ho, hg⟩
    have HO := hide ho
    have HG := hide hg
    clear ho hg r1 r2 r3 r4 hgb HROW
    gi_wp2
    go_ret
    exact ⟨_, ss, rfl, hS1, HO.out, HB.out.grown HG.out HB.out.size (fun j hj => by cases hj; exact hbase)⟩
theorem own_base {w : World} {a b : Nat} {e : TypeId} {size : Nat} {v : Value} {n : Nat} {xs : List Value} (h : w.ownsRow b e size v n xs) (hab : a ≤ b) : w.ownsRow a e size v n xs :=
  ⟨h.1, h.2.imp id (fun ⟨g, cap, cur, h1, h2, h3⟩ => ⟨g, cap, cur, h1, Nat.le_trans hab h2, h3⟩)⟩
theorem list_nil (w : World) : Calls Try.prog 51 #[.pointer none] w fun e w' => e = .returned (.slice none 0 0) ∧ w' = w := by
  go_enter Try.func51, Try.ntmps51
  go_wp2
  go_ret
  exact ⟨rfl, rfl⟩
set_option maxRecDepth 100000 in
theorem list_none (p : Nat) (w : World) (h : Box w p #[.map none] 92) :
    Calls Try.prog 51 #[.pointer (some ⟨p, 0, none⟩)] w fun e w' => ∃ v, e = .returned v ∧ w'.ownsRow w.heap.size 35 3 v 0 [] ∧ Below w.heap.size w w' := by
  refine (callsIn_wide (n := 9)).1 ?_
  have hlt := h.lt
  have hp0 := h.cell 0 _ rfl
  have hF : Fence.wide.fn 51 := trivial
  have HS := hide (keys_stops_nil 5 w.heap.size (w.alloc (.cells #[.map none] 90)) (by simp) (Boxed.new w 90 (.map none)).cell)
  clear h
  refine callsIn_of_wp Try.func51 rfl hF ?_ rfl
  simp only [Try.ntmps51, List.size_toArray, List.length_cons, List.length_nil, Nat.reduceAdd, Nat.reduceSub, Array.replicate_succ, Array.replicate_zero, List.push_toArray, List.append_toArray, List.nil_append, List.cons_append]
  gi_wp2_with (refine ⟨trivial, ?_⟩; gi_at_call 76; refine (keys_in _ none _).mono ?_; rintro e w' ⟨rfl, hw'⟩; rw [hw']; clear hw')
  refine ⟨trivial, ?_⟩
  refine (sorted_in 8 (by omega) 92 _ (enters_of Try.func92 (by kernel_rfl) rfl) (fun ss => ss = []) 0 (by omega) _ (fun ss h => by rw [h]; simp) HS.out).mono ?_
  rintro e w' ⟨v, ss, rfl, rfl, ho, hB⟩
  rw [sortT_nil] at ho
  have HO := hide ho
  have HB := hide hB
  clear ho hB
  gi_wp2
  go_ret
  refine ⟨v, rfl, ?_, ((Below.refl _ w).alloc (Nat.le_refl _) _).trans (HB.out.mono (by simp))⟩
  exact own_base HO.out (by simp)
set_option maxRecDepth 100000 in
theorem list_any (p b n : Nat) (D : DataW Unit) (w : World) (h : SetAt w p b n D) (hn : n ≤ 1000000) :
    Calls Try.prog 51 #[.pointer (some ⟨p, 0, none⟩)] w fun e w' => ∃ v ss, e = .returned v ∧ NamesOf D ss ∧ w'.ownsRow w.heap.size 35 3 v ss.length (rowOf (sortT ss)) ∧ Below w.heap.size w w' := by
  refine (callsIn_wide (n := 9)).1 ?_
  have hlt := h.box.lt
  have hp0 := h.box.cell 0 _ rfl
  have hsz := h.own.size_le
  have hF : Fence.wide.fn 51 := trivial
  have HS := hide (keys_stops 5 (by omega) w.heap.size b n D (w.alloc (.cells #[.map (some b)] 90)) (by simp) (Boxed.new w 90 (.map (some b))).cell (h.own.alloc _))
  clear h
  refine callsIn_of_wp Try.func51 rfl hF ?_ rfl
  simp only [Try.ntmps51, List.size_toArray, List.length_cons, List.length_nil, Nat.reduceAdd, Nat.reduceSub, Array.replicate_succ, Array.replicate_zero, List.push_toArray, List.append_toArray, List.nil_append, List.cons_append]
  gi_wp2_with (refine ⟨trivial, ?_⟩; gi_at_call 76; refine (keys_in _ (some b) _).mono ?_; rintro e w' ⟨rfl, hw'⟩; rw [hw']; clear hw')
  refine ⟨trivial, ?_⟩
  refine (sorted_in 8 (by omega) 92 _ (enters_of Try.func92 (by kernel_rfl) rfl) (fun ss => NamesOf D ss ∧ ss.length ≤ Maps.size D) (Maps.size D) (by omega) _ (fun ss h => h.2) HS.out).mono ?_
  rintro e w' ⟨v, ss, rfl, ⟨hN, _⟩, ho, hB⟩
  have HO := hide ho
  have HB := hide hB
  clear ho hB
  gi_wp2
  go_ret
  refine ⟨v, ss, rfl, hN, ?_, ((Below.refl _ w).alloc (Nat.le_refl _) _).trans (HB.out.mono (by simp))⟩
  exact own_base HO.out (by simp)
end Go.Proofs.Ytkdccigcpcchlaa
