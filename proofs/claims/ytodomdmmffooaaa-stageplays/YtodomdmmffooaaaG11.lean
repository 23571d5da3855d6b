/-
  Own texts put together: CopyAt, IdCmp, IdCmp2, IdSort, GMap. Own work.
-/
import Derived.Test.YtodomdmmffooaaaG01
import Derived.Test.YtodomdmmffooaaaG10
import Derived.Test.YtodomdmmffooaaaG06
import Derived.Laws.CopyRow
import Derived.Laws.IdiomCopy
import Derived.Lib.BufferWrite
import Derived.Lib.BytesEntry
import Derived.Deep.RegionHeldLaw
import Derived.Deep.QuietTactic
import Derived.BigQuiet
import Derived.Sort.Grow
import Derived.Shelf.Abstract
import Derived.Test.YtodomdmmffooaaaIdLay
import Derived.Shelf.SlSortCmp.NoneTotal
import Derived.Sort.OwnSorted
import Derived.Maps.OwnSet
namespace Go.Proofs.Ytodomdmmffooaaa
section
open Go.RowKit

def cells8 (xs : List Int) : Array Value := (xs.map (Value.int .u8)).toArray
theorem cells8_size (xs : List Int) : (cells8 xs).size = xs.length := by simp [cells8]
theorem cells8_one (xs : List Int) : (cells8 xs).all (·.oneCell') = true := by simp [cells8, Value.oneCell']
/-- 'copy(x, s)' of a text that fits. -/
theorem wp_copy_str {ops : Array Oper} {rest : List Oper} {o : Oper} {a : Act} {Q : Exit → Act → World → Prop} (w : World) (hgd : o.guard = none) (d s : Operand)
    (ho : o.op = .call { callee := .builtin .copy, args := #[d, s], argTypes := #[139, 9] }) (p off n cap : Nat) (t : TypeId) (cs zs : List Int) (hb : Box w p (cells8 cs) t) (hd : a.eval d = .slice (some ⟨p, off, none⟩) n cap)
    (st : ByteArray) (hs : a.eval s = .string st) (hle : st.size ≤ n) (hfit : off + st.size ≤ cs.length) (hz : zs = cs.take off ++ (st.data.toList.map fun b => (b.toNat : Int)) ++ cs.drop (off + st.size))
    (h : ∀ w', Box w' p (cells8 zs) t → KeepBut (fun k => k = p) w w' → wpList Try.prog ops Q rest (a.put o.dst (.int .i64 st.size)) w') : wpList Try.prog ops Q (o :: rest) a w := by
  obtain ⟨i0, hi, hz0, hz1, hz2⟩ := info_parts info5
  have hr := Lib.run_copy_row_string (P := Try.prog) w 139 9 o.type 5 p off n cap st (cells8 cs) t Try.underlying139 (by simp [hi, hz1]) hb hle (by rw [cells8_size]; exact hfit)
  have e : ((cells8 cs).toList.take off ++ Lib.byteCells st.data.toList ++ (cells8 cs).toList.drop (off + st.size)).toArray = cells8 zs := by
    rw [hz]; simp [cells8, Lib.byteCells]
  rw [e] at hr
  refine wpList_plain hgd fun K hK => ?_
  unfold Oper.wp execOp
  simp only [ho, resolve, invoke, builtin, Sem.run_bind, Sem.run_pure, Result.andThen_ok, List.map_toArray, List.map_cons, List.map_nil, hd, hs, hr]
  exact hK _ _ (h _ (setRow_heap w p _ _ t (0, 0) hb) ⟨rfl, rfl, rfl, by simp [World.setRow], fun k _ hS => setRow_other w p k _ hS⟩)
end
section
open Go.RowKit

/-- New blocks and draws, nothing else. -/
def Grown (w w' : World) : Prop := ∃ q os, w' = Sort.grow (w.drewN q) os
theorem Grown.refl (w : World) : Grown w w := ⟨0, #[], by rw [Sort.grow_empty]; rfl⟩
theorem Grown.alloc {w w' : World} (h : Grown w w') (o : Obj) : Grown w (w'.alloc o) := by
  obtain ⟨q, os, rfl⟩ := h
  exact ⟨q, os ++ #[o], by rw [Sort.alloc_eq_grow, Sort.grow_grow]⟩
theorem Grown.drew {w w' : World} (h : Grown w w') : Grown w w'.drew := by
  obtain ⟨q, os, rfl⟩ := h
  exact ⟨q + 1, os, rfl⟩
theorem Grown.trans {a b c : World} (h : Grown a b) (h' : Grown b c) : Grown a c := by
  obtain ⟨q, os, rfl⟩ := h
  obtain ⟨q', os', rfl⟩ := h'
  refine ⟨q + q', os ++ os', ?_⟩
  simp only [Sort.grow, World.drewN, Array.append_assoc, Nat.add_assoc]
theorem Grown.below {w w' : World} (h : Grown w w') : Below w.heap.size w w' := by
  obtain ⟨q, os, rfl⟩ := h
  refine ⟨rfl, rfl, rfl, by simp [Sort.grow, World.drewN], fun k hk => ?_⟩
  simp only [Sort.grow, World.drewN]
  rw [Array.getElem?_append_left hk]

theorem nan8_any (x : Int) (w : World) : Calls Try.prog 89 #[.int .u8 x] w fun e w' => e = .returned (.bool false) ∧ w' = w := by
  go_enter Try.func89, Try.ntmps89
  go_wp2
  go_ret
  exact ⟨rfl, rfl⟩
theorem nan32_any (x : Int) (w : World) : Calls Try.prog 90 #[.int .u32 x] w fun e w' => e = .returned (.bool false) ∧ w' = w := by
  go_enter Try.func90, Try.ntmps90
  go_wp2
  go_ret
  exact ⟨rfl, rfl⟩
theorem cmp8_any (x y : Int) (w : World) : Calls Try.prog 68 #[.int .u8 x, .int .u8 y] w fun e w' => e = .returned (.int .i64 (cmpF x y)) ∧ w' = w := by
  rcases cmpF_rng x y with ⟨h, h2⟩ | ⟨h, h2⟩ | ⟨h, h2⟩
  · rw [h]
    go_enter Try.func68, Try.ntmps68
    go_wp2_with (go_at_call 89; refine (nan8_any _ _).mono ?_; rintro e w' ⟨rfl, rfl⟩)
    go_ret
    exact ⟨rfl, rfl⟩
  · rw [h]
    clear h
    subst h2
    go_enter Try.func68, Try.ntmps68
    go_wp2_with (go_at_call 89; refine (nan8_any _ _).mono ?_; rintro e w' ⟨rfl, rfl⟩)
    go_ret
    exact ⟨rfl, rfl⟩
  · rw [h]
    have h3 : ¬ x < y := by omega
    clear h
    go_enter Try.func68, Try.ntmps68
    go_wp2_with (go_at_call 89; refine (nan8_any _ _).mono ?_; rintro e w' ⟨rfl, rfl⟩)
    go_ret
    exact ⟨rfl, rfl⟩
theorem cmp32_any (x y : Int) (w : World) : Calls Try.prog 69 #[.int .u32 x, .int .u32 y] w fun e w' => e = .returned (.int .i64 (cmpF x y)) ∧ w' = w := by
  rcases cmpF_rng x y with ⟨h, h2⟩ | ⟨h, h2⟩ | ⟨h, h2⟩
  · rw [h]
    go_enter Try.func69, Try.ntmps69
    go_wp2_with (go_at_call 90; refine (nan32_any _ _).mono ?_; rintro e w' ⟨rfl, rfl⟩)
    go_ret
    exact ⟨rfl, rfl⟩
  · rw [h]
    clear h
    subst h2
    go_enter Try.func69, Try.ntmps69
    go_wp2_with (go_at_call 90; refine (nan32_any _ _).mono ?_; rintro e w' ⟨rfl, rfl⟩)
    go_ret
    exact ⟨rfl, rfl⟩
  · rw [h]
    have h3 : ¬ x < y := by omega
    clear h
    go_enter Try.func69, Try.ntmps69
    go_wp2_with (go_at_call 90; refine (nan32_any _ _).mono ?_; rintro e w' ⟨rfl, rfl⟩)
    go_ret
    exact ⟨rfl, rfl⟩
/-- The first that is not 0, of many. -/
def orL : List Int → Int
  | [] => 0
  | x :: r => orF x (orL r)
theorem or_any (xs : List Int) (v : Value) (w : World) (h : Lies .i64 w v xs) (hn : xs.length ≤ 100) : Calls Try.prog 67 #[v] w fun e w' => e = .returned (.int .i64 (orL xs)) ∧ w' = w := by
  rcases h with ⟨rfl, ao, cap, rfl, _⟩ | ⟨hx, b, off, cap, rfl, hb, hl, hm, hc⟩
  · go_enter Try.func67, Try.ntmps67
    go_wp2
    refine wp_loop_rounds 1 ?_
    rw [rounds_succ]
    go_wp2
    go_ret
    exact ⟨rfl, rfl⟩
  · have HO : Hid (orL xs = orL (xs.drop 0)) := hide rfl
    have HC := hide hc
    clear hc
    go_enter Try.func67, Try.ntmps67
    go_wp2
    go_loop [8] (fun i => ∃ k : Nat, k ≤ xs.length ∧ i = .int .i64 k ∧ Hid (orL xs = orL (xs.drop k))) (fun i => xs.length - (intOf i).toNat)
    case atStart => exact ⟨0, Nat.zero_le _, rfl, HO⟩
    case round =>
      obtain ⟨k, hk, rfl, HK⟩ := hrel
      by_cases hlt : k < xs.length
      · have hcell := HC.out k hlt
        have HD : Hid (xs.drop k = xs.getD k 0 :: xs.drop (k + 1)) := hide (by
          rw [List.drop_eq_getElem_cons hlt]; simp [List.getD, hlt])
        generalize xs.getD k 0 = c at *
        by_cases h0 : c = 0
        · subst h0
          go_wp2
          go_round
          case rel => exact ⟨k + 1, by omega, by go_num, hide (by rw [HK.out, HD.out]; rfl)⟩
          case measure => simp [intOf]; omega
        · have h0' : (c != 0) = true := bne_iff_ne.2 h0
          go_wp2
          go_ret
          exact ⟨ret_int (by rw [HK.out, HD.out]; unfold orL orF; rw [if_neg h0]), rfl⟩
      · go_wp2
        go_ret
        exact ⟨ret_int (by rw [HK.out, List.drop_eq_nil_of_le (by omega)]; rfl), rfl⟩
end
section
open Go.RowKit

theorem lies_of3 (k : IntKind) (w : World) (b : Nat) (x y z : Int) (hb : b < w.heap.size) (h0 : w.cell? ⟨b, 0, none⟩ = some (.int k x)) (h1 : w.cell? ⟨b, 1, none⟩ = some (.int k y)) (h2 : w.cell? ⟨b, 2, none⟩ = some (.int k z)) : Lies k w (.slice (some ⟨b, 0, none⟩) 3 3) [x, y, z] := by
  refine .inr ⟨by simp, b, 0, 3, rfl, hb, by simp, by unfold maxLen; omega, fun i hi => ?_⟩
  match i, hi with
  | 0, _ => exact h0
  | 1, _ => exact h1
  | 2, _ => exact h2
theorem orL3 (a b c d e f : Int) : orL [cmpF a d, cmpF b e, cmpF c f] = txsF (a, b, c) (d, e, f) := rfl
set_option maxRecDepth 100000 in
set_option maxHeartbeats 400000 in
theorem txs_any (a b c d e f : Int) (w : World) : Calls Try.prog 44 #[.agg #[.int .u8 a, .int .u32 b, .int .u32 c], .agg #[.int .u8 d, .int .u32 e, .int .u32 f]] w fun e' w' => e' = .returned (.int .i64 (txsF (a, b, c) (d, e, f))) ∧ Grown w w' := by
  have hG0 := (((Grown.refl w).alloc (.cells #[.int .u8 a, .int .u32 b, .int .u32 c] 33)).alloc (.cells #[.int .u8 d, .int .u32 e, .int .u32 f] 33)).drew
  have HO : Hid (∀ (W : World) (B : Nat), B < W.heap.size → W.cell? ⟨B, 0, none⟩ = some (.int .i64 (cmpF a d)) → W.cell? ⟨B, 1, none⟩ = some (.int .i64 (cmpF b e)) → W.cell? ⟨B, 2, none⟩ = some (.int .i64 (cmpF c f)) → Calls Try.prog 67 #[.slice (some ⟨B, 0, none⟩) 3 3] W fun e' w' => e' = .returned (.int .i64 (txsF (a, b, c) (d, e, f))) ∧ w' = W) := hide (fun W B h0 h1 h2 h3 => by
    have h4 := or_any [cmpF a d, cmpF b e, cmpF c f] _ _ (lies_of3 .i64 W B _ _ _ h0 h1 h2 h3) (by simp)
    rw [orL3] at h4
    exact h4)
  have C1 := hide (fun w => cmp8_any a d w)
  have C2 := hide cmp32_any
  have HG0 := hide hG0
  clear hG0
  generalize txsF (a, b, c) (d, e, f) = r at *
  go_enter Try.func44, Try.ntmps44
  go_wp2_with fail
  go_region_held (fun w' => w'.cell? ⟨w.heap.size, 0, none⟩ = some (.int .u8 a) ∧ w'.cell? ⟨w.heap.size, 1, none⟩ = some (.int .u32 b) ∧ w'.cell? ⟨w.heap.size, 2, none⟩ = some (.int .u32 c) ∧ w'.cell? ⟨w.heap.size + 1, 0, none⟩ = some (.int .u8 d) ∧ w'.cell? ⟨w.heap.size + 1, 1, none⟩ = some (.int .u32 e) ∧ w'.cell? ⟨w.heap.size + 1, 2, none⟩ = some (.int .u32 f)) (go_keep) (first
    | (go_at_call 68; refine (C1.out _).mono ?_; rintro e' w1 ⟨rfl, rfl⟩)
    | (go_at_call 69; refine (C2.out _ _ _).mono ?_; rintro e' w1 ⟨rfl, rfl⟩)
    | (go_at_call 67; refine (HO.out _ _ (by simp) (new_cell _ _ _ _ _ _ (by simp) rfl) (new_cell _ _ _ _ _ _ (by simp) rfl) (new_cell _ _ _ _ _ _ (by simp) rfl)).mono ?_; rintro e' w1 ⟨rfl, rfl⟩))
  go_wp2_with fail
  go_ret
  exact ⟨rfl, ((((Grown.refl w).alloc _).alloc _).alloc _).drew⟩
end
section
open Go.RowKit Go.Maps Go.Shelf Go.Sort

theorem txsF_neg (a b : TxP) : txsF b a = - txsF a b := lexF_neg _ _
theorem txsF_trans (a b c : TxP) (h : txsF a b ≤ 0) (h' : txsF b c ≤ 0) : txsF a c ≤ 0 := lexF_trans (txL a) (txL b) (txL c) rfl rfl h h'
theorem txsF_self (a : TxP) : txsF a a = 0 := (txsF_zero a a).2 rfl
theorem txsSWO : SWO (ltOf txsF) := by
  refine ⟨fun x => by simp [ltOf, txsF_self], fun x y z h1 h2 => ?_, fun x y z h1 h2 => ?_⟩
  · simp only [ltOf, decide_eq_true_eq] at *
    have h3 := txsF_trans x y z (by omega) (by omega)
    rcases Int.lt_or_eq_of_le h3 with h | h
    · exact h
    · have := (txsF_zero x z).1 h
      subst this
      have := txsF_neg x y
      omega
  · simp only [ltOf, decide_eq_false_iff_not] at *
    have e1 := txsF_neg x y
    have e2 := txsF_neg y z
    have e3 := txsF_neg x z
    have h3 := txsF_trans z y x (by omega) (by omega)
    omega
theorem txsTotal (x y : TxP) (h1 : ltOf txsF x y = false) (h2 : ltOf txsF y x = false) : x = y := by
  simp only [ltOf, decide_eq_false_iff_not] at *
  have := txsF_neg x y
  exact (txsF_zero x y).1 (by omega)
/-- The names in order. -/
def sortT (ss : List TxP) : List TxP := ss.mergeSort fun x y => !(ltOf txsF) y x
theorem sortT_nil : sortT [] = [] := by simp [sortT]
/-- Strictly rising. -/
def Rising (ss : List TxP) : Prop := ss.Pairwise (fun a b => txsF a b < 0)
theorem Rising.nodup {ss : List TxP} (h : Rising ss) : ss.Nodup := h.imp (fun {a b} hab e => by subst e; rw [txsF_self] at hab; omega)
theorem sortT_unique (ss L : List TxP) (hn : ss.Nodup) (hL : Rising L) (hm : ∀ t, t ∈ L ↔ t ∈ ss) : sortT ss = L := by
  have hp : (sortT ss).Perm L := (List.mergeSort_perm ss _).trans ((List.perm_ext_iff_of_nodup hn hL.nodup).2 (fun t => (hm t).symm))
  refine List.Perm.eq_of_pairwise (le := fun a b => txsF a b ≤ 0) (fun a b _ _ h1 h2 => ?_) ?_ (hL.imp (fun h => by omega)) hp
  · have := txsF_neg a b
    exact (txsF_zero a b).1 (by omega)
  · have := List.pairwise_mergeSort (le := fun x y : TxP => !(ltOf txsF) y x) (fun a b c h1 h2 => ?_) (fun a b => ?_) ss
    · exact this.imp (fun {a b} h => by
        simp only [ltOf, Bool.not_eq_true', decide_eq_false_iff_not] at h
        have := txsF_neg a b
        omega)
    · simp only [Bool.not_eq_true'] at h1 h2 ⊢
      exact txsSWO.ntrans _ _ _ h2 h1
    · simp only [ltOf, Bool.or_eq_true, Bool.not_eq_true', decide_eq_false_iff_not]
      have := txsF_neg a b
      omega
theorem rowOf_get : ∀ (ss : List TxP) (t : Nat), t < ss.length * 3 → (rowOf ss)[t]? = some ((txCs ss[t / 3]!)[t % 3]!)
  | [], t, h => by simp at h
  | x :: r, t, h => by
    have e : rowOf (x :: r) = txCs x ++ rowOf r := by simp [rowOf]
    rw [e]
    by_cases h3 : t < 3
    · have : t = 0 ∨ t = 1 ∨ t = 2 := by omega
      rcases this with rfl | rfl | rfl <;> simp
    · obtain ⟨s, rfl⟩ : ∃ s, t = s + 3 := ⟨t - 3, by omega⟩
      rw [List.getElem?_append_right (by simp)]
      have ih := rowOf_get r s (by simp at h; omega)
      have e1 : (s + 3) / 3 = s / 3 + 1 := by omega
      have e2 : (s + 3) % 3 = s % 3 := by omega
      rw [e1, e2]
      simpa using ih
theorem flat_row (ss : List TxP) : flatK txCs 3 ss.toArray = (rowOf ss).toArray := by
  apply Array.ext
  · simp [rowOf_length]
  · intro i h1 h2
    have hi : i < ss.length * 3 := by simpa using h1
    have e := rowOf_get ss i hi
    have h3 : i < (rowOf ss).length := by rw [rowOf_length]; exact hi
    rw [List.getElem?_eq_getElem h3] at e
    have e' := Option.some.inj e
    simp only [List.getElem_toArray, e']
    simp [flatK]
theorem holds_row {w : World} {g : Nat} {cur : Array Value} {e : TypeId} {ss : List TxP} (hb : w.heap[g]? = some (.cells cur e (0, 0))) (ht : cur.toList.take (ss.length * 3) = rowOf ss) : HoldsK txCs 3 w g 0 ss.toArray := by
  unfold HoldsK
  rw [flat_row]
  intro j hj
  have hj' : j < (rowOf ss).length := by simpa using hj
  refine ⟨?_, by simp [World.frozen?, hb]⟩
  have h1 : (cur.toList.take (ss.length * 3))[j]? = (rowOf ss)[j]? := by rw [ht]
  rw [List.getElem?_take_of_lt (by rw [rowOf_length] at hj'; exact hj')] at h1
  simp only [World.cell?, hb, Nat.zero_add]
  simp only [Option.isSome_none, Bool.false_eq_true, if_false]
  rw [← Array.getElem?_toList, h1]
  simp [hj']
theorem heap_sortW {w : World} {g n : Nat} {os : Array Obj} {cur : Array Value} {e : TypeId} (ts : List TxP) (hb : w.heap[g]? = some (.cells cur e (0, 0))) :
    (sortWorldK txCs 3 w g 0 n ts.toArray os).heap[g]? = some (.cells (putCells id 0 (rowOf ts).toArray cur) e (0, 0)) := by
  have hg : g < w.heap.size := (Array.getElem?_eq_some_iff.1 hb).1
  unfold sortWorldK putRowK
  rw [flat_row, heap_grow_old _ _ (by simpa using hg)]
  simp [putRow, mapBlock, Sort.ahead, Array.getElem?_modify, hb, onCells]
theorem grown_sortW {w : World} {g n : Nat} {os : Array Obj} (d : Array TxP) : w.grownBy (sortWorldK txCs 3 w g 0 n d os) (some g) := by
  unfold sortWorldK putRowK
  refine ⟨rfl, rfl, rfl, by simp, fun k hk hne => ?_⟩
  rw [heap_grow_old _ _ (by simpa using hk)]
  have : g ≠ k := fun e => hne (by rw [e])
  simp [putRow, mapBlock, Sort.ahead, Array.getElem?_modify, this]
theorem take_putIds (cur : Array Value) (ts : List Value) (h : ts.length ≤ cur.size) : (putCells id 0 ts.toArray cur).toList.take ts.length = ts := by
  apply List.ext_getElem?
  intro j
  by_cases hj : j < ts.length
  · rw [List.getElem?_take_of_lt hj, Array.getElem?_toList]
    simp [putCells, hj, show j < cur.size by omega]
  · rw [List.getElem?_take_eq_none (by omega), List.getElem?_eq_none (by omega)]
theorem sortT_length (ss : List TxP) : (sortT ss).length = ss.length := by simp [sortT]
theorem owns_sorted {w : World} {base g cap n : Nat} {e : TypeId} {os : Array Obj} {cur : Array Value} {ss : List TxP} (hbase : base ≤ g) (hb : w.heap[g]? = some (.cells cur e (0, 0)))
    (h1 : ss.length ≤ cap) (h2 : cap ≤ maxLen) (h3 : cur.size = cap * 3) :
    (sortWorldK txCs 3 w g 0 n (sortT ss).toArray os).ownsRow base e 3 (.slice (some ⟨g, 0, none⟩) ss.length cap) ss.length (rowOf (sortT ss)) := by
  have hl : (rowOf (sortT ss)).length = ss.length * 3 := by rw [rowOf_length, sortT_length]
  refine ⟨hl, .inr ⟨g, cap, _, rfl, hbase, heap_sortW _ hb, h1, h2, by simp [putCells, h3], ?_⟩⟩
  have := take_putIds cur (rowOf (sortT ss)) (by rw [hl]; omega)
  rw [hl] at this
  exact this
theorem cmpLays (blk off size : Nat) (w : World) : CmpLays Try.prog 44 #[] txCs 3 txsF blk off size w := by
  intro m os dk _ x y
  obtain ⟨a, b, c⟩ := x
  obtain ⟨d, e, f⟩ := y
  refine (txs_any a b c d e f _).mono ?_
  rintro e' w' ⟨rfl, q, os', h⟩
  exact ⟨rfl, q, os', h⟩
theorem sortF_any (g cap : Nat) (cur : Array Value) (ss : List TxP) (w : World) (hb : w.heap[g]? = some (.cells cur 33 (0, 0))) (h1 : ss.length ≤ cap) (h2 : cap ≤ maxLen) (h3 : cur.size = cap * 3) (h4 : cur.toList.take (ss.length * 3) = rowOf ss) (base : Nat) (hbase : base ≤ g) (hss : ss.length ≤ 1000000) :
    Calls Try.prog 65 #[.slice (some ⟨g, 0, none⟩) ss.length cap, .func (.func 44) #[] #[]] w fun e w' => e = .returned (.tuple #[]) ∧ w'.ownsRow base 33 3 (.slice (some ⟨g, 0, none⟩) ss.length cap) ss.length (rowOf (sortT ss)) ∧ w.grownBy w' (some g) := by
  have hg : g < w.heap.size := (Array.getElem?_eq_some_iff.1 hb).1
  have h := AnyQ.slices_SortFunc_total Try.sortL 3 Try.isAgg33 Try.sizeOf33 txCs (fun _ => rfl) (fun x v hv => by simp at hv; rcases hv with rfl | rfl | rfl <;> rfl) txsF txsSWO 44 #[] g 0 cap ss.toArray w
    (enters_of Try.func44 (by kernel_rfl) rfl) (cmpLays _ _ _ _) (holds_row hb h4) hg (by simp; omega) txsTotal
  refine Calls.mono h ?_
  rintro e w' ⟨rfl, n, os, rfl⟩
  exact ⟨rfl, owns_sorted hbase hb h1 h2 h3, grown_sortW _⟩
theorem sortF_none (p : Option Addr) (cap : Nat) (fv : Value) (w : World) :
    Calls Try.prog 65 #[.slice p 0 cap, fv] w fun e w' => e = .returned (.tuple #[]) ∧ w' = w := AnyF.slices_SortFunc_none Try.sortL p cap fv w
set_option maxRecDepth 100000 in
set_option maxHeartbeats 2000000 in
theorem sorted_in (n : Nat) (hn : 4 ≤ n) (g : Nat) (lb : Array Value) (eg : ∀ args w, (callFunc g args).run Try.prog w = .ok (.enter g args) w) (S : List TxP → Prop) (N : Nat) (hN : N ≤ 1000000) (w : World) (hS : ∀ ss, S ss → ss.length ≤ N)
    (hseq : SeqStopsK Fence.wide (n - 1 - 1 - 1) Try.prog g lb (fun x : TxP => #[txV x]) KeepsWalks S (fun _ => True) N w) :
    CallsIn Fence.wide n Try.prog 42 #[.func (.func g) #[] lb, .func (.func 44) #[] #[]] w fun e w' => ∃ (v : Value) (ss : List TxP), e = .returned v ∧ S ss ∧ w'.ownsRow w.heap.size 33 3 v ss.length (rowOf (sortT ss)) ∧ Below w.heap.size w w' := by
  have h1 : 1 ≤ n := by omega
  have hF : Fence.wide.fn 42 := trivial
  refine callsIn_of_wp Try.func42 rfl hF ?_ rfl
  simp only [Try.ntmps42, List.size_toArray, List.length_cons, List.length_nil, Nat.reduceAdd, Nat.reduceSub, Array.replicate_succ, Array.replicate_zero, List.push_toArray, List.append_toArray, List.nil_append, List.cons_append]
  gi_wp2_with (refine ⟨trivial, ?_⟩; gi_at_call 64; refine (collect_in (n - 1) (by omega) g lb eg S N hN _ hseq).mono ?_; rintro e W ⟨v, ss, rfl, hS1, hrow, hb⟩; have HROW := hide hrow; have HB := hide hb; clear hrow hb; rcases HROW.out.2 with ⟨rfl, hz⟩ | ⟨gb, cap, cur, rfl, hbase, hgb, r1, r2, r3, r4⟩)
  · have hss : ss = [] := List.eq_nil_of_length_eq_zero hz
    subst hss
    refine ⟨trivial, ?_⟩
    refine (callsIn_wide.2 (sortF_none none 0 _ W)).mono ?_
    rintro e w' ⟨rfl, rfl⟩
    gi_wp2
    go_ret
    refine ⟨.slice none 0 0, [], rfl, hS1, ?_, HB.out⟩
    rw [sortT_nil]
    exact World.ownsRow_nil _ _ _ _
  · refine ⟨trivial, ?_⟩
    refine (callsIn_wide.2 (sortF_any gb cap cur ss W hgb r1 r2 r3 r4 w.heap.size hbase (by have := hS ss hS1; omega))).mono ?_
    rintro e w' ⟨rfl, ho, hg⟩
    have HO := hide ho
    have HG := hide hg
    clear ho hg r1 r2 r3 r4 hgb HROW
    gi_wp2
    go_ret
    exact ⟨_, ss, rfl, hS1, HO.out, HB.out.grown HG.out HB.out.size (fun j hj => by cases hj; exact hbase)⟩
theorem own_base {w : World} {a b : Nat} {e : TypeId} {size : Nat} {v : Value} {n : Nat} {xs : List Value} (h : w.ownsRow b e size v n xs) (hab : a ≤ b) : w.ownsRow a e size v n xs :=
  ⟨h.1, h.2.imp id (fun ⟨g, cap, cur, h1, h2, h3⟩ => ⟨g, cap, cur, h1, Nat.le_trans hab h2, h3⟩)⟩
end
section
open Go.RowKit Go.Maps Classical

/-- What is asked of a map's type. -/
structure MapTy {K E : Type} (mt kt et : TypeId) (kV : K → Value) (kL : K → Lit) (eV : E → Value) (z : E) : Prop where
  und : Try.prog.underlying mt = some (.map kt et)
  keyed : Keyed Try.prog kt
  key : ∀ k, keyOf Try.prog kt (kV k) = some (kL k)
  inj : ∀ k l, kL k = kL l → k = l
  inv : ∀ v kl, keyOf Try.prog kt v = some kl → ∃ k, v = kV k ∧ kl = kL k
  zero : ∀ w, (zeroValue et).run Try.prog w = .ok (eV z) w
  einj : ∀ a b, eV a = eV b → a = b
/-- A way to read an element. -/
structure ElemG {E : Type} (eV : E → Value) (R : Value → Option (DataW E × List MemPlace)) : Prop where
  reads : ∀ i, R (eV i) = some (.held i, [])
  inv : ∀ {v : Value} {z : DataW E × List MemPlace}, R v = some z → ∃ i, v = eV i ∧ z = (.held i, [])
theorem elemG_ex {E : Type} (eV : E → Value) (hi : ∀ a b, eV a = eV b → a = b) : ∃ R, ElemG eV R := by
  refine ⟨fun v => if h : ∃ i, v = eV i then some (.held h.choose, []) else none, ⟨fun i => ?_, fun {v z} h => ?_⟩⟩
  · have h : ∃ j, eV i = eV j := ⟨i, rfl⟩
    show (if h : ∃ j, eV i = eV j then some (DataW.held h.choose, []) else none) = _
    rw [dif_pos h]
    have h3 : h.choose = i := (hi _ _ h.choose_spec).symm
    rw [h3]
  · replace h : (if h : ∃ i, v = eV i then some (DataW.held h.choose, []) else none) = some z := h
    split at h
    · rename_i hx
      cases h
      exact ⟨_, hx.choose_spec, rfl⟩
    · cases h
/-- Block b is a map that has just this, n keys in all. -/
structure GMap {K E : Type} (kt : TypeId) (kL : K → Lit) (eV : E → Value) (w : World) (b : Nat) (g : K → Option E) (n : Nat) : Prop where
  own : ∃ (R : Value → Option (DataW E × List MemPlace)) (D : DataW E), ElemG eV R ∧ w.ownsMap Try.prog kt R b (Maps.size D) D ∧ Maps.size D = n ∧ (∀ k, Maps.has D (kL k) = (g k).isSome) ∧ ∀ k e, g k = some e → ∀ z, D.atKey (kL k) z = .held e
section
variable {K E : Type} {mt kt et : TypeId} {kV : K → Value} {kL : K → Lit} {eV : E → Value} {z : E} {w w' : World} {b n : Nat} {g : K → Option E}
theorem tight_g {R : Value → Option (DataW E × List MemPlace)} {D : DataW E} (h : w.ownsMap Try.prog kt R b n D) : w.ownsMap Try.prog kt R b (Maps.size D) D := by
  obtain ⟨es, clock, hb, F, hs, rfl⟩ := h
  refine ⟨es, clock, hb, F, ?_, rfl⟩
  simp [Maps.size, length_sorted]
theorem gmap_made (T : MapTy mt kt et kV kL eV z) (w : World) : GMap kt kL eV (w.alloc (.map #[] 0)) w.heap.size (fun _ : K => none) 0 := by
  obtain ⟨R, hR⟩ := elemG_ex eV T.einj
  exact ⟨⟨R, .map [], hR, World.ownsMap_made _ _ _ _, rfl, fun _ => rfl, fun k i h => by cases h⟩⟩
theorem GMap.lt (h : GMap kt kL eV w b g n) : b < w.heap.size := by obtain ⟨_, _, _, h, _⟩ := h.own; exact h.lt
theorem GMap.isMap (h : GMap kt kL eV w b g n) : ∃ es c, w.heap[b]? = some (.map es c) := by
  obtain ⟨_, _, _, ⟨es, c, hb, _⟩, _⟩ := h.own
  exact ⟨es, c, hb⟩
theorem GMap.keep {S : Nat → Prop} (h : GMap kt kL eV w b g n) (hk : KeepBut S w w') (hS : ¬ S b) : GMap kt kL eV w' b g n := by
  obtain ⟨R, D, hR, ho, r⟩ := h.own
  have hlt := ho.lt
  obtain ⟨es, clock, hb, F, hs, hD⟩ := ho
  exact ⟨⟨R, D, hR, ⟨es, clock, (hk.block b hlt hS).trans hb, F, hs, hD⟩, r⟩⟩
theorem GMap.below (h : GMap kt kL eV w b g n) (hB : Below w.heap.size w w') : GMap kt kL eV w' b g n := h.keep (KeepBut.of_below (fun _ => False) hB) (fun h => h)
theorem GMap.ne {p : Nat} {cs : Array Value} {t : TypeId} (h : GMap kt kL eV w b g n) (hb : Box w p cs t) : p ≠ b := by
  intro e
  obtain ⟨es, c, hm⟩ := h.isMap
  have h2 : w.heap[p]? = _ := hb
  rw [e, hm] at h2
  cases h2
theorem GMap.as (h : GMap kt kL eV w b g n) {g' : K → Option E} (e : ∀ k, g k = g' k) : GMap kt kL eV w b g' n := by
  have : g = g' := funext e
  rw [← this]
  exact h
theorem keep_turned {b : Nat} (h : w.mapTurned w' b) : KeepBut (fun k => k = b) w w' := by
  obtain ⟨a1, a2, a3, a4, a5⟩ := h.grown
  exact ⟨a1, a2, a3, a4, fun k hk hn => a5 k hk (fun e => hn (Option.some.inj e))⟩
theorem gmap_val {R : Value → Option (DataW E × List MemPlace)} (hR : ElemG eV R) {k : K} {D : DataW E} (hh : Maps.has D (kL k) = (g k).isSome) (ha : ∀ i, g k = some i → ∀ z, D.atKey (kL k) z = .held i) {v : Value} {ps : List MemPlace} (hv : R v = some (D.atKey (kL k) (.held z), ps)) : v = eV ((g k).getD z) := by
  obtain ⟨i, rfl, hz⟩ := hR.inv hv
  simp only [Prod.mk.injEq] at hz
  cases hg : g k with
  | none =>
    rw [atKey_of_not_has (by rw [hh, hg]; rfl)] at hz
    cases hz.1
    rfl
  | some j =>
    rw [ha j hg] at hz
    cases hz.1
    rfl
/-- v, ok := m[k] -/
theorem GMap.look (T : MapTy mt kt et kV kL eV z) (h : GMap kt kL eV w b g n) (k : K) : (Instr.lookup mt (.map (some b)) (kV k) true).run Try.prog w = .ok (.tuple #[eV ((g k).getD z), .bool (g k).isSome]) w := by
  obtain ⟨R, D, hR, ho, hs, hh, ha⟩ := h.own
  obtain ⟨v, ps, hrun, hv⟩ := ho.look_ok T.keyed T.und (T.zero w) (hR.reads z) (T.key k)
  rw [hrun, hh k, gmap_val hR (hh k) (fun i hi => ha k i hi) hv]
/-- len(m) -/
theorem GMap.len (T : MapTy mt kt et kV kL eV z) (h : GMap kt kL eV w b g n) (ty : TypeId) : (Builtin.len_ #[mt] ty #[.map (some b)]).run Try.prog w = .ok (.int .i64 (n : Int)) w := by
  obtain ⟨_, D, _, ho, hs, _⟩ := h.own
  rw [ho.len T.und ty, hs]
/-- m[k] = e -/
theorem GMap.put (T : MapTy mt kt et kV kL eV z) (h : GMap kt kL eV w b g n) (hn : n < maxLen) (k : K) (e : E) : ∃ w', (Instr.mapUpdate mt (.map (some b)) (kV k) (eV e)).run Try.prog w = .ok () w' ∧ GMap kt kL eV w' b (fun k' => if k' = k then some e else g k') (if (g k).isSome then n else n + 1) ∧ KeepBut (fun k => k = b) w w' := by
  obtain ⟨R, D, hR, ho, hs, hh, ha⟩ := h.own
  obtain ⟨w', hrun, ho', hg⟩ := ho.store T.keyed T.und (by rw [hs]; exact hn) (T.key k) (hR.reads e)
  have hkl := T.keyed.key (T.key k)
  refine ⟨w', hrun, ⟨⟨R, _, hR, tight_g ho', ?_, fun k' => ?_, fun k' j hj zz => ?_⟩⟩, keep_turned hg⟩
  · rw [size_put (ho.tidy T.keyed), hh k, hs]
  · show _ = (if k' = k then some e else g k').isSome
    by_cases e2 : k' = k
    · subst e2
      rw [has_put_same ho.isMap hkl, if_pos rfl]
      rfl
    · rw [if_neg e2, has_put_other (fun e3 => e2 (T.inj _ _ e3)), hh k']
  · replace hj : (if k' = k then some e else g k') = some j := hj
    by_cases e2 : k' = k
    · subst e2
      rw [if_pos rfl] at hj
      cases hj
      exact atKey_put_same ho.isMap hkl _ _
    · rw [if_neg e2] at hj
      rw [atKey_put_other (fun e3 => e2 (T.inj _ _ e3))]
      exact ha k' j hj zz
/-- delete(m, k) -/
theorem GMap.del (T : MapTy mt kt et kV kL eV z) (h : GMap kt kL eV w b g n) (k : K) : ∃ w', (∀ ty, (Builtin.delete_ #[mt, kt] ty #[.map (some b), kV k]).run Try.prog w = .ok (.tuple #[]) w') ∧ GMap kt kL eV w' b (fun k' => if k' = k then none else g k') (if (g k).isSome then n - 1 else n) ∧ KeepBut (fun k => k = b) w w' := by
  obtain ⟨R, D, hR, ho, hs, hh, ha⟩ := h.own
  obtain ⟨w', hrun, ho', hg⟩ := ho.drop T.keyed T.und (T.key k) 0
  refine ⟨w', fun ty => hrun, ⟨⟨R, _, hR, tight_g ho', ?_, fun k' => ?_, fun k' j hj zz => ?_⟩⟩, keep_turned hg⟩
  · have := size_del (ho.tidy T.keyed) (k := kL k)
    rw [hh k, hs] at this
    cases hc : (g k).isSome with
    | true => rw [hc, if_pos rfl] at this; rw [if_pos rfl]; omega
    | false => rw [hc] at this; simp at this; simpa using this
  · show _ = (if k' = k then none else g k').isSome
    by_cases e2 : k' = k
    · subst e2
      rw [has_del_same, if_pos rfl]
      rfl
    · rw [if_neg e2, has_del_other (fun e3 => e2 (T.inj _ _ e3)), hh k']
  · replace hj : (if k' = k then none else g k') = some j := hj
    by_cases e2 : k' = k
    · subst e2
      rw [if_pos rfl] at hj
      cases hj
    · rw [if_neg e2] at hj
      rw [atKey_del_other (fun e3 => e2 (T.inj _ _ e3))]
      exact ha k' j hj zz
theorem nodup_le {α : Type} : ∀ (xs ys : List α), xs.Nodup → (∀ x ∈ xs, x ∈ ys) → xs.length ≤ ys.length
  | [], _, _, _ => Nat.zero_le _
  | x :: xs, ys, hn, hm => by
    have h1 := List.nodup_cons.1 hn
    have hx := hm x List.mem_cons_self
    have ih := nodup_le xs (ys.erase x) h1.2 (fun y hy => by
      have hne : y ≠ x := fun e => h1.1 (by rw [← e]; exact hy)
      exact (List.mem_erase_of_ne hne).2 (hm y (List.mem_cons_of_mem _ hy)))
    rw [List.length_erase_of_mem hx] at ih
    have := List.length_pos_of_mem hx
    rw [List.length_cons]
    omega
/-- It has no more keys than these. -/
theorem GMap.few (T : MapTy mt kt et kV kL eV z) (h : GMap kt kL eV w b g n) (ks : List K) (hks : ∀ k, (g k).isSome = true → k ∈ ks) : n ≤ ks.length := by
  obtain ⟨R, D, hR, ho, hs, hh, ha⟩ := h.own
  have ht := ho.tidy T.keyed
  obtain ⟨es, clock, hb, F, _, rfl⟩ := ho
  rw [← hs]
  obtain ⟨L, hL⟩ : ∃ L, L = (es.toList.map (WideElems.rg Try.prog kt R)).foldr DataW.insert [] := ⟨_, rfl⟩
  rw [← hL] at ht hs hh ⊢
  obtain ⟨L2, e2, hp⟩ := ht
  cases e2
  have hm : ∀ x ∈ L.map Prod.fst, x ∈ ks.map kL := by
    intro x hx
    obtain ⟨p, hp1, rfl⟩ := List.mem_map.1 hx
    have hp2 : p ∈ es.toList.map (WideElems.rg Try.prog kt R) := by
      rw [hL] at hp1
      exact (WideShapes.sorted_perm _).mem_iff.1 hp1
    obtain ⟨en, hen, rfl⟩ := List.mem_map.1 hp2
    obtain ⟨y, hy⟩ := F.reads en hen
    have hk := WideElems.rd_key hy
    rw [WideElems.rg_of hy] at hp1 ⊢
    obtain ⟨k, _, ek⟩ := T.inv _ _ hk
    refine List.mem_map.2 ⟨k, hks k ?_, ek.symm⟩
    rw [← hh k, has_eq, List.any_eq_true]
    refine ⟨y, hp1, ?_⟩
    rw [ek]
    have := T.keyed.key (T.key k)
    exact WideAt.sameKey_self this
  have := nodup_le _ _ (List.pairwise_map.2 hp) hm
  simpa [Maps.size] using this
end
end
end Go.Proofs.Ytodomdmmffooaaa
