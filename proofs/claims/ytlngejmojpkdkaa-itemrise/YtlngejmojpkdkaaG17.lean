/-
  Own texts put together: IdCmp3, TbSort, RvMore. Own work.
-/
import Derived.Test.YtlngejmojpkdkaaG15
import Derived.Test.YtlngejmojpkdkaaG16
import Derived.Test.YtlngejmojpkdkaaG11
import Derived.Test.YtlngejmojpkdkaaIdLay
import Derived.Shelf.SlSortCmp.NoneTotal
import Derived.Sort.OwnSorted
namespace Go.Proofs.Ytlngejmojpkdkaa
section
open Go.RowKit

theorem load_bytes (w : World) (b off : Nat) (xs : List Int) (hc : ∀ t, t < xs.length → w.cell? ⟨b, off + t, none⟩ = some (.int .u8 (xs.getD t 0))) :
    (Extern.Bytes.loadBytes ⟨b, off, none⟩ xs.length .empty).run Try.prog w = .ok ⟨(Lib.bytesOf xs).toArray⟩ w := by
  have hl := Lib.run_loadBytesX (P := Try.prog) w xs ⟨b, off, none⟩ .empty (fun j x hj => by
    have hjl : j < xs.length := (List.getElem?_eq_some_iff.1 hj).1
    have e : (⟨b, off, none⟩ : Addr).add j = ⟨b, off + j, none⟩ := by unfold Addr.add; split <;> simp_all
    rw [e, hc j (by omega), List.getD_eq_getElem?_getD, hj]
    rfl)
  rw [hl]
  congr 1
  apply ByteArray.ext
  show (#[] : Array UInt8) ++ (Lib.bytesOf xs).toArray = (Lib.bytesOf xs).toArray
  simp
theorem run_compareSlice (w : World) (b1 o1 c1 b2 o2 c2 : Nat) (xs ys : List Int) (h1 : ∀ t, t < xs.length → w.cell? ⟨b1, o1 + t, none⟩ = some (.int .u8 (xs.getD t 0))) (h2 : ∀ t, t < ys.length → w.cell? ⟨b2, o2 + t, none⟩ = some (.int .u8 (ys.getD t 0))) :
    (Extern.BytealgCompare.compare #[.slice (some ⟨b1, o1, none⟩) xs.length c1, .slice (some ⟨b2, o2, none⟩) ys.length c2]).run Try.prog w = .ok (.int .i64 (Lib.compareBytes (Lib.bytesOf xs) (Lib.bytesOf ys))) w := by
  have l1 := load_bytes w b1 o1 xs h1
  have l2 := load_bytes w b2 o2 ys h2
  change Sem.run Try.prog (do pure (goInt (Extern.BytealgCompare.cmp (← Extern.Bytes.bytesOf (.slice (some ⟨b1, o1, none⟩) xs.length c1)) (← Extern.Bytes.bytesOf (.slice (some ⟨b2, o2, none⟩) ys.length c2))))) w = _
  simp only [Extern.Bytes.bytesOf, Sem.run_bind, Sem.run_pure, l1, l2, Result.andThen]
  rw [Lib.cmp_eq]
  rfl
set_option maxRecDepth 100000 in
theorem bcompare_any (w : World) (b1 o1 c1 b2 o2 c2 : Nat) (xs ys : List Int) (h1 : ∀ t, t < xs.length → w.cell? ⟨b1, o1 + t, none⟩ = some (.int .u8 (xs.getD t 0))) (h2 : ∀ t, t < ys.length → w.cell? ⟨b2, o2 + t, none⟩ = some (.int .u8 (ys.getD t 0)))
    (hl : xs.length = ys.length) (hx : ∀ c ∈ xs, 0 ≤ c ∧ c < 256) (hy : ∀ c ∈ ys, 0 ≤ c ∧ c < 256) :
    Calls Try.prog 46 #[.slice (some ⟨b1, o1, none⟩) xs.length c1, .slice (some ⟨b2, o2, none⟩) ys.length c2] w fun e w' => e = .returned (.int .i64 (lexF xs ys)) ∧ w' = w := by
  have hr := run_compareSlice w b1 o1 c1 b2 o2 c2 xs ys h1 h2
  rw [compare_lex xs ys hl hx hy] at hr
  generalize lexF xs ys = r at *
  generalize xs.length = n1 at *
  generalize ys.length = n2 at *
  clear h1 h2 hx hy hl
  go_enter Try.func46, Try.ntmps46
  go_wp2
  rw [run_callFunc_extern Try.func56 (by kernel_rfl) (by kernel_rfl) (by kernel_rfl) (e := Extern.BytealgCompare.compare) (by kernel_rfl), hr]
  simp only [Result.andThen]
  rw [Oper.upon_value]
  go_wp2
  go_ret
  exact ⟨rfl, rfl⟩
end
section
open Go.RowKit Go.Maps Go.Shelf Go.Sort Classical

def kysF (a b : KeyT) : Int := lexF a.1 b.1
theorem kysF_neg (a b : KeyT) : kysF b a = - kysF a b := lexF_neg _ _
theorem kysF_trans (a b c : KeyT) (h : kysF a b ≤ 0) (h' : kysF b c ≤ 0) : kysF a c ≤ 0 := lexF_trans a.1 b.1 c.1 (by rw [a.2.l, b.2.l]) (by rw [b.2.l, c.2.l]) h h'
theorem kysF_zero (a b : KeyT) : kysF a b = 0 ↔ a = b := ⟨fun h => Subtype.ext ((lexF_zero _ _ (by rw [a.2.l, b.2.l])).1 h), fun h => by subst h; exact (lexF_zero _ _ rfl).2 rfl⟩
theorem kysF_self (a : KeyT) : kysF a a = 0 := (kysF_zero a a).2 rfl
theorem kysSWO : SWO (ltOf kysF) := by
  refine ⟨fun x => by simp [ltOf, kysF_self], fun x y z h1 h2 => ?_, fun x y z h1 h2 => ?_⟩
  · simp only [ltOf, decide_eq_true_eq] at *
    have h3 := kysF_trans x y z (by omega) (by omega)
    rcases Int.lt_or_eq_of_le h3 with h | h
    · exact h
    · have := (kysF_zero x z).1 h
      subst this
      have := kysF_neg x y
      omega
  · simp only [ltOf, decide_eq_false_iff_not] at *
    have e1 := kysF_neg x y
    have e2 := kysF_neg y z
    have e3 := kysF_neg x z
    have h3 := kysF_trans z y x (by omega) (by omega)
    omega
theorem kysTotal (x y : KeyT) (h1 : ltOf kysF x y = false) (h2 : ltOf kysF y x = false) : x = y := by
  simp only [ltOf, decide_eq_false_iff_not] at *
  have := kysF_neg x y
  exact (kysF_zero x y).1 (by omega)
/-- The names in order. -/
def sortK (ss : List KeyT) : List KeyT := ss.mergeSort fun x y => !(ltOf kysF) y x
theorem sortK_nil : sortK [] = [] := by simp [sortK]
/-- Strictly rising. -/
def RisingK (ss : List KeyT) : Prop := ss.Pairwise (fun a b => kysF a b < 0)
theorem RisingK.nodup {ss : List KeyT} (h : RisingK ss) : ss.Nodup := h.imp (fun {a b} hab e => by subst e; rw [kysF_self] at hab; omega)
theorem sortK_unique (ss L : List KeyT) (hn : ss.Nodup) (hL : RisingK L) (hm : ∀ t, t ∈ L ↔ t ∈ ss) : sortK ss = L := by
  have hp : (sortK ss).Perm L := (List.mergeSort_perm ss _).trans ((List.perm_ext_iff_of_nodup hn hL.nodup).2 (fun t => (hm t).symm))
  refine List.Perm.eq_of_pairwise (le := fun a b => kysF a b ≤ 0) (fun a b _ _ h1 h2 => ?_) ?_ (hL.imp (fun h => by omega)) hp
  · have := kysF_neg a b
    exact (kysF_zero a b).1 (by omega)
  · have := List.pairwise_mergeSort (le := fun x y : KeyT => !(ltOf kysF) y x) (fun a b c h1 h2 => ?_) (fun a b => ?_) ss
    · exact this.imp (fun {a b} h => by
        simp only [ltOf, Bool.not_eq_true', decide_eq_false_iff_not] at h
        have := kysF_neg a b
        omega)
    · simp only [Bool.not_eq_true'] at h1 h2 ⊢
      exact kysSWO.ntrans _ _ _ h2 h1
    · simp only [ltOf, Bool.or_eq_true, Bool.not_eq_true', decide_eq_false_iff_not]
      have := kysF_neg a b
      omega
theorem rowK_get [Inhabited KeyT] : ∀ (ss : List KeyT) (t : Nat), t < ss.length * 8 → (rowK ss)[t]? = some ((kyCs ss[t / 8]!)[t % 8]!)
  | [], t, h => by simp at h
  | x :: r, t, h => by
    have e : rowK (x :: r) = kyCs x ++ rowK r := by simp [rowK]
    rw [e]
    by_cases h3 : t < 8
    · have : t = 0 ∨ t = 1 ∨ t = 2 ∨ t = 3 ∨ t = 4 ∨ t = 5 ∨ t = 6 ∨ t = 7 := by omega
      rcases this with rfl | rfl | rfl | rfl | rfl | rfl | rfl | rfl <;> simp
    · obtain ⟨s, rfl⟩ : ∃ s, t = s + 8 := ⟨t - 8, by omega⟩
      rw [List.getElem?_append_right (by simp)]
      have ih := rowK_get r s (by simp at h; omega)
      have e1 : (s + 8) / 8 = s / 8 + 1 := by omega
      have e2 : (s + 8) % 8 = s % 8 := by omega
      rw [e1, e2]
      simpa using ih
theorem flat_rowK [Inhabited KeyT] (ss : List KeyT) : flatK kyCs 8 ss.toArray = (rowK ss).toArray := by
  apply Array.ext
  · simp [rowK_length]
  · intro i h1 h2
    have hi : i < ss.length * 8 := by simpa using h1
    have e := rowK_get ss i hi
    have h3 : i < (rowK ss).length := by rw [rowK_length]; exact hi
    rw [List.getElem?_eq_getElem h3] at e
    have e' := Option.some.inj e
    simp only [List.getElem_toArray, e']
    simp [flatK]
theorem holds_rowK [Inhabited KeyT] {w : World} {g : Nat} {cur : Array Value} {e : TypeId} {ss : List KeyT} (hb : w.heap[g]? = some (.cells cur e (0, 0))) (ht : cur.toList.take (ss.length * 8) = rowK ss) : HoldsK kyCs 8 w g 0 ss.toArray := by
  unfold HoldsK
  rw [flat_rowK]
  intro j hj
  have hj' : j < (rowK ss).length := by simpa using hj
  refine ⟨?_, by simp [World.frozen?, hb]⟩
  have h1 : (cur.toList.take (ss.length * 8))[j]? = (rowK ss)[j]? := by rw [ht]
  rw [List.getElem?_take_of_lt (by rw [rowK_length] at hj'; exact hj')] at h1
  simp only [World.cell?, hb, Nat.zero_add]
  simp only [Option.isSome_none, Bool.false_eq_true, if_false]
  rw [← Array.getElem?_toList, h1]
  simp [hj']
theorem heap_sortWK [Inhabited KeyT] {w : World} {g n : Nat} {os : Array Obj} {cur : Array Value} {e : TypeId} (ts : List KeyT) (hb : w.heap[g]? = some (.cells cur e (0, 0))) :
    (sortWorldK kyCs 8 w g 0 n ts.toArray os).heap[g]? = some (.cells (putCells id 0 (rowK ts).toArray cur) e (0, 0)) := by
  have hg : g < w.heap.size := (Array.getElem?_eq_some_iff.1 hb).1
  unfold sortWorldK putRowK
  rw [flat_rowK, heap_grow_old _ _ (by simpa using hg)]
  simp [putRow, mapBlock, Sort.ahead, Array.getElem?_modify, hb, onCells]
theorem grown_sortWK [Inhabited KeyT] {w : World} {g n : Nat} {os : Array Obj} (d : Array KeyT) : w.grownBy (sortWorldK kyCs 8 w g 0 n d os) (some g) := by
  unfold sortWorldK putRowK
  refine ⟨rfl, rfl, rfl, by simp, fun k hk hne => ?_⟩
  rw [heap_grow_old _ _ (by simpa using hk)]
  have : g ≠ k := fun e => hne (by rw [e])
  simp [putRow, mapBlock, Sort.ahead, Array.getElem?_modify, this]
theorem take_putIdsK (cur : Array Value) (ts : List Value) (h : ts.length ≤ cur.size) : (putCells id 0 ts.toArray cur).toList.take ts.length = ts := by
  apply List.ext_getElem?
  intro j
  by_cases hj : j < ts.length
  · rw [List.getElem?_take_of_lt hj, Array.getElem?_toList]
    simp [putCells, hj, show j < cur.size by omega]
  · rw [List.getElem?_take_eq_none (by omega), List.getElem?_eq_none (by omega)]
theorem sortK_length (ss : List KeyT) : (sortK ss).length = ss.length := by simp [sortK]
theorem owns_sortedK [Inhabited KeyT] {w : World} {base g cap n : Nat} {e : TypeId} {os : Array Obj} {cur : Array Value} {ss : List KeyT} (hbase : base ≤ g) (hb : w.heap[g]? = some (.cells cur e (0, 0)))
    (h1 : ss.length ≤ cap) (h2 : cap ≤ maxLen) (h3 : cur.size = cap * 8) :
    (sortWorldK kyCs 8 w g 0 n (sortK ss).toArray os).ownsRow base e 8 (.slice (some ⟨g, 0, none⟩) ss.length cap) ss.length (rowK (sortK ss)) := by
  have hl : (rowK (sortK ss)).length = ss.length * 8 := by rw [rowK_length, sortK_length]
  refine ⟨hl, .inr ⟨g, cap, _, rfl, hbase, heap_sortWK _ hb, h1, h2, by simp [putCells, h3], ?_⟩⟩
  have := take_putIdsK cur (rowK (sortK ss)) (by rw [hl]; omega)
  rw [hl] at this
  exact this
theorem Grown.drewN {w w' : World} (h : Grown w w') (n : Nat) : Grown w (w'.drewN n) := by
  obtain ⟨q, os, rfl⟩ := h
  exact ⟨q + n, os, by simp only [Sort.grow, World.drewN, Nat.add_assoc]⟩
set_option maxRecDepth 100000 in
set_option maxHeartbeats 1600000 in
theorem keysG0 (a b : List Int) (w : World) (ha : a.length = 8) (hb : b.length = 8) (hx : ∀ c ∈ a, 0 ≤ c ∧ c < 256) (hy : ∀ c ∈ b, 0 ≤ c ∧ c < 256) : Calls Try.prog 33 #[.agg (cells8 a), .agg (cells8 b)] w fun e w' => e = .returned (.int .i64 (lexF a b)) ∧ Grown w w' := by
  have hA : Box ((w.alloc (.cells (cells8 a) 31)).alloc (.cells (cells8 b) 31)) w.heap.size (cells8 a) 31 := (box_new w _ _).belowI ((Below.refl _ _).alloc (Nat.le_refl _) _)
  have hB : Box ((w.alloc (.cells (cells8 a) 31)).alloc (.cells (cells8 b) 31)) (w.heap.size + 1) (cells8 b) 31 := by
    have := box_new (w.alloc (.cells (cells8 a) 31)) (cells8 b) 31
    rw [World.size_alloc] at this
    exact this
  have hc1 : ∀ n t, t < a.length → (((w.alloc (.cells (cells8 a) 31)).alloc (.cells (cells8 b) 31)).drewN n).cell? ⟨w.heap.size, 0 + t, none⟩ = some (.int .u8 (a.getD t 0)) := fun n t ht => by
    rw [Nat.zero_add]; exact hA.cell t _ (by simp [cells8, List.getD, ht])
  have hc2 : ∀ n t, t < b.length → (((w.alloc (.cells (cells8 a) 31)).alloc (.cells (cells8 b) 31)).drewN n).cell? ⟨w.heap.size + 1, 0 + t, none⟩ = some (.int .u8 (b.getD t 0)) := fun n t ht => by
    rw [Nat.zero_add]; exact hB.cell t _ (by simp [cells8, List.getD, ht])
  have HC : Hid (∀ n, Calls Try.prog 46 #[.slice (some ⟨w.heap.size, 0, none⟩) 8 8, .slice (some ⟨w.heap.size + 1, 0, none⟩) 8 8] (((w.alloc (.cells (cells8 a) 31)).alloc (.cells (cells8 b) 31)).drewN n) fun e w' => e = .returned (.int .i64 (lexF a b)) ∧ w' = (((w.alloc (.cells (cells8 a) 31)).alloc (.cells (cells8 b) 31)).drewN n)) := hide (fun n => by
    have h := bcompare_any _ w.heap.size 0 8 (w.heap.size + 1) 0 8 a b (hc1 n) (hc2 n) (by omega) hx hy
    rw [ha, hb] at h
    exact h)
  clear hA hB hc1 hc2 hx hy
  generalize lexF a b = r at *
  generalize cells8 a = ca at *
  generalize cells8 b = cb at *
  go_enter Try.func33, Try.ntmps33
  go_wp2
  go_quiet ((go_at_call 46; exact Calls.quiet_of_same (HC.out _)))
  go_wp2
  go_ret
  exact ⟨rfl, (((Grown.refl w).alloc _).alloc _).drewN _⟩
theorem keysG_any (x y : KeyT) (w : World) : Calls Try.prog 33 #[.agg (eightA x.1), .agg (eightA y.1)] w fun e w' => e = .returned (.int .i64 (kysF x y)) ∧ Grown w w' := by
  have h := keysG0 x.1 y.1 w x.2.l y.2.l x.2.b y.2.b
  have e1 : cells8 x.1 = eightA x.1 := by unfold cells8; rw [← eightE_map x.2.l]
  have e2 : cells8 y.1 = eightA y.1 := by unfold cells8; rw [← eightE_map y.2.l]
  rw [e1, e2] at h
  exact h
theorem cmpLaysK [Inhabited KeyT] (blk off size : Nat) (w : World) : CmpLays Try.prog 33 #[] kyCs 8 kysF blk off size w := by
  intro m os dk _ x y
  refine (keysG_any x y _).mono ?_
  rintro e' w' ⟨rfl, q, os', h⟩
  exact ⟨rfl, q, os', h⟩
theorem sortF_anyK [Inhabited KeyT] (g cap : Nat) (cur : Array Value) (ss : List KeyT) (w : World) (hb : w.heap[g]? = some (.cells cur 31 (0, 0))) (h1 : ss.length ≤ cap) (h2 : cap ≤ maxLen) (h3 : cur.size = cap * 8) (h4 : cur.toList.take (ss.length * 8) = rowK ss) (base : Nat) (hbase : base ≤ g) (hss : ss.length ≤ 1000000) :
    Calls Try.prog 44 #[.slice (some ⟨g, 0, none⟩) ss.length cap, .func (.func 33) #[] #[]] w fun e w' => e = .returned (.tuple #[]) ∧ w'.ownsRow base 31 8 (.slice (some ⟨g, 0, none⟩) ss.length cap) ss.length (rowK (sortK ss)) ∧ w.grownBy w' (some g) := by
  have hg : g < w.heap.size := (Array.getElem?_eq_some_iff.1 hb).1
  have h := AnyQ.slices_SortFunc_total Try.sortL 8 Try.isAgg31 Try.sizeOf31 kyCs (fun _ => rfl) (fun x v hv => by simp at hv; rcases hv with rfl | rfl | rfl | rfl | rfl | rfl | rfl | rfl <;> rfl) kysF kysSWO 33 #[] g 0 cap ss.toArray w
    (enters_of Try.func33 (by kernel_rfl) rfl) (cmpLaysK _ _ _ _) (holds_rowK hb h4) hg (by simp; omega) kysTotal
  refine Calls.mono h ?_
  rintro e w' ⟨rfl, n, os, rfl⟩
  exact ⟨rfl, owns_sortedK hbase hb h1 h2 h3, grown_sortWK _⟩
theorem sortF_noneK (p : Option Addr) (cap : Nat) (fv : Value) (w : World) :
    Calls Try.prog 44 #[.slice p 0 cap, fv] w fun e w' => e = .returned (.tuple #[]) ∧ w' = w := AnyF.slices_SortFunc_none Try.sortL p cap fv w
set_option maxRecDepth 100000 in
set_option maxHeartbeats 2000000 in
theorem sorted_inK [Inhabited KeyT] (n : Nat) (hn : 4 ≤ n) (g : Nat) (lb : Array Value) (eg : ∀ args w, (callFunc g args).run Try.prog w = .ok (.enter g args) w) (S : List KeyT → Prop) (N : Nat) (hN : N ≤ 1000000) (w : World) (hS : ∀ ss, S ss → ss.length ≤ N)
    (hseq : SeqStopsK Fence.wide (n - 1 - 1 - 1) Try.prog g lb (fun x : KeyT => #[kyV x.1]) KeepsWalks S (fun _ => True) N w) :
    CallsIn Fence.wide n Try.prog 31 #[.func (.func g) #[] lb, .func (.func 33) #[] #[]] w fun e w' => ∃ (v : Value) (ss : List KeyT), e = .returned v ∧ S ss ∧ w'.ownsRow w.heap.size 31 8 v ss.length (rowK (sortK ss)) ∧ Below w.heap.size w w' := by
  have h1 : 1 ≤ n := by omega
  have hF : Fence.wide.fn 31 := trivial
  refine callsIn_of_wp Try.func31 rfl hF ?_ rfl
  simp only [Try.ntmps31, List.size_toArray, List.length_cons, List.length_nil, Nat.reduceAdd, Nat.reduceSub, Array.replicate_succ, Array.replicate_zero, List.push_toArray, List.append_toArray, List.nil_append, List.cons_append]
  gi_wp2_with (refine ⟨trivial, ?_⟩; gi_at_call 43; refine (kcollect_in (n - 1) (by omega) g lb eg S N hN _ hseq).mono ?_; rintro e W ⟨v, ss, rfl, hS1, hrow, hb⟩; have HROW := hide hrow; have HB := hide hb; clear hrow hb; rcases HROW.out.2 with ⟨rfl, hz⟩ | ⟨gb, cap, cur, rfl, hbase, hgb, r1, r2, r3, r4⟩)
  · have hss : ss = [] := List.eq_nil_of_length_eq_zero hz
    subst hss
    refine ⟨trivial, ?_⟩
    refine (callsIn_wide.2 (sortF_noneK none 0 _ W)).mono ?_
    rintro e w' ⟨rfl, rfl⟩
    gi_wp2
    go_ret
    refine ⟨.slice none 0 0, [], rfl, hS1, ?_, HB.out⟩
    rw [sortK_nil]
    exact World.ownsRow_nil _ _ _ _
  · refine ⟨trivial, ?_⟩
    refine (callsIn_wide.2 (sortF_anyK gb cap cur ss W hgb r1 r2 r3 r4 w.heap.size hbase (by have := hS ss hS1; omega))).mono ?_
    rintro e w' ⟨rfl, ho, hg⟩
    have HO := hide ho
    have HG := hide hg
    clear ho hg r1 r2 r3 r4 hgb HROW
    gi_wp2
    go_ret
    exact ⟨_, ss, rfl, hS1, HO.out, HB.out.grown HG.out HB.out.size (fun j hj => by cases hj; exact hbase)⟩
theorem own_baseK {w : World} {a b : Nat} {e : TypeId} {size : Nat} {v : Value} {n : Nat} {xs : List Value} (h : w.ownsRow b e size v n xs) (hab : a ≤ b) : w.ownsRow a e size v n xs :=
  ⟨h.1, h.2.imp id (fun ⟨g, cap, cur, h1, h2, h3⟩ => ⟨g, cap, cur, h1, Nat.le_trans hab h2, h3⟩)⟩
end
section
open Go.RowKit

section
variable {P : Program} {ρ : Operand → Value} {w : World} {dst : Option Tmp} {ty : TypeId} {pos : String} {aft : Array Edge} {gd : Option (Nat × Bool)}
theorem y_nil (x : Operand) {a : Addr} (hx : ρ x = .pointer (some a)) : (execOp ρ ⟨dst, .nilCheck x, ty, pos, aft, gd⟩).run P w = .ok (.value (.pointer (some a))) w := by simp [go_sem, hx]
end
end
end Go.Proofs.Ytlngejmojpkdkaa
