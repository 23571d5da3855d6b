/-
  Own texts put together: IdCmp3, TbSort, LkProg, IdCmp2. Own work.
-/
import Derived.Test.YtddflccjmigloaaGreatG10
import Derived.Test.YtddflccjmigloaaGreatG08
import Derived.Test.YtddflccjmigloaaGreatIdLayK
import Derived.Shelf.SlSortCmp.NoneTotal
import Derived.Sort.OwnSorted
import Derived.BigRegion
import Derived.Deep.RegionHeld
namespace Go.Proofs.YtddflccjmigloaaGreat
section
open Go.RowKit

theorem load_bytes (w : World) (b off : Nat) (xs : List Int) (hc : ∀ t, t < xs.length → w.cell? ⟨b, off + t, none⟩ = some (.int .u8 (xs.getD t 0))) :
    (Extern.Bytes.loadBytes ⟨b, off, none⟩ xs.length .empty).run Tryz.prog w = .ok ⟨(Lib.bytesOf xs).toArray⟩ w := by
  have hl := Lib.run_loadBytesX (P := Tryz.prog) w xs ⟨b, off, none⟩ .empty (fun j x hj => by
    have hjl : j < xs.length := (List.getElem?_eq_some_iff.1 hj).1
    have e : (⟨b, off, none⟩ : Addr).add j = ⟨b, off + j, none⟩ := by unfold Addr.add; split <;> simp_all
    rw [e, hc j (by omega), List.getD_eq_getElem?_getD, hj]
    rfl)
  rw [hl]
  congr 1
  apply ByteArray.ext
  show (#[] : Array UInt8) ++ (Lib.bytesOf xs).toArray = (Lib.bytesOf xs).toArray
  simp
theorem run_compareSlice (w : World) (b1 o1 c1 b2 o2 c2 : Nat) (xs ys : List Int) (h1 : ∀ t, t < xs.length → w.cell? ⟨b1, o1 + t, none⟩ = some (.int .u8 (xs.getD t 0))) (h2 : ∀ t, t < ys.length → w.cell? ⟨b2, o2 + t, none⟩ = some (.int .u8 (ys.getD t 0))) :
    (Extern.BytealgCompare.compare #[.slice (some ⟨b1, o1, none⟩) xs.length c1, .slice (some ⟨b2, o2, none⟩) ys.length c2]).run Tryz.prog w = .ok (.int .i64 (Lib.compareBytes (Lib.bytesOf xs) (Lib.bytesOf ys))) w := by
  have l1 := load_bytes w b1 o1 xs h1
  have l2 := load_bytes w b2 o2 ys h2
  change Sem.run Tryz.prog (do pure (goInt (Extern.BytealgCompare.cmp (← Extern.Bytes.bytesOf (.slice (some ⟨b1, o1, none⟩) xs.length c1)) (← Extern.Bytes.bytesOf (.slice (some ⟨b2, o2, none⟩) ys.length c2))))) w = _
  simp only [Extern.Bytes.bytesOf, Sem.run_bind, Sem.run_pure, l1, l2, Result.andThen]
  rw [Lib.cmp_eq]
  rfl
set_option maxRecDepth 100000 in
theorem bcompare_any (w : World) (b1 o1 c1 b2 o2 c2 : Nat) (xs ys : List Int) (h1 : ∀ t, t < xs.length → w.cell? ⟨b1, o1 + t, none⟩ = some (.int .u8 (xs.getD t 0))) (h2 : ∀ t, t < ys.length → w.cell? ⟨b2, o2 + t, none⟩ = some (.int .u8 (ys.getD t 0)))
    (hl : xs.length = ys.length) (hx : ∀ c ∈ xs, 0 ≤ c ∧ c < 256) (hy : ∀ c ∈ ys, 0 ≤ c ∧ c < 256) :
    Calls Tryz.prog 105 #[.slice (some ⟨b1, o1, none⟩) xs.length c1, .slice (some ⟨b2, o2, none⟩) ys.length c2] w fun e w' => e = .returned (.int .i64 (lexF xs ys)) ∧ w' = w := by
  have hr := run_compareSlice w b1 o1 c1 b2 o2 c2 xs ys h1 h2
  rw [compare_lex xs ys hl hx hy] at hr
  generalize lexF xs ys = r at *
  generalize xs.length = n1 at *
  generalize ys.length = n2 at *
  clear h1 h2 hx hy hl
  go_enter Tryz.func105, Tryz.ntmps105
  go_wp2
  rw [run_callFunc_extern Tryz.func122 (by kernel_rfl) (by kernel_rfl) (by kernel_rfl) (e := Extern.BytealgCompare.compare) (by kernel_rfl), hr]
  simp only [Result.andThen]
  rw [Oper.upon_value]
  go_wp2
  go_ret
  exact ⟨rfl, rfl⟩
end
section
open Go.RowKit Go.Maps Go.Shelf Go.Sort Classical

def kysF (a b : KeyT) : Int := lexF a.1 b.1
theorem kysF_neg (a b : KeyT) : kysF b a = - kysF a b := lexF_neg _ _
theorem kysF_trans (a b c : KeyT) (h : kysF a b ≤ 0) (h' : kysF b c ≤ 0) : kysF a c ≤ 0 := lexF_trans a.1 b.1 c.1 (by rw [a.2.l, b.2.l]) (by rw [b.2.l, c.2.l]) h h'
theorem kysF_zero (a b : KeyT) : kysF a b = 0 ↔ a = b := ⟨fun h => Subtype.ext ((lexF_zero _ _ (by rw [a.2.l, b.2.l])).1 h), fun h => by subst h; exact (lexF_zero _ _ rfl).2 rfl⟩
theorem kysF_self (a : KeyT) : kysF a a = 0 := (kysF_zero a a).2 rfl
theorem kysSWO : SWO (ltOf kysF) := by
  refine ⟨fun x => by simp [ltOf, kysF_self], fun x y z h1 h2 => ?_, fun x y z h1 h2 => ?_⟩
  · simp only [ltOf, decide_eq_true_eq] at *
    have h3 := kysF_trans x y z (by omega) (by omega)
    rcases Int.lt_or_eq_of_le h3 with h | h
    · exact h
    · have := (kysF_zero x z).1 h
      subst this
      have := kysF_neg x y
      omega
  · simp only [ltOf, decide_eq_false_iff_not] at *
    have e1 := kysF_neg x y
    have e2 := kysF_neg y z
    have e3 := kysF_neg x z
    have h3 := kysF_trans z y x (by omega) (by omega)
    omega
theorem kysTotal (x y : KeyT) (h1 : ltOf kysF x y = false) (h2 : ltOf kysF y x = false) : x = y := by
  simp only [ltOf, decide_eq_false_iff_not] at *
  have := kysF_neg x y
  exact (kysF_zero x y).1 (by omega)
/-- The names in order. -/
def sortK (ss : List KeyT) : List KeyT := ss.mergeSort fun x y => !(ltOf kysF) y x
theorem sortK_nil : sortK [] = [] := by simp [sortK]
/-- Strictly rising. -/
def RisingK (ss : List KeyT) : Prop := ss.Pairwise (fun a b => kysF a b < 0)
theorem RisingK.nodup {ss : List KeyT} (h : RisingK ss) : ss.Nodup := h.imp (fun {a b} hab e => by subst e; rw [kysF_self] at hab; omega)
theorem sortK_unique (ss L : List KeyT) (hn : ss.Nodup) (hL : RisingK L) (hm : ∀ t, t ∈ L ↔ t ∈ ss) : sortK ss = L := by
  have hp : (sortK ss).Perm L := (List.mergeSort_perm ss _).trans ((List.perm_ext_iff_of_nodup hn hL.nodup).2 (fun t => (hm t).symm))
  refine List.Perm.eq_of_pairwise (le := fun a b => kysF a b ≤ 0) (fun a b _ _ h1 h2 => ?_) ?_ (hL.imp (fun h => by omega)) hp
  · have := kysF_neg a b
    exact (kysF_zero a b).1 (by omega)
  · have := List.pairwise_mergeSort (le := fun x y : KeyT => !(ltOf kysF) y x) (fun a b c h1 h2 => ?_) (fun a b => ?_) ss
    · exact this.imp (fun {a b} h => by
        simp only [ltOf, Bool.not_eq_true', decide_eq_false_iff_not] at h
        have := kysF_neg a b
        omega)
    · simp only [Bool.not_eq_true'] at h1 h2 ⊢
      exact kysSWO.ntrans _ _ _ h2 h1
    · simp only [ltOf, Bool.or_eq_true, Bool.not_eq_true', decide_eq_false_iff_not]
      have := kysF_neg a b
      omega
theorem rowK_get [Inhabited KeyT] : ∀ (ss : List KeyT) (t : Nat), t < ss.length * 8 → (rowK ss)[t]? = some ((kyCs ss[t / 8]!)[t % 8]!)
  | [], t, h => by simp at h
  | x :: r, t, h => by
    have e : rowK (x :: r) = kyCs x ++ rowK r := by simp [rowK]
    rw [e]
    by_cases h3 : t < 8
    · have : t = 0 ∨ t = 1 ∨ t = 2 ∨ t = 3 ∨ t = 4 ∨ t = 5 ∨ t = 6 ∨ t = 7 := by omega
      rcases this with rfl | rfl | rfl | rfl | rfl | rfl | rfl | rfl <;> simp
    · obtain ⟨s, rfl⟩ : ∃ s, t = s + 8 := ⟨t - 8, by omega⟩
      rw [List.getElem?_append_right (by simp)]
      have ih := rowK_get r s (by simp at h; omega)
      have e1 : (s + 8) / 8 = s / 8 + 1 := by omega
      have e2 : (s + 8) % 8 = s % 8 := by omega
      rw [e1, e2]
      simpa using ih
theorem flat_rowK [Inhabited KeyT] (ss : List KeyT) : flatK kyCs 8 ss.toArray = (rowK ss).toArray := by
  apply Array.ext
  · simp [rowK_length]
  · intro i h1 h2
    have hi : i < ss.length * 8 := by simpa using h1
    have e := rowK_get ss i hi
    have h3 : i < (rowK ss).length := by rw [rowK_length]; exact hi
    rw [List.getElem?_eq_getElem h3] at e
    have e' := Option.some.inj e
    simp only [List.getElem_toArray, e']
    simp [flatK]
theorem holds_rowK [Inhabited KeyT] {w : World} {g : Nat} {cur : Array Value} {e : TypeId} {ss : List KeyT} (hb : w.heap[g]? = some (.cells cur e (0, 0))) (ht : cur.toList.take (ss.length * 8) = rowK ss) : HoldsK kyCs 8 w g 0 ss.toArray := by
  unfold HoldsK
  rw [flat_rowK]
  intro j hj
  have hj' : j < (rowK ss).length := by simpa using hj
  refine ⟨?_, by simp [World.frozen?, hb]⟩
  have h1 : (cur.toList.take (ss.length * 8))[j]? = (rowK ss)[j]? := by rw [ht]
  rw [List.getElem?_take_of_lt (by rw [rowK_length] at hj'; exact hj')] at h1
  simp only [World.cell?, hb, Nat.zero_add]
  simp only [Option.isSome_none, Bool.false_eq_true, if_false]
  rw [← Array.getElem?_toList, h1]
  simp [hj']
theorem heap_sortWK [Inhabited KeyT] {w : World} {g n : Nat} {os : Array Obj} {cur : Array Value} {e : TypeId} (ts : List KeyT) (hb : w.heap[g]? = some (.cells cur e (0, 0))) :
    (sortWorldK kyCs 8 w g 0 n ts.toArray os).heap[g]? = some (.cells (putCells id 0 (rowK ts).toArray cur) e (0, 0)) := by
  have hg : g < w.heap.size := (Array.getElem?_eq_some_iff.1 hb).1
  unfold sortWorldK putRowK
  rw [flat_rowK, heap_grow_old _ _ (by simpa using hg)]
  simp [putRow, mapBlock, Sort.ahead, Array.getElem?_modify, hb, onCells]
theorem grown_sortWK [Inhabited KeyT] {w : World} {g n : Nat} {os : Array Obj} (d : Array KeyT) : w.grownBy (sortWorldK kyCs 8 w g 0 n d os) (some g) := by
  unfold sortWorldK putRowK
  refine ⟨rfl, rfl, rfl, by simp, fun k hk hne => ?_⟩
  rw [heap_grow_old _ _ (by simpa using hk)]
  have : g ≠ k := fun e => hne (by rw [e])
  simp [putRow, mapBlock, Sort.ahead, Array.getElem?_modify, this]
theorem take_putIdsK (cur : Array Value) (ts : List Value) (h : ts.length ≤ cur.size) : (putCells id 0 ts.toArray cur).toList.take ts.length = ts := by
  apply List.ext_getElem?
  intro j
  by_cases hj : j < ts.length
  · rw [List.getElem?_take_of_lt hj, Array.getElem?_toList]
    simp [putCells, hj, show j < cur.size by omega]
  · rw [List.getElem?_take_eq_none (by omega), List.getElem?_eq_none (by omega)]
theorem sortK_length (ss : List KeyT) : (sortK ss).length = ss.length := by simp [sortK]
theorem owns_sortedK [Inhabited KeyT] {w : World} {base g cap n : Nat} {e : TypeId} {os : Array Obj} {cur : Array Value} {ss : List KeyT} (hbase : base ≤ g) (hb : w.heap[g]? = some (.cells cur e (0, 0)))
    (h1 : ss.length ≤ cap) (h2 : cap ≤ maxLen) (h3 : cur.size = cap * 8) :
    (sortWorldK kyCs 8 w g 0 n (sortK ss).toArray os).ownsRow base e 8 (.slice (some ⟨g, 0, none⟩) ss.length cap) ss.length (rowK (sortK ss)) := by
  have hl : (rowK (sortK ss)).length = ss.length * 8 := by rw [rowK_length, sortK_length]
  refine ⟨hl, .inr ⟨g, cap, _, rfl, hbase, heap_sortWK _ hb, h1, h2, by simp [putCells, h3], ?_⟩⟩
  have := take_putIdsK cur (rowK (sortK ss)) (by rw [hl]; omega)
  rw [hl] at this
  exact this
theorem Grown.drewN {w w' : World} (h : Grown w w') (n : Nat) : Grown w (w'.drewN n) := by
  obtain ⟨q, os, rfl⟩ := h
  exact ⟨q + n, os, by simp only [Sort.grow, World.drewN, Nat.add_assoc]⟩
set_option maxRecDepth 100000 in
set_option maxHeartbeats 1600000 in
theorem keysG0 (a b : List Int) (w : World) (ha : a.length = 8) (hb : b.length = 8) (hx : ∀ c ∈ a, 0 ≤ c ∧ c < 256) (hy : ∀ c ∈ b, 0 ≤ c ∧ c < 256) : Calls Tryz.prog 76 #[.agg (cells8 a), .agg (cells8 b)] w fun e w' => e = .returned (.int .i64 (lexF a b)) ∧ Grown w w' := by
  have hA : Box ((w.alloc (.cells (cells8 a) 38)).alloc (.cells (cells8 b) 38)) w.heap.size (cells8 a) 38 := (box_new w _ _).belowI ((Below.refl _ _).alloc (Nat.le_refl _) _)
  have hB : Box ((w.alloc (.cells (cells8 a) 38)).alloc (.cells (cells8 b) 38)) (w.heap.size + 1) (cells8 b) 38 := by
    have := box_new (w.alloc (.cells (cells8 a) 38)) (cells8 b) 38
    rw [World.size_alloc] at this
    exact this
  have hc1 : ∀ n t, t < a.length → (((w.alloc (.cells (cells8 a) 38)).alloc (.cells (cells8 b) 38)).drewN n).cell? ⟨w.heap.size, 0 + t, none⟩ = some (.int .u8 (a.getD t 0)) := fun n t ht => by
    rw [Nat.zero_add]; exact hA.cell t _ (by simp [cells8, List.getD, ht])
  have hc2 : ∀ n t, t < b.length → (((w.alloc (.cells (cells8 a) 38)).alloc (.cells (cells8 b) 38)).drewN n).cell? ⟨w.heap.size + 1, 0 + t, none⟩ = some (.int .u8 (b.getD t 0)) := fun n t ht => by
    rw [Nat.zero_add]; exact hB.cell t _ (by simp [cells8, List.getD, ht])
  have HC : Hid (∀ n, Calls Tryz.prog 105 #[.slice (some ⟨w.heap.size, 0, none⟩) 8 8, .slice (some ⟨w.heap.size + 1, 0, none⟩) 8 8] (((w.alloc (.cells (cells8 a) 38)).alloc (.cells (cells8 b) 38)).drewN n) fun e w' => e = .returned (.int .i64 (lexF a b)) ∧ w' = (((w.alloc (.cells (cells8 a) 38)).alloc (.cells (cells8 b) 38)).drewN n)) := hide (fun n => by
    have h := bcompare_any _ w.heap.size 0 8 (w.heap.size + 1) 0 8 a b (hc1 n) (hc2 n) (by omega) hx hy
    rw [ha, hb] at h
    exact h)
  clear hA hB hc1 hc2 hx hy
  generalize lexF a b = r at *
  generalize cells8 a = ca at *
  generalize cells8 b = cb at *
  go_enter Tryz.func76, Tryz.ntmps76
  go_wp2
  go_quiet ((go_at_call 105; exact Calls.quiet_of_same (HC.out _)))
  go_wp2
  go_ret
  exact ⟨rfl, (((Grown.refl w).alloc _).alloc _).drewN _⟩
theorem keysG_any (x y : KeyT) (w : World) : Calls Tryz.prog 76 #[.agg (eightA x.1), .agg (eightA y.1)] w fun e w' => e = .returned (.int .i64 (kysF x y)) ∧ Grown w w' := by
  have h := keysG0 x.1 y.1 w x.2.l y.2.l x.2.b y.2.b
  have e1 : cells8 x.1 = eightA x.1 := by unfold cells8; rw [← eightE_map x.2.l]
  have e2 : cells8 y.1 = eightA y.1 := by unfold cells8; rw [← eightE_map y.2.l]
  rw [e1, e2] at h
  exact h
theorem cmpLaysK [Inhabited KeyT] (blk off size : Nat) (w : World) : CmpLays Tryz.prog 76 #[] kyCs 8 kysF blk off size w := by
  intro m os dk _ x y
  refine (keysG_any x y _).mono ?_
  rintro e' w' ⟨rfl, q, os', h⟩
  exact ⟨rfl, q, os', h⟩
theorem sortF_anyK [Inhabited KeyT] (g cap : Nat) (cur : Array Value) (ss : List KeyT) (w : World) (hb : w.heap[g]? = some (.cells cur 38 (0, 0))) (h1 : ss.length ≤ cap) (h2 : cap ≤ maxLen) (h3 : cur.size = cap * 8) (h4 : cur.toList.take (ss.length * 8) = rowK ss) (base : Nat) (hbase : base ≤ g) (hss : ss.length ≤ 1000000) :
    Calls Tryz.prog 75 #[.slice (some ⟨g, 0, none⟩) ss.length cap, .func (.func 76) #[] #[]] w fun e w' => e = .returned (.tuple #[]) ∧ w'.ownsRow base 38 8 (.slice (some ⟨g, 0, none⟩) ss.length cap) ss.length (rowK (sortK ss)) ∧ w.grownBy w' (some g) := by
  have hg : g < w.heap.size := (Array.getElem?_eq_some_iff.1 hb).1
  have h := AnyQ.slices_SortFunc_total Tryz.sortKL 8 Tryz.isAgg38 Tryz.sizeOf38 kyCs (fun _ => rfl) (fun x v hv => by simp at hv; rcases hv with rfl | rfl | rfl | rfl | rfl | rfl | rfl | rfl <;> rfl) kysF kysSWO 76 #[] g 0 cap ss.toArray w
    (enters_of Tryz.func76 (by kernel_rfl) rfl) (cmpLaysK _ _ _ _) (holds_rowK hb h4) hg (by simp; omega) kysTotal
  refine Calls.mono h ?_
  rintro e w' ⟨rfl, n, os, rfl⟩
  exact ⟨rfl, owns_sortedK hbase hb h1 h2 h3, grown_sortWK _⟩
theorem sortF_noneK (p : Option Addr) (cap : Nat) (fv : Value) (w : World) :
    Calls Tryz.prog 75 #[.slice p 0 cap, fv] w fun e w' => e = .returned (.tuple #[]) ∧ w' = w := AnyF.slices_SortFunc_none Tryz.sortKL p cap fv w
theorem own_baseK {w : World} {a b : Nat} {e : TypeId} {size : Nat} {v : Value} {n : Nat} {xs : List Value} (h : w.ownsRow b e size v n xs) (hab : a ≤ b) : w.ownsRow a e size v n xs :=
  ⟨h.1, h.2.imp id (fun ⟨g, cap, cur, h1, h2, h3⟩ => ⟨g, cap, cur, h1, Nat.le_trans hab h2, h3⟩)⟩
end
section
open Go.RowKit Go.Maps Classical

/-- A user as a map's element. -/
abbrev E15 : Type := Nat × TxN × Bool × Option Nat × Option Nat
abbrev usA (e : E15) : Array Value := #[.int .u32 (e.1 : Int), .int .u8 (e.2.1.1 : Int), .int .u32 (e.2.1.2.1 : Int), .int .u32 (e.2.1.2.2 : Int), .bool e.2.2.1, .map e.2.2.2.1, .map e.2.2.2.2]
abbrev usV (e : E15) : Value := .agg (usA e)
def zE : E15 := (0, (0, 0, 0), false, none, none)
theorem umTy : MapTy 67 34 83 (fun t : TxT => txVN t.1) (fun t => txKey (txI t.1)) usV zE where
  und := Tryz.underlying67
  keyed := txKeyed
  key := fun k => keyOf_tx (txI k.1) (txI_ok k.2)
  inj := fun k l h => Subtype.ext (txI_inj (txKey_inj (txI_ok k.2) (txI_ok l.2) h))
  inv := fun v kl h => by
    obtain ⟨x, hx, rfl, rfl⟩ := keyOf_tx_inv h
    obtain ⟨t, rfl⟩ := tx_back hx
    exact ⟨t, rfl, rfl⟩
  zero := fun w => by kernel_rfl
  einj := fun a b h => by
    obtain ⟨a1, ⟨a2, a3, a4⟩, a5, a6, a7⟩ := a
    obtain ⟨b1, ⟨b2, b3, b4⟩, b5, b6, b7⟩ := b
    simp at h
    obtain ⟨h1, h2, h3, h4, h5, h6, h7⟩ := h
    have e1 : a1 = b1 := by omega
    have e2 : a2 = b2 := by omega
    have e3 : a3 = b3 := by omega
    have e4 : a4 = b4 := by omega
    rw [e1, e2, e3, e4, h5, h6, h7]
abbrev u8V (n : Nat) : Value := .int .u8 (n : Int)
theorem mmTy : MapTy 81 38 5 (fun k : KeyT => kyV k.1) (fun k => kyKey k.1) u8V 0 where
  und := Tryz.underlying81
  keyed := kyKeyed
  key := fun k => keyOf_ky k.1 k.2
  inj := fun k l h => Subtype.ext (kyKey_inj k.2 l.2 h)
  inv := fun v kl h => keyOf_ky_inv h
  zero := fun w => by kernel_rfl
  einj := fun a b h => by simp at h; omega
abbrev UMap (w : World) (b : Nat) (g : TxT → Option E15) (n : Nat) : Prop := GMap 34 (fun t : TxT => txKey (txI t.1)) usV w b g n
abbrev gM (f : KeyT → Nat) (k : KeyT) : Option Nat := if f k = 0 then none else some (f k)
abbrev MMap (w : World) (b : Nat) (f : KeyT → Nat) (n : Nat) : Prop := GMap 38 (fun k : KeyT => kyKey k.1) u8V w b (gM f) n
abbrev gU (l : List (UsP KeyT)) (p : TxN → Nat × Nat) (t : TxT) : Option E15 := (usL l t.1).map fun u => (u.tm, u.tx, u.pr, some (p t.1).1, some (p t.1).2)
theorem gM_getD (f : KeyT → Nat) (k : KeyT) : (gM f k).getD 0 = f k := by
  unfold gM
  split
  · rename_i h; rw [h]; rfl
  · rfl
theorem gM_some (f : KeyT → Nat) (k : KeyT) : (gM f k).isSome = true ↔ f k ≠ 0 := by
  unfold gM
  split
  · rename_i h; simp [h]
  · rename_i h; simp [h]
/-- A map of modes, or none, reads as this. -/
def MRead (w : World) (mb : Option Nat) (f : KeyT → Nat) : Prop := (mb = none ∧ ∀ k, f k = 0) ∨ ∃ b n, mb = some b ∧ MMap w b f n
theorem MRead.look {w : World} {mb : Option Nat} {f : KeyT → Nat} (h : MRead w mb f) (k : KeyT) : (Instr.lookup 81 (.map mb) (kyV k.1) false).run Tryz.prog w = .ok (.int .u8 (f k : Int)) w := by
  rcases h with ⟨rfl, h0⟩ | ⟨b, n, rfl, hm⟩
  · rw [h0 k]
    exact Maps.look_nil false mmTy.keyed mmTy.und (mmTy.zero w) (mmTy.key k)
  · have := hm.look1 mmTy k
    rw [gM_getD] at this
    exact this
theorem gmap_pos {K E : Type} {mt kt et : TypeId} {kV : K → Value} {kL : K → Lit} {eV : E → Value} {z : E} {w : World} {b n : Nat} {g : K → Option E} (T : MapTy mt kt et kV kL eV z) (h : GMap kt kL eV w b g n) : 0 < n ↔ ∃ k, (g k).isSome = true := by
  constructor
  · intro hn
    by_cases he : ∃ k, (g k).isSome = true
    · exact he
    · have := h.few T [] (fun k hk => absurd ⟨k, hk⟩ he)
      simp at this
      omega
  · rintro ⟨k, hk⟩
    obtain ⟨R, D, hR, ho, hs, hh, ha⟩ := h.own
    obtain ⟨es, clock, hb, F, _, rfl⟩ := ho
    rw [← hs]
    rw [← hh k] at hk
    cases hl : (es.toList.map (WideElems.rg Tryz.prog kt R)).foldr DataW.insert [] with
    | nil => rw [hl] at hk; cases hk
    | cons x xs => simp [Maps.size]
theorem MRead.len {w : World} {mb : Option Nat} {f : KeyT → Nat} (h : MRead w mb f) : ∃ n : Nat, (∀ ty, (Builtin.len_ #[81] ty #[.map mb]).run Tryz.prog w = .ok (.int .i64 (n : Int)) w) ∧ (0 < n ↔ ∃ k, f k ≠ 0) := by
  rcases h with ⟨rfl, h0⟩ | ⟨b, n, rfl, hm⟩
  · refine ⟨0, fun ty => ?_, ⟨fun h => absurd h (by decide), fun ⟨k, hk⟩ => absurd (h0 k) hk⟩⟩
    simp [go_sem, Tryz.underlying81]
  · exact ⟨n, fun ty => hm.len mmTy ty, (gmap_pos mmTy hm).trans ⟨fun ⟨k, hk⟩ => ⟨k, (gM_some f k).1 hk⟩, fun ⟨k, hk⟩ => ⟨k, (gM_some f k).2 hk⟩⟩⟩
theorem MRead.keep {S : Nat → Prop} {w w' : World} {mb : Option Nat} {f : KeyT → Nat} (h : MRead w mb f) (hk : KeepBut S w w') (hS : ∀ b, mb = some b → ¬ S b) : MRead w' mb f := by
  rcases h with h | ⟨b, n, rfl, hm⟩
  · exact .inl h
  · exact .inr ⟨b, n, rfl, hm.keep hk (hS b rfl)⟩
/-- At q lies a table that New gave: its map is block b, each user's maps are p's; none has more than C entries. -/
structure PLk (w : World) (q b C : Nat) (p : TxN → Nat × Nat) (l : List (UsP KeyT)) : Prop where
  box : Box w q #[.map (some b)] 69
  m : UMap w b (gU l p) l.length
  maps : ∀ u ∈ l, ∃ n n', MMap w (p u.tx).1 u.h n ∧ MMap w (p u.tx).2 u.w n' ∧ n + n' ≤ C
  ap : ∀ u ∈ l, (p u.tx).1 ≠ (p u.tx).2 ∧ (p u.tx).1 ≠ b ∧ (p u.tx).2 ≠ b
  ap2 : ∀ u ∈ l, ∀ v ∈ l, u.tx ≠ v.tx → (p u.tx).1 ≠ (p v.tx).1 ∧ (p u.tx).1 ≠ (p v.tx).2 ∧ (p u.tx).2 ≠ (p v.tx).2
  ok : LkB l
/-- Its blocks. -/
def FLk (q b : Nat) (p : TxN → Nat × Nat) (l : List (UsP KeyT)) (k : Nat) : Prop := k = q ∨ k = b ∨ ∃ u ∈ l, (p u.tx).1 = k ∨ (p u.tx).2 = k
/-- The program's table. -/
def PL15 (w : World) (q : Nat) (F : Nat → Prop) (C : Nat) (l : List (UsP KeyT)) : Prop := ∃ b p, PLk w q b C p l ∧ ∀ k, F k ↔ FLk q b p l k
section
variable {w w' : World} {q b C : Nat} {p : TxN → Nat × Nat} {l : List (UsP KeyT)}
theorem PLk.keep {S : Nat → Prop} (h : PLk w q b C p l) (hk : KeepBut S w w') (hS : ∀ k, FLk q b p l k → ¬ S k) : PLk w' q b C p l :=
  ⟨h.box.keep hk (hS _ (.inl rfl)), h.m.keep hk (hS _ (.inr (.inl rfl))), fun u hu => by
    obtain ⟨n, n', h1, h2, h3⟩ := h.maps u hu
    exact ⟨n, n', h1.keep hk (hS _ (.inr (.inr ⟨u, hu, .inl rfl⟩))), h2.keep hk (hS _ (.inr (.inr ⟨u, hu, .inr rfl⟩))), h3⟩, h.ap, h.ap2, h.ok⟩
theorem PLk.below (h : PLk w q b C p l) (hB : Below w.heap.size w w') : PLk w' q b C p l := h.keep (KeepBut.of_below (fun _ => False) hB) (fun _ _ h => h)
theorem PLk.flt (h : PLk w q b C p l) {k : Nat} (hk : FLk q b p l k) : k < w.heap.size := by
  rcases hk with rfl | rfl | ⟨u, hu, rfl | rfl⟩
  · exact h.box.lt
  · exact h.m.lt
  · obtain ⟨n, n', h1, _⟩ := h.maps u hu
    exact h1.lt
  · obtain ⟨n, n', _, h2, _⟩ := h.maps u hu
    exact h2.lt
theorem PLk.q_ne (h : PLk w q b C p l) : q ≠ b ∧ ∀ u ∈ l, q ≠ (p u.tx).1 ∧ q ≠ (p u.tx).2 := ⟨h.m.ne h.box, fun u hu => by
  obtain ⟨n, n', h1, h2, _⟩ := h.maps u hu
  exact ⟨h1.ne h.box, h2.ne h.box⟩⟩
theorem PLk.more (h : PLk w q b C p l) {C' : Nat} (hC : C ≤ C') : PLk w q b C' p l := ⟨h.box, h.m, fun u hu => by
  obtain ⟨n, n', h1, h2, h3⟩ := h.maps u hu
  exact ⟨n, n', h1, h2, Nat.le_trans h3 hC⟩, h.ap, h.ap2, h.ok⟩
/-- What a user's maps read as. -/
theorem PLk.read (h : PLk w q b C p l) (t : TxT) : MRead w ((gU l p t).getD zE).2.2.2.1 (getU l t.1).h ∧ MRead w ((gU l p t).getD zE).2.2.2.2 (getU l t.1).w ∧ ((gU l p t).getD zE).2.2.1 = (getU l t.1).pr := by
  cases hu : usL l t.1 with
  | none =>
    have e : gU l p t = none := by show (usL l t.1).map _ = _; rw [hu]; rfl
    rw [e, getU_none hu]
    exact ⟨.inl ⟨rfl, fun _ => rfl⟩, .inl ⟨rfl, fun _ => rfl⟩, rfl⟩
  | some u =>
    have e : gU l p t = some (u.tm, u.tx, u.pr, some (p t.1).1, some (p t.1).2) := by show (usL l t.1).map _ = _; rw [hu]; rfl
    have eg : getU l t.1 = u := by unfold getU; rw [hu]; rfl
    obtain ⟨hm, et⟩ := (usL_some h.ok).1 hu
    obtain ⟨n, n', h1, h2, _⟩ := h.maps u hm
    rw [e, eg]
    rw [et] at h1 h2
    exact ⟨.inr ⟨_, n, rfl, h1⟩, .inr ⟨_, n', rfl, h2⟩, rfl⟩
end
theorem pl_keep {w w' : World} {q C : Nat} {F S : Nat → Prop} {l : List (UsP KeyT)} (h : PL15 w q F C l) (hk : KeepBut S w w') (hS : ∀ k, F k → ¬ S k) : PL15 w' q F C l := by
  obtain ⟨b, p, h1, h2⟩ := h
  exact ⟨b, p, h1.keep hk (fun k hk => hS k ((h2 k).2 hk)), h2⟩
theorem pl_lt {w : World} {q C : Nat} {F : Nat → Prop} {l : List (UsP KeyT)} (h : PL15 w q F C l) : ∀ k, F k → k < w.heap.size := by
  obtain ⟨b, p, h1, h2⟩ := h
  exact fun k hk => h1.flt ((h2 k).1 hk)
theorem lkNew_any (w : World) : Calls Tryz.prog 6 #[] w fun e w' => ∃ q F, e = .returned (.pointer (some ⟨q, 0, none⟩)) ∧ PL15 w' q F 0 [] ∧ (∀ k, F k → w.heap.size ≤ k) ∧ Below w.heap.size w w' := by
  have hmm := @run_makeMap Tryz.prog
  go_enter Tryz.func6, Tryz.ntmps6
  go_wp2
  go_ret
  have hA := alloc_below14 w (.map #[] 0)
  have hA2 := alloc_below14 (w.alloc (.map #[] 0)) (.cells #[.map (some w.heap.size)] 69)
  have h1 := (gmap_made umTy w).below hA2
  have h3 := box_new (w.alloc (.map #[] 0)) #[.map (some w.heap.size)] 69
  refine ⟨w.heap.size + 1, FLk (w.heap.size + 1) w.heap.size (fun _ => (0, 0)) [], by simp, ⟨w.heap.size, fun _ => (0, 0), ⟨by simpa using h3, h1, (fun u hu => by cases hu), (fun u hu => by cases hu), (fun u hu => by cases hu), lkb_nil⟩, fun k => Iff.rfl⟩, fun k hk => ?_, hA.trans (hA2.mono hA.size)⟩
  rcases hk with rfl | rfl | ⟨u, hu, _⟩
  · omega
  · omega
  · cases hu
theorem neqSomeL (b : Nat) (w : World) : (binOp .neq 67 (.map (some b)) (.map none)).run Tryz.prog w = .ok (.bool true) w := by kernel_rfl
theorem made15 (q b : Nat) (w : World) (h : Box w q #[.map (some b)] 69) : Calls Tryz.prog 36 #[.pointer (some ⟨q, 0, none⟩)] w fun e w' => e = .returned (.bool true) ∧ w' = w := by
  have h0 := h.cell 0 _ rfl
  have hm := neqSomeL b
  go_enter Tryz.func36, Tryz.ntmps36
  go_wp2
  go_ret
  exact ⟨rfl, rfl⟩
theorem infoUs15 : (Tryz.prog.info? 83).map (·.size) = some 7 := by kernel_rfl
theorem infoTx15 : (Tryz.prog.info? 34).map (·.size) = some 3 := by kernel_rfl
theorem infoKey15 : (Tryz.prog.info? 38).map (·.size) = some 8 := by kernel_rfl
theorem infoSt15 : (Tryz.prog.info? 36).map (·.size) = some 4 := by kernel_rfl
/-- A user stored whole, under a name. -/
def stU (a v : Value) : Sem Unit := Instr.storeAt 83 a v
theorem stU_hide (a v : Value) : Instr.storeAt 83 a v = stU a v := rfl
set_option maxRecDepth 100000 in
theorem run_stU {w : World} {p : Nat} {cs : Array Value} {t0 : TypeId} (h : Box w p cs t0) (hs : cs.size = 7) (e : E15) : ∃ w', (stU (.pointer (some ⟨p, 0, none⟩)) (usV e)).run Tryz.prog w = .ok () w' ∧ Box w' p (usA e) t0 ∧ KeepBut (fun k => k = p) w w' := by
  have hr := run_storeVar_row (P := Tryz.prog) w p t0 83 cs (usA e) h infoUs15 hs (by simp [Value.oneCell'])
  refine ⟨w.setRow p (usA e), ?_, setRow_heap w p cs _ t0 (0, 0) h, rfl, rfl, rfl, by simp [World.setRow], fun k _ hS => setRow_other w p k _ hS⟩
  unfold stU
  simp only [Instr.storeAt, Instr.sureAddr, Sem.run_bind, Sem.run_pure, Result.andThen_ok, hr]
attribute [local go_sem ↓] stU_hide
set_option maxRecDepth 100000 in
set_option maxHeartbeats 1600000 in
theorem lkFind_any (q b C : Nat) (p : TxN → Nat × Nat) (l : List (UsP KeyT)) (t : TxN) (w : World) (h : PLk w q b C p l) (ht : TxB t) :
    Calls Tryz.prog 43 #[.pointer (some ⟨q, 0, none⟩), txVN t] w fun e w' => e = .returned (usV ((gU l p ⟨t, ht⟩).getD zE)) ∧ Below w.heap.size w w' := by
  have hA := alloc_below14 w (.cells #[.int .u8 (t.1 : Int), .int .u32 (t.2.1 : Int), .int .u32 (t.2.2 : Int)] 34)
  have hA2 := alloc_below14 (w.alloc (.cells #[.int .u8 (t.1 : Int), .int .u32 (t.2.1 : Int), .int .u32 (t.2.2 : Int)] 34)) (.cells (usA zE) 83)
  have hB2 := hA.trans (hA2.mono hA.size)
  have H2 := hide (h.below hB2)
  have CM := hide (made15 q b _ H2.out.box)
  have HXK := hide ((box_new w #[.int .u8 (t.1 : Int), .int .u32 (t.2.1 : Int), .int .u32 (t.2.2 : Int)] 34).belowI hA2)
  have HXR : Hid (Box ((w.alloc (.cells #[.int .u8 (t.1 : Int), .int .u32 (t.2.1 : Int), .int .u32 (t.2.2 : Int)] 34)).alloc (.cells (usA zE) 83)) (w.heap.size + 1) (usA zE) 83) := hide (by have := box_new (w.alloc (.cells #[.int .u8 (t.1 : Int), .int .u32 (t.2.1 : Int), .int .u32 (t.2.2 : Int)] 34)) (usA zE) 83; simpa using this)
  have HB2 := hide hB2
  have HTB := hide ht
  obtain ⟨⟨tm, ⟨ta, tb, tc⟩, pr, hb, wb⟩, hE⟩ : ∃ E : E15, E = (gU l p ⟨t, ht⟩).getD zE := ⟨_, rfl⟩
  rw [← hE]
  have HE := hide hE
  clear hA hA2 hB2 h hE
  go_enter Tryz.func43, Tryz.ntmps43
  go_wp2_with fail
  refine CM.out.mono ?_
  rintro e w1 ⟨rfl, hw1⟩
  replace H2 : Hid (PLk w1 q b C p l) := hide (by rw [hw1]; exact H2.out)
  replace HXK : Hid (Box w1 w.heap.size #[.int .u8 (t.1 : Int), .int .u32 (t.2.1 : Int), .int .u32 (t.2.2 : Int)] 34) := hide (by rw [hw1]; exact HXK.out)
  replace HXR : Hid (Box w1 (w.heap.size + 1) (usA zE) 83) := hide (by rw [hw1]; exact HXR.out)
  replace HB2 : Hid (Below w.heap.size w w1) := hide (by rw [hw1]; exact HB2.out)
  clear hw1 CM
  have h0 : w1.cell? ⟨q, 0, none⟩ = some (.map (some b)) := H2.out.box.cell 0 _ rfl
  obtain ⟨k0, k1, k2⟩ := HXK.out.three
  have L1 := (H2.out.m.below (below_drew14 w1)).look1 umTy ⟨t, HTB.out⟩
  rw [← HE.out] at L1
  obtain ⟨w3, hst, hx, hk⟩ := run_stU (HXR.out.belowI (below_drew14 w1)) rfl (tm, (ta, tb, tc), pr, hb, wb)
  have HX3 := hide hx
  have HB3 : Hid (Below w.heap.size w w3) := hide ((HB2.out.trans ((below_drew14 w1).mono HB2.out.size)).trans (hk.below HB2.out.size (fun k hk => by omega)))
  clear hx hk
  go_wp2_with fail
  go_region
  go_wp2_with fail
  exact bodyPost_ret (v := usV (tm, (ta, tb, tc), pr, hb, wb)) (results_box Tryz.results43 _ _ (w.heap.size + 1) rfl HX3.out Tryz.underlying83 rfl infoUs15) rfl ⟨rfl, HB3.out⟩
end
section
open Go.RowKit

theorem lies_of3 (k : IntKind) (w : World) (b : Nat) (x y z : Int) (hb : b < w.heap.size) (h0 : w.cell? ⟨b, 0, none⟩ = some (.int k x)) (h1 : w.cell? ⟨b, 1, none⟩ = some (.int k y)) (h2 : w.cell? ⟨b, 2, none⟩ = some (.int k z)) : Lies k w (.slice (some ⟨b, 0, none⟩) 3 3) [x, y, z] := by
  refine .inr ⟨by simp, b, 0, 3, rfl, hb, by simp, by unfold maxLen; omega, fun i hi => ?_⟩
  match i, hi with
  | 0, _ => exact h0
  | 1, _ => exact h1
  | 2, _ => exact h2
theorem lies_of2 (k : IntKind) (w : World) (b : Nat) (x y : Int) (hb : b < w.heap.size) (h0 : w.cell? ⟨b, 0, none⟩ = some (.int k x)) (h1 : w.cell? ⟨b, 1, none⟩ = some (.int k y)) : Lies k w (.slice (some ⟨b, 0, none⟩) 2 2) [x, y] := by
  refine .inr ⟨by simp, b, 0, 2, rfl, hb, by simp, by unfold maxLen; omega, fun i hi => ?_⟩
  match i, hi with
  | 0, _ => exact h0
  | 1, _ => exact h1
theorem orL3 (a b c d e f : Int) : orL [cmpF a d, cmpF b e, cmpF c f] = txsF (a, b, c) (d, e, f) := rfl
theorem orL2 (s t : Int) (a b : TxP) : orL [cmpF s t, txsF a b] = stsF (s, a) (t, b) := by
  show orF (cmpF s t) (orF (txsF a b) 0) = orF (cmpF s t) (lexF (txL a) (txL b))
  have : orF (txsF a b) 0 = txsF a b := by unfold orF; split <;> omega
  rw [this]
  rfl
set_option maxRecDepth 100000 in
set_option maxHeartbeats 400000 in
theorem txs_any (a b c d e f : Int) (w : World) : Calls Tryz.prog 39 #[.agg #[.int .u8 a, .int .u32 b, .int .u32 c], .agg #[.int .u8 d, .int .u32 e, .int .u32 f]] w fun e' w' => e' = .returned (.int .i64 (txsF (a, b, c) (d, e, f))) ∧ Grown w w' := by
  have hG0 := (((Grown.refl w).alloc (.cells #[.int .u8 a, .int .u32 b, .int .u32 c] 34)).alloc (.cells #[.int .u8 d, .int .u32 e, .int .u32 f] 34)).drew
  have HO : Hid (∀ (W : World) (B : Nat), B < W.heap.size → W.cell? ⟨B, 0, none⟩ = some (.int .i64 (cmpF a d)) → W.cell? ⟨B, 1, none⟩ = some (.int .i64 (cmpF b e)) → W.cell? ⟨B, 2, none⟩ = some (.int .i64 (cmpF c f)) → Calls Tryz.prog 69 #[.slice (some ⟨B, 0, none⟩) 3 3] W fun e' w' => e' = .returned (.int .i64 (txsF (a, b, c) (d, e, f))) ∧ w' = W) := hide (fun W B h0 h1 h2 h3 => by
    have h4 := or_any [cmpF a d, cmpF b e, cmpF c f] _ _ (lies_of3 .i64 W B _ _ _ h0 h1 h2 h3) (by simp)
    rw [orL3] at h4
    exact h4)
  have C1 := hide (fun w => cmp8_any a d w)
  have C2 := hide cmp32_any
  have HG0 := hide hG0
  clear hG0
  generalize txsF (a, b, c) (d, e, f) = r at *
  go_enter Tryz.func39, Tryz.ntmps39
  go_wp2_with fail
  go_region_held (fun w' => w'.cell? ⟨w.heap.size, 0, none⟩ = some (.int .u8 a) ∧ w'.cell? ⟨w.heap.size, 1, none⟩ = some (.int .u32 b) ∧ w'.cell? ⟨w.heap.size, 2, none⟩ = some (.int .u32 c) ∧ w'.cell? ⟨w.heap.size + 1, 0, none⟩ = some (.int .u8 d) ∧ w'.cell? ⟨w.heap.size + 1, 1, none⟩ = some (.int .u32 e) ∧ w'.cell? ⟨w.heap.size + 1, 2, none⟩ = some (.int .u32 f)) (go_keep) (first
    | (go_at_call 70; refine (C1.out _).mono ?_; rintro e' w1 ⟨rfl, rfl⟩)
    | (go_at_call 71; refine (C2.out _ _ _).mono ?_; rintro e' w1 ⟨rfl, rfl⟩)
    | (go_at_call 69; refine (HO.out _ _ (by simp) (new_cell _ _ _ _ _ _ (by simp) rfl) (new_cell _ _ _ _ _ _ (by simp) rfl) (new_cell _ _ _ _ _ _ (by simp) rfl)).mono ?_; rintro e' w1 ⟨rfl, rfl⟩))
  go_wp2_with fail
  go_ret
  exact ⟨rfl, ((((Grown.refl w).alloc _).alloc _).alloc _).drew⟩
set_option maxRecDepth 100000 in
set_option maxHeartbeats 1600000 in
theorem stamps_any (s a b c t d e f : Int) (w : World) : Calls Tryz.prog 74 #[.agg #[.int .u32 s, .int .u8 a, .int .u32 b, .int .u32 c], .agg #[.int .u32 t, .int .u8 d, .int .u32 e, .int .u32 f]] w fun e' w' => e' = .returned (.int .i64 (stsF (s, a, b, c) (t, d, e, f))) ∧ Grown w w' := by
  have HO : Hid (∀ (W : World) (B : Nat), B < W.heap.size → W.cell? ⟨B, 0, none⟩ = some (.int .i64 (cmpF s t)) → W.cell? ⟨B, 1, none⟩ = some (.int .i64 (txsF (a, b, c) (d, e, f))) → Calls Tryz.prog 69 #[.slice (some ⟨B, 0, none⟩) 2 2] W fun e' w' => e' = .returned (.int .i64 (stsF (s, a, b, c) (t, d, e, f))) ∧ w' = W) := hide (fun W B h0 h1 h2 => by
    have h4 := or_any [cmpF s t, txsF (a, b, c) (d, e, f)] _ _ (lies_of2 .i64 W B _ _ h0 h1 h2) (by simp)
    rw [orL2] at h4
    exact h4)
  have C1 := hide cmp32_any
  have C2 := hide (fun w => txs_any a b c d e f w)
  have HS0 : Hid (Box ((w.alloc (.cells #[.int .u32 s, .int .u8 a, .int .u32 b, .int .u32 c] 36)).alloc (.cells #[.int .u32 t, .int .u8 d, .int .u32 e, .int .u32 f] 36)).drew w.heap.size #[.int .u32 s, .int .u8 a, .int .u32 b, .int .u32 c] 36) := hide ((box_new w _ _).belowI (((Below.refl _ _).alloc (Nat.le_refl _) _).drew))
  have HT0 : Hid (Box ((w.alloc (.cells #[.int .u32 s, .int .u8 a, .int .u32 b, .int .u32 c] 36)).alloc (.cells #[.int .u32 t, .int .u8 d, .int .u32 e, .int .u32 f] 36)).drew (w.heap.size + 1) #[.int .u32 t, .int .u8 d, .int .u32 e, .int .u32 f] 36) := hide (by
    have := box_new (w.alloc (.cells #[.int .u32 s, .int .u8 a, .int .u32 b, .int .u32 c] 36)) #[.int .u32 t, .int .u8 d, .int .u32 e, .int .u32 f] 36
    rw [World.size_alloc] at this
    exact this)
  generalize txsF (a, b, c) (d, e, f) = q at *
  generalize stsF (s, a, b, c) (t, d, e, f) = r at *
  have HG0 := hide (((Grown.refl w).alloc (.cells #[.int .u32 s, .int .u8 a, .int .u32 b, .int .u32 c] 36)).alloc (.cells #[.int .u32 t, .int .u8 d, .int .u32 e, .int .u32 f] 36)).drew
  go_enter Tryz.func74, Tryz.ntmps74
  go_wp2_with fail
  go_region_held (fun w' => w'.cell? ⟨w.heap.size, 0, none⟩ = some (.int .u32 s) ∧ w'.cell? ⟨w.heap.size, 1, none⟩ = some (.int .u8 a) ∧ w'.cell? ⟨w.heap.size, 2, none⟩ = some (.int .u32 b) ∧ w'.cell? ⟨w.heap.size, 3, none⟩ = some (.int .u32 c) ∧ w'.cell? ⟨w.heap.size + 1, 0, none⟩ = some (.int .u32 t) ∧ w'.cell? ⟨w.heap.size + 1, 1, none⟩ = some (.int .u8 d) ∧ w'.cell? ⟨w.heap.size + 1, 2, none⟩ = some (.int .u32 e) ∧ w'.cell? ⟨w.heap.size + 1, 3, none⟩ = some (.int .u32 f)) (go_keep) (first
    | (go_at_call 71; refine (C1.out _ _ _).mono ?_; rintro e' w1 ⟨rfl, rfl⟩)
    | (go_at_call 39; refine (C2.out _).mono ?_; rintro e' w1 ⟨rfl, hG⟩; have HG1 := hide (HG0.out.trans hG); obtain ⟨a0, a1, a2, a3⟩ := (HS0.out.belowI hG.below).four; obtain ⟨b0, b1, b2, b3⟩ := (HT0.out.belowI hG.below).four; have hz1 := hG.below.size; clear hG)
    | (go_at_call 69; refine (HO.out _ _ (by simp) (new_at _ _ _ _ _ _ rfl rfl) (new_at _ _ _ _ _ _ rfl rfl)).mono ?_; rintro e' w2 ⟨rfl, rfl⟩))
  go_wp2_with fail
  go_ret
  exact ⟨rfl, (HG1.out.alloc _)⟩
end
end Go.Proofs.YtddflccjmigloaaGreat
