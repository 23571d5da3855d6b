/-
  Own texts put together: TbSort, LkProg, IdCmp2, IdKey. Own work.
-/
import Derived.Test.YtddflccjmigloaaG10
import Derived.Test.YtddflccjmigloaaG08
import Derived.Test.YtddflccjmigloaaG09
import Derived.Test.YtddflccjmigloaaG05
import Derived.Test.YtddflccjmigloaaIdLayK
import Derived.Shelf.SlSortCmp.NoneTotal
import Derived.Sort.OwnSorted
import Derived.BigRegion
import Derived.Deep.RegionHeld
import Derived.Shelf.Abstract
namespace Go.Proofs.Ytddflccjmigloaa
section
open Go.RowKit Go.Maps Go.Shelf Go.Sort Classical

def kysF (a b : KeyT) : Int := lexF a.1 b.1
theorem kysF_neg (a b : KeyT) : kysF b a = - kysF a b := lexF_neg _ _
theorem kysF_trans (a b c : KeyT) (h : kysF a b ≤ 0) (h' : kysF b c ≤ 0) : kysF a c ≤ 0 := lexF_trans a.1 b.1 c.1 (by rw [a.2.l, b.2.l]) (by rw [b.2.l, c.2.l]) h h'
theorem kysF_zero (a b : KeyT) : kysF a b = 0 ↔ a = b := ⟨fun h => Subtype.ext ((lexF_zero _ _ (by rw [a.2.l, b.2.l])).1 h), fun h => by subst h; exact (lexF_zero _ _ rfl).2 rfl⟩
theorem kysF_self (a : KeyT) : kysF a a = 0 := (kysF_zero a a).2 rfl
theorem kysSWO : SWO (ltOf kysF) := by
  refine ⟨fun x => by simp [ltOf, kysF_self], fun x y z h1 h2 => ?_, fun x y z h1 h2 => ?_⟩
  · simp only [ltOf, decide_eq_true_eq] at *
    have h3 := kysF_trans x y z (by omega) (by omega)
    rcases Int.lt_or_eq_of_le h3 with h | h
    · exact h
    · have := (kysF_zero x z).1 h
      subst this
      have := kysF_neg x y
      omega
  · simp only [ltOf, decide_eq_false_iff_not] at *
    have e1 := kysF_neg x y
    have e2 := kysF_neg y z
    have e3 := kysF_neg x z
    have h3 := kysF_trans z y x (by omega) (by omega)
    omega
theorem kysTotal (x y : KeyT) (h1 : ltOf kysF x y = false) (h2 : ltOf kysF y x = false) : x = y := by
  simp only [ltOf, decide_eq_false_iff_not] at *
  have := kysF_neg x y
  exact (kysF_zero x y).1 (by omega)
/-- The names in order. -/
def sortK (ss : List KeyT) : List KeyT := ss.mergeSort fun x y => !(ltOf kysF) y x
theorem sortK_nil : sortK [] = [] := by simp [sortK]
/-- Strictly rising. -/
def RisingK (ss : List KeyT) : Prop := ss.Pairwise (fun a b => kysF a b < 0)
theorem RisingK.nodup {ss : List KeyT} (h : RisingK ss) : ss.Nodup := h.imp (fun {a b} hab e => by subst e; rw [kysF_self] at hab; omega)
theorem sortK_unique (ss L : List KeyT) (hn : ss.Nodup) (hL : RisingK L) (hm : ∀ t, t ∈ L ↔ t ∈ ss) : sortK ss = L := by
  have hp : (sortK ss).Perm L := (List.mergeSort_perm ss _).trans ((List.perm_ext_iff_of_nodup hn hL.nodup).2 (fun t => (hm t).symm))
  refine List.Perm.eq_of_pairwise (le := fun a b => kysF a b ≤ 0) (fun a b _ _ h1 h2 => ?_) ?_ (hL.imp (fun h => by omega)) hp
  · have := kysF_neg a b
    exact (kysF_zero a b).1 (by omega)
  · have := List.pairwise_mergeSort (le := fun x y : KeyT => !(ltOf kysF) y x) (fun a b c h1 h2 => ?_) (fun a b => ?_) ss
    · exact this.imp (fun {a b} h => by
        simp only [ltOf, Bool.not_eq_true', decide_eq_false_iff_not] at h
        have := kysF_neg a b
        omega)
    · simp only [Bool.not_eq_true'] at h1 h2 ⊢
      exact kysSWO.ntrans _ _ _ h2 h1
    · simp only [ltOf, Bool.or_eq_true, Bool.not_eq_true', decide_eq_false_iff_not]
      have := kysF_neg a b
      omega
theorem rowK_get [Inhabited KeyT] : ∀ (ss : List KeyT) (t : Nat), t < ss.length * 8 → (rowK ss)[t]? = some ((kyCs ss[t / 8]!)[t % 8]!)
  | [], t, h => by simp at h
  | x :: r, t, h => by
    have e : rowK (x :: r) = kyCs x ++ rowK r := by simp [rowK]
    rw [e]
    by_cases h3 : t < 8
    · have : t = 0 ∨ t = 1 ∨ t = 2 ∨ t = 3 ∨ t = 4 ∨ t = 5 ∨ t = 6 ∨ t = 7 := by omega
      rcases this with rfl | rfl | rfl | rfl | rfl | rfl | rfl | rfl <;> simp
    · obtain ⟨s, rfl⟩ : ∃ s, t = s + 8 := ⟨t - 8, by omega⟩
      rw [List.getElem?_append_right (by simp)]
      have ih := rowK_get r s (by simp at h; omega)
      have e1 : (s + 8) / 8 = s / 8 + 1 := by omega
      have e2 : (s + 8) % 8 = s % 8 := by omega
      rw [e1, e2]
      simpa using ih
theorem flat_rowK [Inhabited KeyT] (ss : List KeyT) : flatK kyCs 8 ss.toArray = (rowK ss).toArray := by
  apply Array.ext
  · simp [rowK_length]
  · intro i h1 h2
    have hi : i < ss.length * 8 := by simpa using h1
    have e := rowK_get ss i hi
    have h3 : i < (rowK ss).length := by rw [rowK_length]; exact hi
    rw [List.getElem?_eq_getElem h3] at e
    have e' := Option.some.inj e
    simp only [List.getElem_toArray, e']
    simp [flatK]
theorem holds_rowK [Inhabited KeyT] {w : World} {g : Nat} {cur : Array Value} {e : TypeId} {ss : List KeyT} (hb : w.heap[g]? = some (.cells cur e (0, 0))) (ht : cur.toList.take (ss.length * 8) = rowK ss) : HoldsK kyCs 8 w g 0 ss.toArray := by
  unfold HoldsK
  rw [flat_rowK]
  intro j hj
  have hj' : j < (rowK ss).length := by simpa using hj
  refine ⟨?_, by simp [World.frozen?, hb]⟩
  have h1 : (cur.toList.take (ss.length * 8))[j]? = (rowK ss)[j]? := by rw [ht]
  rw [List.getElem?_take_of_lt (by rw [rowK_length] at hj'; exact hj')] at h1
  simp only [World.cell?, hb, Nat.zero_add]
  simp only [Option.isSome_none, Bool.false_eq_true, if_false]
  rw [← Array.getElem?_toList, h1]
  simp [hj']
theorem heap_sortWK [Inhabited KeyT] {w : World} {g n : Nat} {os : Array Obj} {cur : Array Value} {e : TypeId} (ts : List KeyT) (hb : w.heap[g]? = some (.cells cur e (0, 0))) :
    (sortWorldK kyCs 8 w g 0 n ts.toArray os).heap[g]? = some (.cells (putCells id 0 (rowK ts).toArray cur) e (0, 0)) := by
  have hg : g < w.heap.size := (Array.getElem?_eq_some_iff.1 hb).1
  unfold sortWorldK putRowK
  rw [flat_rowK, heap_grow_old _ _ (by simpa using hg)]
  simp [putRow, mapBlock, Sort.ahead, Array.getElem?_modify, hb, onCells]
theorem grown_sortWK [Inhabited KeyT] {w : World} {g n : Nat} {os : Array Obj} (d : Array KeyT) : w.grownBy (sortWorldK kyCs 8 w g 0 n d os) (some g) := by
  unfold sortWorldK putRowK
  refine ⟨rfl, rfl, rfl, by simp, fun k hk hne => ?_⟩
  rw [heap_grow_old _ _ (by simpa using hk)]
  have : g ≠ k := fun e => hne (by rw [e])
  simp [putRow, mapBlock, Sort.ahead, Array.getElem?_modify, this]
theorem take_putIdsK (cur : Array Value) (ts : List Value) (h : ts.length ≤ cur.size) : (putCells id 0 ts.toArray cur).toList.take ts.length = ts := by
  apply List.ext_getElem?
  intro j
  by_cases hj : j < ts.length
  · rw [List.getElem?_take_of_lt hj, Array.getElem?_toList]
    simp [putCells, hj, show j < cur.size by omega]
  · rw [List.getElem?_take_eq_none (by omega), List.getElem?_eq_none (by omega)]
theorem sortK_length (ss : List KeyT) : (sortK ss).length = ss.length := by simp [sortK]
theorem owns_sortedK [Inhabited KeyT] {w : World} {base g cap n : Nat} {e : TypeId} {os : Array Obj} {cur : Array Value} {ss : List KeyT} (hbase : base ≤ g) (hb : w.heap[g]? = some (.cells cur e (0, 0)))
    (h1 : ss.length ≤ cap) (h2 : cap ≤ maxLen) (h3 : cur.size = cap * 8) :
    (sortWorldK kyCs 8 w g 0 n (sortK ss).toArray os).ownsRow base e 8 (.slice (some ⟨g, 0, none⟩) ss.length cap) ss.length (rowK (sortK ss)) := by
  have hl : (rowK (sortK ss)).length = ss.length * 8 := by rw [rowK_length, sortK_length]
  refine ⟨hl, .inr ⟨g, cap, _, rfl, hbase, heap_sortWK _ hb, h1, h2, by simp [putCells, h3], ?_⟩⟩
  have := take_putIdsK cur (rowK (sortK ss)) (by rw [hl]; omega)
  rw [hl] at this
  exact this
theorem Grown.drewN {w w' : World} (h : Grown w w') (n : Nat) : Grown w (w'.drewN n) := by
  obtain ⟨q, os, rfl⟩ := h
  exact ⟨q + n, os, by simp only [Sort.grow, World.drewN, Nat.add_assoc]⟩
set_option maxRecDepth 100000 in
set_option maxHeartbeats 1600000 in
theorem keysG0 (a b : List Int) (w : World) (ha : a.length = 8) (hb : b.length = 8) (hx : ∀ c ∈ a, 0 ≤ c ∧ c < 256) (hy : ∀ c ∈ b, 0 ≤ c ∧ c < 256) : Calls Try.prog 45 #[.agg (cells8 a), .agg (cells8 b)] w fun e w' => e = .returned (.int .i64 (lexF a b)) ∧ Grown w w' := by
  have hA : Box ((w.alloc (.cells (cells8 a) 34)).alloc (.cells (cells8 b) 34)) w.heap.size (cells8 a) 34 := (box_new w _ _).belowI ((Below.refl _ _).alloc (Nat.le_refl _) _)
  have hB : Box ((w.alloc (.cells (cells8 a) 34)).alloc (.cells (cells8 b) 34)) (w.heap.size + 1) (cells8 b) 34 := by
    have := box_new (w.alloc (.cells (cells8 a) 34)) (cells8 b) 34
    rw [World.size_alloc] at this
    exact this
  have hc1 : ∀ n t, t < a.length → (((w.alloc (.cells (cells8 a) 34)).alloc (.cells (cells8 b) 34)).drewN n).cell? ⟨w.heap.size, 0 + t, none⟩ = some (.int .u8 (a.getD t 0)) := fun n t ht => by
    rw [Nat.zero_add]; exact hA.cell t _ (by simp [cells8, List.getD, ht])
  have hc2 : ∀ n t, t < b.length → (((w.alloc (.cells (cells8 a) 34)).alloc (.cells (cells8 b) 34)).drewN n).cell? ⟨w.heap.size + 1, 0 + t, none⟩ = some (.int .u8 (b.getD t 0)) := fun n t ht => by
    rw [Nat.zero_add]; exact hB.cell t _ (by simp [cells8, List.getD, ht])
  have HC : Hid (∀ n, Calls Try.prog 61 #[.slice (some ⟨w.heap.size, 0, none⟩) 8 8, .slice (some ⟨w.heap.size + 1, 0, none⟩) 8 8] (((w.alloc (.cells (cells8 a) 34)).alloc (.cells (cells8 b) 34)).drewN n) fun e w' => e = .returned (.int .i64 (lexF a b)) ∧ w' = (((w.alloc (.cells (cells8 a) 34)).alloc (.cells (cells8 b) 34)).drewN n)) := hide (fun n => by
    have h := bcompare_any _ w.heap.size 0 8 (w.heap.size + 1) 0 8 a b (hc1 n) (hc2 n) (by omega) hx hy
    rw [ha, hb] at h
    exact h)
  clear hA hB hc1 hc2 hx hy
  generalize lexF a b = r at *
  generalize cells8 a = ca at *
  generalize cells8 b = cb at *
  go_enter Try.func45, Try.ntmps45
  go_wp2
  go_quiet ((go_at_call 61; exact Calls.quiet_of_same (HC.out _)))
  go_wp2
  go_ret
  exact ⟨rfl, (((Grown.refl w).alloc _).alloc _).drewN _⟩
theorem keysG_any (x y : KeyT) (w : World) : Calls Try.prog 45 #[.agg (eightA x.1), .agg (eightA y.1)] w fun e w' => e = .returned (.int .i64 (kysF x y)) ∧ Grown w w' := by
  have h := keysG0 x.1 y.1 w x.2.l y.2.l x.2.b y.2.b
  have e1 : cells8 x.1 = eightA x.1 := by unfold cells8; rw [← eightE_map x.2.l]
  have e2 : cells8 y.1 = eightA y.1 := by unfold cells8; rw [← eightE_map y.2.l]
  rw [e1, e2] at h
  exact h
theorem cmpLaysK [Inhabited KeyT] (blk off size : Nat) (w : World) : CmpLays Try.prog 45 #[] kyCs 8 kysF blk off size w := by
  intro m os dk _ x y
  refine (keysG_any x y _).mono ?_
  rintro e' w' ⟨rfl, q, os', h⟩
  exact ⟨rfl, q, os', h⟩
theorem sortF_anyK [Inhabited KeyT] (g cap : Nat) (cur : Array Value) (ss : List KeyT) (w : World) (hb : w.heap[g]? = some (.cells cur 34 (0, 0))) (h1 : ss.length ≤ cap) (h2 : cap ≤ maxLen) (h3 : cur.size = cap * 8) (h4 : cur.toList.take (ss.length * 8) = rowK ss) (base : Nat) (hbase : base ≤ g) (hss : ss.length ≤ 1000000) :
    Calls Try.prog 44 #[.slice (some ⟨g, 0, none⟩) ss.length cap, .func (.func 45) #[] #[]] w fun e w' => e = .returned (.tuple #[]) ∧ w'.ownsRow base 34 8 (.slice (some ⟨g, 0, none⟩) ss.length cap) ss.length (rowK (sortK ss)) ∧ w.grownBy w' (some g) := by
  have hg : g < w.heap.size := (Array.getElem?_eq_some_iff.1 hb).1
  have h := AnyQ.slices_SortFunc_total Try.sortKL 8 Try.isAgg34 Try.sizeOf34 kyCs (fun _ => rfl) (fun x v hv => by simp at hv; rcases hv with rfl | rfl | rfl | rfl | rfl | rfl | rfl | rfl <;> rfl) kysF kysSWO 45 #[] g 0 cap ss.toArray w
    (enters_of Try.func45 (by kernel_rfl) rfl) (cmpLaysK _ _ _ _) (holds_rowK hb h4) hg (by simp; omega) kysTotal
  refine Calls.mono h ?_
  rintro e w' ⟨rfl, n, os, rfl⟩
  exact ⟨rfl, owns_sortedK hbase hb h1 h2 h3, grown_sortWK _⟩
theorem sortF_noneK (p : Option Addr) (cap : Nat) (fv : Value) (w : World) :
    Calls Try.prog 44 #[.slice p 0 cap, fv] w fun e w' => e = .returned (.tuple #[]) ∧ w' = w := AnyF.slices_SortFunc_none Try.sortKL p cap fv w
theorem own_baseK {w : World} {a b : Nat} {e : TypeId} {size : Nat} {v : Value} {n : Nat} {xs : List Value} (h : w.ownsRow b e size v n xs) (hab : a ≤ b) : w.ownsRow a e size v n xs :=
  ⟨h.1, h.2.imp id (fun ⟨g, cap, cur, h1, h2, h3⟩ => ⟨g, cap, cur, h1, Nat.le_trans hab h2, h3⟩)⟩
end
section
open Go.RowKit Go.Maps Classical

/-- A user as a map's element. -/
abbrev E15 : Type := Nat × TxN × Bool × Option Nat × Option Nat
abbrev usA (e : E15) : Array Value := #[.int .u32 (e.1 : Int), .int .u8 (e.2.1.1 : Int), .int .u32 (e.2.1.2.1 : Int), .int .u32 (e.2.1.2.2 : Int), .bool e.2.2.1, .map e.2.2.2.1, .map e.2.2.2.2]
abbrev usV (e : E15) : Value := .agg (usA e)
def zE : E15 := (0, (0, 0, 0), false, none, none)
theorem umTy : MapTy 51 30 66 (fun t : TxT => txVN t.1) (fun t => txKey (txI t.1)) usV zE where
  und := Try.underlying51
  keyed := txKeyed
  key := fun k => keyOf_tx (txI k.1) (txI_ok k.2)
  inj := fun k l h => Subtype.ext (txI_inj (txKey_inj (txI_ok k.2) (txI_ok l.2) h))
  inv := fun v kl h => by
    obtain ⟨x, hx, rfl, rfl⟩ := keyOf_tx_inv h
    obtain ⟨t, rfl⟩ := tx_back hx
    exact ⟨t, rfl, rfl⟩
  zero := fun w => by kernel_rfl
  einj := fun a b h => by
    obtain ⟨a1, ⟨a2, a3, a4⟩, a5, a6, a7⟩ := a
    obtain ⟨b1, ⟨b2, b3, b4⟩, b5, b6, b7⟩ := b
    simp at h
    obtain ⟨h1, h2, h3, h4, h5, h6, h7⟩ := h
    have e1 : a1 = b1 := by omega
    have e2 : a2 = b2 := by omega
    have e3 : a3 = b3 := by omega
    have e4 : a4 = b4 := by omega
    rw [e1, e2, e3, e4, h5, h6, h7]
abbrev u8V (n : Nat) : Value := .int .u8 (n : Int)
theorem mmTy : MapTy 64 34 5 (fun k : KeyT => kyV k.1) (fun k => kyKey k.1) u8V 0 where
  und := Try.underlying64
  keyed := kyKeyed
  key := fun k => keyOf_ky k.1 k.2
  inj := fun k l h => Subtype.ext (kyKey_inj k.2 l.2 h)
  inv := fun v kl h => keyOf_ky_inv h
  zero := fun w => by kernel_rfl
  einj := fun a b h => by simp at h; omega
abbrev UMap (w : World) (b : Nat) (g : TxT → Option E15) (n : Nat) : Prop := GMap 30 (fun t : TxT => txKey (txI t.1)) usV w b g n
abbrev gM (f : KeyT → Nat) (k : KeyT) : Option Nat := if f k = 0 then none else some (f k)
abbrev MMap (w : World) (b : Nat) (f : KeyT → Nat) (n : Nat) : Prop := GMap 34 (fun k : KeyT => kyKey k.1) u8V w b (gM f) n
abbrev gU (l : List (UsP KeyT)) (p : TxN → Nat × Nat) (t : TxT) : Option E15 := (usL l t.1).map fun u => (u.tm, u.tx, u.pr, some (p t.1).1, some (p t.1).2)
theorem gM_getD (f : KeyT → Nat) (k : KeyT) : (gM f k).getD 0 = f k := by
  unfold gM
  split
  · rename_i h; rw [h]; rfl
  · rfl
theorem gM_some (f : KeyT → Nat) (k : KeyT) : (gM f k).isSome = true ↔ f k ≠ 0 := by
  unfold gM
  split
  · rename_i h; simp [h]
  · rename_i h; simp [h]
/-- A map of modes, or none, reads as this. -/
def MRead (w : World) (mb : Option Nat) (f : KeyT → Nat) : Prop := (mb = none ∧ ∀ k, f k = 0) ∨ ∃ b n, mb = some b ∧ MMap w b f n
theorem MRead.look {w : World} {mb : Option Nat} {f : KeyT → Nat} (h : MRead w mb f) (k : KeyT) : (Instr.lookup 64 (.map mb) (kyV k.1) false).run Try.prog w = .ok (.int .u8 (f k : Int)) w := by
  rcases h with ⟨rfl, h0⟩ | ⟨b, n, rfl, hm⟩
  · rw [h0 k]
    exact Maps.look_nil false mmTy.keyed mmTy.und (mmTy.zero w) (mmTy.key k)
  · have := hm.look1 mmTy k
    rw [gM_getD] at this
    exact this
theorem gmap_pos {K E : Type} {mt kt et : TypeId} {kV : K → Value} {kL : K → Lit} {eV : E → Value} {z : E} {w : World} {b n : Nat} {g : K → Option E} (T : MapTy mt kt et kV kL eV z) (h : GMap kt kL eV w b g n) : 0 < n ↔ ∃ k, (g k).isSome = true := by
  constructor
  · intro hn
    by_cases he : ∃ k, (g k).isSome = true
    · exact he
    · have := h.few T [] (fun k hk => absurd ⟨k, hk⟩ he)
      simp at this
      omega
  · rintro ⟨k, hk⟩
    obtain ⟨R, D, hR, ho, hs, hh, ha⟩ := h.own
    obtain ⟨es, clock, hb, F, _, rfl⟩ := ho
    rw [← hs]
    rw [← hh k] at hk
    cases hl : (es.toList.map (WideElems.rg Try.prog kt R)).foldr DataW.insert [] with
    | nil => rw [hl] at hk; cases hk
    | cons x xs => simp [Maps.size]
theorem MRead.len {w : World} {mb : Option Nat} {f : KeyT → Nat} (h : MRead w mb f) : ∃ n : Nat, (∀ ty, (Builtin.len_ #[64] ty #[.map mb]).run Try.prog w = .ok (.int .i64 (n : Int)) w) ∧ (0 < n ↔ ∃ k, f k ≠ 0) := by
  rcases h with ⟨rfl, h0⟩ | ⟨b, n, rfl, hm⟩
  · refine ⟨0, fun ty => ?_, ⟨fun h => absurd h (by decide), fun ⟨k, hk⟩ => absurd (h0 k) hk⟩⟩
    simp [go_sem, Try.underlying64]
  · exact ⟨n, fun ty => hm.len mmTy ty, (gmap_pos mmTy hm).trans ⟨fun ⟨k, hk⟩ => ⟨k, (gM_some f k).1 hk⟩, fun ⟨k, hk⟩ => ⟨k, (gM_some f k).2 hk⟩⟩⟩
theorem MRead.keep {S : Nat → Prop} {w w' : World} {mb : Option Nat} {f : KeyT → Nat} (h : MRead w mb f) (hk : KeepBut S w w') (hS : ∀ b, mb = some b → ¬ S b) : MRead w' mb f := by
  rcases h with h | ⟨b, n, rfl, hm⟩
  · exact .inl h
  · exact .inr ⟨b, n, rfl, hm.keep hk (hS b rfl)⟩
/-- At q lies a table that New gave: its map is block b, each user's maps are p's; none has more than C entries. -/
structure PLk (w : World) (q b C : Nat) (p : TxN → Nat × Nat) (l : List (UsP KeyT)) : Prop where
  box : Box w q #[.map (some b)] 53
  m : UMap w b (gU l p) l.length
  maps : ∀ u ∈ l, ∃ n n', MMap w (p u.tx).1 u.h n ∧ MMap w (p u.tx).2 u.w n' ∧ n + n' ≤ C
  ap : ∀ u ∈ l, (p u.tx).1 ≠ (p u.tx).2 ∧ (p u.tx).1 ≠ b ∧ (p u.tx).2 ≠ b
  ap2 : ∀ u ∈ l, ∀ v ∈ l, u.tx ≠ v.tx → (p u.tx).1 ≠ (p v.tx).1 ∧ (p u.tx).1 ≠ (p v.tx).2 ∧ (p u.tx).2 ≠ (p v.tx).2
  ok : LkB l
/-- Its blocks. -/
def FLk (q b : Nat) (p : TxN → Nat × Nat) (l : List (UsP KeyT)) (k : Nat) : Prop := k = q ∨ k = b ∨ ∃ u ∈ l, (p u.tx).1 = k ∨ (p u.tx).2 = k
/-- The program's table. -/
def PL15 (w : World) (q : Nat) (F : Nat → Prop) (C : Nat) (l : List (UsP KeyT)) : Prop := ∃ b p, PLk w q b C p l ∧ ∀ k, F k ↔ FLk q b p l k
section
variable {w w' : World} {q b C : Nat} {p : TxN → Nat × Nat} {l : List (UsP KeyT)}
theorem PLk.keep {S : Nat → Prop} (h : PLk w q b C p l) (hk : KeepBut S w w') (hS : ∀ k, FLk q b p l k → ¬ S k) : PLk w' q b C p l :=
  ⟨h.box.keep hk (hS _ (.inl rfl)), h.m.keep hk (hS _ (.inr (.inl rfl))), fun u hu => by
    obtain ⟨n, n', h1, h2, h3⟩ := h.maps u hu
    exact ⟨n, n', h1.keep hk (hS _ (.inr (.inr ⟨u, hu, .inl rfl⟩))), h2.keep hk (hS _ (.inr (.inr ⟨u, hu, .inr rfl⟩))), h3⟩, h.ap, h.ap2, h.ok⟩
theorem PLk.below (h : PLk w q b C p l) (hB : Below w.heap.size w w') : PLk w' q b C p l := h.keep (KeepBut.of_below (fun _ => False) hB) (fun _ _ h => h)
theorem PLk.flt (h : PLk w q b C p l) {k : Nat} (hk : FLk q b p l k) : k < w.heap.size := by
  rcases hk with rfl | rfl | ⟨u, hu, rfl | rfl⟩
  · exact h.box.lt
  · exact h.m.lt
  · obtain ⟨n, n', h1, _⟩ := h.maps u hu
    exact h1.lt
  · obtain ⟨n, n', _, h2, _⟩ := h.maps u hu
    exact h2.lt
theorem PLk.q_ne (h : PLk w q b C p l) : q ≠ b ∧ ∀ u ∈ l, q ≠ (p u.tx).1 ∧ q ≠ (p u.tx).2 := ⟨h.m.ne h.box, fun u hu => by
  obtain ⟨n, n', h1, h2, _⟩ := h.maps u hu
  exact ⟨h1.ne h.box, h2.ne h.box⟩⟩
theorem PLk.more (h : PLk w q b C p l) {C' : Nat} (hC : C ≤ C') : PLk w q b C' p l := ⟨h.box, h.m, fun u hu => by
  obtain ⟨n, n', h1, h2, h3⟩ := h.maps u hu
  exact ⟨n, n', h1, h2, Nat.le_trans h3 hC⟩, h.ap, h.ap2, h.ok⟩
/-- What a user's maps read as. -/
theorem PLk.read (h : PLk w q b C p l) (t : TxT) : MRead w ((gU l p t).getD zE).2.2.2.1 (getU l t.1).h ∧ MRead w ((gU l p t).getD zE).2.2.2.2 (getU l t.1).w ∧ ((gU l p t).getD zE).2.2.1 = (getU l t.1).pr := by
  cases hu : usL l t.1 with
  | none =>
    have e : gU l p t = none := by show (usL l t.1).map _ = _; rw [hu]; rfl
    rw [e, getU_none hu]
    exact ⟨.inl ⟨rfl, fun _ => rfl⟩, .inl ⟨rfl, fun _ => rfl⟩, rfl⟩
  | some u =>
    have e : gU l p t = some (u.tm, u.tx, u.pr, some (p t.1).1, some (p t.1).2) := by show (usL l t.1).map _ = _; rw [hu]; rfl
    have eg : getU l t.1 = u := by unfold getU; rw [hu]; rfl
    obtain ⟨hm, et⟩ := (usL_some h.ok).1 hu
    obtain ⟨n, n', h1, h2, _⟩ := h.maps u hm
    rw [e, eg]
    rw [et] at h1 h2
    exact ⟨.inr ⟨_, n, rfl, h1⟩, .inr ⟨_, n', rfl, h2⟩, rfl⟩
end
theorem pl_keep {w w' : World} {q C : Nat} {F S : Nat → Prop} {l : List (UsP KeyT)} (h : PL15 w q F C l) (hk : KeepBut S w w') (hS : ∀ k, F k → ¬ S k) : PL15 w' q F C l := by
  obtain ⟨b, p, h1, h2⟩ := h
  exact ⟨b, p, h1.keep hk (fun k hk => hS k ((h2 k).2 hk)), h2⟩
theorem pl_lt {w : World} {q C : Nat} {F : Nat → Prop} {l : List (UsP KeyT)} (h : PL15 w q F C l) : ∀ k, F k → k < w.heap.size := by
  obtain ⟨b, p, h1, h2⟩ := h
  exact fun k hk => h1.flt ((h2 k).1 hk)
theorem lkNew_any (w : World) : Calls Try.prog 6 #[] w fun e w' => ∃ q F, e = .returned (.pointer (some ⟨q, 0, none⟩)) ∧ PL15 w' q F 0 [] ∧ (∀ k, F k → w.heap.size ≤ k) ∧ Below w.heap.size w w' := by
  have hmm := @run_makeMap Try.prog
  go_enter Try.func6, Try.ntmps6
  go_wp2
  go_ret
  have hA := alloc_below14 w (.map #[] 0)
  have hA2 := alloc_below14 (w.alloc (.map #[] 0)) (.cells #[.map (some w.heap.size)] 53)
  have h1 := (gmap_made umTy w).below hA2
  have h3 := box_new (w.alloc (.map #[] 0)) #[.map (some w.heap.size)] 53
  refine ⟨w.heap.size + 1, FLk (w.heap.size + 1) w.heap.size (fun _ => (0, 0)) [], by simp, ⟨w.heap.size, fun _ => (0, 0), ⟨by simpa using h3, h1, (fun u hu => by cases hu), (fun u hu => by cases hu), (fun u hu => by cases hu), lkb_nil⟩, fun k => Iff.rfl⟩, fun k hk => ?_, hA.trans (hA2.mono hA.size)⟩
  rcases hk with rfl | rfl | ⟨u, hu, _⟩
  · omega
  · omega
  · cases hu
theorem neqSomeL (b : Nat) (w : World) : (binOp .neq 51 (.map (some b)) (.map none)).run Try.prog w = .ok (.bool true) w := by kernel_rfl
theorem neqNoneL (w : World) : (binOp .neq 51 (.map none) (.map none)).run Try.prog w = .ok (.bool false) w := by kernel_rfl
theorem made15 (q b : Nat) (w : World) (h : Box w q #[.map (some b)] 53) : Calls Try.prog 22 #[.pointer (some ⟨q, 0, none⟩)] w fun e w' => e = .returned (.bool true) ∧ w' = w := by
  have h0 := h.cell 0 _ rfl
  have hm := neqSomeL b
  go_enter Try.func22, Try.ntmps22
  go_wp2
  go_ret
  exact ⟨rfl, rfl⟩
theorem made15_nil (w : World) : Calls Try.prog 22 #[.pointer none] w fun e w' => e = .returned (.bool false) ∧ w' = w := by
  go_enter Try.func22, Try.ntmps22
  go_wp2
  go_ret
  exact ⟨rfl, rfl⟩
theorem made15_none (q : Nat) (w : World) (h : Box w q #[.map none] 53) : Calls Try.prog 22 #[.pointer (some ⟨q, 0, none⟩)] w fun e w' => e = .returned (.bool false) ∧ w' = w := by
  have h0 := h.cell 0 _ rfl
  have hm := neqNoneL
  go_enter Try.func22, Try.ntmps22
  go_wp2
  go_ret
  exact ⟨rfl, rfl⟩
theorem infoUs15 : (Try.prog.info? 66).map (·.size) = some 7 := by kernel_rfl
theorem infoTx15 : (Try.prog.info? 30).map (·.size) = some 3 := by kernel_rfl
theorem infoKey15 : (Try.prog.info? 34).map (·.size) = some 8 := by kernel_rfl
theorem infoSt15 : (Try.prog.info? 32).map (·.size) = some 4 := by kernel_rfl
/-- A user stored whole, under a name. -/
def stU (a v : Value) : Sem Unit := Instr.storeAt 66 a v
theorem stU_hide (a v : Value) : Instr.storeAt 66 a v = stU a v := rfl
set_option maxRecDepth 100000 in
theorem run_stU {w : World} {p : Nat} {cs : Array Value} {t0 : TypeId} (h : Box w p cs t0) (hs : cs.size = 7) (e : E15) : ∃ w', (stU (.pointer (some ⟨p, 0, none⟩)) (usV e)).run Try.prog w = .ok () w' ∧ Box w' p (usA e) t0 ∧ KeepBut (fun k => k = p) w w' := by
  have hr := run_storeVar_row (P := Try.prog) w p t0 66 cs (usA e) h infoUs15 hs (by simp [Value.oneCell'])
  refine ⟨w.setRow p (usA e), ?_, setRow_heap w p cs _ t0 (0, 0) h, rfl, rfl, rfl, by simp [World.setRow], fun k _ hS => setRow_other w p k _ hS⟩
  unfold stU
  simp only [Instr.storeAt, Instr.sureAddr, Sem.run_bind, Sem.run_pure, Result.andThen_ok, hr]
attribute [local go_sem ↓] stU_hide
set_option maxRecDepth 100000 in
set_option maxHeartbeats 1600000 in
theorem lkFind_any (q b C : Nat) (p : TxN → Nat × Nat) (l : List (UsP KeyT)) (t : TxN) (w : World) (h : PLk w q b C p l) (ht : TxB t) :
    Calls Try.prog 26 #[.pointer (some ⟨q, 0, none⟩), txVN t] w fun e w' => e = .returned (usV ((gU l p ⟨t, ht⟩).getD zE)) ∧ Below w.heap.size w w' := by
  have hA := alloc_below14 w (.cells #[.int .u8 (t.1 : Int), .int .u32 (t.2.1 : Int), .int .u32 (t.2.2 : Int)] 30)
  have hA2 := alloc_below14 (w.alloc (.cells #[.int .u8 (t.1 : Int), .int .u32 (t.2.1 : Int), .int .u32 (t.2.2 : Int)] 30)) (.cells (usA zE) 66)
  have hB2 := hA.trans (hA2.mono hA.size)
  have H2 := hide (h.below hB2)
  have CM := hide (made15 q b _ H2.out.box)
  have HXK := hide ((box_new w #[.int .u8 (t.1 : Int), .int .u32 (t.2.1 : Int), .int .u32 (t.2.2 : Int)] 30).belowI hA2)
  have HXR : Hid (Box ((w.alloc (.cells #[.int .u8 (t.1 : Int), .int .u32 (t.2.1 : Int), .int .u32 (t.2.2 : Int)] 30)).alloc (.cells (usA zE) 66)) (w.heap.size + 1) (usA zE) 66) := hide (by have := box_new (w.alloc (.cells #[.int .u8 (t.1 : Int), .int .u32 (t.2.1 : Int), .int .u32 (t.2.2 : Int)] 30)) (usA zE) 66; simpa using this)
  have HB2 := hide hB2
  have HTB := hide ht
  obtain ⟨⟨tm, ⟨ta, tb, tc⟩, pr, hb, wb⟩, hE⟩ : ∃ E : E15, E = (gU l p ⟨t, ht⟩).getD zE := ⟨_, rfl⟩
  rw [← hE]
  have HE := hide hE
  clear hA hA2 hB2 h hE
  go_enter Try.func26, Try.ntmps26
  go_wp2_with fail
  refine CM.out.mono ?_
  rintro e w1 ⟨rfl, hw1⟩
  replace H2 : Hid (PLk w1 q b C p l) := hide (by rw [hw1]; exact H2.out)
  replace HXK : Hid (Box w1 w.heap.size #[.int .u8 (t.1 : Int), .int .u32 (t.2.1 : Int), .int .u32 (t.2.2 : Int)] 30) := hide (by rw [hw1]; exact HXK.out)
  replace HXR : Hid (Box w1 (w.heap.size + 1) (usA zE) 66) := hide (by rw [hw1]; exact HXR.out)
  replace HB2 : Hid (Below w.heap.size w w1) := hide (by rw [hw1]; exact HB2.out)
  clear hw1 CM
  have h0 : w1.cell? ⟨q, 0, none⟩ = some (.map (some b)) := H2.out.box.cell 0 _ rfl
  obtain ⟨k0, k1, k2⟩ := HXK.out.three
  have L1 := (H2.out.m.below (below_drew14 w1)).look1 umTy ⟨t, HTB.out⟩
  rw [← HE.out] at L1
  obtain ⟨w3, hst, hx, hk⟩ := run_stU (HXR.out.belowI (below_drew14 w1)) rfl (tm, (ta, tb, tc), pr, hb, wb)
  have HX3 := hide hx
  have HB3 : Hid (Below w.heap.size w w3) := hide ((HB2.out.trans ((below_drew14 w1).mono HB2.out.size)).trans (hk.below HB2.out.size (fun k hk => by omega)))
  clear hx hk
  go_wp2_with fail
  go_region
  go_wp2_with fail
  exact bodyPost_ret (v := usV (tm, (ta, tb, tc), pr, hb, wb)) (results_box Try.results26 _ _ (w.heap.size + 1) rfl HX3.out Try.underlying66 rfl infoUs15) rfl ⟨rfl, HB3.out⟩
end
section
open Go.RowKit

theorem lies_of3 (k : IntKind) (w : World) (b : Nat) (x y z : Int) (hb : b < w.heap.size) (h0 : w.cell? ⟨b, 0, none⟩ = some (.int k x)) (h1 : w.cell? ⟨b, 1, none⟩ = some (.int k y)) (h2 : w.cell? ⟨b, 2, none⟩ = some (.int k z)) : Lies k w (.slice (some ⟨b, 0, none⟩) 3 3) [x, y, z] := by
  refine .inr ⟨by simp, b, 0, 3, rfl, hb, by simp, by unfold maxLen; omega, fun i hi => ?_⟩
  match i, hi with
  | 0, _ => exact h0
  | 1, _ => exact h1
  | 2, _ => exact h2
theorem lies_of2 (k : IntKind) (w : World) (b : Nat) (x y : Int) (hb : b < w.heap.size) (h0 : w.cell? ⟨b, 0, none⟩ = some (.int k x)) (h1 : w.cell? ⟨b, 1, none⟩ = some (.int k y)) : Lies k w (.slice (some ⟨b, 0, none⟩) 2 2) [x, y] := by
  refine .inr ⟨by simp, b, 0, 2, rfl, hb, by simp, by unfold maxLen; omega, fun i hi => ?_⟩
  match i, hi with
  | 0, _ => exact h0
  | 1, _ => exact h1
theorem orL3 (a b c d e f : Int) : orL [cmpF a d, cmpF b e, cmpF c f] = txsF (a, b, c) (d, e, f) := rfl
theorem orL2 (s t : Int) (a b : TxP) : orL [cmpF s t, txsF a b] = stsF (s, a) (t, b) := by
  show orF (cmpF s t) (orF (txsF a b) 0) = orF (cmpF s t) (lexF (txL a) (txL b))
  have : orF (txsF a b) 0 = txsF a b := by unfold orF; split <;> omega
  rw [this]
  rfl
set_option maxRecDepth 100000 in
set_option maxHeartbeats 400000 in
theorem txs_any (a b c d e f : Int) (w : World) : Calls Try.prog 25 #[.agg #[.int .u8 a, .int .u32 b, .int .u32 c], .agg #[.int .u8 d, .int .u32 e, .int .u32 f]] w fun e' w' => e' = .returned (.int .i64 (txsF (a, b, c) (d, e, f))) ∧ Grown w w' := by
  have hG0 := (((Grown.refl w).alloc (.cells #[.int .u8 a, .int .u32 b, .int .u32 c] 30)).alloc (.cells #[.int .u8 d, .int .u32 e, .int .u32 f] 30)).drew
  have HO : Hid (∀ (W : World) (B : Nat), B < W.heap.size → W.cell? ⟨B, 0, none⟩ = some (.int .i64 (cmpF a d)) → W.cell? ⟨B, 1, none⟩ = some (.int .i64 (cmpF b e)) → W.cell? ⟨B, 2, none⟩ = some (.int .i64 (cmpF c f)) → Calls Try.prog 41 #[.slice (some ⟨B, 0, none⟩) 3 3] W fun e' w' => e' = .returned (.int .i64 (txsF (a, b, c) (d, e, f))) ∧ w' = W) := hide (fun W B h0 h1 h2 h3 => by
    have h4 := or_any [cmpF a d, cmpF b e, cmpF c f] _ _ (lies_of3 .i64 W B _ _ _ h0 h1 h2 h3) (by simp)
    rw [orL3] at h4
    exact h4)
  have C1 := hide (fun w => cmp8_any a d w)
  have C2 := hide cmp32_any
  have HG0 := hide hG0
  clear hG0
  generalize txsF (a, b, c) (d, e, f) = r at *
  go_enter Try.func25, Try.ntmps25
  go_wp2_with fail
  go_region_held (fun w' => w'.cell? ⟨w.heap.size, 0, none⟩ = some (.int .u8 a) ∧ w'.cell? ⟨w.heap.size, 1, none⟩ = some (.int .u32 b) ∧ w'.cell? ⟨w.heap.size, 2, none⟩ = some (.int .u32 c) ∧ w'.cell? ⟨w.heap.size + 1, 0, none⟩ = some (.int .u8 d) ∧ w'.cell? ⟨w.heap.size + 1, 1, none⟩ = some (.int .u32 e) ∧ w'.cell? ⟨w.heap.size + 1, 2, none⟩ = some (.int .u32 f)) (go_keep) (first
    | (go_at_call 42; refine (C1.out _).mono ?_; rintro e' w1 ⟨rfl, rfl⟩)
    | (go_at_call 43; refine (C2.out _ _ _).mono ?_; rintro e' w1 ⟨rfl, rfl⟩)
    | (go_at_call 41; refine (HO.out _ _ (by simp) (new_cell _ _ _ _ _ _ (by simp) rfl) (new_cell _ _ _ _ _ _ (by simp) rfl) (new_cell _ _ _ _ _ _ (by simp) rfl)).mono ?_; rintro e' w1 ⟨rfl, rfl⟩))
  go_wp2_with fail
  go_ret
  exact ⟨rfl, ((((Grown.refl w).alloc _).alloc _).alloc _).drew⟩
set_option maxRecDepth 100000 in
set_option maxHeartbeats 1600000 in
theorem stamps_any (s a b c t d e f : Int) (w : World) : Calls Try.prog 51 #[.agg #[.int .u32 s, .int .u8 a, .int .u32 b, .int .u32 c], .agg #[.int .u32 t, .int .u8 d, .int .u32 e, .int .u32 f]] w fun e' w' => e' = .returned (.int .i64 (stsF (s, a, b, c) (t, d, e, f))) ∧ Grown w w' := by
  have HO : Hid (∀ (W : World) (B : Nat), B < W.heap.size → W.cell? ⟨B, 0, none⟩ = some (.int .i64 (cmpF s t)) → W.cell? ⟨B, 1, none⟩ = some (.int .i64 (txsF (a, b, c) (d, e, f))) → Calls Try.prog 41 #[.slice (some ⟨B, 0, none⟩) 2 2] W fun e' w' => e' = .returned (.int .i64 (stsF (s, a, b, c) (t, d, e, f))) ∧ w' = W) := hide (fun W B h0 h1 h2 => by
    have h4 := or_any [cmpF s t, txsF (a, b, c) (d, e, f)] _ _ (lies_of2 .i64 W B _ _ h0 h1 h2) (by simp)
    rw [orL2] at h4
    exact h4)
  have C1 := hide cmp32_any
  have C2 := hide (fun w => txs_any a b c d e f w)
  have HS0 : Hid (Box ((w.alloc (.cells #[.int .u32 s, .int .u8 a, .int .u32 b, .int .u32 c] 32)).alloc (.cells #[.int .u32 t, .int .u8 d, .int .u32 e, .int .u32 f] 32)).drew w.heap.size #[.int .u32 s, .int .u8 a, .int .u32 b, .int .u32 c] 32) := hide ((box_new w _ _).belowI (((Below.refl _ _).alloc (Nat.le_refl _) _).drew))
  have HT0 : Hid (Box ((w.alloc (.cells #[.int .u32 s, .int .u8 a, .int .u32 b, .int .u32 c] 32)).alloc (.cells #[.int .u32 t, .int .u8 d, .int .u32 e, .int .u32 f] 32)).drew (w.heap.size + 1) #[.int .u32 t, .int .u8 d, .int .u32 e, .int .u32 f] 32) := hide (by
    have := box_new (w.alloc (.cells #[.int .u32 s, .int .u8 a, .int .u32 b, .int .u32 c] 32)) #[.int .u32 t, .int .u8 d, .int .u32 e, .int .u32 f] 32
    rw [World.size_alloc] at this
    exact this)
  generalize txsF (a, b, c) (d, e, f) = q at *
  generalize stsF (s, a, b, c) (t, d, e, f) = r at *
  have HG0 := hide (((Grown.refl w).alloc (.cells #[.int .u32 s, .int .u8 a, .int .u32 b, .int .u32 c] 32)).alloc (.cells #[.int .u32 t, .int .u8 d, .int .u32 e, .int .u32 f] 32)).drew
  go_enter Try.func51, Try.ntmps51
  go_wp2_with fail
  go_region_held (fun w' => w'.cell? ⟨w.heap.size, 0, none⟩ = some (.int .u32 s) ∧ w'.cell? ⟨w.heap.size, 1, none⟩ = some (.int .u8 a) ∧ w'.cell? ⟨w.heap.size, 2, none⟩ = some (.int .u32 b) ∧ w'.cell? ⟨w.heap.size, 3, none⟩ = some (.int .u32 c) ∧ w'.cell? ⟨w.heap.size + 1, 0, none⟩ = some (.int .u32 t) ∧ w'.cell? ⟨w.heap.size + 1, 1, none⟩ = some (.int .u8 d) ∧ w'.cell? ⟨w.heap.size + 1, 2, none⟩ = some (.int .u32 e) ∧ w'.cell? ⟨w.heap.size + 1, 3, none⟩ = some (.int .u32 f)) (go_keep) (first
    | (go_at_call 43; refine (C1.out _ _ _).mono ?_; rintro e' w1 ⟨rfl, rfl⟩)
    | (go_at_call 25; refine (C2.out _).mono ?_; rintro e' w1 ⟨rfl, hG⟩; have HG1 := hide (HG0.out.trans hG); obtain ⟨a0, a1, a2, a3⟩ := (HS0.out.belowI hG.below).four; obtain ⟨b0, b1, b2, b3⟩ := (HT0.out.belowI hG.below).four; have hz1 := hG.below.size; clear hG)
    | (go_at_call 41; refine (HO.out _ _ (by simp) (new_at _ _ _ _ _ _ rfl rfl) (new_at _ _ _ _ _ _ rfl rfl)).mono ?_; rintro e' w2 ⟨rfl, rfl⟩))
  go_wp2_with fail
  go_ret
  exact ⟨rfl, (HG1.out.alloc _)⟩
end
section
open Go.RowKit

/-- A text's bytes as numbers. -/
def numsS (s : ByteArray) : List Int := s.data.toList.map fun b => (b.toNat : Int)
theorem numsS_length (s : ByteArray) : (numsS s).length = s.size := by
  obtain ⟨d⟩ := s
  simp [numsS, ByteArray.size]
theorem numsS_byte (s : ByteArray) : ∀ c ∈ numsS s, 0 ≤ c ∧ c < 256 := by
  intro c hc
  simp only [numsS, List.mem_map] at hc
  obtain ⟨b, _, rfl⟩ := hc
  have := b.toNat_lt
  omega
theorem bytesOf_numsS (s : ByteArray) : Lib.bytesOf (numsS s) = s.data.toList := by
  unfold Lib.bytesOf numsS
  rw [List.map_map]
  conv => rhs; rw [← List.map_id s.data.toList]
  apply List.map_congr_left
  intro b _
  simp
theorem infoKeyI : (Try.prog.info? 34).map (·.size) = some 8 := by kernel_rfl
theorem results_box2 {P : Program} {fn : Func} {q t1 : Tmp} {t t0 : TypeId} {d : TypeDesc} (h : fn.results = #[.cell q t, .tmp t1]) (tmps : Array Value) (w : World) (p : Nat) (hq : tmps.getD q undef = .pointer (some ⟨p, 0, none⟩)) {v1 : Value} (h1 : tmps.getD t1 undef = v1) {cs : Array Value} (hb : Box w p cs t0)
    (hu : P.underlying t = some d) (hd : d.isRow = true) (hi : (P.info? t).map (·.size) = some cs.size) : (results fn tmps).run P w = .ok (.tuple #[.agg cs, v1]) w := by
  subst h1
  have hr : w.rangeAt p 0 cs.toList := fun j v hv => by
    rw [Nat.zero_add]; exact hb.cell j v (by simpa using hv)
  have hl := run_loadVar_mid (P := P) w p 0 t cs.toList d hr hu hd (by simpa using hi)
  have hq' : tmps[q]?.getD undef = .pointer (some ⟨p, 0, none⟩) := by rw [← Array.getD_eq_getD_getElem?]; exact hq
  simp only [results, h]
  simp [hq', asAddr, hl]

set_option maxRecDepth 100000 in
theorem slidx_any (s : ByteArray) (c : Int) (w : World) : Calls Try.prog 99 #[.string s, .int .u8 c] w fun e w' => e = .returned (.int .i64 (Lib.indexByte s.data.toList c.toNat.toUInt8)) ∧ w' = w := by
  go_enter Try.func99, Try.ntmps99
  go_wp2
  rw [run_callFunc_extern Try.func103 (by kernel_rfl) (by kernel_rfl) (by kernel_rfl) (e := Extern.BytealgIndexByte.indexByte) (by kernel_rfl), Lib.run_indexByteString]
  simp only [Result.andThen]
  rw [Oper.upon_value]
  go_wp2
  go_ret
  exact ⟨rfl, rfl⟩
theorem stidx_any (s : ByteArray) (c : Int) (w : World) : Calls Try.prog 89 #[.string s, .int .u8 c] w fun e w' => e = .returned (.int .i64 (Lib.indexByte s.data.toList c.toNat.toUInt8)) ∧ w' = w := by
  go_enter Try.func89, Try.ntmps89
  go_wp2_with (go_at_call 99; refine (slidx_any _ _ _).mono ?_; rintro e w' ⟨rfl, rfl⟩)
  go_ret
  exact ⟨rfl, rfl⟩
abbrev zeroC : Array Value := #[.int .u8 0, .int .u8 0, .int .u8 0, .int .u8 0, .int .u8 0, .int .u8 0, .int .u8 0, .int .u8 0]
theorem drop_zero8 (n : Nat) : zero8i.drop n = List.replicate (8 - n) 0 := by
  rw [show zero8i = List.replicate 8 (0 : Int) from rfl, List.drop_replicate]
theorem keyOfF_bad {xs : List Int} (h : xs.length = 0 ∨ 8 < xs.length ∨ 0 ∈ xs) : keyOfF xs = (zero8i, 1) := by unfold keyOfF; rw [if_pos h]
set_option maxRecDepth 100000 in
set_option maxHeartbeats 1600000 in
theorem keyOf_any (s : ByteArray) (hs : s.size ≤ maxLen) (w : World) :
    Calls Try.prog 73 #[.string s] w fun e w' => e = .returned (.tuple #[.agg (cells8 (keyOfF (numsS s)).1), .int .i64 (keyOfF (numsS s)).2]) ∧ Below w.heap.size w w' := by
  unfold maxLen at hs
  have hlen := numsS_length s
  have hix := index_zero (numsS s) (numsS_byte s)
  rw [bytesOf_numsS] at hix
  have HI := hide infoKeyI
  have hbA := (Below.refl w.heap.size w).alloc (Nat.le_refl _) (.cells zeroC 34)
  have hbB := hbA.alloc (by simp) (.cells zeroC 34)
  have HB := hide hbB
  have HBR : Hid (Box ((w.alloc (.cells zeroC 34)).alloc (.cells zeroC 34)) w.heap.size zeroC 34) := hide ((box_new w zeroC 34).keep (KeepBut.of_below (fun _ => False) ((Below.refl _ _).alloc (Nat.le_refl _) _)) id)
  have HBK : Hid (Box ((w.alloc (.cells zeroC 34)).alloc (.cells zeroC 34)) (w.heap.size + 1) (cells8 zero8i) 34) := hide (by
    have := box_new (w.alloc (.cells zeroC 34)) zeroC 34
    rw [show cells8 zero8i = zeroC from rfl]
    simpa using this)
  have HZS : Hid ((zeroC).size = (cells8 (numsS s ++ List.replicate (8 - s.size) 0)).size ∨ ¬ s.size ≤ 8) := hide (by
    by_cases h8 : s.size ≤ 8
    · left; rw [cells8_size]; simp [hlen]; omega
    · exact .inr h8)
  clear hbA hbB
  have he0 : ∀ z : Int, z = 0 → Lib.indexByte s.data.toList z.toNat.toUInt8 = Lib.indexByte s.data.toList 0 := fun z hz => by rw [hz]; rfl
  have HCI : Hid (∀ w, Calls Try.prog 89 #[.string s, .int .u8 0] w fun e w' => e = .returned (.int .i64 (Lib.indexByte s.data.toList 0)) ∧ w' = w) := hide (fun w => stidx_any s 0 w)
  clear he0
  generalize hxs : numsS s = xs at *
  generalize Lib.indexByte s.data.toList 0 = ix at *
  by_cases hbad : xs.length = 0 ∨ 8 < xs.length ∨ 0 ∈ xs
  · rw [keyOfF_bad hbad]
    have HCE : Hid (cells8 zero8i = zeroC) := hide rfl
    by_cases h1 : s.size = 0
    · have h1' : (s.size : Int) = 0 := by omega
      clear hbad hix hlen HZS
      go_enter Try.func73, Try.ntmps73
      go_wp2_with fail
      exact bodyPost_ret (v := .tuple #[.agg zeroC, .int .i64 1]) (results_box2 (v1 := .int .i64 1) Try.results73 _ _ w.heap.size rfl rfl HBR.out Try.underlying34 rfl HI.out) rfl ⟨rfl, HB.out⟩
    · by_cases h2 : 8 < s.size
      · have h1' : ((s.size : Int) == 0) = false := beq_eq_false_iff_ne.2 (by omega)
        have h2' : (8 : Int) < (s.size : Int) := by omega
        clear hbad hix hlen HZS
        go_enter Try.func73, Try.ntmps73
        go_wp2_with fail
        exact bodyPost_ret (v := .tuple #[.agg zeroC, .int .i64 1]) (results_box2 (v1 := .int .i64 1) Try.results73 _ _ w.heap.size rfl rfl HBR.out Try.underlying34 rfl HI.out) rfl ⟨rfl, HB.out⟩
      · have h0 : (0 : Int) ∈ xs := by
          rcases hbad with h | h | h
          · omega
          · omega
          · exact h
        rw [if_pos h0] at hix
        have hix0 : 0 ≤ ix := by omega
        have h1' : ((s.size : Int) == 0) = false := beq_eq_false_iff_ne.2 (by omega)
        have h2' : decide ((8 : Int) < (s.size : Int)) = false := decide_eq_false (by omega)
        clear hbad hix hlen HZS h0 h1 h2
        go_enter Try.func73, Try.ntmps73
        go_wp2_with (go_at_call 89; refine (HCI.out _).mono ?_; rintro e w' ⟨rfl, rfl⟩)
        exact bodyPost_ret (v := .tuple #[.agg zeroC, .int .i64 1]) (results_box2 (v1 := .int .i64 1) Try.results73 _ _ w.heap.size rfl rfl HBR.out Try.underlying34 rfl HI.out) rfl ⟨rfl, HB.out⟩
  · have hE : keyOfF xs = (xs ++ List.replicate (8 - xs.length) 0, 0) := by unfold keyOfF; rw [if_neg hbad]
    simp only [not_or] at hbad
    rw [if_neg hbad.2.2] at hix
    have h1' : ((s.size : Int) == 0) = false := beq_eq_false_iff_ne.2 (by omega)
    have h2' : decide ((8 : Int) < (s.size : Int)) = false := decide_eq_false (by omega)
    have hs8 : s.size ≤ 8 := by omega
    have HZ : Hid (xs ++ List.replicate (8 - xs.length) 0 = zero8i.take 0 ++ (s.data.toList.map fun b => (b.toNat : Int)) ++ zero8i.drop (0 + s.size)) := hide (by
      have : (s.data.toList.map fun b => (b.toNat : Int)) = xs := hxs
      rw [this, ← hlen, Nat.zero_add, drop_zero8]
      rfl)
    rw [hE]
    have HL8 : Hid ((xs ++ List.replicate (8 - xs.length) 0).length = 8) := hide (by simp; omega)
    generalize xs ++ List.replicate (8 - xs.length) 0 = ks at *
    have HS8 : Hid ((cells8 ks).size = 8) := hide (by rw [cells8_size]; exact HL8.out)
    have HI2 : Hid ((Try.prog.info? 34).map (·.size) = some (cells8 ks).size) := hide (by rw [HS8.out]; exact HI.out)
    have HZZ : Hid ((zeroC : Array Value).size = (cells8 ks).size) := hide (by rw [HS8.out]; rfl)
    have HO : Hid ((cells8 ks).all (·.oneCell') = true) := hide (cells8_one ks)
    obtain ⟨h0a, h0b, h0c⟩ := hbad
    clear hlen HZS h0a h0b h0c hE hxs
    subst hix
    go_enter Try.func73, Try.ntmps73
    go_wp2_with (first
      | (go_at_call 89; refine (HCI.out _).mono ?_; rintro e w' ⟨rfl, rfl⟩)
      | (refine wp_copy_str _ rfl _ _ rfl (w.heap.size + 1) 0 8 8 34 zero8i ks HBK.out rfl s rfl hs8 (by simp [zero8i]; omega) HZ.out ?_; intro w2 hb2 hk2; have HB2 := hide hb2; have HK2 := hide hk2; have HR2 := hide (HBR.out.keep hk2 (fun e => absurd e (by omega))); clear hb2 hk2)
      | (refine wp_load_box rfl _ rfl _ rfl HB2.out Try.underlying34 rfl HI2.out ?_)
      | (refine wp_store_box rfl rfl _ _ rfl _ rfl rfl HR2.out HZZ.out HI2.out HO.out ?_; intro w3 hb3 hk3; have HB3 := hide hb3; have HK3 := hide hk3; clear hb3 hk3))
    refine bodyPost_ret (v := .tuple #[.agg (cells8 ks), .int .i64 0]) (results_box2 (v1 := .int .i64 0) Try.results73 _ _ w.heap.size rfl rfl HB3.out Try.underlying34 rfl HI2.out) rfl ⟨rfl, ?_⟩
    exact (HB.out.trans (HK2.out.below HB.out.size (fun k hk => by omega))).trans (HK3.out.below (Nat.le_trans HB.out.size HK2.out.size) (fun k hk => by omega))
end
end Go.Proofs.Ytddflccjmigloaa
