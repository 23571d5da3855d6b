/-
  Own texts put together: LkDone, LkOne, LkSort, LkIns1, LkCmp. Own work.
-/
import Derived.Test.YtiloagmkkhlfjaaGreatG16
import Derived.Test.YtiloagmkkhlfjaaGreatG10
import Derived.Test.YtiloagmkkhlfjaaGreatG13
import Derived.Test.YtiloagmkkhlfjaaGreatIdLay
import Derived.Shelf.SlSortCmp.NoneTotal
import Derived.Sort.LotA
import Derived.Sort.WalkA
namespace Go.Proofs.YtiloagmkkhlfjaaGreat
section
open Go.RowKit Go.Maps Classical
theorem ldid15 {w w' : World} {q b b' C : Nat} {F : Nat → Prop} {p p' : TxN → Nat × Nat} {l l' : List (aS KeyT)} (hF : ∀ k, F k ↔ eP q b p l k) (h : fJ w' q b' C p' l') (hk : aC (fun g => eP q b p l g) w w') (hs : ∀ g, eP q b' p' l' g → eP q b p l g ∨ w.heap.size ≤ g) : fP PL15 w w' q F C l' :=
 ⟨eP q b' p' l', ⟨b', p', h, fun _ => Iff.rfl⟩, hk.mono (fun g hg => (hF g).2 hg), fun g hg => (hs g hg).imp (fun h => (hF g).2 h) id⟩
theorem rel_flk {l l' : List (aS KeyT)} {t : TxN} {er : Int} {gr : List (cD KeyT)} (h : RelR cQ l t er l' gr) {q b : Nat} {p : TxN → Nat × Nat} {g : Nat} (hg : eP q b p l' g) : eP q b p l g := by
 rcases h with ⟨rfl, _⟩ | ⟨x, ks, _, _, _, _, rfl⟩
 ·exact hg
 ·exact iT (fun u hu => (List.mem_filter.1 hu).1) (eX (gO ks (cN l t)) hg)
theorem prep_flk {l l' : List (aS KeyT)} {t : TxN} {er : Int} {gr : List (cD KeyT)} (h : PrepR cQ l t er l' gr) {q b : Nat} {p : TxN → Nat × Nat} {g : Nat} (hg : eP q b p l' g) : eP q b p l g := by
 rcases h with ⟨rfl, _⟩ | ⟨x, ks, _, _, _, _, _, rfl⟩
 ·exact hg
 ·exact eX (by unfold bG; rw [List.map_map]; exact List.map_congr_left (fun u _ => by show (if u.tx = t then cK u else u).tx = u.tx; split <;> rfl)) (eX (gO ks (bG l t cK)) hg)
theorem wnd_len {l : List (aS KeyT)} (hb : dD l) (t : TxN) (k : KeyT) : (dX l t k).length ≤ 64 := by
 unfold dX sortU
 rw [List.length_map, List.length_mergeSort]
 exact Nat.le_trans (List.length_filter_le _ _) hb.few
theorem ask_b {l : List (aS KeyT)} (hb : dD l) {t : TxN} {tm : Nat} {k : KeyT} {m : Nat} (ht : kJ t) (htm : tm < 4294967296) (hmay : dG tm t k m = true) (hf : cM l t = none → l.length < 64) : dD (bG (cZ l t tm) t (bF k m)) := by
 refine wait_b ?_ t k (kE hmay)
 unfold cZ
 cases hu : cM l t with
 | none => exact insU_b hb hu (hf hu) ⟨ht, htm, fun _ => Nat.zero_le _, fun _ => Nat.zero_le _⟩
 | some x => exact hb
theorem lk_do (HS : SortB 64) : eH PL15 where
 keep := pl_keep
 lt := pl_lt
 ok := fun ⟨_, _, h, _⟩ => h.ok
 new := lkNew_any
 ask := fun {w q C F l} tm t k m ⟨b, p, h, hF⟩ hC ht htm hm => by
  refine (lkAsk_any 64 HS q b C p l tm t k m w h ht htm hm hC (fun h1 h2 => ⟨wnd_len (ask_b h.ok ht htm h1 h2) t k, qn64 (eS (ask_b h.ok ht htm h1 h2) _)⟩)).mono ?_
  rintro e w' ⟨vw, vg, er, wn, gr, l', p', rfl, hR, hp, hk, hs, ho, ho2⟩
  exact ⟨vw, vg, er, wn, gr, l', rfl, hR, ldid15 hF hp hk hs, ho, ho2⟩
 prep := fun {w q C F l} t ⟨b, p, h, hF⟩ hC ht => by
  refine (lkPrepare_any 64 HS q b C p l t w h ht hC (qn64 (prep_b h.ok t))).mono ?_
  rintro e w' ⟨vg, er, gr, l', rfl, hR, hp, hk, ho⟩
  exact ⟨vg, er, gr, l', rfl, hR, ldid15 hF hp hk (fun g hg => .inl (prep_flk hR hg)), ho⟩
 rel := fun {w q C F l} t ⟨b, p, h, hF⟩ hC ht => by
  refine (lkRelease_any 64 HS q b C p l t w h ht hC (qn64 (eS h.ok _))).mono ?_
  rintro e w' ⟨vg, er, gr, l', rfl, hR, hp, hk, ho⟩
  exact ⟨vg, er, gr, l', rfl, hR, ldid15 hF hp hk (fun g hg => .inl (rel_flk hR hg)), ho⟩
 rest := fun {w q C F l} t ks v ⟨b, p, h, hF⟩ hC hl ht hs => by
  refine (lkRestore_any q b C p l t ks v w h ht hs hl).mono ?_
  rintro e w' ⟨er, l', p', rfl, hR, hp, hk, hs'⟩
  exact ⟨er, l', rfl, hR, ldid15 hF hp hk hs'⟩
 mode := fun t k ⟨b, p, h, _⟩ ht => lkMode_any _ b _ p _ t k _ h ht
 waits := fun t ⟨b, p, h, _⟩ ht => lkWaits_any _ b _ p _ t _ h ht
 prepd := fun t ⟨b, p, h, _⟩ ht => lkPrepared_any _ b _ p _ t _ h ht
 users := fun ⟨b, p, h, _⟩ => lkUsers_any _ b _ p _ _ h
 queue := fun k ⟨b, p, h, _⟩ => lkQueue_any 64 HS _ b _ p _ k _ h (que_len h.ok k)
end
section
open Go.RowKit Go.Maps Go.Shelf Go.Sort Classical
theorem insOne (p : Option Addr) (cap : Nat) (fv : Value) (w : World) :
  Calls Tryz.prog 89 #[.slice p 1 cap, .int .i64 0, .int .i64 1, fv] w fun e w' => e = .returned (.tuple #[]) ∧ w' = w := by
 go_enter Tryz.func89, Tryz.ntmps89
 go_wp2
 refine wp_loop_rounds 1 ?_
 rw [rounds_succ]
 go_wp2
 go_end0
 exact ⟨rfl, rfl⟩
theorem pdqOne (p : Option Addr) (cap : Nat) (lim : Int) (fv : Value) (w : World) :
  Calls Tryz.prog 66 #[.slice p 1 cap, .int .i64 0, .int .i64 1, .int .i64 lim, fv] w fun e w' => e = .returned (.tuple #[]) ∧ w' = w := by
 have hi := fun W => insOne p cap fv W
 go_enter Tryz.func66, Tryz.ntmps66
 go_wp2
 refine wp_loop_rounds 1 ?_
 rw [rounds_succ]
 go_wp2_with (go_at_call 89; refine (hi _).mono ?_; rintro e w' ⟨rfl, rfl⟩)
 (try simp only [Exit.inBlock, Exit.then]); refine bodyPost_ret (results_none rfl _ _ _) rfl ?_
 exact ⟨rfl, rfl⟩
theorem sortOne (p : Option Addr) (cap : Nat) (fv : Value) (w : World) :
  Calls Tryz.prog 36 #[.slice p 1 cap, fv] w fun e w' => e = .returned (.tuple #[]) ∧ w' = w := by
 have hp := fun lim W => pdqOne p cap lim fv W
 have hl : ∀ W, Calls Tryz.prog 67 #[.int .u64 1] W fun e w' => e = .returned (.int .i64 (Lib.bitLen 1 : Nat)) ∧ w' = W := fun W => by
  have h := Any.bits_Len (SlLaysF0.n15.bits (P := Tryz.prog) { Tryz.sortL with }) 1 W (by omega) (by omega)
  exact h
 go_enter Tryz.func36, Tryz.ntmps36
 go_wp2_with (first | (go_at_call 67; refine (hl _).mono ?_; rintro e w' ⟨rfl, rfl⟩) | (go_at_call 66; refine (hp _ _).mono ?_; rintro e w' ⟨rfl, rfl⟩))
 go_end0
 exact ⟨rfl, rfl⟩
theorem sortB1 : SortB 1 := by
 intro W q b C p l base v ss h ho hss hnd hlen hvb
 obtain ⟨av, cv, rfl, _⟩ := aQ ho
 have hres : ss.Pairwise (dI l) := by
  match ss, hlen with
  | [], _ => exact List.Pairwise.nil
  | [a], _ => exact List.pairwise_singleton _ _
 by_cases h0 : ss.length = 0
 ·rw [h0]
  refine (AnyF.slices_SortFunc_none Tryz.sortL av cv _ W).mono ?_
  rintro e w' ⟨rfl, rfl⟩
  exact ⟨rfl, ss, fun _ => Iff.rfl, hres, by rw [h0] at ho ⊢; exact ho, aC.refl _ _⟩
 ·have h1 : ss.length = 1 := by omega
  rw [h1]
  refine (sortOne av cv _ W).mono ?_
  rintro e w' ⟨rfl, rfl⟩
  exact ⟨rfl, ss, fun _ => Iff.rfl, hres, by rw [h1] at ho ⊢; exact ho, aC.refl _ _⟩
end
section
open Go.RowKit Go.Maps Go.Shelf Go.Sort Classical
structure kW (w : World) (g : Nat) (d : Array TxN) : Prop where
 bx : ∃ cur, bZ w g cur 34 ∧ d.size * 3 ≤ cur.size
 rd : ∀ i, i < d.size → w.rangeAt g (i * 3) (txCs (txI d[i]!))
theorem kW.keep {S : Nat → Prop} {w w' : World} {g : Nat} {d : Array TxN} (h : kW w g d) (hk : aC S w w') (hS : ¬ S g) : kW w' g d := by
 obtain ⟨cur, hb, hn⟩ := h.bx
 refine ⟨⟨cur, hb.keep hk hS, hn⟩, fun i hi j v hv => ?_⟩
 rw [← h.rd i hi j v hv]
 exact World.cell?_of_block (hk.block g hb.lt hS)
theorem kW.below {w w' : World} {g : Nat} {d : Array TxN} (h : kW w g d) (hB : Below w.heap.size w w') : kW w' g d := h.keep (aC.of_below (fun _ => False) hB) (fun h => h)
theorem kW.cells {w : World} {g : Nat} {d : Array TxN} (h : kW w g d) {i : Nat} (hi : i < d.size) : w.cell? ⟨g, i * 3, none⟩ = some (.int .u8 (d[i]!.1 : Int)) ∧ w.cell? ⟨g, i * 3 + 1, none⟩ = some (.int .u32 (d[i]!.2.1 : Int)) ∧ w.cell? ⟨g, i * 3 + 2, none⟩ = some (.int .u32 (d[i]!.2.2 : Int)) :=
 ⟨h.rd i hi 0 _ rfl, h.rd i hi 1 _ rfl, h.rd i hi 2 _ rfl⟩
theorem kW.there {w : World} {g : Nat} {d : Array TxN} (h : kW w g d) {i : Nat} (hi : i < d.size) : w.there g (i * 3) 3 := by
 obtain ⟨cur, hb, hn⟩ := h.bx
 intro j hj
 have hlt : i * 3 + j < cur.size := by omega
 refine ⟨?_, hb.frozen _⟩
 rw [hb.cell _ _ (Array.getElem?_eq_getElem hlt)]
 rfl
theorem kW.set {w : World} {g : Nat} {d : Array TxN} (h : kW w g d) {i : Nat} (hi : i < d.size) (y : TxN) : kW (w.setCells g (i * 3) (txCs (txI y))) g (d.setIfInBounds i y) := by
 obtain ⟨cur, hb, hn⟩ := h.bx
 refine ⟨⟨_, hb.setCells (txCs (txI y)) (i * 3), by rw [iX]; simpa using hn⟩, fun j hj => ?_⟩
 have hj' : j < d.size := by simpa using hj
 by_cases e : j = i
 ·subst e
  have e2 : (d.setIfInBounds j y)[j]! = y := by simp [hj']
  rw [e2]
  exact World.rangeAt_setCells_same _ _ _ _ (h.there hi)
 ·have e2 : (d.setIfInBounds i y)[j]! = d[j]! := by
   simp [hj', Ne.symm e]
  rw [e2]
  refine World.rangeAt_setCells_apart (h.rd j hj') _ _ _ (.inr ?_)
  show j * 3 + 3 ≤ i * 3 ∨ i * 3 + 3 ≤ j * 3
  omega
def bA (l : List (aS KeyT)) (a b : TxN) : Int := fO (aT l a).ag (aT l b).ag
theorem lt_age {l : List (aS KeyT)} {x y : TxN} : ltOf (bA l) x y = true ↔ fO (aT l x).ag (aT l y).ag < 0 := decide_eq_true_iff
theorem nlt_age {l : List (aS KeyT)} {x y : TxN} : ltOf (bA l) x y = false ↔ ¬ fO (aT l x).ag (aT l y).ag < 0 := decide_eq_false_iff_not
theorem ageSWO (l : List (aS KeyT)) : SWO (ltOf (bA l)) := by
 refine ⟨fun x => by rw [nlt_age, stsF_self]; omega, fun x y z h1 h2 => ?_, fun x y z h1 h2 => ?_⟩
 ·rw [lt_age] at *
  exact stsF_trans h1 h2
 ·rw [nlt_age] at *
  have e1 := gC (aT l x).ag (aT l y).ag
  have e2 := gC (aT l y).ag (aT l z).ag
  have e3 := gC (aT l x).ag (aT l z).ag
  have h4 := fW (stL (aT l z).ag) (stL (aT l y).ag) (stL (aT l x).ag) rfl rfl (by unfold fO at *; omega) (by unfold fO at *; omega)
  unfold fO at *
  omega
def iB (l : List (aS KeyT)) (q g : Nat) (w0 : World) : Prop := ∀ W x y, aC (fun j => j = g) w0 W → (∃ u ∈ l, u.tx = x) → (∃ u ∈ l, u.tx = y) →
 Calls Tryz.prog 37 #[.pointer (some ⟨q, 0, none⟩), aV x, aV y] W fun e w' => e = .returned (.int .i64 (bA l x y)) ∧ dN W w'
theorem ageAt15 {q b C : Nat} {p : TxN → Nat × Nat} {l : List (aS KeyT)} {g : Nat} {w0 : World} (h : fJ w0 q b C p l) (hg : ¬ eP q b p l g) : iB l q g w0 := fun W x y hk hx hy => by
 have hW := h.keep hk (fun j hj e => hg (e ▸ hj))
 obtain ⟨u, hu, rfl⟩ := hx
 obtain ⟨v, hv, rfl⟩ := hy
 exact byAge15 q b C p l u.tx v.tx W hW (h.ok.oks u hu).1 (h.ok.oks v hv).1
abbrev ageV (q : Nat) : Value := .func (.func 37) #[.pointer (some ⟨q, 0, none⟩)] #[]
def AllU (l : List (aS KeyT)) (d : Array TxN) : Prop := ∀ i, i < d.size → ∃ u ∈ l, u.tx = d[i]!
theorem AllU.swp {l : List (aS KeyT)} {d : Array TxN} (h : AllU l d) {i j : Nat} (hi : i < d.size) (hj : j < d.size) : AllU l (swp d i j) := fun t ht => by
 have ht' : t < d.size := by rw [size_swp] at ht; exact ht
 by_cases e1 : t = j
 ·subst e1
  have : (Go.Sort.swp d i t)[t]! = d[i]! := by unfold Go.Sort.swp; simp [hj]
  rw [this]
  exact h i hi
 ·by_cases e2 : t = i
  ·subst e2
   have : (Go.Sort.swp d t j)[t]! = d[j]! := by
    unfold Go.Sort.swp
    simp [Array.getElem!_eq_getD, Array.getD, hi, Ne.symm e1]
   rw [this]
   exact h j hj
  ·rw [swp_other d i j t e2 e1]
   exact h t ht'
end
section
open Go.RowKit Go.Maps Go.Shelf Go.Sort Classical
def dnK (x : Value) : Nat := match x with | .int _ i => i.toNat | _ => 0
theorem iG (m : Nat) (k : IntKind) : dnK (.int k ((m : Nat) : Int)) = m := by unfold dnK; simp
def stT (a v : Value) : Sem Unit := Instr.storeAt 34 a v
theorem fT (a v : Value) : Instr.storeAt 34 a v = stT a v := rfl
theorem run_stT {w : World} {g : Nat} {d : Array TxN} (h : kW w g d) {i : Nat} (hi : i < d.size) (y : TxN) : (stT (.pointer (some ⟨g, i * 3, none⟩)) (aV y)).run Tryz.prog w = .ok () (w.setCells g (i * 3) (txCs (txI y))) := by
 have hr := run_storeAt_mid (P := Tryz.prog) w g (i * 3) 34 (txCs (txI y)).toArray (h.there hi) fS (by simp [Value.oneCell'])
 exact hr
theorem swp_row {w : World} {g : Nat} {d : Array TxN} (h : kW w g d) {i j : Nat} (hi : i < d.size) (hj : j < d.size) : kW ((w.setCells g (i * 3) (txCs (txI d[j]!))).setCells g (j * 3) (txCs (txI d[i]!))) g (swp d i j) :=
 (h.set hi d[j]!).set (by simpa using hj) d[i]!
theorem keep_set2 {w0 w : World} {g : Nat} (h : aC (fun j => j = g) w0 w) (o : Nat) (vs : List Value) : aC (fun j => j = g) w0 (w.setCells g o vs) := aC.setCells (g := g) vs o w0 w h (.inl rfl)
end
section
open Go.RowKit Go.Maps Go.Shelf Go.Sort Classical
structure bJ (l : List (aS KeyT)) (g : Nat) (w0 w : World) (n : Nat) (d : Array TxN) : Prop where
 sz : d.size = n
 us : AllU l d
 row : kW w g d
 kb : aC (fun j => j = g) w0 w
 cz : ∀ cur0, bZ w0 g cur0 34 → ∃ cur, bZ w g cur 34 ∧ cur.size = cur0.size
theorem bJ.keepS {S : Nat → Prop} {l : List (aS KeyT)} {g n : Nat} {w0 w w' : World} {d : Array TxN} (h : bJ l g w0 w n d) (hk : aC S w w') (hS : ¬ S g) (hk0 : aC (fun j => j = g) w0 w') : bJ l g w0 w' n d :=
 ⟨h.sz, h.us, h.row.keep hk hS, hk0, fun c hc => by
  obtain ⟨cur, h1, h2⟩ := h.cz c hc
  exact ⟨cur, h1.keep hk hS, h2⟩⟩
theorem bJ.below {l : List (aS KeyT)} {g n : Nat} {w0 w w' : World} {d : Array TxN} (h : bJ l g w0 w n d) (hB : Below w.heap.size w w') : bJ l g w0 w' n d :=
 h.keepS (aC.of_below (fun _ => False) hB) (fun h => h) (h.kb.trans (aC.of_below (fun _ => False) hB) (fun _ _ h => h.elim))
theorem bJ.drew {l : List (aS KeyT)} {g n : Nat} {w0 w : World} {d : Array TxN} (h : bJ l g w0 w n d) : bJ l g w0 w.drew n d := h.below (aG w)
abbrev C3 (w : World) (g i : Nat) (x : TxN) : Prop := w.cell? ⟨g, i * 3, none⟩ = some (.int .u8 (x.1 : Int)) ∧ w.cell? ⟨g, i * 3 + 1, none⟩ = some (.int .u32 (x.2.1 : Int)) ∧ w.cell? ⟨g, i * 3 + 2, none⟩ = some (.int .u32 (x.2.2 : Int))
theorem iM {l : List (aS KeyT)} {q g n : Nat} {w0 w : World} {d : Array TxN} (hC : iB l q g w0) (h : bJ l g w0 w n d) {i j : Nat} (hi : i < n) (hj : j < n) :
  ∃ (X Y : TxN) (A : Int), Hid (X = d[i]! ∧ Y = d[j]! ∧ (A < 0 → ltOf (bA l) d[i]! d[j]! = true) ∧ (¬ A < 0 → ltOf (bA l) d[i]! d[j]! = false)) ∧ C3 w g i X ∧ C3 w g j Y ∧
   Hid (Calls Tryz.prog 37 #[.pointer (some ⟨q, 0, none⟩), aV X, aV Y] w.drew fun e w' => e = .returned (.int .i64 A) ∧ Hid (bJ l g w0 w' n d) ∧ C3 w' g i X ∧ C3 w' g j Y) := by
 have hs := h.sz
 refine ⟨d[i]!, d[j]!, bA l d[i]! d[j]!, aA ⟨rfl, rfl, fun h => by rw [lt_age]; exact h, fun h => by rw [nlt_age]; exact h⟩, h.row.cells (by omega), h.row.cells (by omega), aA ?_⟩
 refine (hC w.drew _ _ h.drew.kb (h.us i (by omega)) (h.us j (by omega))).mono ?_
 rintro e w' ⟨rfl, hG⟩
 have h2 := h.drew.below hG.below
 exact ⟨rfl, aA h2, h2.row.cells (by omega), h2.row.cells (by omega)⟩
theorem gE {l : List (aS KeyT)} {g n : Nat} {w0 w : World} {d : Array TxN} (h : bJ l g w0 w n d) {i j : Nat} (hi : i < n) (hj : j < n) {X Y : TxN} (hX : X = d[i]!) (hY : Y = d[j]!) :
  (stT (.pointer (some ⟨g, i * 3, none⟩)) (aV Y)).run Tryz.prog w.drew = .ok () (w.drew.setCells g (i * 3) (txCs (txI Y))) ∧
  (stT (.pointer (some ⟨g, j * 3, none⟩)) (aV X)).run Tryz.prog (w.drew.setCells g (i * 3) (txCs (txI Y))) = .ok () ((w.drew.setCells g (i * 3) (txCs (txI Y))).setCells g (j * 3) (txCs (txI X))) ∧
  Hid (bJ l g w0 ((w.drew.setCells g (i * 3) (txCs (txI Y))).setCells g (j * 3) (txCs (txI X))) n (swp d i j)) := by
 have hs := h.sz
 have hi' : i < d.size := by omega
 have hj' : j < d.size := by omega
 subst hX hY
 exact ⟨run_stT h.drew.row hi' _, run_stT (h.drew.row.set hi' _) (by simpa using hj') _, aA ⟨by rw [size_swp]; exact hs, h.us.swp hi' hj', swp_row h.drew.row hi' hj', keep_set2 (keep_set2 h.drew.kb _ _) _ _, fun c hc => by
  obtain ⟨cur, h1, h2⟩ := h.drew.cz c hc
  exact ⟨_, (h1.setCells _ _).setCells _ _, by rw [iX, iX]; exact h2⟩⟩⟩
end
end Go.Proofs.YtiloagmkkhlfjaaGreat
