/-
  Own texts put together: LrOnP, LrGone. Own work.
-/
import Derived.Test.YtiloagmkkhlfjaaGreatG30
import Derived.Test.YtiloagmkkhlfjaaGreatG35
import Derived.Test.YtiloagmkkhlfjaaGreatG33
import Derived.Test.YtiloagmkkhlfjaaGreatG34
namespace Go.Proofs.YtiloagmkkhlfjaaGreat
section
open Classical
theorem erase_pair {α : Type} {R : α → α → Prop} {l : List α} (h : l.Pairwise R) (k : Nat) : (l.eraseIdx k).Pairwise R := h.sublist (List.eraseIdx_sublist _ _)
theorem erase_memG {W : List (cD KeyT)} (h : W.Pairwise fun a b => ¬ (a.tx = b.tx ∧ a.key = b.key)) {m : Nat} (hm : m < W.length) (x : cD KeyT) : x ∈ W.eraseIdx m ↔ x ∈ W ∧ ¬ (x.tx = W[m].tx ∧ x.key = W[m].key) := by
 have hp := List.pairwise_iff_getElem.1 h
 rw [List.mem_eraseIdx_iff_getElem]
 constructor
 ·rintro ⟨j, hj, hne, rfl⟩
  refine ⟨List.getElem_mem _, fun e => ?_⟩
  rcases Nat.lt_or_gt_of_ne hne with h1 | h1
  ·exact hp j m hj hm h1 e
  ·exact hp m j hm hj h1 ⟨e.1.symm, e.2.symm⟩
 ·rintro ⟨hx, hne⟩
  obtain ⟨j, hj, rfl⟩ := List.getElem_of_mem hx
  exact ⟨j, hj, fun e => by subst e; exact hne ⟨rfl, rfl⟩, rfl⟩
theorem step_rep {l : List (aS KeyT)} {L : List UsR} {H W : List (cD KeyT)} (h : eF l L H W) (hb : dD l) {m : Nat} (hm : m < W.length) : eF (bG l W[m].tx (iL W[m].key)) L (jU H ⟨W[m].tx, W[m].key, max W[m].mode ((aT l W[m].tx).h W[m].key)⟩) (W.eraseIdx m) := by
 obtain ⟨hx, e1, e2, e3⟩ := h.w.got hb (List.getElem_mem hm)
 generalize hg : W[m] = g at *
 refine ⟨?_, ?_, ?_⟩
 ·rw [h.us]
  unfold bG
  rw [List.map_map]
  refine List.map_congr_left fun u _ => ?_
  show usR u = usR (if u.tx = g.tx then iL g.key u else u)
  split <;> rfl
 ·refine h.h.put (g := ⟨g.tx, g.key, max g.mode ((aT l g.tx).h g.key)⟩) (by show max g.mode _ ≠ 0; omega) ⟨_, hx, e1⟩ (φ := iL g.key) (fun _ => rfl) (fun u hu e => ?_) (fun u k hk => gr_h' hk) (holdL_pair h.h.u) (fun x => holdL_mem)
  have hu2 : aT l g.tx = u := by rw [← e]; exact bH hb hu
  rw [hu2] at e2 ⊢
  show (iL g.key u).h g.key = max g.mode (u.h g.key)
  rw [gr_h, e2]
  omega
 ·refine h.w.less (g := g) (φ := iL g.key) (fun _ => rfl) (fun u => gr_w) (fun u k hk => gr_w' hk) (erase_pair h.w.u m) (fun x => ?_)
  rw [erase_memG h.w.u hm, hg]
def Bef (l : List (aS KeyT)) (a c : cD KeyT) : Prop := cQ a.key c.key < 0 ∨ (a.key = c.key ∧ Old (aT l a.tx) (aT l c.tx))
theorem bef_trans {l : List (aS KeyT)} {a b c : cD KeyT} (h1 : Bef l a b) (h2 : Bef l b c) : Bef l a c := by
 rcases h1 with h1 | ⟨e1, h1⟩
 ·rcases h2 with h2 | ⟨e2, h2⟩
  ·left
   have h3 := kR a.key b.key c.key (by omega) (by omega)
   by_cases h0 : cQ a.key c.key = 0
   ·have := (f8 _ _).1 h0
    rw [this] at h1
    have := fD b.key c.key
    omega
   ·omega
  ·left; rw [← e2]; exact h1
 ·rcases h2 with h2 | ⟨e2, h2⟩
  ·left; rw [e1]; exact h2
  ·right; exact ⟨e1.trans e2, h1.trans h2⟩
theorem bef_total {l : List (aS KeyT)} {a c : cD KeyT} (ha : (aT l a.tx).tx = a.tx) (hc : (aT l c.tx).tx = c.tx) (hne : ¬ (a.tx = c.tx ∧ a.key = c.key)) (h : ¬ Bef l a c) : Bef l c a := by
 unfold Bef at *
 have h1 : ¬ cQ a.key c.key < 0 := fun e => h (.inl e)
 by_cases h0 : cQ a.key c.key = 0
 ·have e := (f8 _ _).1 h0
  right
  refine ⟨e.symm, ?_⟩
  have h2 : ¬ Old (aT l a.tx) (aT l c.tx) := fun h3 => h (.inr ⟨e, h3⟩)
  exact (f5 (by rw [ha, hc]; exact fun e2 => hne ⟨e2, e⟩)).resolve_left h2
 ·left
  have := fD a.key c.key
  omega
def Best (l : List (aS KeyT)) (W : List (cD KeyT)) (k : Nat) (bt : Int) : Prop :=
 (bt = -1 ∧ ∀ j (hj : j < W.length), j < k → NF l (aT l W[j].tx) W[j].key) ∨
 ∃ m : Nat, bt = (m : Int) ∧ m < k ∧ ∃ hm : m < W.length, ¬ NF l (aT l W[m].tx) W[m].key ∧ ∀ j (hj : j < W.length), j < k → ¬ NF l (aT l W[j].tx) W[j].key → j = m ∨ Bef l W[m] W[j]
theorem best_pick {l : List (aS KeyT)} {L : List UsR} {H W : List (cD KeyT)} (h : eF l L H W) (hb : dD l) {m : Nat} (hm : m < W.length) (hf : ¬ NF l (aT l W[m].tx) W[m].key) (ha : ∀ j (hj : j < W.length), ¬ NF l (aT l W[j].tx) W[j].key → j = m ∨ Bef l W[m] W[j]) : Pick cQ l W[m].tx W[m].key := by
 obtain ⟨hx, e1, e2, e3⟩ := h.w.got hb (List.getElem_mem hm)
 refine ⟨_, hx, e1, by rw [e2]; exact e3, hf, fun v hv k' hw hnf => ?_⟩
 have hin : (⟨v.tx, k', v.w k'⟩ : cD KeyT) ∈ W := (h.w.m _ _ _).2 ⟨hw, v, hv, rfl, rfl⟩
 obtain ⟨j, hj, ej⟩ := List.getElem_of_mem hin
 have hv2 := bH hb hv
 rcases ha j hj (by rw [ej]; show ¬ NF l (aT l v.tx) k'; rw [hv2]; exact hnf) with e | hbf
 ·subst e
  rw [ej]
  exact .inl ⟨rfl, rfl⟩
 ·rw [ej] at hbf
  rcases hbf with hlt | ⟨ek, ho⟩
  ·exact .inr (.inl hlt)
  ·refine .inr (.inr ⟨ek.symm, ?_⟩)
   have ho : Old (aT l W[m].tx) (aT l v.tx) := ho
   rw [hv2] at ho
   exact ho
theorem best_stop {l : List (aS KeyT)} {L : List UsR} {H W : List (cD KeyT)} (h : eF l L H W) (hb : dD l) (ha : ∀ j (hj : j < W.length), j < W.length → NF l (aT l W[j].tx) W[j].key) : ∀ u ∈ l, ∀ k, u.w k ≠ 0 → NF l u k := fun u hu k hw => by
 have hin : (⟨u.tx, k, u.w k⟩ : cD KeyT) ∈ W := (h.w.m _ _ _).2 ⟨hw, u, hu, rfl, rfl⟩
 obtain ⟨j, hj, ej⟩ := List.getElem_of_mem hin
 have := ha j hj hj
 rw [ej] at this
 rw [← bH hb hu]
 exact this
theorem best_next {l : List (aS KeyT)} {L : List UsR} {H W : List (cD KeyT)} (h : eF l L H W) (hb : dD l) {k : Nat} (hk : k < W.length) {bt : Int} (hB : Best l W k bt) :
  (NF l (aT l W[k].tx) W[k].key → Best l W (k + 1) bt) ∧ (¬ NF l (aT l W[k].tx) W[k].key → bt = -1 → Best l W (k + 1) (k : Int)) ∧
  (¬ NF l (aT l W[k].tx) W[k].key → ∀ m : Nat, bt = (m : Int) → ∀ hm : m < W.length, (Bef l W[k] W[m] → Best l W (k + 1) (k : Int)) ∧ (¬ Bef l W[k] W[m] → Best l W (k + 1) bt)) := by
 have hp := List.pairwise_iff_getElem.1 h.w.u
 refine ⟨fun hn => ?_, fun hf e => ?_, fun hf m e hm => ⟨fun hbf => ?_, fun hbf => ?_⟩⟩
 ·rcases hB with ⟨e, ha⟩ | ⟨m, e, hmk, hm, hfm, ha⟩
  ·exact .inl ⟨e, fun j hj hjk => by
    by_cases ej : j = k
    ·subst ej; exact hn
    ·exact ha j hj (by omega)⟩
  ·exact .inr ⟨m, e, by omega, hm, hfm, fun j hj hjk hfj => by
    by_cases ej : j = k
    ·subst ej; exact absurd hn hfj
    ·exact ha j hj (by omega) hfj⟩
 ·rcases hB with ⟨_, ha⟩ | ⟨m, e2, _⟩
  ·exact .inr ⟨k, rfl, by omega, hk, hf, fun j hj hjk hfj => by
    by_cases ej : j = k
    ·exact .inl ej
    ·exact absurd (ha j hj (by omega)) hfj⟩
  ·omega
 ·rcases hB with ⟨e2, _⟩ | ⟨m', e2, hmk, hm', hfm, ha⟩
  ·omega
  ·obtain rfl : m' = m := by omega
   exact .inr ⟨k, rfl, by omega, hk, hf, fun j hj hjk hfj => by
    by_cases ej : j = k
    ·exact .inl ej
    ·rcases ha j hj (by omega) hfj with e3 | h3
     ·subst e3; exact .inr hbf
     ·exact .inr (bef_trans hbf h3)⟩
 ·rcases hB with ⟨e2, _⟩ | ⟨m', e2, hmk, hm', hfm, ha⟩
  ·omega
  ·obtain rfl : m' = m := by omega
   refine .inr ⟨m', e2, by omega, hm', hfm, fun j hj hjk hfj => ?_⟩
   by_cases ej : j = k
   ·subst ej
    right
    refine bef_total (h.w.got hb (List.getElem_mem hk)).2.1 (h.w.got hb (List.getElem_mem hm')).2.1 (fun e3 => hp m' j hm' hk (by omega) ⟨e3.1.symm, e3.2.symm⟩) hbf
   ·exact ha j hj (by omega) hfj
end
section
open Go.RowKit Go.Maps Classical
structure iK where
 r : Nat
 p3 : Nat
 t : TxN
 v0 : Value
 vH : Value
 vW : Value
 H : List (cD KeyT)
 W : List (cD KeyT)
 W0 : World
abbrev iK.fl (_ : iK) (l : List (cD KeyT)) (t : TxN) : List (cD KeyT) := l.filter fun g => decide (g.tx ≠ t)
def OwnG (g : iK) (l : List (cD KeyT)) (v : Value) (w : World) : Prop := w.ownsRow g.W0.heap.size 62 12 v (g.fl l g.t).length (bR gtE (g.fl l g.t))
def IG (g : iK) (i : Nat) (v : Value) (w : World) : Prop := match i with
 | 0 | 1 | 2 | 3 | 8 | 9 | 14 | 17 => v = .pointer (some ⟨g.r, 0, none⟩)
 | 4 | 15 => v = .pointer (some ⟨g.r, 1, none⟩)
 | 10 | 18 => v = .pointer (some ⟨g.r, 2, none⟩)
 | 5 => v = g.vH
 | 11 => v = g.vW
 | 6 | 12 => v = aV g.t
 | 7 => OwnG g g.H v w
 | 13 => OwnG g g.W v w
 | 16 => g.r < g.W0.heap.size ∧ g.W0.heap.size ≤ w.heap.size ∧ ∃ u, w.cell? ⟨g.r, 1, none⟩ = some u ∧ OwnG g g.H u w
 | 19 => g.r < g.W0.heap.size ∧ g.W0.heap.size ≤ w.heap.size ∧ ∃ u, w.cell? ⟨g.r, 2, none⟩ = some u ∧ OwnG g g.W u w
 | _ => True
def SG (g : iK) (listed : Array Bool) (w : World) : Prop := ∃ x1 x2, bZ w g.r #[g.v0, x1, x2] 28 ∧ (listed.getD 16 true = false → x1 = g.vH) ∧ (listed.getD 19 true = false → x2 = g.vW) ∧ aC (fun j => j = g.r) g.W0 w ∧ listed.size = 20
def RG (g : iK) (i : Nat) (w w' : World) : Prop := g.r < g.W0.heap.size ∧ (i ≠ 16 → i ≠ 19 → Below w.heap.size w w') ∧ (i = 16 → ∃ u, w' = w.setCell ⟨g.r, 1, none⟩ u) ∧ (i = 19 → ∃ u, w' = w.setCell ⟨g.r, 2, none⟩ u)
theorem own_sg {g : iK} {l : List (cD KeyT)} {v : Value} {w w' : World} {i : Nat} (h : OwnG g l v w) (hR : RG g i w w') : OwnG g l v w' := by
 obtain ⟨hr, h1, h2, h3⟩ := hR
 have key : ∀ o u, OwnG g l v (w.setCell ⟨g.r, o, none⟩ u) := fun o u => aJ h ((aC.refl (fun k => k = g.r) w).setCell (p := ⟨g.r, o, none⟩) (.inl rfl) u) (fun k hk e => by have := (h.lt k hk).1; omega)
 by_cases e16 : i = 16
 ·obtain ⟨u, rfl⟩ := h2 e16; exact key _ _
 by_cases e19 : i = 19
 ·obtain ⟨u, rfl⟩ := h3 e19; exact key _ _
 exact aJ h (aC.of_below (fun _ => False) (h1 e16 e19)) (fun _ _ h => h)
theorem ig_keep (g : iK) : ∀ i j v w w', i ≠ j → IG g j v w → RG g i w w' → IG g j v w' := fun i j v w w' hij h hR => by
 have hsz : w.heap.size ≤ w'.heap.size := by
  obtain ⟨_, h1, h2, h3⟩ := hR
  by_cases e16 : i = 16
  ·obtain ⟨u, rfl⟩ := h2 e16; simp
  by_cases e19 : i = 19
  ·obtain ⟨u, rfl⟩ := h3 e19; simp
  exact (h1 e16 e19).size
 have hcell : ∀ o u, (o = 1 ∧ i ≠ 16 ∨ o = 2 ∧ i ≠ 19) → g.W0.heap.size ≤ w.heap.size → w.cell? ⟨g.r, o, none⟩ = some u → w'.cell? ⟨g.r, o, none⟩ = some u := fun o u ho hw hc => by
  obtain ⟨hr, h1, h2, h3⟩ := hR
  by_cases e16 : i = 16
  ·obtain ⟨u', rfl⟩ := h2 e16
   have : o = 2 := by omega
   subst this
   rw [World.cell?_setCell_other _ _ _ _ (by intro hh; cases hh)]
   exact hc
  by_cases e19 : i = 19
  ·obtain ⟨u', rfl⟩ := h3 e19
   have : o = 1 := by omega
   subst this
   rw [World.cell?_setCell_other _ _ _ _ (by intro hh; cases hh)]
   exact hc
  rw [← hc]
  exact (h1 e16 e19).cell (p := ⟨g.r, o, none⟩) (by show g.r < _; omega)
 unfold IG at h ⊢
 split
 all_goals first
  | exact h
  | exact own_sg h hR
  | (obtain ⟨h1, h2, u, h3, h4⟩ := h; exact ⟨h1, Nat.le_trans h2 hsz, u, hcell _ _ (by omega) h2 h3, own_sg h4 hR⟩)
  | trivial
theorem eB {g : iK} {listed : Array Bool} {w : World} {i : Nat} (h : SG g listed w) (h1 : i ≠ 16) (h2 : i ≠ 19) : SG g (listed.setIfInBounds i true) w := by
 obtain ⟨x1, x2, hb, e1, e2, hk, hz⟩ := h
 refine ⟨x1, x2, hb, fun e => e1 ?_, fun e => e2 ?_, hk, by simpa using hz⟩
 ·rw [← e]; simp [Array.getD_eq_getD_getElem?, h1]
 ·rw [← e]; simp [Array.getD_eq_getD_getElem?, h2]
theorem sg_below {g : iK} {listed : Array Bool} {w w' : World} {i : Nat} (h : SG g listed w) (hB : Below w.heap.size w w') (h1 : i ≠ 16) (h2 : i ≠ 19) : SG g (listed.setIfInBounds i true) w' := by
 obtain ⟨x1, x2, hb, e1, e2, hk, hz⟩ := eB h h1 h2
 exact ⟨x1, x2, hb.belowI hB, e1, e2, hk.trans (aC.of_below (fun j => j = g.r) hB) (fun _ _ h => h), hz⟩
theorem eG {g : iK} {w : World} {i : Nat} (h : g.r < g.W0.heap.size) (h1 : i ≠ 16) (h2 : i ≠ 19) : RG g i w w := ⟨h, fun _ _ => Below.refl _ _, fun e => absurd e h1, fun e => absurd e h2⟩
theorem rg_below {g : iK} {w w' : World} {i : Nat} (h : g.r < g.W0.heap.size) (hB : Below w.heap.size w w') (h1 : i ≠ 16) (h2 : i ≠ 19) : RG g i w w' := ⟨h, fun _ _ => hB, fun e => absurd e h1, fun e => absurd e h2⟩
theorem sg_c1 {g : iK} {listed : Array Bool} {w : World} (h : SG g listed w) (hl : listed.getD 16 true = false) : w.cell? ⟨g.r, 1, none⟩ = some g.vH := by
 obtain ⟨x1, x2, hb, e1, _⟩ := h
 rw [← e1 hl]
 exact hb.cell 1 _ rfl
theorem sg_c2 {g : iK} {listed : Array Bool} {w : World} (h : SG g listed w) (hl : listed.getD 19 true = false) : w.cell? ⟨g.r, 2, none⟩ = some g.vW := by
 obtain ⟨x1, x2, hb, _, e2, _⟩ := h
 rw [← e2 hl]
 exact hb.cell 2 _ rfl
theorem sg_keep {g : iK} {listed : Array Bool} {w : World} (h : SG g listed w) : aC (fun j => j = g.r) g.W0 w := by
 obtain ⟨x1, x2, _, _, _, hk, _⟩ := h
 exact hk
theorem sg_st1 {g : iK} {listed : Array Bool} {w : World} (h : SG g listed w) (v : Value) : SG g (listed.setIfInBounds 16 true) (w.setCell ⟨g.r, 1, none⟩ v) := by
 obtain ⟨x1, x2, hb, e1, e2, hk, hz⟩ := h
 refine ⟨v, x2, hb.set (i := 1) (v := v), fun e => ?_, fun e => e2 ?_, hk.trans ((aC.refl (fun k => k = g.r) w).setCell (p := ⟨g.r, 1, none⟩) (.inl rfl) v) (fun _ _ h => h), by simpa using hz⟩
 ·simp [Array.getD_eq_getD_getElem?, hz] at e
 ·rw [← e]; simp [Array.getD_eq_getD_getElem?]
theorem sg_st2 {g : iK} {listed : Array Bool} {w : World} (h : SG g listed w) (v : Value) : SG g (listed.setIfInBounds 19 true) (w.setCell ⟨g.r, 2, none⟩ v) := by
 obtain ⟨x1, x2, hb, e1, e2, hk, hz⟩ := h
 refine ⟨x1, v, hb.set (i := 2) (v := v), fun e => e1 ?_, fun e => ?_, hk.trans ((aC.refl (fun k => k = g.r) w).setCell (p := ⟨g.r, 2, none⟩) (.inl rfl) v) (fun _ _ h => h), by simpa using hz⟩
 ·rw [← e]; simp [Array.getD_eq_getD_getElem?]
 ·simp [Array.getD_eq_getD_getElem?, hz] at e
theorem sg_boxr {g : iK} {listed : Array Bool} {w : World} (h : SG g listed w) : ∃ x1 x2, bZ w g.r #[g.v0, x1, x2] 28 := by
 obtain ⟨x1, x2, hb, _⟩ := h
 exact ⟨x1, x2, hb⟩
section
variable {ρ : Operand → Value} {w : World} {dst : Option Tmp} {ty : TypeId} {pos : String} {aft : Array Edge} {gd : Option (Nat × Bool)}
theorem yst_rgots (x y : Operand) {p o : Nat} {a : Option Addr} {n c : Nat} {u : Value} (hx : ρ x = .pointer (some ⟨p, o, none⟩)) (hy : ρ y = .slice a n c) (hc : w.cell? ⟨p, o, none⟩ = some u) (hf : w.frozen? ⟨p, o, none⟩ = false) : (execOp ρ ⟨dst, .store 26 x y, ty, pos, aft, gd⟩).run Tryz.prog w = .ok .skip (w.setCell ⟨p, o, none⟩ (.slice a n c)) := by simp [go_sem, hx, hy, hc, hf]
end
theorem dC.trans {w w1 w2 : World} {r : Nat} {vL vH vW vL1 vH1 vW1 vL2 vH2 vW2 : Value} {L1 L2 : List UsR} {H1 W1 H2 W2 : List (cD KeyT)} (h1 : dC w w1 r vL vH vW vL1 vH1 vW1 L1 H1 W1) (h2 : dC w1 w2 r vL1 vH1 vW1 vL2 vH2 vW2 L2 H2 W2) : dC w w2 r vL vH vW vL2 vH2 vW2 L2 H2 W2 :=
 ⟨h2.t, h1.k.trans h2.k (fun _ _ h => h), fun j hj => (h2.u j hj).elim (h1.u j) (fun h => .inr (Nat.le_trans h1.k.size h))⟩
theorem gone_put {w w' : World} {r : Nat} {vL vH vW u1 u2 : Value} {L : List UsR} {H W H' W' : List (cD KeyT)} (h : iU w r vL vH vW L H W) (hb : bZ w' r #[vL, u1, u2] 28) (hk : aC (fun j => j = r) w w') (h1 : w'.ownsRow w.heap.size 62 12 u1 H'.length (bR gtE H')) (h2 : w'.ownsRow w.heap.size 62 12 u2 W'.length (bR gtE W')) :
  dC w w' r vL vH vW vL u1 u2 L H' W' := by
 have hr := h.box.lt
 refine ⟨⟨hb, h.sL.keep hk (fun g e => (h.far g (.inl e)).2), bI.of_own h1, bI.of_own h2, ?_⟩, hk, ?_⟩
 ·rintro k (e | e | e)
  ·have := h.far k (.inl e)
   exact ⟨Nat.lt_of_lt_of_le this.1 hk.size, this.2⟩
  ·have := h1.lt k e
   exact ⟨this.2, by omega⟩
  ·have := h2.lt k e
   exact ⟨this.2, by omega⟩
 ·rintro k (e | e | e)
  ·exact .inl (.inl e)
  ·exact .inr (h1.lt k e).1
  ·exact .inr (h2.lt k e).1
theorem en_withoutR : ∀ args w, (callFunc 40 args).run Tryz.prog w = .ok (.enter 40 args) w := enters_of Tryz.func40 (by kernel_rfl) rfl
theorem gone_call {g : iK} {listed : Array Bool} {w : World} {i : Nat} {v : Value} {l : List (cD KeyT)} (hS : SG g listed w) (hr : g.r < g.W0.heap.size) (h1 : i ≠ 16) (h2 : i ≠ 19) (hs : bI gtE g.W0 v l) (hv : ∀ k, v.ownBlock = some k → k ≠ g.r) (hf : l.length ≤ 10000) (hI : ∀ u w', OwnG g l u w' → IG g i u w') :
  Calls Tryz.prog 40 #[v, aV g.t] w fun e w' => ∃ u, e = .returned u ∧ SG g (listed.setIfInBounds i true) w' ∧ RG g i w w' ∧ IG g i u w' := by
 refine (rwithout_any15 v l g.t w (hs.keep (sg_keep hS) (fun k e => hv k e)) hf).mono ?_
 rintro e w' ⟨u, rfl, ho, hB⟩
 exact ⟨u, rfl, sg_below hS hB h1 h2, rg_below hr hB h1 h2, hI _ _ (bQ ho (sg_keep hS).size)⟩
attribute [local go_sem ↓] iW
theorem rise_erase {l : List (aS KeyT)} (hp : l.Pairwise fun a b => jZ a.tx b.tx < 0) {k : Nat} (hk : k < l.length) {t : TxN} (e : l[k].tx = t) : cN l t = l.eraseIdx k := by
 unfold cN
 revert k
 induction l with
 | nil => intro k hk; simp at hk
 | cons x l ih =>
  intro k hk e
  obtain ⟨h1, h2⟩ := List.pairwise_cons.1 hp
  cases k with
  | zero =>
   have e0 : x.tx = t := by simpa using e
   rw [List.filter_cons, if_neg (by simp [e0]), List.eraseIdx_cons_zero, List.filter_eq_self]
   intro y hy
   have := h1 y hy
   have : y.tx ≠ t := fun e2 => by rw [e2, e0, (fR _ _).2 rfl] at this; omega
   simpa using this
  | succ k =>
   have hk' : k < l.length := by simpa using hk
   have ek : l[k].tx = t := by simpa using e
   have : x.tx ≠ t := fun e2 => by
    have := h1 l[k] (List.getElem_mem _)
    rw [ek, e2, (fR _ _).2 rfl] at this
    omega
   rw [List.filter_cons, if_pos (by simpa using this), List.eraseIdx_cons_succ, ih h2 hk' ek]
set_option maxRecDepth 100000 in
set_option maxHeartbeats 6400000 in
theorem rgone_any15 (r : Nat) (vL vH vW : Value) (L : List UsR) (l : List (aS KeyT)) (H W : List (cD KeyT)) (x : aS KeyT) (w : World) (h : iU w r vL vH vW L H W) (hr : eF l L H W) (hb : dD l) (hx : x ∈ l) (hfew : H.length + W.length ≤ 10000) :
  Calls Tryz.prog 53 #[.pointer (some ⟨r, 0, none⟩), aV x.tx] w fun e w' => e = .returned (.tuple #[]) ∧ ∃ vL' vH' vW', dC w w' r vL vH vW vL' vH' vW' ((cN l x.tx).map usR) (H.filter fun g => decide (g.tx ≠ x.tx)) (W.filter fun g => decide (g.tx ≠ x.tx)) := by
 obtain rfl := hr.us
 have hA0 := aE w (.cells #[.int .u8 (x.tx.1 : Int), .int .u32 (x.tx.2.1 : Int), .int .u32 (x.tx.2.2 : Int)] 34)
 have hB0 := hA0
 have HXp3 : Hid (bZ (w.alloc (.cells #[.int .u8 (x.tx.1 : Int), .int .u32 (x.tx.2.1 : Int), .int .u32 (x.tx.2.2 : Int)] 34)) (w.heap.size) #[.int .u8 (x.tx.1 : Int), .int .u32 (x.tx.2.1 : Int), .int .u32 (x.tx.2.2 : Int)] 34) := aA (by have := aN w #[.int .u8 (x.tx.1 : Int), .int .u32 (x.tx.2.1 : Int), .int .u32 (x.tx.2.2 : Int)] 34; simpa using this)
 obtain ⟨W1, hw1⟩ : ∃ W1, W1 = (w.alloc (.cells #[.int .u8 (x.tx.1 : Int), .int .u32 (x.tx.2.1 : Int), .int .u32 (x.tx.2.2 : Int)] 34)) := ⟨_, rfl⟩
 obtain ⟨p3, hp3⟩ : ∃ p3, p3 = w.heap.size := ⟨_, rfl⟩
 rw [← hw1] at HXp3 hB0
 rw [← hp3] at HXp3
 have HW1 := aA hw1
 have HEp3 := aA hp3
 have HB := aA hB0
 have HNp3 : Hid (w.heap.size ≤ p3 ∧ p3 < W1.heap.size) := aA ⟨by omega, HXp3.out.lt⟩
 clear hw1 hA0 hB0 hp3
 have HR := aA (h.below HB.out)
 have hlen : (l.map usR).length ≤ 100 := by rw [List.length_map]; have := hb.few; omega
 have CF := aA (dZ r vL vH vW _ H W x.tx W1 HR.out hlen)
 obtain ⟨ka, hk1, hk, hkx, hkt⟩ := plU_on ((bT hb).2 ⟨hx, rfl⟩)
 have HDE : Hid ((cN l x.tx).map usR = (l.map usR).eraseIdx ka) := aA (by
  rw [rise_erase hb.rise hk (by rw [hkx])]
  rw [List.eraseIdx_eq_take_drop_succ, List.eraseIdx_eq_take_drop_succ, List.map_append, List.map_take, List.map_drop])
 rw [hk1] at CF
 have hHf : H.length ≤ 10000 := by omega
 have hWf : W.length ≤ 10000 := by omega
 obtain ⟨x0, x1, x2⟩ := HXp3.out.three
 have HLT : Hid (r < w.heap.size) := aA h.box.lt
 clear h hk1 hkx hkt hfew hr
 go_enter Tryz.func53, Tryz.ntmps53
 go_wp2_with fail
 rw [← HW1.out, ← HEp3.out]
 refine CF.out.mono ?_
 rintro e W2 ⟨rfl, hB2⟩
 have HX2 := aA (HXp3.out.belowI hB2)
 have HR2 := aA (HR.out.below hB2)
 have HB2 := aA (HB.out.trans (hB2.mono HB.out.size))
 clear hB2 CF x0 x1 x2
 obtain ⟨ao, cap, hvb, hcap, hcm⟩ := HR2.out.sL.shape
 subst hvb
 obtain ⟨N, hN⟩ : ∃ N, N = (l.map usR).length := ⟨_, rfl⟩
 have hkN : ka < N := by rw [hN, List.length_map]; exact hk
 have hto := fun W => gD eJ W ao N cap ka (by omega)
 have hfr := fun W => fK eJ W ao N cap (ka + 1) (by omega)
 obtain ⟨af, haf⟩ : ∃ af, af = if cap = ka + 1 then ao else ao.map (·.add ((ka + 1) * 5)) := ⟨_, rfl⟩
 rw [← haf] at hfr
 have hs1 := fL HR2.out.sL eJ.len (i := ka) (by omega)
 have hs2 := f7 HR2.out.sL eJ.len (i := ka + 1) (by omega)
 rw [← haf, ← hN] at hs2
 obtain ⟨l2, hl2⟩ : ∃ l2, l2 = N - (ka + 1) := ⟨_, rfl⟩
 obtain ⟨cc2, hcc2⟩ : ∃ cc2, cc2 = cap - (ka + 1) := ⟨_, rfl⟩
 rw [← hl2, ← hcc2] at hfr hs2
 have hwrap : IntKind.i64.wrap ((ka : Int) + 1) = ((ka + 1 : Nat) : Int) := by rw [IntKind.wrap_i64]; omega
 have hfr2 : ∀ W, (Instr.sliceAt 25 (.slice ao N cap) (some (.int .i64 (IntKind.i64.wrap ((ka : Int) + 1)))) none none).run Tryz.prog W = .ok (.slice af l2 cc2) W := fun W => by rw [hwrap]; exact hfr W
 have hfr3 : ∀ W, (Instr.sliceAt 25 (.slice ao N cap) (some (.int .i64 ((ka : Int) + 1))) none none).run Tryz.prog W = .ok (.slice af l2 cc2) W := fun W => by
  have := hfr W
  rw [show ((ka + 1 : Nat) : Int) = (ka : Int) + 1 by omega] at this
  exact this
 obtain ⟨a1, n1, c1, wA, a2, n2, c2, wB, e1, e2, hn2, hown, b1, b2⟩ := del_run eJ W2 _ _ _ _ hs1 hs2 ur_one (by have h0 := hlen; simp at h0 ⊢; omega)
 rw [← List.eraseIdx_eq_take_drop_succ, ← HDE.out] at hown hn2
 rw [hn2] at hown
 have hput := HR2.out.put0 b2 hown
 rw [← hn2] at hput
 have HP2 := aA hput
 have HCE : Hid (∀ V, Below W2.heap.size W2 V → V.cell? ⟨r, 0, none⟩ = some (.slice ao N cap) ∧ V.frozen? ⟨r, 0, none⟩ = false ∧ r < V.heap.size) := aA (fun V hV => by
  have h1 := (HR2.out.below hV)
  have h2 := h1.c0
  rw [← hN] at h2
  exact ⟨h2, h1.box.frozen 0, h1.box.lt⟩)
 obtain ⟨x00, x01, x02⟩ := HCE.out W2 (Below.refl _ _)
 obtain ⟨x10, x11, x12⟩ := HCE.out wA b1
 obtain ⟨x20, x21, x22⟩ := HCE.out wB b2
 have hkI : (ka : Int) < (N : Int) := by omega
 have HXB := aA (HX2.out.keep (((aC.of_below (fun k => k = r) b2)).trans ((aC.refl (fun k => k = r) wB).setCell (p := ⟨r, 0, none⟩) (.inl rfl) (.slice a2 n2 c2)) (fun _ _ h => h)) (fun e => by have := HNp3.out.1; have := HLT.out; omega))
 clear hown hn2 hput hs1 hs2 hl2 hcc2 haf hcap hcm b1 b2 hN hwrap hfr HCE HX2
 go_wp2_with fail
 go_region
 all_goals go_wp2_with fail
 all_goals
  have HT3 := aA HP2.out.t
  generalize wB.setCell ⟨r, 0, none⟩ (.slice a2 n2 c2) = W3 at *
  obtain ⟨aH, cH, hvH, _, _⟩ := HT3.out.sH.shape
  subst hvH
  obtain ⟨aW, cW, hvW, _, _⟩ := HT3.out.sW.shape
  subst hvW
  have HRL : Hid (r < W3.heap.size) := aA HT3.out.box.lt
  have HPR : Hid (p3 ≠ r) := aA (fun e => by have := HNp3.out.1; have := HLT.out; omega)
  have HHF := aA hHf
  have HWF := aA hWf
  clear hHf hWf
  refine wp_region_each3 (by kernel_rfl) (IG (⟨r, p3, x.tx, .slice a2 n2 c2, .slice aH H.length cH, .slice aW W.length cW, H, W, W3⟩ : iK)) (SG (⟨r, p3, x.tx, .slice a2 n2 c2, .slice aH H.length cH, .slice aW W.length cW, H, W, W3⟩ : iK)) (RG (⟨r, p3, x.tx, .slice a2 n2 c2, .slice aH H.length cH, .slice aW W.length cW, H, W, W3⟩ : iK)) (by kernel_rfl) (ig_keep (⟨r, p3, x.tx, .slice a2 n2 c2, .slice aH H.length cH, .slice aW W.length cW, H, W, W3⟩ : iK)) ?_ ?_ ?_
  ·exact ⟨_, _, HT3.out.box.belowI (aG W3), fun _ => rfl, fun _ => rfl, aC.of_below _ (aG W3), rfl⟩
  ·intro i o hi listed A w1 hlz hnow hS hold hdeps
   have hlt : i < 20 := (Array.getElem?_eq_some_iff.1 hi).1
   have hc : i = 0 ∨ i = 1 ∨ i = 2 ∨ i = 3 ∨ i = 4 ∨ i = 5 ∨ i = 6 ∨ i = 7 ∨ i = 8 ∨ i = 9 ∨ i = 10 ∨ i = 11 ∨ i = 12 ∨ i = 13 ∨ i = 14 ∨ i = 15 ∨ i = 16 ∨ i = 17 ∨ i = 18 ∨ i = 19 := by omega
   clear hlt
   rcases hc with rfl|rfl|rfl|rfl|rfl|rfl|rfl|rfl|rfl|rfl|rfl|rfl|rfl|rfl|rfl|rfl|rfl|rfl|rfl|rfl <;> obtain rfl := Option.some.inj hi
   ·have s0 : A.tmps.getD 0 undef = .pointer (some ⟨r, 0, none⟩) := hold 0 (by kernel_rfl)
    exact eA hi rfl rfl (aR _ s0) (eB hS (by decide) (by decide)) (eG HRL.out (by decide) (by decide)) rfl
   ·have s0 : A.tmps.getD 0 undef = .pointer (some ⟨r, 0, none⟩) := hold 0 (by kernel_rfl)
    exact eA hi rfl rfl (aR _ s0) (eB hS (by decide) (by decide)) (eG HRL.out (by decide) (by decide)) rfl
   ·have s0 : A.tmps.getD 0 undef = .pointer (some ⟨r, 0, none⟩) := hold 0 (by kernel_rfl)
    exact eA hi rfl rfl (aR _ s0) (eB hS (by decide) (by decide)) (eG HRL.out (by decide) (by decide)) rfl
   ·have s28 : A.tmps.getD 28 undef = .pointer (some ⟨r, 0, none⟩) := bC hdeps 2 (by kernel_rfl)
    exact eA hi rfl rfl (dY _ s28) (eB hS (by decide) (by decide)) (eG HRL.out (by decide) (by decide)) rfl
   ·have s29 : A.tmps.getD 29 undef = .pointer (some ⟨r, 0, none⟩) := bC hdeps 3 (by kernel_rfl)
    exact eA hi rfl rfl (k8 _ s29) (eB hS (by decide) (by decide)) (eG HRL.out (by decide) (by decide)) rfl
   ·have s30 : A.tmps.getD 30 undef = .pointer (some ⟨r, 1, none⟩) := bC hdeps 4 (by kernel_rfl)
    exact eA hi rfl rfl (dF _ s30 (sg_c1 hS (unlisted_of hnow.un hnow.cl 20 16 (by kernel_rfl)))) (eB hS (by decide) (by decide)) (eG HRL.out (by decide) (by decide)) rfl
   ·have s3 : A.tmps.getD 3 undef = .pointer (some ⟨p3, 0, none⟩) := hold 3 (by kernel_rfl)
    exact eA hi rfl rfl (iI _ _ s3 (HXB.out.keep (sg_keep hS) HPR.out) Tryz.underlying34 rfl dL) (eB hS (by decide) (by decide)) (eG HRL.out (by decide) (by decide)) rfl
   ·have s31 : A.tmps.getD 31 undef = .slice aH H.length cH := bC hdeps 5 (by kernel_rfl)
    have s32 : A.tmps.getD 32 undef = aV x.tx := bC hdeps 6 (by kernel_rfl)
    exact t_enter hi rfl rfl (cC 40 _ #[.slice aH H.length cH, aV x.tx] _ rfl (by simp only [List.map_toArray, List.map_cons, List.map_nil, show A.eval (.tmp 31) = .slice aH H.length cH from s31, show A.eval (.tmp 32) = aV x.tx from s32]; try rfl) en_withoutR) (gone_call hS HRL.out (by decide) (by decide) HT3.out.sH (fun k e => (HT3.out.far k (.inr (.inl e))).2) HHF.out (fun _ _ h => h))
   ·have s0 : A.tmps.getD 0 undef = .pointer (some ⟨r, 0, none⟩) := hold 0 (by kernel_rfl)
    exact eA hi rfl rfl (aR _ s0) (eB hS (by decide) (by decide)) (eG HRL.out (by decide) (by decide)) rfl
   ·have s34 : A.tmps.getD 34 undef = .pointer (some ⟨r, 0, none⟩) := bC hdeps 8 (by kernel_rfl)
    exact eA hi rfl rfl (dY _ s34) (eB hS (by decide) (by decide)) (eG HRL.out (by decide) (by decide)) rfl
   ·have s35 : A.tmps.getD 35 undef = .pointer (some ⟨r, 0, none⟩) := bC hdeps 9 (by kernel_rfl)
    exact eA hi rfl rfl (fU _ s35) (eB hS (by decide) (by decide)) (eG HRL.out (by decide) (by decide)) rfl
   ·have s36 : A.tmps.getD 36 undef = .pointer (some ⟨r, 2, none⟩) := bC hdeps 10 (by kernel_rfl)
    exact eA hi rfl rfl (dF _ s36 (sg_c2 hS (unlisted_of hnow.un hnow.cl 20 19 (by kernel_rfl)))) (eB hS (by decide) (by decide)) (eG HRL.out (by decide) (by decide)) rfl
   ·have s3 : A.tmps.getD 3 undef = .pointer (some ⟨p3, 0, none⟩) := hold 3 (by kernel_rfl)
    exact eA hi rfl rfl (iI _ _ s3 (HXB.out.keep (sg_keep hS) HPR.out) Tryz.underlying34 rfl dL) (eB hS (by decide) (by decide)) (eG HRL.out (by decide) (by decide)) rfl
   ·have s37 : A.tmps.getD 37 undef = .slice aW W.length cW := bC hdeps 11 (by kernel_rfl)
    have s38 : A.tmps.getD 38 undef = aV x.tx := bC hdeps 12 (by kernel_rfl)
    exact t_enter hi rfl rfl (cC 40 _ #[.slice aW W.length cW, aV x.tx] _ rfl (by simp only [List.map_toArray, List.map_cons, List.map_nil, show A.eval (.tmp 37) = .slice aW W.length cW from s37, show A.eval (.tmp 38) = aV x.tx from s38]; try rfl) en_withoutR) (gone_call hS HRL.out (by decide) (by decide) HT3.out.sW (fun k e => (HT3.out.far k (.inr (.inr e))).2) HWF.out (fun _ _ h => h))
   ·have s26 : A.tmps.getD 26 undef = .pointer (some ⟨r, 0, none⟩) := bC hdeps 0 (by kernel_rfl)
    exact eA hi rfl rfl (dY _ s26) (eB hS (by decide) (by decide)) (eG HRL.out (by decide) (by decide)) rfl
   ·have s40 : A.tmps.getD 40 undef = .pointer (some ⟨r, 0, none⟩) := bC hdeps 14 (by kernel_rfl)
    exact eA hi rfl rfl (k8 _ s40) (eB hS (by decide) (by decide)) (eG HRL.out (by decide) (by decide)) rfl
   ·have s41 : A.tmps.getD 41 undef = .pointer (some ⟨r, 1, none⟩) := bC hdeps 15 (by kernel_rfl)
    have ho : OwnG (⟨r, p3, x.tx, .slice a2 n2 c2, .slice aH H.length cH, .slice aW W.length cW, H, W, W3⟩ : iK) H (A.tmps.getD 33 undef) w1 := bC hdeps 7 (by kernel_rfl)
    obtain ⟨au, cu, hu, _⟩ := aQ ho
    obtain ⟨x1, x2, hbr⟩ := sg_boxr hS
    refine t_store hi rfl (yst_rgots (.tmp 41) (.tmp 33) (p := r) (o := 1) s41 hu (hbr.cell 1 _ rfl) (hbr.frozen 1)) (sg_st1 hS _) ⟨HRL.out, fun h1 h2 => absurd rfl (by first | exact h1 | exact h2), fun e => (by first | exact ⟨_, rfl⟩ | exact absurd e (by decide)), fun e => (by first | exact ⟨_, rfl⟩ | exact absurd e (by decide))⟩ ?_
    refine ⟨HRL.out, by simpa using (sg_keep hS).size, _, (hbr.set (i := 1) (v := .slice au _ cu)).cell 1 _ rfl, ?_⟩
    rw [← hu]
    exact aJ ho ((aC.refl (fun k => k = r) w1).setCell (p := ⟨r, 1, none⟩) (.inl rfl) _) (fun k hk e => by have h1 := (ho.lt k hk).1; have h2 := HRL.out; rw [e] at h1; exact Nat.lt_irrefl _ (Nat.lt_of_lt_of_le h2 h1))
   ·have s27 : A.tmps.getD 27 undef = .pointer (some ⟨r, 0, none⟩) := bC hdeps 1 (by kernel_rfl)
    exact eA hi rfl rfl (dY _ s27) (eB hS (by decide) (by decide)) (eG HRL.out (by decide) (by decide)) rfl
   ·have s42 : A.tmps.getD 42 undef = .pointer (some ⟨r, 0, none⟩) := bC hdeps 17 (by kernel_rfl)
    exact eA hi rfl rfl (fU _ s42) (eB hS (by decide) (by decide)) (eG HRL.out (by decide) (by decide)) rfl
   ·have s43 : A.tmps.getD 43 undef = .pointer (some ⟨r, 2, none⟩) := bC hdeps 18 (by kernel_rfl)
    have ho : OwnG (⟨r, p3, x.tx, .slice a2 n2 c2, .slice aH H.length cH, .slice aW W.length cW, H, W, W3⟩ : iK) W (A.tmps.getD 39 undef) w1 := bC hdeps 13 (by kernel_rfl)
    obtain ⟨au, cu, hu, _⟩ := aQ ho
    obtain ⟨x1, x2, hbr⟩ := sg_boxr hS
    refine t_store hi rfl (yst_rgots (.tmp 43) (.tmp 39) (p := r) (o := 2) s43 hu (hbr.cell 2 _ rfl) (hbr.frozen 2)) (sg_st2 hS _) ⟨HRL.out, fun h1 h2 => absurd rfl (by first | exact h1 | exact h2), fun e => (by first | exact ⟨_, rfl⟩ | exact absurd e (by decide)), fun e => (by first | exact ⟨_, rfl⟩ | exact absurd e (by decide))⟩ ?_
    refine ⟨HRL.out, by simpa using (sg_keep hS).size, _, (hbr.set (i := 2) (v := .slice au _ cu)).cell 2 _ rfl, ?_⟩
    rw [← hu]
    exact aJ ho ((aC.refl (fun k => k = r) w1).setCell (p := ⟨r, 2, none⟩) (.inl rfl) _) (fun k hk e => by have h1 := (ho.lt k hk).1; have h2 := HRL.out; rw [e] at h1; exact Nat.lt_irrefl _ (Nat.lt_of_lt_of_le h2 h1))
  ·intro listed A w9 hall hS hsz hdf hold hnew
   have i16 := hnew 16 (by decide)
   have i19 := hnew 19 (by decide)
   obtain ⟨_, _, u1, hu1, ho1⟩ := i16
   obtain ⟨_, _, u2, hu2, ho2⟩ := i19
   obtain ⟨x1, x2, hbr, _, _, hk9, _⟩ := hS
   obtain rfl : u1 = x1 := by have := hbr.cell 1 _ rfl; rw [hu1] at this; exact Option.some.inj this
   obtain rfl : u2 = x2 := by have := hbr.cell 2 _ rfl; rw [hu2] at this; exact Option.some.inj this
   have hput : dC W3 w9 r (.slice a2 n2 c2) (.slice aH H.length cH) (.slice aW W.length cW) (.slice a2 n2 c2) u1 u2 ((cN l x.tx).map usR) (H.filter fun g => decide (g.tx ≠ x.tx)) (W.filter fun g => decide (g.tx ≠ x.tx)) := gone_put HT3.out hbr hk9 ho1 ho2
   have HFIN := aA (((HP2.out.trans hput).before HB2.out))
   clear hput hbr hk9 ho1 ho2 hu1 hu2 hnew hold hall
   go_wp2_with fail
   (try simp only [Exit.inBlock, Exit.then])
   exact bodyPost_end (results_none rfl _ _ _) hdf ⟨rfl, .slice a2 n2 c2, u1, u2, by have h := HFIN.out; simpa using h⟩
end
end Go.Proofs.YtiloagmkkhlfjaaGreat
