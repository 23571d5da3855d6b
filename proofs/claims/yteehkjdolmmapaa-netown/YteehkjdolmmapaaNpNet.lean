/-
  The program's network: its cells; given, there, full, lose, copied. Own work.
-/
import Derived.Test.YteehkjdolmmapaaNpRow
import Derived.Test.YteehkjdolmmapaaNtLaw
import Derived.Test.YteehkjdolmmapaaCopyAt
import Derived.Test.YteehkjdolmmapaaNum
import Derived.Deep.RegionHeldLaw
import Derived.BigQuiet
import Derived.Deep.OwnRows
namespace Go.Proofs.Yteehkjdolmmapaa
open Go.RowKit

def pncells (n : Nt) (vb : Value) : Array Value := #[.bool true, .int .i64 (n.room : Int), vb, .int .u32 (n.lost : Int)]
/-- The program's network lies in a variable: its wires in a row of its own, their bytes anywhere else: nobody writes into these. -/
structure PNw (w : World) (p : Nat) (vb : Value) (ws : List (Wr × Value)) (n : Nt) : Prop where
  box : Box w p (pncells n vb) 65
  own : w.ownsRow 0 50 3 vb ws.length (wcl ws)
  by8 : ∀ x ∈ ws, Lies .u8 w x.2 x.1.b
  eq : ws.map Prod.fst = n.l
  ok : n.Ok
  far : ∀ x ∈ ws, ∀ g, x.2.ownBlock = some g → g < w.heap.size ∧ g ≠ p ∧ vb.ownBlock ≠ some g
/-- The blocks that it uses; those that it writes. -/
def usesP (p : Nat) (vb : Value) (ws : List (Wr × Value)) (k : Nat) : Prop := k = p ∨ vb.ownBlock = some k ∨ ∃ x ∈ ws, x.2.ownBlock = some k
def writesP (p : Nat) (vb : Value) (k : Nat) : Prop := k = p ∨ vb.ownBlock = some k
theorem Lies.keptP {k : IntKind} {S : Nat → Prop} {w w' : World} {v : Value} {xs : List Int} (h : Lies k w v xs) (hk : KeepBut S w w') (hS : ∀ g, v.ownBlock = some g → ¬ S g) : Lies k w' v xs := by
  rcases h with h | ⟨hx, b, off, cap, rfl, hb, hl, hm, hc⟩
  · exact .inl h
  · refine .inr ⟨hx, b, off, cap, rfl, Nat.lt_of_lt_of_le hb hk.size, hl, hm, fun t ht => ?_⟩
    rw [← hc t ht]
    exact World.cell?_of_block (hk.block b hb (hS b rfl))
theorem PNw.apart {w : World} {p : Nat} {vb : Value} {ws : List (Wr × Value)} {n : Nt} (h : PNw w p vb ws n) : vb.ownBlock ≠ some p := by
  intro e
  obtain ⟨_, ⟨rfl, _⟩ | ⟨g, cap, cur, rfl, _, hh, _⟩⟩ := h.own
  · cases e
  · cases e
    have hb := h.box
    unfold Box at hb
    rw [hh] at hb
    have := Option.some.inj hb
    injection this with _ h2
    exact absurd h2 (by decide)
theorem PNw.keep {S : Nat → Prop} {w w' : World} {p : Nat} {vb : Value} {ws : List (Wr × Value)} {n : Nt} (h : PNw w p vb ws n) (hk : KeepBut S w w') (hS : ∀ k, usesP p vb ws k → ¬ S k) : PNw w' p vb ws n :=
  ⟨h.box.keep hk (hS p (.inl rfl)), owns_keep h.own hk (fun g hg => hS g (.inr (.inl hg))), fun x hx => (h.by8 x hx).keptP hk (fun g e => hS g (.inr (.inr ⟨x, hx, e⟩))), h.eq, h.ok, fun x hx g hg => ⟨Nat.lt_of_lt_of_le (h.far x hx g hg).1 hk.size, (h.far x hx g hg).2⟩⟩
theorem PNw.below {w w' : World} {p : Nat} {vb : Value} {ws : List (Wr × Value)} {n : Nt} (h : PNw w p vb ws n) (hB : Below w.heap.size w w') : PNw w' p vb ws n := h.keep (KeepBut.of_below (fun _ => False) hB) (fun _ _ h => h)
theorem PNw.lt {w : World} {p : Nat} {vb : Value} {ws : List (Wr × Value)} {n : Nt} (h : PNw w p vb ws n) : ∀ k, usesP p vb ws k → k < w.heap.size := by
  rintro k (rfl | h1 | ⟨x, hx, h1⟩)
  · exact h.box.lt
  · exact (h.own.lt k h1).2
  · exact (h.far x hx k h1).1
theorem PNw.sliced {w : World} {p : Nat} {vb : Value} {ws : List (Wr × Value)} {n : Nt} (h : PNw w p vb ws n) : Sliced ws := fun x hx => by
  obtain ⟨ao, c, e⟩ := (h.by8 x hx).shape
  exact ⟨ao, _, c, e⟩
theorem PNw.len {w : World} {p : Nat} {vb : Value} {ws : List (Wr × Value)} {n : Nt} (h : PNw w p vb ws n) : ws.length = n.l.length := by rw [← h.eq]; simp
theorem PNw.at {w : World} {p : Nat} {vb : Value} {ws : List (Wr × Value)} {n : Nt} (h : PNw w p vb ws n) : w.cell? ⟨p, 0, none⟩ = some (.bool true) ∧ w.cell? ⟨p, 1, none⟩ = some (.int .i64 (n.room : Int)) ∧ w.cell? ⟨p, 2, none⟩ = some vb ∧ w.cell? ⟨p, 3, none⟩ = some (.int .u32 (n.lost : Int)) :=
  ⟨h.box.cell 0 _ rfl, h.box.cell 1 _ rfl, h.box.cell 2 _ rfl, h.box.cell 3 _ rfl⟩
theorem owns_shapeP {w : World} {base n : Nat} {v : Value} {xs : List Value} (h : w.ownsRow base 50 3 v n xs) : ∃ ao cap, v = .slice ao n cap ∧ n ≤ cap := by
  obtain ⟨_, ⟨rfl, rfl⟩ | ⟨g, cap, cur, rfl, _, _, hc, _⟩⟩ := h
  · exact ⟨none, 0, rfl, Nat.le_refl _⟩
  · exact ⟨_, cap, rfl, hc⟩
theorem PNw.shape {w : World} {p : Nat} {vb : Value} {ws : List (Wr × Value)} {n : Nt} (h : PNw w p vb ws n) : ∃ (ao : Option Addr) (cap : Nat), vb = .slice ao n.l.length cap ∧ n.l.length ≤ cap := by
  obtain ⟨ao, c, e, hl⟩ := owns_shapeP h.own
  rw [h.len] at e hl
  exact ⟨ao, c, e, hl⟩
theorem PNw.nth {w : World} {p : Nat} {vb : Value} {ws : List (Wr × Value)} {n : Nt} (h : PNw w p vb ws n) {k : Nat} (hk : k < ws.length) : ws[k].1 = n.nth (k : Int) := by
  have hl : k < n.l.length := by rw [← h.len]; exact hk
  have hi : n.inN (k : Int) = true := by unfold Nt.inN; simp; omega
  unfold Nt.nth
  rw [hi, if_pos rfl, Int.toNat_natCast]
  have : n.l.getD k nilW = (ws.map Prod.fst).getD k nilW := by rw [h.eq]
  rw [this]
  simp [List.getD, hk]
theorem PNw.block {w : World} {p : Nat} {vb : Value} {ws : List (Wr × Value)} {n : Nt} (h : PNw w p vb ws n) (h0 : 0 < ws.length) : ∃ g cap, vb.ownBlock = some g ∧ vb = .slice (some ⟨g, 0, none⟩) n.l.length cap ∧ n.l.length ≤ cap := by
  obtain ⟨_, ⟨_, h1⟩ | ⟨g, cap, cur, e, _, _, hc, _⟩⟩ := h.own
  · omega
  · rw [h.len] at e hc
    exact ⟨g, cap, by rw [e]; rfl, e, hc⟩
theorem neq_ptr8 (w : World) (a : Addr) : (binOp .neq 25 (.pointer (some a)) (.pointer none)).run Try.prog w = .ok (.bool true) w := by
  have h1 : ∀ d, (Op.equalIn (d + 1) 25 (.pointer (some a)) (.pointer none)).run Try.prog w = .ok false w := by
    intro d; simp [Op.equalIn, run_underlying Try.underlying25]
  have h2 : (Op.equal 25 (.pointer (some a)) (.pointer none)).run Try.prog w = .ok false w := h1 9999
  simp [binOp, h2]
theorem ngiven_any (p : Nat) (vb : Value) (ws : List (Wr × Value)) (n : Nt) (w : World) (h : PNw w p vb ws n) :
    Calls Try.prog 35 #[.pointer (some ⟨p, 0, none⟩)] w fun e w' => e = .returned (.bool true) ∧ w' = w := by
  obtain ⟨m0, m1, m2, m3⟩ := h.at
  clear h
  go_enter Try.func35, Try.ntmps35
  go_wp2
  go_ret
  exact ⟨rfl, rfl⟩
set_option maxRecDepth 100000 in
theorem nthere_any (p : Nat) (vb : Value) (ws : List (Wr × Value)) (n : Nt) (i : Int) (w : World) (h : PNw w p vb ws n) :
    Calls Try.prog 36 #[.pointer (some ⟨p, 0, none⟩), .int .i64 i] w fun e w' => e = .returned (.int .i64 (atA n i)) ∧ w' = w := by
  obtain ⟨m0, m1, m2, m3⟩ := h.at
  obtain ⟨ao, cap, hvb, hcap⟩ := h.shape
  have hmx : n.l.length ≤ 256 := Nat.le_trans h.ok.full h.ok.r2
  rw [hvb] at m2
  have C := hide (ngiven_any p vb ws n w h)
  clear h
  by_cases h1 : i < 0
  · have HE : Hid (atA n i = 6) := hide (by unfold atA Nt.inN; rw [decide_eq_false (show ¬ 0 ≤ i by omega)]; rfl)
    have d1 : decide (i < 0) = true := decide_eq_true h1
    go_enter Try.func36, Try.ntmps36
    go_wp2_with fail
    refine C.out.mono ?_
    rintro e w1 ⟨rfl, rfl⟩
    go_wp2_with fail
    go_ret
    exact ⟨ret_int HE.out.symm, rfl⟩
  · have d1 : decide (i < 0) = false := decide_eq_false h1
    by_cases h2 : i ≥ (n.l.length : Int)
    · have HE : Hid (atA n i = 6) := hide (by unfold atA Nt.inN; rw [decide_eq_false (show ¬ i < (n.l.length : Int) by omega), Bool.and_false]; rfl)
      have d2 : decide (i ≥ (n.l.length : Int)) = true := decide_eq_true h2
      go_enter Try.func36, Try.ntmps36
      go_wp2_with fail
      refine C.out.mono ?_
      rintro e w1 ⟨rfl, rfl⟩
      go_wp2_with fail
      go_ret
      exact ⟨ret_int HE.out.symm, rfl⟩
    · have HE : Hid (atA n i = 0) := hide (by unfold atA Nt.inN; rw [decide_eq_true (show 0 ≤ i by omega), decide_eq_true (show i < (n.l.length : Int) by omega)]; rfl)
      have d2 : decide (i ≥ (n.l.length : Int)) = false := decide_eq_false h2
      go_enter Try.func36, Try.ntmps36
      go_wp2_with fail
      refine C.out.mono ?_
      rintro e w1 ⟨rfl, rfl⟩
      go_wp2_with fail
      go_ret
      exact ⟨ret_int HE.out.symm, rfl⟩
set_option maxRecDepth 100000 in
theorem nfull_any (p : Nat) (vb : Value) (ws : List (Wr × Value)) (n : Nt) (w : World) (h : PNw w p vb ws n) :
    Calls Try.prog 38 #[.pointer (some ⟨p, 0, none⟩)] w fun e w' => e = .returned (.bool (decide (n.room ≤ n.l.length))) ∧ ∃ m, w' = w.drewN m := by
  obtain ⟨m0, m1, m2, m3⟩ := h.at
  obtain ⟨ao, cap, hvb, hcap⟩ := h.shape
  have hmx : n.l.length ≤ 256 := Nat.le_trans h.ok.full h.ok.r2
  rw [hvb] at m2
  clear h
  go_enter Try.func38, Try.ntmps38
  go_wp2_with fail
  go_quiet (fail)
  go_wp2_with fail
  go_ret
  exact ⟨ret_bool (by simp), _, rfl⟩
theorem PNw.lose {w : World} {p : Nat} {vb : Value} {ws : List (Wr × Value)} {n : Nt} (h : PNw w p vb ws n) : PNw (w.setCell ⟨p, 3, none⟩ (.int .u32 ((n.lost : Int) + 1))) p vb ws { n with lost := n.lost + 1 } ∧ KeepBut (fun k => k = p) w (w.setCell ⟨p, 3, none⟩ (.int .u32 ((n.lost : Int) + 1))) := by
  have hk : KeepBut (fun k => k = p) w (w.setCell ⟨p, 3, none⟩ (.int .u32 ((n.lost : Int) + 1))) := (KeepBut.refl (fun k => k = p) w).setCell (p := ⟨p, 3, none⟩) (.inl rfl) _
  refine ⟨⟨?_, owns_keep h.own hk (fun g hg e => h.apart (by rw [hg, e])), fun x hx => (h.by8 x hx).keptP hk (fun g hg => (h.far x hx g hg).2.1), h.eq, ⟨h.ok.r1, h.ok.r2, h.ok.full, h.ok.w, h.ok.b⟩, fun x hx g hg => ⟨by simpa using (h.far x hx g hg).1, (h.far x hx g hg).2⟩⟩, hk⟩
  have := h.box.set (i := 3) (v := .int .u32 ((n.lost : Int) + 1))
  exact this
set_option maxRecDepth 100000 in
theorem nlose_any (p : Nat) (vb : Value) (ws : List (Wr × Value)) (n : Nt) (w : World) (h : PNw w p vb ws n) (hlost : n.lost ≤ 1000001) :
    Calls Try.prog 39 #[.pointer (some ⟨p, 0, none⟩)] w fun e w' => e = .returned (.tuple #[]) ∧ PNw w' p vb ws { n with lost := n.lost + 1 } ∧ KeepBut (fun k => k = p) w w' := by
  obtain ⟨m0, m1, m2, m3⟩ := h.at
  have z3 := h.box.frozen 3
  have C := hide (next_any (n.lost : Int) (by omega) (by omega) w)
  rw [if_neg (by omega), if_neg (by omega)] at C
  have HP := hide h.lose
  clear h m0 m1 m2
  go_enter Try.func39, Try.ntmps39
  go_wp2_with fail
  refine C.out.mono ?_
  rintro e w1 ⟨rfl, rfl⟩
  go_wp2_with fail
  go_end0
  exact ⟨rfl, HP.out⟩
theorem below_twoP (w : World) (o : Obj) : Below w.heap.size w (w.alloc o) := alloc_below8 w o
theorem made_zeroP (n : Nat) : madeCells #[Value.int .u8 0] n = cells8 (List.replicate n 0) := by
  apply Array.ext
  · simp [madeCells, cells8]
  · intro i h1 h2
    simp [madeCells, cells8, Nat.mod_one]
/-- 'make([]byte, n)' -/
theorem wp_makeP {ops : Array Oper} {rest : List Oper} {o : Oper} {a : Act} {Q : Exit → Act → World → Prop} (w : World) (hg : o.guard = none) (l c : Operand) (hop : o.op = Op.makeSlice 35 l c) (n : Nat) (hl : a.eval l = .int .i64 n) (hc : a.eval c = .int .i64 n) (hn : n ≤ 1000000)
    (h : ∀ w', Box w' w.heap.size (cells8 (List.replicate n 0)) 5 → Below w.heap.size w w' → wpList Try.prog ops Q rest (a.put o.dst (.slice (some ⟨w.heap.size, 0, none⟩) n n)) w') : wpList Try.prog ops Q (o :: rest) a w := by
  obtain ⟨i0, hi, hz0, hz1, hz2⟩ := info_parts info5
  refine wpList_make_row w hg l c 35 hop 5 i0 (.int .u8 0) Try.underlying35 hi hz0 hz1 rfl .i64 .i64 n hl hc (by rw [hz2]; omega) (by omega) ?_
  rw [made_zeroP]
  exact h _ (box_new w _ _) (alloc_below8 w _)
theorem owns_boxP {w : World} {p base : Nat} {xs : List Int} (h : Box w p (cells8 xs) 5) (hb : base ≤ p) (hl : xs.length ≤ 1000000) : w.ownsRow base 5 1 (.slice (some ⟨p, 0, none⟩) xs.length xs.length) xs.length (xs.map (Value.int .u8)) :=
  ⟨by simp, .inr ⟨p, xs.length, cells8 xs, rfl, hb, h, Nat.le_refl _, by unfold maxLen; omega, by simp [cells8], by simp only [cells8, Nat.mul_one]; exact List.take_of_length_le (by simp)⟩⟩
set_option maxRecDepth 100000 in
set_option maxHeartbeats 1600000 in
theorem ncopied_any (x : Wr) (sv : Value) (w : World) (hL : Lies .u8 w sv x.b) (hxl : x.b.length ≤ 1000000) :
    Calls Try.prog 37 #[.agg (wcs x sv)] w fun e w' => ∃ sv', e = .returned (.agg (wcs x sv')) ∧ w'.ownsRow w.heap.size 5 1 sv' x.b.length (x.b.map (Value.int .u8)) ∧ Below w.heap.size w w' := by
  obtain ⟨sa, sc, rfl⟩ := hL.shape
  unfold wcs
  have hX1 := box_new w #[.int .u8 (x.fr : Int), .int .u8 (x.to : Int), .slice sa x.b.length sc] 50
  have hB1 := alloc_below8 w (.cells #[.int .u8 (x.fr : Int), .int .u8 (x.to : Int), .slice sa x.b.length sc] 50)
  have hX2 := box_new (w.alloc (.cells #[.int .u8 (x.fr : Int), .int .u8 (x.to : Int), .slice sa x.b.length sc] 50)) #[.int .u8 0, .int .u8 0, .slice none 0 0] 50
  have hB2 := alloc_below8 (w.alloc (.cells #[.int .u8 (x.fr : Int), .int .u8 (x.to : Int), .slice sa x.b.length sc] 50)) (.cells #[.int .u8 0, .int .u8 0, .slice none 0 0] 50)
  rw [show (w.alloc (.cells #[.int .u8 (x.fr : Int), .int .u8 (x.to : Int), .slice sa x.b.length sc] 50)).heap.size = w.heap.size + 1 by simp] at hX2
  have HX1 := hide (hX1.below8 hB2)
  have HX2 := hide hX2
  have HB := hide (hB1.trans (hB2.mono hB1.size))
  have HL := hide hL
  obtain ⟨w2, hw2⟩ : ∃ w2, w2 = (w.alloc (.cells #[.int .u8 (x.fr : Int), .int .u8 (x.to : Int), .slice sa x.b.length sc] 50)).alloc (.cells #[.int .u8 0, .int .u8 0, .slice none 0 0] 50) := ⟨_, rfl⟩
  have HS : Hid (w2.heap.size = w.heap.size + 2) := hide (by rw [hw2]; simp)
  rw [← hw2] at HX1 HX2 HB
  have x2 := HX1.out.cell 2 _ rfl
  have hW := hw2.symm
  clear hX1 hB1 hX2 hB2 hL hw2
  go_enter Try.func37, Try.ntmps37
  go_wp2_with (first
    | (refine wp_makeP _ rfl _ _ rfl x.b.length rfl rfl hxl ?_; intro w3 hb3 hB3; have HX3 := hide hb3; have HX13 := hide (HX1.out.below8 hB3); have HX23 := hide (HX2.out.below8 hB3); have HL3 := hide (HL.out.below (HB.out.trans (hB3.mono HB.out.size))); have HB3 := hide (HB.out.trans (hB3.mono HB.out.size)); have x32 := HX13.out.cell 2 _ rfl; clear hb3 hB3 x2 hW)
    | (refine wp_copy_at _ rfl _ _ rfl w2.heap.size 0 x.b.length x.b.length 5 (List.replicate x.b.length 0) x.b x.b HX3.out rfl _ rfl HL3.out x.b.length (by simp) (by simp) (by simp) ?_; intro w4 hb4 hk4; have HX4 := hide hb4; have HX14 := hide (HX13.out.keep hk4 (by have := HS.out; omega)); have HX24 := hide (HX23.out.keep hk4 (by have := HS.out; omega)); have HK4 := hide hk4; have z2 := HX14.out.frozen 2; have y2 := HX14.out.cell 2 _ rfl; have hk5 := (KeepBut.refl (fun k => k = w.heap.size) w4).setCell (p := ⟨w.heap.size, 2, none⟩) (.inl rfl) (.slice (some ⟨w2.heap.size, 0, none⟩) x.b.length x.b.length); have HX15 : Hid (Box _ w.heap.size #[.int .u8 (x.fr : Int), .int .u8 (x.to : Int), .slice (some ⟨w2.heap.size, 0, none⟩) x.b.length x.b.length] 50) := hide (HX14.out.set (i := 2) (v := .slice (some ⟨w2.heap.size, 0, none⟩) x.b.length x.b.length)); have HX25 := hide (HX24.out.keep hk5 (by omega)); have HX45 := hide (HX4.out.keep hk5 (by have := HS.out; omega)); have HK5 := hide hk5; clear hb4 hk4 hk5 x32)
    | (refine wp_load_box rfl _ rfl w.heap.size rfl HX15.out Try.underlying50 rfl infoW ?_)
    | (refine wp_store_box rfl rfl _ _ rfl (w.heap.size + 1) rfl rfl HX25.out rfl infoW (wcs_one x _ _ _) ?_; intro w6 hb6 hk6; have HX6 := hide hb6; have HX46 := hide (HX45.out.keep hk6 (by have := HS.out; omega)); have HK6 := hide hk6; clear hb6 hk6))
  refine bodyPost_ret (results_box rfl _ _ (w.heap.size + 1) rfl HX6.out Try.underlying50 rfl infoW) rfl ?_
  refine ⟨_, rfl, owns_boxP HX46.out (by have := HS.out; omega) hxl, ?_⟩
  have hS := HS.out
  exact ((HB3.out.trans (HK4.out.below HB3.out.size (fun k e => by omega))).trans (HK5.out.below (Nat.le_trans HB3.out.size HK4.out.size) (fun k e => by omega))).trans (HK6.out.below (Nat.le_trans (Nat.le_trans HB3.out.size HK4.out.size) HK5.out.size) (fun k e => by omega))
end Go.Proofs.Yteehkjdolmmapaa
