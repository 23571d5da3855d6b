/-
  The reference's network: its cells, At, Take. Own work.
-/
import Derived.Test.YteehkjdolmmapaaNtRows
import Derived.Test.YteehkjdolmmapaaNtCount
import Derived.Test.YteehkjdolmmapaaNtLaw
namespace Go.Proofs.Yteehkjdolmmapaa
open Go.RowKit

theorem infoRN : (Try.prog.info? 31).map (·.size) = some 3 := by kernel_rfl
def rncells (n : Nt) (vb : Value) : Array Value := #[.int .i64 (n.room : Int), vb, .int .i64 (n.lost : Int)]
/-- The reference's network lies in a variable: its wires in a row of its own, their bytes anywhere else. -/
structure RNw (w : World) (p : Nat) (vb : Value) (ws : List (Wr × Value)) (n : Nt) : Prop where
  box : Box w p (rncells n vb) 31
  own : w.ownsRow 0 39 3 vb ws.length (wcl ws)
  by8 : ∀ x ∈ ws, Lies .u8 w x.2 x.1.b
  eq : ws.map Prod.fst = n.l
  ok : n.Ok
  far : ∀ x ∈ ws, ∀ g, x.2.ownBlock = some g → g < w.heap.size ∧ g ≠ p ∧ vb.ownBlock ≠ some g
/-- The blocks that it uses. -/
def usesR (p : Nat) (vb : Value) (ws : List (Wr × Value)) (k : Nat) : Prop := k = p ∨ vb.ownBlock = some k ∨ ∃ x ∈ ws, x.2.ownBlock = some k
theorem RNw.apart {w : World} {p : Nat} {vb : Value} {ws : List (Wr × Value)} {n : Nt} (h : RNw w p vb ws n) : vb.ownBlock ≠ some p := by
  intro e
  obtain ⟨_, ⟨rfl, _⟩ | ⟨g, cap, cur, rfl, _, hh, _⟩⟩ := h.own
  · cases e
  · cases e
    have hb := h.box
    unfold Box at hb
    rw [hh] at hb
    have := Option.some.inj hb
    injection this with _ h2
    exact absurd h2 (by decide)
theorem RNw.keep {S : Nat → Prop} {w w' : World} {p : Nat} {vb : Value} {ws : List (Wr × Value)} {n : Nt} (h : RNw w p vb ws n) (hk : KeepBut S w w') (hS : ∀ k, usesR p vb ws k → ¬ S k) : RNw w' p vb ws n :=
  ⟨h.box.keep hk (hS p (.inl rfl)), owns_keep h.own hk (fun g hg => hS g (.inr (.inl hg))), fun x hx => by
    rcases h.by8 x hx with h1 | ⟨h0, b, off, cap, e, hb, hl, hm, hc⟩
    · exact .inl h1
    · refine .inr ⟨h0, b, off, cap, e, Nat.lt_of_lt_of_le hb hk.size, hl, hm, fun t ht => ?_⟩
      rw [← hc t ht]
      exact World.cell?_of_block (hk.block b hb (hS b (.inr (.inr ⟨x, hx, by rw [e]; rfl⟩)))), h.eq, h.ok, fun x hx g hg => ⟨Nat.lt_of_lt_of_le (h.far x hx g hg).1 hk.size, (h.far x hx g hg).2⟩⟩
theorem RNw.below {w w' : World} {p : Nat} {vb : Value} {ws : List (Wr × Value)} {n : Nt} (h : RNw w p vb ws n) (hB : Below w.heap.size w w') : RNw w' p vb ws n := h.keep (KeepBut.of_below (fun _ => False) hB) (fun _ _ h => h)
theorem RNw.sliced {w : World} {p : Nat} {vb : Value} {ws : List (Wr × Value)} {n : Nt} (h : RNw w p vb ws n) : Sliced ws := fun x hx => by
  obtain ⟨ao, c, e⟩ := (h.by8 x hx).shape
  exact ⟨ao, _, c, e⟩
theorem RNw.len {w : World} {p : Nat} {vb : Value} {ws : List (Wr × Value)} {n : Nt} (h : RNw w p vb ws n) : ws.length = n.l.length := by rw [← h.eq]; simp
theorem RNw.at {w : World} {p : Nat} {vb : Value} {ws : List (Wr × Value)} {n : Nt} (h : RNw w p vb ws n) : w.cell? ⟨p, 0, none⟩ = some (.int .i64 (n.room : Int)) ∧ w.cell? ⟨p, 1, none⟩ = some vb ∧ w.cell? ⟨p, 2, none⟩ = some (.int .i64 (n.lost : Int)) :=
  ⟨h.box.cell 0 _ rfl, h.box.cell 1 _ rfl, h.box.cell 2 _ rfl⟩
theorem RNw.shape {w : World} {p : Nat} {vb : Value} {ws : List (Wr × Value)} {n : Nt} (h : RNw w p vb ws n) : ∃ (ao : Option Addr) (cap : Nat), vb = .slice ao n.l.length cap ∧ n.l.length ≤ cap := by
  obtain ⟨_, ao, c, e, hl, _⟩ := owns_src h.own h.sliced
  rw [h.len] at e hl
  exact ⟨ao, c, e, hl⟩
theorem RNw.nth {w : World} {p : Nat} {vb : Value} {ws : List (Wr × Value)} {n : Nt} (h : RNw w p vb ws n) {k : Nat} (hk : k < ws.length) : ws[k].1 = n.nth (k : Int) := by
  have hl : k < n.l.length := by rw [← h.len]; exact hk
  have hi : n.inN (k : Int) = true := by unfold Nt.inN; simp; omega
  unfold Nt.nth
  rw [hi, if_pos rfl, Int.toNat_natCast]
  have : n.l.getD k nilW = (ws.map Prod.fst).getD k nilW := by rw [h.eq]
  rw [this]
  simp [List.getD, hk]
theorem RNw.block {w : World} {p : Nat} {vb : Value} {ws : List (Wr × Value)} {n : Nt} (h : RNw w p vb ws n) (h0 : 0 < ws.length) : ∃ g cap, vb.ownBlock = some g ∧ vb = .slice (some ⟨g, 0, none⟩) n.l.length cap ∧ n.l.length ≤ cap := by
  obtain ⟨_, ⟨_, h1⟩ | ⟨g, cap, cur, e, _, _, hc, _⟩⟩ := h.own
  · omega
  · rw [h.len] at e hc
    exact ⟨g, cap, by rw [e]; rfl, e, hc⟩
/-- What At answers. -/
def RAt (w w' : World) (ws : List (Wr × Value)) (n : Nt) (i : Int) (e : Ending) : Prop :=
  ∃ sv, e = .returned (.tuple #[.agg (wcs (n.nth i) sv), .int .i64 (atA n i)]) ∧ Lies .u8 w' sv (n.nth i).b ∧ Below w.heap.size w w' ∧ (n.inN i = true → ∃ k : Nat, ∃ hk : k < ws.length, i = (k : Int) ∧ ws[k] = (n.nth i, sv)) ∧ (n.inN i = false → sv = .slice none 0 0)
set_option maxRecDepth 100000 in
set_option maxHeartbeats 1600000 in
theorem rat_any (p : Nat) (vb : Value) (ws : List (Wr × Value)) (n : Nt) (i : Int) (w : World) (h : RNw w p vb ws n) :
    Calls Try.prog 30 #[.pointer (some ⟨p, 0, none⟩), .int .i64 i] w fun e w' => RAt w w' ws n i e := by
  have hA := alloc_below8 w (.cells #[.int .u8 0, .int .u8 0, .slice none 0 0] 39)
  have HB := hide hA
  have hR := h.below hA
  obtain ⟨m0, m1, m2⟩ := hR.at
  obtain ⟨ao, cap, hvb, hcap⟩ := h.shape
  have hmx : n.l.length ≤ 256 := Nat.le_trans h.ok.full h.ok.r2
  cases hi : n.inN i
  · have HW : Hid (n.nth i = nilW) := hide (by unfold Nt.nth; rw [hi]; rfl)
    have HE : Hid (atA n i = 6) := hide (by unfold atA; rw [hi]; rfl)
    subst hvb
    have hor : i < 0 ∨ (¬ i < 0 ∧ (n.l.length : Int) ≤ i) := by
      unfold Nt.inN at hi
      simp at hi
      omega
    have HI := hide hi
    clear h hR hA hi
    rcases hor with h1 | ⟨h1, h2⟩
    · have d1 : decide (i < 0) = true := decide_eq_true h1
      go_enter Try.func30, Try.ntmps30
      go_wp2
      refine bodyPost_ret (results_two8 rfl _ _ w.heap.size rfl rfl (cs := wcs nilW (.slice none 0 0)) (t0 := 39) ?_ Try.underlying39 rfl infoRW) rfl ?_
      · exact box_new w _ _
      · unfold RAt
        rw [HW.out, HE.out, HI.out]
        exact ⟨_, rfl, Lies.nil _ _, HB.out, fun e => (by cases e), fun _ => rfl⟩
    · have d1 : decide (i < 0) = false := decide_eq_false h1
      have d2 : decide (i ≥ (n.l.length : Int)) = true := decide_eq_true h2
      go_enter Try.func30, Try.ntmps30
      go_wp2
      refine bodyPost_ret (results_two8 rfl _ _ w.heap.size rfl rfl (cs := wcs nilW (.slice none 0 0)) (t0 := 39) ?_ Try.underlying39 rfl infoRW) rfl ?_
      · exact box_new w _ _
      · unfold RAt
        rw [HW.out, HE.out, HI.out]
        exact ⟨_, rfl, Lies.nil _ _, HB.out, fun e => (by cases e), fun _ => rfl⟩
  · obtain ⟨k, rfl, hk⟩ := inN_nat hi
    have hkw : k < ws.length := by rw [h.len]; exact hk
    have HE : Hid (atA n (k : Int) = 0) := hide (by unfold atA; rw [hi]; rfl)
    obtain ⟨c0, c1, c2⟩ := wcl_at hkw
    have hm := List.getElem_mem hkw
    obtain ⟨a2, cc2, hsv⟩ := (h.by8 _ hm).shape
    have HL := hide (h.by8 _ hm)
    have hn := h.nth hkw
    have HP : Hid (ws[k] = (n.nth (k : Int), ws[k].2)) := hide (by rw [← hn])
    rw [hn] at c0 c1 hsv HL
    rw [hsv] at c2 HP HL
    obtain ⟨g, cap2, hg, hvb2, _⟩ := h.block (by omega)
    have q0 := hR.own.cells hg _ _ c0
    have q1 := hR.own.cells hg _ _ c1
    have q2 := hR.own.cells hg _ _ c2
    rw [Addr.add_lit, Nat.zero_add] at q0 q1 q2
    have HI := hide hi
    rw [hvb2] at m1
    have d1 : decide ((k : Int) < 0) = false := decide_eq_false (by omega)
    have d2 : decide ((k : Int) ≥ (n.l.length : Int)) = false := decide_eq_false (by omega)
    have hkl : (k : Int) < (n.l.length : Int) := by omega
    have HKW := hide hkw
    obtain ⟨x, hx⟩ : ∃ x, x = n.nth (k : Int) := ⟨_, rfl⟩
    rw [← hx] at q0 q1 q2 HL HP
    have HXX := hide hx
    clear h hR hA hn c0 c1 c2 hm hsv hg hvb hx hi hvb2
    go_enter Try.func30, Try.ntmps30
    go_wp2
    refine bodyPost_ret (results_two8 rfl _ _ w.heap.size rfl rfl (cs := wcs x (.slice a2 x.b.length cc2)) (t0 := 39) ?_ Try.underlying39 rfl infoRW) rfl ?_
    · exact box_new w _ _
    · unfold RAt
      rw [← HXX.out, HE.out]
      exact ⟨_, rfl, HL.out.below (alloc_below8 w _), alloc_below8 w _, fun _ => ⟨k, HKW.out, rfl, HP.out⟩, fun e => (by rw [HI.out] at e; cases e)⟩
end Go.Proofs.Yteehkjdolmmapaa
