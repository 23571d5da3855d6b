/-
  The reference's disk: what each call answers and leaves. Own work.
-/
import Derived.Test.YtjjmcaamgoffiaaDkPlain
import Derived.Test.YtjjmcaamgoffiaaBoxes
import Derived.Test.YtjjmcaamgoffiaaCuts
import Derived.Test.YtjjmcaamgoffiaaAppStep
import Derived.Test.YtjjmcaamgoffiaaVtRegion
import Derived.BigQuiet
import Derived.BigRegion
import Derived.Deep.QuietTactic
import Derived.Deep.RegionHeldLaw
namespace Go.Proofs.Ytjjmcaamgoffiaa
open Go.RowKit

theorem owns_any7 {w : World} {base e size n : Nat} {v : Value} {xs : List Value} (h : w.ownsRow base e size v n xs) : w.ownsRow 0 e size v n xs := by
  obtain ⟨hl, h0 | ⟨g, cap, cur, rfl, _, r⟩⟩ := h
  · exact ⟨hl, .inl h0⟩
  · exact ⟨hl, .inr ⟨g, cap, cur, rfl, Nat.zero_le _, r⟩⟩
theorem owns_lt7 {w : World} {base e size n g : Nat} {v : Value} {xs : List Value} (h : w.ownsRow base e size v n xs) (hg : v.ownBlock = some g) : g < w.heap.size := (h.lt g hg).2
theorem alloc_below7 (w : World) (o : Obj) : Below w.heap.size w (w.alloc o) := (Below.refl _ _).alloc (Nat.le_refl _) o
theorem Box.belowV7 {w w' : World} {p : Nat} {cs : Array Value} {t : TypeId} (h : Box w p cs t) (hB : Below w.heap.size w w') : Box w' p cs t := h.keep (KeepBut.of_below (fun _ => False) hB) id
/-- The reference's disk as cells. -/
def rcells (d : Dk) (vb : Value) : Array Value := #[.int .i64 (d.room : Int), vb, .int .i64 (d.base : Int), .int .i64 (d.fbase : Int), .int .i64 (d.fend : Int), .bool d.off, .bool d.armed, .int .i64 (d.fuse : Int)]
/-- It lies in a variable of its own, its bytes in a row of their own that nobody writes. -/
structure RD (w : World) (p : Nat) (vb : Value) (d : Dk) : Prop where
  box : Box w p (rcells d vb) 31
  own : w.ownsRow 0 5 1 vb d.bs.length (d.bs.map (Value.int .u8))
theorem RD.apart {w : World} {p : Nat} {vb : Value} {d : Dk} (h : RD w p vb d) : vb.ownBlock ≠ some p := by
  intro e
  obtain ⟨_, ⟨rfl, _⟩ | ⟨g, cap, cur, rfl, _, hh, _⟩⟩ := h.own
  · cases e
  · cases e
    have := h.box
    unfold Box at this
    rw [hh] at this
    cases this
theorem RD.keep {S : Nat → Prop} {w w' : World} {p : Nat} {vb : Value} {d : Dk} (h : RD w p vb d) (hk : KeepBut S w w') (hp : ¬ S p) (hg : ∀ g, vb.ownBlock = some g → ¬ S g) : RD w' p vb d :=
  ⟨h.box.keep hk hp, owns_keep h.own hk hg⟩
theorem RD.below {w w' : World} {p : Nat} {vb : Value} {d : Dk} (h : RD w p vb d) (hB : Below w.heap.size w w') : RD w' p vb d :=
  h.keep (KeepBut.of_below (fun _ => False) hB) (fun h => h) (fun _ _ h => h)
theorem RD.at {w : World} {p : Nat} {vb : Value} {d : Dk} (h : RD w p vb d) : w.cell? ⟨p, 0, none⟩ = some (.int .i64 (d.room : Int)) ∧ w.cell? ⟨p, 1, none⟩ = some vb ∧ w.cell? ⟨p, 2, none⟩ = some (.int .i64 (d.base : Int)) ∧ w.cell? ⟨p, 3, none⟩ = some (.int .i64 (d.fbase : Int)) ∧ w.cell? ⟨p, 4, none⟩ = some (.int .i64 (d.fend : Int)) ∧ w.cell? ⟨p, 5, none⟩ = some (.bool d.off) ∧ w.cell? ⟨p, 6, none⟩ = some (.bool d.armed) ∧ w.cell? ⟨p, 7, none⟩ = some (.int .i64 (d.fuse : Int)) :=
  ⟨h.box.cell 0 _ rfl, h.box.cell 1 _ rfl, h.box.cell 2 _ rfl, h.box.cell 3 _ rfl, h.box.cell 4 _ rfl, h.box.cell 5 _ rfl, h.box.cell 6 _ rfl, h.box.cell 7 _ rfl⟩
/-- One of its numbers is written. -/
theorem RD.put {w : World} {p i : Nat} {vb v : Value} {d d' : Dk} (h : RD w p vb d) (he : (rcells d vb).setIfInBounds i v = rcells d' vb) (hb : d'.bs = d.bs) : RD (w.setCell ⟨p, i, none⟩ v) p vb d' ∧ KeepBut (fun k => k = p) w (w.setCell ⟨p, i, none⟩ v) := by
  have hk : KeepBut (fun k => k = p) w (w.setCell ⟨p, i, none⟩ v) := (KeepBut.refl (fun k => k = p) w).setCell (p := ⟨p, i, none⟩) (.inl rfl) _
  refine ⟨⟨?_, ?_⟩, hk⟩
  · have := h.box.set (i := i) (v := v)
    rw [he] at this
    exact this
  · rw [hb]
    exact owns_keep h.own hk (fun g hg e => h.apart (by rw [hg, e]))
/-- Its bytes are other ones. -/
theorem RD.bytes {w : World} {p : Nat} {vb vb' : Value} {d : Dk} {ys : List Int} (h : RD w p vb d) (ho : w.ownsRow 0 5 1 vb' ys.length (ys.map (Value.int .u8))) (hn : vb'.ownBlock ≠ some p) : RD (w.setCell ⟨p, 1, none⟩ vb') p vb' { d with bs := ys } ∧ KeepBut (fun k => k = p) w (w.setCell ⟨p, 1, none⟩ vb') := by
  have hk : KeepBut (fun k => k = p) w (w.setCell ⟨p, 1, none⟩ vb') := (KeepBut.refl (fun k => k = p) w).setCell (p := ⟨p, 1, none⟩) (.inl rfl) _
  refine ⟨⟨h.box.set (i := 1) (v := vb'), ?_⟩, hk⟩
  exact owns_keep ho hk (fun g hg e => hn (by rw [hg, e]))
theorem RD.len {w : World} {p : Nat} {vb : Value} {d : Dk} (h : RD w p vb d) : ∃ (ao : Option Addr) (cap : Nat), vb = .slice ao d.bs.length cap := (Lies.of_own h.own).shape
/-- What a call leaves of it. -/
structure RDid (w w' : World) (p : Nat) (vb : Value) (d' : Dk) : Prop where
  st : ∃ vb', RD w' p vb' d' ∧ (vb'.ownBlock = vb.ownBlock ∨ ∀ g, vb'.ownBlock = some g → w.heap.size ≤ g)
  keep : KeepBut (fun k => k = p) w w'
theorem RDid.same {w : World} {p : Nat} {vb : Value} {d : Dk} (h : RD w p vb d) : RDid w w p vb d := ⟨⟨vb, h, .inl rfl⟩, KeepBut.refl _ _⟩
theorem rfail_any (p : Nat) (vb : Value) (d : Dk) (w : World) (h : RD w p vb d) :
    Calls Try.prog 36 #[.pointer (some ⟨p, 0, none⟩)] w fun e w' => e = .returned (.int .i64 (faiA d)) ∧ RDid w w' p vb (faiD d) := by
  obtain ⟨m0, m1, m2, m3, m4, m5, m6, m7⟩ := h.at
  have hfz := h.box.frozen 5
  have HH := hide h
  clear h
  cases ho : d.off
  · have HE : Hid (faiA d = 0) := hide (by unfold faiA; rw [ho]; rfl)
    rw [ho] at m5
    go_enter Try.func36, Try.ntmps36
    go_wp2
    go_ret
    obtain ⟨h1, h2⟩ := HH.out.put (i := 5) (v := .bool true) (d' := faiD d) rfl rfl
    exact ⟨ret_int HE.out.symm, ⟨_, h1, .inl rfl⟩, h2⟩
  · have HE : Hid (faiA d = 11) := hide (by unfold faiA; rw [ho]; rfl)
    have HD : Hid (faiD d = d) := hide (by unfold faiD; cases d; simp_all)
    rw [ho] at m5
    go_enter Try.func36, Try.ntmps36
    go_wp2
    go_ret
    exact ⟨ret_int HE.out.symm, by rw [HD.out]; exact RDid.same HH.out⟩
theorem rleft_quiet (p : Nat) (vb : Value) (d : Dk) (w : World) (h : RD w p vb d) (hok : d.Ok) :
    Calls Try.prog 22 #[.pointer (some ⟨p, 0, none⟩)] w fun e w' => e = .returned (.int .i64 ((d.left : Nat) : Int)) ∧ ∃ m, w' = w.drewN m := by
  obtain ⟨m0, m1, m2, m3, m4, m5, m6, m7⟩ := h.at
  obtain ⟨ao, cap, rfl⟩ := h.len
  have h1 := hok.full
  have h2 := hok.b1
  have h3 := hok.b2
  have h4 := hok.r2
  have hl : d.bs.length ≤ 9223372036854775807 := by have := (Lies.of_own h.own).len; unfold maxLen at this; omega
  have HE : Hid (((d.left : Nat) : Int) = (d.room : Int) - ((d.bs.length : Int) - (d.fbase : Int))) := hide (by unfold Dk.left; omega)
  clear h
  go_enter Try.func22, Try.ntmps22
  go_wp2
  go_quiet (fail)
  go_wp2
  go_ret
  exact ⟨ret_int (by rw [HE.out]; try rfl), _, rfl⟩
theorem rleft_any (p : Nat) (vb : Value) (d : Dk) (w : World) (h : RD w p vb d) (hok : d.Ok) :
    Calls Try.prog 22 #[.pointer (some ⟨p, 0, none⟩)] w fun e w' => e = .returned (.int .i64 ((d.left : Nat) : Int)) ∧ Below w.heap.size w w' :=
  (rleft_quiet p vb d w h hok).mono fun _ _ ⟨he, _, hw⟩ => ⟨he, by subst hw; exact ⟨rfl, rfl, rfl, Nat.le_refl _, fun _ _ => rfl⟩⟩
end Go.Proofs.Ytjjmcaamgoffiaa
