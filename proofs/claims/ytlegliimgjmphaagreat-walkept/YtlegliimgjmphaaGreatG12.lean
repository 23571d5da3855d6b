/-
  Own texts put together: DkRef4, DkRef5, DkActs, DkLaw, DkNob, WlDo. Own work.
-/
import Derived.Test.YtlegliimgjmphaaGreatG11
import Derived.Test.YtlegliimgjmphaaGreatG09
import Derived.Test.YtlegliimgjmphaaGreatG10
import Derived.Test.YtlegliimgjmphaaGreatG01
import Derived.Test.YtlegliimgjmphaaGreatG08
import Derived.Deep.LoopGhost
namespace Go.Proofs.YtlegliimgjmphaaGreat
section
open Go.RowKit
theorem RD.drewN {w : World} {p n : Nat} {vb : Value} {d : Dk} (h : RD w p vb d) : RD (w.drewN n) p vb d := h.below ⟨rfl, rfl, rfl, Nat.le_refl _, fun _ _ => rfl⟩
theorem below_drewN7 (w : World) (n : Nat) : Below w.heap.size w (w.drewN n) := ⟨rfl, rfl, rfl, Nat.le_refl _, fun _ _ => rfl⟩
theorem RD.anew {w : World} {p : Nat} {vb vb' : Value} {d : Dk} {ys : List Int} {e : Nat} (h : RD w p vb d) (ho : w.ownsRow 0 5 1 vb' ys.length (ys.map (Value.int .u8))) (hn : vb'.ownBlock ≠ some p) :
  RD (((((((w.setCell ⟨p, 1, none⟩ vb').setCell ⟨p, 2, none⟩ (.int .i64 (e : Int))).setCell ⟨p, 3, none⟩ (.int .i64 (e : Int))).setCell ⟨p, 4, none⟩ (.int .i64 (ys.length : Int))).setCell ⟨p, 5, none⟩ (.bool false)).setCell ⟨p, 6, none⟩ (.bool false)).setCell ⟨p, 7, none⟩ (.int .i64 0)) p vb' ⟨d.room, ys, e, e, ys.length, false, false, 0⟩ ∧
  KeepBut (fun k => k = p) w (((((((w.setCell ⟨p, 1, none⟩ vb').setCell ⟨p, 2, none⟩ (.int .i64 (e : Int))).setCell ⟨p, 3, none⟩ (.int .i64 (e : Int))).setCell ⟨p, 4, none⟩ (.int .i64 (ys.length : Int))).setCell ⟨p, 5, none⟩ (.bool false)).setCell ⟨p, 6, none⟩ (.bool false)).setCell ⟨p, 7, none⟩ (.int .i64 0)) := by
 obtain ⟨q1, k1⟩ := h.bytes ho hn
 obtain ⟨q2, k2⟩ := q1.put (i := 2) (v := .int .i64 (e : Int)) (d' := { d with bs := ys, base := e }) rfl rfl
 obtain ⟨q3, k3⟩ := q2.put (i := 3) (v := .int .i64 (e : Int)) (d' := { d with bs := ys, base := e, fbase := e }) rfl rfl
 obtain ⟨q4, k4⟩ := q3.put (i := 4) (v := .int .i64 (ys.length : Int)) (d' := { d with bs := ys, base := e, fbase := e, fend := ys.length }) rfl rfl
 obtain ⟨q5, k5⟩ := q4.put (i := 5) (v := .bool false) (d' := { d with bs := ys, base := e, fbase := e, fend := ys.length, off := false }) rfl rfl
 obtain ⟨q6, k6⟩ := q5.put (i := 6) (v := .bool false) (d' := { d with bs := ys, base := e, fbase := e, fend := ys.length, off := false, armed := false }) rfl rfl
 obtain ⟨q7, k7⟩ := q6.put (i := 7) (v := .int .i64 0) (d' := ⟨d.room, ys, e, e, ys.length, false, false, 0⟩) rfl rfl
 exact ⟨q7, (((((k1.trans k2 (fun _ _ h => h)).trans k3 (fun _ _ h => h)).trans k4 (fun _ _ h => h)).trans k5 (fun _ _ h => h)).trans k6 (fun _ _ h => h)).trans k7 (fun _ _ h => h)⟩
end
section
open Go.RowKit
def newOk (room : Int) : Bool := decide (1 ≤ room) && decide (room ≤ 65536)
theorem RDid.before {w w1 w2 : World} {p : Nat} {vb : Value} {d' : Dk} (hB : Below w.heap.size w w1) (h : RDid w1 w2 p vb d') : RDid w w2 p vb d' := by
 obtain ⟨⟨vb', h1, h2⟩, hk⟩ := h
 refine ⟨⟨vb', h1, ?_⟩, (KeepBut.of_below (fun k => k = p) hB).trans hk (fun _ _ h => h)⟩
 rcases h2 with h2 | h2
 ·exact .inl h2
 ·exact .inr (fun g hg => Nat.le_trans hB.size (h2 g hg))
end
section
open Go.RowKit
def dcells (a : DAct) (sv : Value) : Array Value := #[.int .u8 (a.kind : Int), .int .i64 a.n, sv, .bool a.cut]
def DLies (w : World) (v : Value) (fs : List DAct) : Prop :=
 (fs = [] ∧ ∃ (ao : Option Addr) (cap : Nat), v = .slice ao 0 cap ∧ (ao = none → cap = 0)) ∨
 (fs ≠ [] ∧ ∃ b off cap : Nat, v = .slice (some ⟨b, off, none⟩) fs.length cap ∧ b < w.heap.size ∧ fs.length ≤ cap ∧ cap ≤ maxLen ∧
  ∀ t (ht : t < fs.length), ∃ sv, Lies .u8 w sv fs[t].b ∧ ∀ j, j < 4 → w.cell? ⟨b, off + t * 4 + j, none⟩ = (dcells fs[t] sv)[j]?)
theorem DLies.below {w w' : World} {v : Value} {fs : List DAct} (hB : Below w.heap.size w w') (h : DLies w v fs) : DLies w' v fs := by
 rcases h with h | ⟨hne, b, off, cap, rfl, hb, h1, h2, hc⟩
 ·exact .inl h
 ·refine .inr ⟨hne, b, off, cap, rfl, Nat.lt_of_lt_of_le hb hB.size, h1, h2, fun t ht => ?_⟩
  obtain ⟨sv, hL, hj⟩ := hc t ht
  exact ⟨sv, hL.below hB, fun j hj4 => (hB.cell (p := ⟨b, off + t * 4 + j, none⟩) hb).trans (hj j hj4)⟩
theorem DLies.shape {w : World} {v : Value} {fs : List DAct} (h : DLies w v fs) : ∃ (ao : Option Addr) (cap : Nat), v = .slice ao fs.length cap ∧ fs.length ≤ cap ∧ (ao = none → cap = 0) ∧ fs.length ≤ maxLen := by
 rcases h with ⟨rfl, ao, cap, rfl, h0⟩ | ⟨_, b, off, cap, rfl, _, h1, h2, _⟩
 ·exact ⟨ao, cap, rfl, Nat.zero_le _, h0, Nat.zero_le _⟩
 ·exact ⟨_, cap, rfl, h1, (fun h => by cases h), Nat.le_trans h1 h2⟩
theorem DLies.take {w : World} {ao : Option Addr} {cap n : Nat} {fs : List DAct} (h : DLies w (.slice ao fs.length cap) fs) (hn : n ≤ fs.length) : DLies w (.slice ao n cap) (fs.take n) := by
 rcases h with ⟨rfl, ao', cap', e, h0⟩ | ⟨hne, b, off, cap', e, hb, hl, hm, hc⟩
 ·cases e
  obtain rfl : n = 0 := by simpa using hn
  exact .inl ⟨by simp, ao, cap, rfl, h0⟩
 ·cases e
  by_cases h0 : n = 0
  ·subst h0
   exact .inl ⟨by simp, _, _, rfl, fun h => by cases h⟩
  ·have hlen : (fs.take n).length = n := by simp; omega
   refine .inr ⟨fun e => by rw [e] at hlen; simp at hlen; omega, b, off, cap, by rw [hlen], hb, by omega, hm, fun t ht => ?_⟩
   obtain ⟨sv, h1, h2⟩ := hc t (by omega)
   rw [List.getElem_take]
   exact ⟨sv, h1, h2⟩
theorem DLies.at {w : World} {v : Value} {fs : List DAct} (h : DLies w v fs) (k : Nat) (hk : k < fs.length) : ∃ b off cap sv, v = .slice (some ⟨b, off, none⟩) fs.length cap ∧ b < w.heap.size ∧ Lies .u8 w sv fs[k].b ∧
  w.cell? ⟨b, off + k * 4, none⟩ = some (.int .u8 (fs[k].kind : Int)) ∧ w.cell? ⟨b, off + k * 4 + 1, none⟩ = some (.int .i64 fs[k].n) ∧ w.cell? ⟨b, off + k * 4 + 2, none⟩ = some sv ∧ w.cell? ⟨b, off + k * 4 + 3, none⟩ = some (.bool fs[k].cut) := by
 rcases h with ⟨rfl, _⟩ | ⟨_, b, off, cap, rfl, hb, _, _, hc⟩
 ·simp at hk
 ·obtain ⟨sv, hL, hj⟩ := hc k hk
  exact ⟨b, off, cap, sv, rfl, hb, hL, hj 0 (by omega), hj 1 (by omega), hj 2 (by omega), hj 3 (by omega)⟩
end
section
open Go.RowKit
def Did (D : World → Nat → (Nat → Prop) → Dk → Prop) (w w' : World) (q : Nat) (F : Nat → Prop) (d' : Dk) : Prop :=
 ∃ F', D w' q F' d' ∧ KeepBut F w w' ∧ ∀ k, F' k → F k ∨ w.heap.size ≤ k
structure DiskDo (D : World → Nat → (Nat → Prop) → Dk → Prop) : Prop where
 keep : ∀ {w w' : World} {q : Nat} {F S : Nat → Prop} {d : Dk}, D w q F d → KeepBut S w w' → (∀ k, F k → ¬ S k) → D w' q F d
 lt : ∀ {w : World} {q : Nat} {F : Nat → Prop} {d : Dk}, D w q F d → ∀ k, F k → k < w.heap.size
 ok : ∀ {w : World} {q : Nat} {F : Nat → Prop} {d : Dk}, D w q F d → d.Ok
 new : ∀ (room : Int) (w : World), newOk room = true → Calls Tryz.prog 9 #[.int .i64 room] w fun e w' => ∃ q F, e = .returned (.tuple #[.pointer (some ⟨q, 0, none⟩), .int .i64 0]) ∧ D w' q F (newD room.toNat) ∧ (∀ k, F k → w.heap.size ≤ k) ∧ Below w.heap.size w w'
 newNo : ∀ (room : Int) (w : World), newOk room = false → Calls Tryz.prog 9 #[.int .i64 room] w fun e w' => e = .returned (.tuple #[.pointer none, .int .i64 1]) ∧ Below w.heap.size w w'
 app : ∀ {w : World} {q : Nat} {F : Nat → Prop} {d : Dk} (vx : Value) (xs : List Int), D w q F d → Lies .u8 w vx xs → (∀ c ∈ xs, 0 ≤ c ∧ c < 256) → xs.length ≤ 100000000000000 → d.bs.length ≤ 100000000 →
  Calls Tryz.prog 87 #[.pointer (some ⟨q, 0, none⟩), vx] w fun e w' => e = .returned (.tuple #[.int .i64 (appA d xs).1, .int .i64 (appA d xs).2]) ∧ Did D w w' q F (appD d xs)
 for' : ∀ {w : World} {q : Nat} {F : Nat → Prop} {d : Dk}, D w q F d → Calls Tryz.prog 67 #[.pointer (some ⟨q, 0, none⟩)] w fun e w' => e = .returned (.int .i64 (forA d)) ∧ Did D w w' q F (forD d)
 cut : ∀ {w : World} {q : Nat} {F : Nat → Prop} {d : Dk} (to : Int), D w q F d → Calls Tryz.prog 68 #[.pointer (some ⟨q, 0, none⟩), .int .i64 to] w fun e w' => e = .returned (.int .i64 (cutA d to)) ∧ Did D w w' q F (cutD d to)
 tri : ∀ {w : World} {q : Nat} {F : Nat → Prop} {d : Dk} (to : Int), D w q F d → Calls Tryz.prog 70 #[.pointer (some ⟨q, 0, none⟩), .int .i64 to] w fun e w' => e = .returned (.int .i64 (cutA d to)) ∧ Did D w w' q F (triD d to)
 rea : ∀ {w : World} {q : Nat} {F : Nat → Prop} {d : Dk}, D w q F d → Calls Tryz.prog 28 #[.pointer (some ⟨q, 0, none⟩)] w fun e w' => ∃ v, e = .returned (.tuple #[v, .int .i64 (reaA d)]) ∧ w'.ownsRow w.heap.size 5 1 v (reaB d).length ((reaB d).map (Value.int .u8)) ∧ Below w.heap.size w w'
 bas : ∀ {w : World} {q : Nat} {F : Nat → Prop} {d : Dk}, D w q F d → Calls Tryz.prog 35 #[.pointer (some ⟨q, 0, none⟩)] w fun e w' => e = .returned (.int .i64 (d.base : Int)) ∧ ∃ m, w' = w.drewN m
 end' : ∀ {w : World} {q : Nat} {F : Nat → Prop} {d : Dk}, D w q F d → Calls Tryz.prog 64 #[.pointer (some ⟨q, 0, none⟩)] w fun e w' => e = .returned (.int .i64 (d.bs.length : Int)) ∧ ∃ m, w' = w.drewN m
 fcd : ∀ {w : World} {q : Nat} {F : Nat → Prop} {d : Dk}, D w q F d → Calls Tryz.prog 63 #[.pointer (some ⟨q, 0, none⟩)] w fun e w' => e = .returned (.tuple #[.int .i64 (d.fbase : Int), .int .i64 (d.fend : Int)]) ∧ ∃ m, w' = w.drewN m
 lef : ∀ {w : World} {q : Nat} {F : Nat → Prop} {d : Dk}, D w q F d → Calls Tryz.prog 62 #[.pointer (some ⟨q, 0, none⟩)] w fun e w' => e = .returned (.int .i64 ((d.left : Nat) : Int)) ∧ ∃ m, w' = w.drewN m
 roo : ∀ {w : World} {q : Nat} {F : Nat → Prop} {d : Dk}, D w q F d → Calls Tryz.prog 65 #[.pointer (some ⟨q, 0, none⟩)] w fun e w' => e = .returned (.int .i64 (d.room : Int)) ∧ ∃ m, w' = w.drewN m
 on : ∀ {w : World} {q : Nat} {F : Nat → Prop} {d : Dk}, D w q F d → Calls Tryz.prog 23 #[.pointer (some ⟨q, 0, none⟩)] w fun e w' => e = .returned (.bool (!d.off)) ∧ ∃ m, w' = w.drewN m
 arm : ∀ {w : World} {q : Nat} {F : Nat → Prop} {d : Dk} (n : Int), D w q F d → n ≤ 9223372036854775807 → Calls Tryz.prog 14 #[.pointer (some ⟨q, 0, none⟩), .int .i64 n] w fun e w' => e = .returned (.tuple #[]) ∧ Did D w w' q F (armD d n)
 fai : ∀ {w : World} {q : Nat} {F : Nat → Prop} {d : Dk}, D w q F d → Calls Tryz.prog 21 #[.pointer (some ⟨q, 0, none⟩)] w fun e w' => e = .returned (.int .i64 (faiA d)) ∧ Did D w w' q F (faiD d)
 sta : ∀ {w : World} {q : Nat} {F : Nat → Prop} {d : Dk} (keep : Int) (c : Bool) (vx : Value) (xs : List Int), D w q F d → Lies .u8 w vx xs → (∀ c ∈ xs, 0 ≤ c ∧ c < 256) → xs.length ≤ 100000000000000 → d.bs.length ≤ 100000000 → keep ≤ 9223372036854775807 →
  Calls Tryz.prog 24 #[.pointer (some ⟨q, 0, none⟩), .int .i64 keep, .bool c, vx] w fun e w' => e = .returned (.int .i64 (staA d xs)) ∧ Did D w w' q F (staD d keep c xs)
section
variable {D : World → Nat → (Nat → Prop) → Dk → Prop}
theorem DiskDo.below (H : DiskDo D) {w w' : World} {q : Nat} {F : Nat → Prop} {d : Dk} (h : D w q F d) (hB : Below w.heap.size w w') : D w' q F d := H.keep h (KeepBut.of_below (fun _ => False) hB) (fun _ _ h => h)
theorem Did.before {w w1 w2 : World} {q : Nat} {F : Nat → Prop} {d' : Dk} (hB : Below w.heap.size w w1) (h : Did D w1 w2 q F d') : Did D w w2 q F d' := by
 obtain ⟨F', h1, hk, hF⟩ := h
 refine ⟨F', h1, (KeepBut.of_below F hB).trans hk (fun _ _ h => h), fun k hk => ?_⟩
 rcases hF k hk with h | h
 ·exact .inl h
 ·exact .inr (Nat.le_trans hB.size h)
end
end
section
open Go.RowKit
def zdisk : Array Value := #[.int .i64 0, .slice none 0 0, .bool false, .int .i64 0, .int .i64 0, .int .i64 0, .int .i64 0, .bool false]
def Nob (w : World) (v : Value) : Prop := v = .pointer none ∨ ∃ z, v = .pointer (some ⟨z, 0, none⟩) ∧ Box w z zdisk 95
theorem given_no (v : Value) (w : World) (h : Nob w v) : Calls Tryz.prog 44 #[v] w fun e w' => e = .returned (.bool false) ∧ w' = w := by
 rcases h with rfl | ⟨z, rfl, hb⟩
 ·go_enter Tryz.func44, Tryz.ntmps44
  go_wp2
  go_ret
  exact ⟨rfl, rfl⟩
 ·have m2 : w.cell? ⟨z, 2, none⟩ = some (.bool false) := hb.cell 2 _ rfl
  clear hb
  go_enter Tryz.func44, Tryz.ntmps44
  go_wp2
  go_ret
  exact ⟨rfl, rfl⟩
theorem ready_no (v : Value) (w : World) (h : Nob w v) : Calls Tryz.prog 59 #[v] w fun e w' => e = .returned (.int .i64 2) ∧ w' = w := by
 have C := hide (given_no v w h)
 clear h
 go_enter Tryz.func59, Tryz.ntmps59
 go_wp2_with fail
 refine C.out.mono ?_
 rintro e w1 ⟨rfl, rfl⟩
 go_wp2_with fail
 go_ret
 exact ⟨rfl, rfl⟩
theorem within_no (v : Value) (n : Int) (w : World) (h : Nob w v) : Calls Tryz.prog 88 #[v, .int .i64 n] w fun e w' => e = .returned (.int .i64 2) ∧ w' = w := by
 have C := hide (ready_no v w h)
 clear h
 go_enter Tryz.func88, Tryz.ntmps88
 go_wp2_with fail
 refine C.out.mono ?_
 rintro e w1 ⟨rfl, rfl⟩
 go_wp2_with fail
 go_ret
 exact ⟨rfl, rfl⟩
theorem base_no (v : Value) (w : World) (h : Nob w v) : Calls Tryz.prog 35 #[v] w fun e w' => e = .returned (.int .i64 0) ∧ w' = w := by
 have C := hide (given_no v w h)
 clear h
 go_enter Tryz.func35, Tryz.ntmps35
 go_wp2_with fail
 refine C.out.mono ?_
 rintro e w1 ⟨rfl, rfl⟩
 go_wp2_with fail
 go_ret
 exact ⟨rfl, rfl⟩
theorem end_no (v : Value) (w : World) (h : Nob w v) : Calls Tryz.prog 64 #[v] w fun e w' => e = .returned (.int .i64 0) ∧ w' = w := by
 have C := hide (given_no v w h)
 clear h
 go_enter Tryz.func64, Tryz.ntmps64
 go_wp2_with fail
 refine C.out.mono ?_
 rintro e w1 ⟨rfl, rfl⟩
 go_wp2_with fail
 go_ret
 exact ⟨rfl, rfl⟩
theorem left_no (v : Value) (w : World) (h : Nob w v) : Calls Tryz.prog 62 #[v] w fun e w' => e = .returned (.int .i64 0) ∧ w' = w := by
 have C := hide (given_no v w h)
 clear h
 go_enter Tryz.func62, Tryz.ntmps62
 go_wp2_with fail
 refine C.out.mono ?_
 rintro e w1 ⟨rfl, rfl⟩
 go_wp2_with fail
 go_ret
 exact ⟨rfl, rfl⟩
theorem room_no (v : Value) (w : World) (h : Nob w v) : Calls Tryz.prog 65 #[v] w fun e w' => e = .returned (.int .i64 0) ∧ w' = w := by
 have C := hide (given_no v w h)
 clear h
 go_enter Tryz.func65, Tryz.ntmps65
 go_wp2_with fail
 refine C.out.mono ?_
 rintro e w1 ⟨rfl, rfl⟩
 go_wp2_with fail
 go_ret
 exact ⟨rfl, rfl⟩
theorem forced_no (v : Value) (w : World) (h : Nob w v) : Calls Tryz.prog 63 #[v] w fun e w' => e = .returned (.tuple #[.int .i64 0, .int .i64 0]) ∧ w' = w := by
 have C := hide (given_no v w h)
 clear h
 go_enter Tryz.func63, Tryz.ntmps63
 go_wp2_with fail
 refine C.out.mono ?_
 rintro e w1 ⟨rfl, rfl⟩
 go_wp2_with fail
 go_ret2
 exact ⟨rfl, rfl⟩
theorem force_no (v : Value) (w : World) (h : Nob w v) : Calls Tryz.prog 67 #[v] w fun e w' => e = .returned (.int .i64 2) ∧ w' = w := by
 have C := hide (ready_no v w h)
 clear h
 go_enter Tryz.func67, Tryz.ntmps67
 go_wp2_with fail
 refine C.out.mono ?_
 rintro e w1 ⟨rfl, rfl⟩
 go_wp2_with fail
 go_ret
 exact ⟨rfl, rfl⟩
theorem read_no (v : Value) (w : World) (h : Nob w v) : Calls Tryz.prog 28 #[v] w fun e w' => e = .returned (.tuple #[.slice none 0 0, .int .i64 2]) ∧ w' = w := by
 have C := hide (ready_no v w h)
 clear h
 go_enter Tryz.func28, Tryz.ntmps28
 go_wp2_with fail
 refine C.out.mono ?_
 rintro e w1 ⟨rfl, rfl⟩
 go_wp2_with fail
 go_ret2
 exact ⟨rfl, rfl⟩
theorem cut_no (v : Value) (n : Int) (w : World) (h : Nob w v) : Calls Tryz.prog 68 #[v, .int .i64 n] w fun e w' => e = .returned (.int .i64 2) ∧ w' = w := by
 have C := hide (within_no v n w h)
 clear h
 go_enter Tryz.func68, Tryz.ntmps68
 go_wp2_with fail
 refine C.out.mono ?_
 rintro e w1 ⟨rfl, rfl⟩
 go_wp2_with fail
 go_ret
 exact ⟨rfl, rfl⟩
theorem trim_no (v : Value) (n : Int) (w : World) (h : Nob w v) : Calls Tryz.prog 70 #[v, .int .i64 n] w fun e w' => e = .returned (.int .i64 2) ∧ w' = w := by
 have C := hide (within_no v n w h)
 clear h
 go_enter Tryz.func70, Tryz.ntmps70
 go_wp2_with fail
 refine C.out.mono ?_
 rintro e w1 ⟨rfl, rfl⟩
 go_wp2_with fail
 go_ret
 exact ⟨rfl, rfl⟩
end
section
open Go.RowKit
def EncOK : Prop := ∀ {w : World} {v : Value} {m : RecP}, RecOk m → RcLies w v m → Calls Tryz.prog 51 #[v] w fun e w' => ∃ u, e = .returned (.tuple #[u, .int .i64 (if mayR m then 0 else 1)]) ∧ Lies .u8 w' u (if mayR m then encRec m else []) ∧ Below w.heap.size w w'
def DecOK : Prop := ∀ {w : World} {v : Value} {b : List Int}, b.length ≤ 1000000 → (∀ c ∈ b, 0 ≤ c ∧ c < 256) → Lies .u8 w v b → Calls Tryz.prog 72 #[v] w fun e w' => ∃ u, e = .returned (.tuple #[u, .agg #[.int .i64 (decRec b).2.1, .int .i64 ((decRec b).2.2 : Int)]]) ∧ RcNew w.heap.size w' u (decRec b).1 ∧ Below w.heap.size w w'
section
variable {D : World → Nat → (Nat → Prop) → Dk → Prop}
structure WL (D : World → Nat → (Nat → Prop) → Dk → Prop) (w : World) (p q : Nat) (F : Nat → Prop) (d : Dk) : Prop where
 box : Box w p #[.pointer (some ⟨q, 0, none⟩)] 69
 dsk : D w q F d
 out : ¬ F p
theorem WL.cell {w : World} {p q : Nat} {F : Nat → Prop} {d : Dk} (h : WL D w p q F d) : w.cell? ⟨p, 0, none⟩ = some (.pointer (some ⟨q, 0, none⟩)) := h.box.cell 0 _ rfl
def WDid (D : World → Nat → (Nat → Prop) → Dk → Prop) (w w' : World) (p q : Nat) (F : Nat → Prop) (d' : Dk) : Prop :=
 ∃ F', WL D w' p q F' d' ∧ KeepBut F w w' ∧ ∀ k, F' k → F k ∨ w.heap.size ≤ k
theorem WL.did {w w' : World} {p q : Nat} {F : Nat → Prop} {d d' : Dk} (h : WL D w p q F d) (h2 : Did D w w' q F d') : WDid D w w' p q F d' := by
 obtain ⟨F', h1, hk, hF⟩ := h2
 refine ⟨F', ⟨h.box.keep hk h.out, h1, fun hp => ?_⟩, hk, hF⟩
 rcases hF p hp with h' | h'
 ·exact h.out h'
 ·exact Nat.lt_irrefl _ (Nat.lt_of_lt_of_le h.box.lt h')
theorem WL.below (H : DiskDo D) {w w' : World} {p q : Nat} {F : Nat → Prop} {d : Dk} (h : WL D w p q F d) (hB : Below w.heap.size w w') : WL D w' p q F d := ⟨h.box.belowI hB, H.below h.dsk hB, h.out⟩
theorem WDid.before {w w1 w2 : World} {p q : Nat} {F : Nat → Prop} {d' : Dk} (hB : Below w.heap.size w w1) (h : WDid D w1 w2 p q F d') : WDid D w w2 p q F d' := by
 obtain ⟨F', h1, hk, hF⟩ := h
 refine ⟨F', h1, (KeepBut.of_below F hB).trans hk (fun _ _ h => h), fun k hk => ?_⟩
 rcases hF k hk with h | h
 ·exact .inl h
 ·exact .inr (Nat.le_trans hB.size h)
theorem WDid.then {w w1 w2 : World} {p q : Nat} {F F1 : Nat → Prop} {d' : Dk} (hk : KeepBut F w w1) (hF : ∀ k, F1 k → F k ∨ w.heap.size ≤ k) (h : WDid D w1 w2 p q F1 d') : WDid D w w2 p q F d' := by
 obtain ⟨F', h1, hk2, hF2⟩ := h
 refine ⟨F', h1, hk.trans hk2 (fun k hl h => (hF k h).resolve_right (by omega)), fun k h => ?_⟩
 rcases hF2 k h with h | h
 ·exact hF k h
 ·exact .inr (Nat.le_trans hk.size h)
theorem under_any (p : Nat) (u : Option Addr) (w : World) (m0 : w.cell? ⟨p, 0, none⟩ = some (.pointer u)) : Calls Tryz.prog 50 #[.pointer (some ⟨p, 0, none⟩)] w fun e w' => e = .returned (.pointer u) ∧ w' = w := by
 go_enter Tryz.func50, Tryz.ntmps50
 go_wp2
 go_ret
 exact ⟨rfl, rfl⟩
theorem under_nil (w : World) : Calls Tryz.prog 50 #[.pointer none] w fun e w' => e = .returned (.pointer none) ∧ w' = w := by
 go_enter Tryz.func50, Tryz.ntmps50
 go_wp2
 go_ret
 exact ⟨rfl, rfl⟩
theorem wforce_any (H : DiskDo D) {w : World} {p q : Nat} {F : Nat → Prop} {d : Dk} (h : WL D w p q F d) : Calls Tryz.prog 37 #[.pointer (some ⟨p, 0, none⟩)] w fun e w' => e = .returned (.int .i64 (forA d)) ∧ WDid D w w' p q F (forD d) := by
 have m0 := h.cell
 have C := hide (H.for' h.dsk)
 have HW := hide h
 clear h
 go_enter Tryz.func37, Tryz.ntmps37
 go_wp2_with fail
 refine (under_any p _ w m0).mono ?_
 rintro e w1 ⟨rfl, rfl⟩
 go_wp2_with fail
 refine C.out.mono ?_
 rintro e w2 ⟨rfl, h2⟩
 have H2 := hide (HW.out.did h2)
 clear h2 m0
 go_wp2_with fail
 go_ret
 exact ⟨rfl, H2.out⟩
theorem wleft_any (H : DiskDo D) {w : World} {p q : Nat} {F : Nat → Prop} {d : Dk} (h : WL D w p q F d) : Calls Tryz.prog 30 #[.pointer (some ⟨p, 0, none⟩)] w fun e w' => e = .returned (.int .i64 ((d.left : Nat) : Int)) ∧ Below w.heap.size w w' := by
 have m0 := h.cell
 have C := hide (H.lef h.dsk)
 clear h
 go_enter Tryz.func30, Tryz.ntmps30
 go_wp2_with fail
 refine (under_any p _ w m0).mono ?_
 rintro e w1 ⟨rfl, rfl⟩
 go_wp2_with fail
 refine C.out.mono ?_
 rintro e w2 ⟨rfl, m, hw⟩
 have H2 : Hid (Below w1.heap.size w1 w2) := hide (hw ▸ below_drewN7 w1 m)
 clear hw m0
 go_wp2_with fail
 go_ret
 exact ⟨rfl, H2.out⟩
theorem wroom_any (H : DiskDo D) {w : World} {p q : Nat} {F : Nat → Prop} {d : Dk} (h : WL D w p q F d) : Calls Tryz.prog 34 #[.pointer (some ⟨p, 0, none⟩)] w fun e w' => e = .returned (.int .i64 (d.room : Int)) ∧ Below w.heap.size w w' := by
 have m0 := h.cell
 have C := hide (H.roo h.dsk)
 clear h
 go_enter Tryz.func34, Tryz.ntmps34
 go_wp2_with fail
 refine (under_any p _ w m0).mono ?_
 rintro e w1 ⟨rfl, rfl⟩
 go_wp2_with fail
 refine C.out.mono ?_
 rintro e w2 ⟨rfl, m, hw⟩
 have H2 : Hid (Below w1.heap.size w1 w2) := hide (hw ▸ below_drewN7 w1 m)
 clear hw m0
 go_wp2_with fail
 go_ret
 exact ⟨rfl, H2.out⟩
theorem wpend_any (H : DiskDo D) {w : World} {p q : Nat} {F : Nat → Prop} {d : Dk} (h : WL D w p q F d) (hbl : d.bs.length ≤ 100000000) : Calls Tryz.prog 32 #[.pointer (some ⟨p, 0, none⟩)] w fun e w' => e = .returned (.int .i64 ((d.bs.length - d.fend : Nat) : Int)) ∧ Below w.heap.size w w' := by
 have m0 := h.cell
 have C := hide (H.fcd h.dsk)
 have hok := H.ok h.dsk
 have h1 := hok.f2
 have HW := hide h
 clear h hok
 obtain ⟨L, hL⟩ : ∃ L, L = d.bs.length := ⟨_, rfl⟩
 obtain ⟨E, hE⟩ : ∃ E, E = d.fend := ⟨_, rfl⟩
 rw [← hE] at C
 rw [← hL, ← hE] at h1 ⊢
 rw [← hL] at hbl
 have HL := hide hL
 clear hL hE
 go_enter Tryz.func32, Tryz.ntmps32
 go_wp2_with fail
 refine (under_any p _ w m0).mono ?_
 rintro e w1 ⟨rfl, rfl⟩
 go_wp2_with fail
 refine C.out.mono ?_
 rintro e w2 ⟨rfl, m, hw⟩
 have hB : Below w1.heap.size w1 w2 := hw ▸ below_drewN7 w1 m
 have H2 := hide hB
 have m2 := (HW.out.below H hB).cell
 have C2 := hide (H.end' (HW.out.below H hB).dsk)
 rw [← HL.out] at C2
 clear hw m0 hB
 go_wp2_with fail
 refine (under_any p _ w2 m2).mono ?_
 rintro e w3 ⟨rfl, rfl⟩
 go_wp2_with fail
 refine C2.out.mono ?_
 rintro e w4 ⟨rfl, m', hw⟩
 have H4 : Hid (Below w1.heap.size w1 w4) := hide (H2.out.trans ((show Below w3.heap.size w3 w4 from hw ▸ below_drewN7 w3 m').mono H2.out.size))
 clear hw m2
 have hs : IntKind.i64.wrap ((L : Int) - (E : Int)) = ((L - E : Nat) : Int) := by rw [IntKind.wrap_i64]; omega
 have hs2 : (L : Int) - (E : Int) = ((L - E : Nat) : Int) := by omega
 go_wp2_with fail
 go_ret
 exact ⟨by first | rfl | (rw [hs]) | (rw [hs2]), H4.out⟩
theorem wplace_any (H : DiskDo D) {w : World} {p q : Nat} {F : Nat → Prop} {d : Dk} (h : WL D w p q F d) (hbl : d.bs.length ≤ 100000000) (n : Int) (hn : -9223372036854775808 ≤ n) (hn2 : n ≤ 9223372036854775807) : Calls Tryz.prog 69 #[.pointer (some ⟨p, 0, none⟩), .int .i64 n] w fun e w' => e = .returned (.int .i64 (plcW d n)) ∧ Below w.heap.size w w' := by
 have m0 := h.cell
 have C := hide (H.bas h.dsk)
 have hok := H.ok h.dsk
 have h1 := hok.b2
 have HW := hide h
 clear h hok
 have HP : Hid (plcW d n = if n < 0 ∨ ((d.bs.length - d.base : Nat) : Int) < n then -1 else (d.base : Int) + n) := rfl
 obtain ⟨L, hL⟩ : ∃ L, L = d.bs.length := ⟨_, rfl⟩
 obtain ⟨E, hE⟩ : ∃ E, E = d.base := ⟨_, rfl⟩
 rw [← hE] at C
 rw [← hL, ← hE] at h1 HP
 rw [← hL] at hbl
 have HL := hide hL
 clear hL hE
 go_enter Tryz.func69, Tryz.ntmps69
 go_wp2_with fail
 refine (under_any p _ w m0).mono ?_
 rintro e w1 ⟨rfl, rfl⟩
 go_wp2_with fail
 refine C.out.mono ?_
 rintro e w2 ⟨rfl, m, hw⟩
 have hB : Below w1.heap.size w1 w2 := hw ▸ below_drewN7 w1 m
 have H2 := hide hB
 have m2 := (HW.out.below H hB).cell
 have C2 := hide (H.end' (HW.out.below H hB).dsk)
 rw [← HL.out] at C2
 clear hw m0 hB
 go_wp2_with fail
 refine (under_any p _ w2 m2).mono ?_
 rintro e w3 ⟨rfl, rfl⟩
 go_wp2_with fail
 refine C2.out.mono ?_
 rintro e w4 ⟨rfl, m', hw⟩
 have H4 : Hid (Below w1.heap.size w1 w4) := hide (H2.out.trans ((show Below w3.heap.size w3 w4 from hw ▸ below_drewN7 w3 m').mono H2.out.size))
 clear hw m2
 have hs : IntKind.i64.wrap ((L : Int) - (E : Int)) = ((L - E : Nat) : Int) := by rw [IntKind.wrap_i64]; omega
 have hs2 : (L : Int) - (E : Int) = ((L - E : Nat) : Int) := by omega
 by_cases c1 : n < 0
 ·have HQ : Hid (plcW d n = -1) := hide (by rw [HP.out, if_pos (.inl c1)])
  go_wp2_with fail
  go_ret
  exact ⟨by rw [HQ.out]; rfl, H4.out⟩
 ·by_cases c2 : ((L - E : Nat) : Int) < n
  ·have HQ : Hid (plcW d n = -1) := hide (by rw [HP.out, if_pos (.inr c2)])
   have c3 : (L : Int) - (E : Int) < n := by omega
   go_wp2_with fail
   go_ret
   exact ⟨by rw [HQ.out]; rfl, H4.out⟩
  ·have HQ : Hid (plcW d n = (E : Int) + n) := hide (by rw [HP.out, if_neg (by omega)])
   have c3 : ¬ (L : Int) - (E : Int) < n := by omega
   have hs3 : IntKind.i64.wrap ((E : Int) + n) = (E : Int) + n := by rw [IntKind.wrap_i64]; omega
   go_wp2_with fail
   go_ret
   exact ⟨by rw [HQ.out]; rfl, H4.out⟩
theorem wdrop_any (H : DiskDo D) {w : World} {p q : Nat} {F : Nat → Prop} {d : Dk} (h : WL D w p q F d) (hbl : d.bs.length ≤ 100000000) (n : Int) (hn : -9223372036854775808 ≤ n) (hn2 : n ≤ 9223372036854775807) : Calls Tryz.prog 39 #[.pointer (some ⟨p, 0, none⟩), .int .i64 n] w fun e w' => e = .returned (.int .i64 (cutA d (plcW d n))) ∧ WDid D w w' p q F (cutD d (plcW d n)) := by
 have m0 := h.cell
 have C := hide (wplace_any H h hbl n hn hn2)
 have HW := hide h
 clear h
 go_enter Tryz.func39, Tryz.ntmps39
 go_wp2_with fail
 refine (under_any p _ w m0).mono ?_
 rintro e w1 ⟨rfl, rfl⟩
 go_wp2_with fail
 refine C.out.mono ?_
 rintro e w2 ⟨rfl, hB⟩
 have H2 := hide hB
 have HW2 := hide (HW.out.below H hB)
 clear hB m0
 go_wp2_with fail
 refine (H.cut (plcW d n) HW2.out.dsk).mono ?_
 rintro e w3 ⟨rfl, h3⟩
 have H3 := hide ((HW2.out.did h3).before H2.out)
 clear h3
 go_wp2_with fail
 go_ret
 exact ⟨rfl, H3.out⟩
theorem wtrim_any (H : DiskDo D) {w : World} {p q : Nat} {F : Nat → Prop} {d : Dk} (h : WL D w p q F d) (hbl : d.bs.length ≤ 100000000) (n : Int) (hn : -9223372036854775808 ≤ n) (hn2 : n ≤ 9223372036854775807) : Calls Tryz.prog 40 #[.pointer (some ⟨p, 0, none⟩), .int .i64 n] w fun e w' => e = .returned (.int .i64 (cutA d (plcW d n))) ∧ WDid D w w' p q F (triD d (plcW d n)) := by
 have m0 := h.cell
 have C := hide (wplace_any H h hbl n hn hn2)
 have HW := hide h
 clear h
 go_enter Tryz.func40, Tryz.ntmps40
 go_wp2_with fail
 refine (under_any p _ w m0).mono ?_
 rintro e w1 ⟨rfl, rfl⟩
 go_wp2_with fail
 refine C.out.mono ?_
 rintro e w2 ⟨rfl, hB⟩
 have H2 := hide hB
 have HW2 := hide (HW.out.below H hB)
 clear hB m0
 go_wp2_with fail
 refine (H.tri (plcW d n) HW2.out.dsk).mono ?_
 rintro e w3 ⟨rfl, h3⟩
 have H3 := hide ((HW2.out.did h3).before H2.out)
 clear h3
 go_wp2_with fail
 go_ret
 exact ⟨rfl, H3.out⟩
end
theorem RvLie.shape {W : World} {m : RecP} {p q : Value} (h : RvLie W ⟨m, p, q⟩) : ∃ ao bo c d, p = .slice ao m.wr.length c ∧ q = .slice bo m.mis.length d ∧ RcLies W (.agg (recA m p q)) m := by
 obtain ⟨ao, c, e1, _⟩ := h.src.shape
 obtain ⟨bo, d, e2⟩ := lies_shape12 h.lie
 rw [misI_len] at e2
 dsimp only at e1 e2
 subst e1; subst e2
 exact ⟨ao, bo, c, d, rfl, rfl, ao, bo, c, d, rfl, h.src, h.lie⟩
theorem sizR_take (ns : List RecV) {k : Nat} (h : k < ns.length) : sizR (rows (ns.take (k + 1))) = sizR (rows (ns.take k)) + (if mayR ns[k].m then 8 + (encRec ns[k].m).length else 0) := by
 rw [rows_take _ h]
 unfold sizR
 rw [List.map_append, List.sum_append]
 simp [frR_len]
theorem sizeF_small {n : Nat} (h : n ≤ 4096) : sizeF (n : Int) = ((8 + n : Nat) : Int) := by
 unfold sizeF
 rw [if_neg (by omega)]
 omega
set_option maxRecDepth 100000 in
set_option maxHeartbeats 3200000 in
theorem wsize_any (E : EncOK) (Z : SizeOK) (p : Nat) (u : Addr) (v : Value) (ns : List RecV) (w : World) (m0 : w.cell? ⟨p, 0, none⟩ = some (.pointer (some u))) (h : RSrc recVE w v ns) (ho : ∀ r ∈ ns, RvLie w r) (hl : ns.length ≤ 100000) :
  Calls Tryz.prog 18 #[.pointer (some ⟨p, 0, none⟩), v] w fun e w' => e = .returned (.int .i64 (sizR (rows ns) : Int)) ∧ Below w.heap.size w w' := by
 obtain ⟨ao, cap, rfl, hc, hm⟩ := h.shape
 have HH := hide h
 have HOK := hide ho
 clear h ho
 obtain ⟨LN, hLN⟩ : ∃ LN, LN = ns.length := ⟨_, rfl⟩
 have HLN := hide hLN
 have hL : LN ≤ 100000 := by omega
 rw [← hLN]
 clear hc hm hl hLN
 go_enter Tryz.func18, Tryz.ntmps18
 go_wp2_with fail
 refine (under_any p _ w m0).mono ?_
 rintro e w1 ⟨rfl, rfl⟩
 clear m0
 go_wp2_with fail
 go_loopg [5, 15] LN (fun g x i wr => ∃ (k S : Nat), k + g = LN ∧ x = .int .i64 (S : Int) ∧ i = .int .i64 k ∧ S ≤ k * 5000 ∧ Hid (S = sizR (rows (ns.take k))) ∧ Hid (Below w1.heap.size w1 wr))
 case atStart => exact ⟨0, 0, by omega, rfl, rfl, by omega, hide (by simp [rows, sizR]), hide (Below.refl _ _)⟩
 case round =>
  obtain ⟨k, S, hk, rfl, rfl, hS, HS, HB⟩ := hrel
  have HWS := HB.out.size
  cases gk with
  | zero =>
   obtain rfl : k = LN := by omega
   have hz : ¬ ((k : Int) < (k : Int)) := by omega
   have HT : Hid (ns.take k = ns) := hide (by rw [HLN.out]; simp)
   rw [HT.out] at HS
   go_wp2_with fail
   go_ret
   exact ⟨by rw [← HS.out]; rfl, HB.out⟩
  | succ g =>
   have hz : (k : Int) < (LN : Int) := by omega
   have hkn : k < ns.length := by rw [← HLN.out]; omega
   obtain ⟨en, b, off, rfl, hb, hcl⟩ := (HH.out.below HB.out).at recPV.len hkn
   have HRg : Hid (wr.rangeAt b (off + k * 31) (recVE ns[k])) := hide (fun j v hv => hcl j v hv)
   have HT := hide (sizR_take ns hkn)
   have HX := hide ((HOK.out _ (List.getElem_mem hkn)).below HB.out)
   generalize ns[k] = x at *
   obtain ⟨m, xp, xq⟩ := x
   obtain ⟨a1, a2, c1, c2, e1, e2, hrl⟩ := HX.out.shape
   dsimp only at e1 e2 HT
   subst e1; subst e2
   have HM : Hid (RecOk m) := hide HX.out.ok
   have HZ := hide (box_new wr (recA (zeroR 0) (.slice none 0 0) (.slice none 0 0)) 87)
   have HZB : Hid (Below wr.heap.size wr (wr.alloc (.cells (recA (zeroR 0) (.slice none 0 0) (.slice none 0 0)) 87))) := hide ((Below.refl _ _).alloc (Nat.le_refl _) _)
   have HRL := hide hrl
   clear hcl en hb HX hrl
   go_wp2_with (first | (refine wpList_load_mid rfl 87 _ rfl b (off + k * 31) rfl (recE m (.slice a1 m.wr.length c1) (.slice a2 m.mis.length c2)) _ HRg.out Tryz.underlying87 rfl infoRec ?_) | (refine wp_store_box rfl rfl _ _ rfl wr.heap.size rfl (cs' := recA m (.slice a1 m.wr.length c1) (.slice a2 m.mis.length c2)) rfl HZ.out rfl infoRec (rec_one _ _ _ _ _ _ _) ?_; intro w3 hb3 hk3; have HK3 : Hid (Below wr.heap.size wr w3) := hide (HZB.out.trans (hk3.below HZB.out.size (fun k hk => by omega))); have HB3 := hide hb3; clear hb3 hk3) | (refine wp_load_box rfl _ rfl wr.heap.size rfl HB3.out Tryz.underlying87 rfl infoRec ?_))
   refine (E HM.out (HRL.out.below HK3.out)).mono ?_
   rintro e w4 ⟨u4, rfl, hL4, hB4⟩
   obtain ⟨a4, c4, e4⟩ := hL4.shape
   subst e4
   have HB4 : Hid (Below w1.heap.size w1 w4) := hide (HB.out.trans ((HK3.out.trans (hB4.mono HK3.out.size)).mono HB.out.size))
   clear hL4 hB4 HB3 HK3 HZ HZB HRg HRL
   cases hmay : mayR m with
   | false =>
    have HT2 : Hid (S = sizR (rows (ns.take (k + 1)))) := hide (by rw [HT.out, HS.out, hmay]; simp)
    clear hmay
    go_wp2_with fail
    go_roundg g
    case measure => omega
    case rel => exact ⟨k + 1, S, by omega, rfl, by first | rfl | go_num, by omega, HT2, HB4⟩
   | true =>
    have hlen := encRec_len HM.out hmay
    have HT2 : Hid (S + (8 + (encRec m).length) = sizR (rows (ns.take (k + 1)))) := hide (by rw [HT.out, HS.out, hmay]; simp)
    clear hmay
    simp only [if_true]
    obtain ⟨Q, hQ⟩ : ∃ Q, Q = (encRec m).length := ⟨_, rfl⟩
    rw [← hQ] at hlen HT2 ⊢
    clear hQ
    go_wp2_with fail
    refine (Z (Q : Int) w4 (by omega) (by omega)).mono ?_
    rintro e w5 ⟨rfl, hB5⟩
    rw [sizeF_small hlen]
    have HB5 : Hid (Below w1.heap.size w1 w5) := hide (HB4.out.trans (hB5.mono HB4.out.size))
    clear hB5
    go_wp2_with fail
    go_roundg g
    case measure => omega
    case rel => exact ⟨k + 1, S + (8 + Q), by omega, by first | rfl | go_num, by first | rfl | go_num, by omega, HT2, HB5⟩
end
end Go.Proofs.YtlegliimgjmphaaGreat
