/-
  What a program's network must do, as one bundle: for the laws of layer 8; a call of a script done on it ('does'). Own work.
-/
import Derived.Test.YteehkjdolmmapaaNtKit
namespace Go.Proofs.Yteehkjdolmmapaa
open Go.RowKit

def newOk8 (room : Int) : Bool := decide (1 ≤ room) && decide (room ≤ 256)
/-- What a call leaves of a network: F, F' are the blocks that it uses. -/
def NDid (D : World → Nat → (Nat → Prop) → Nt → Prop) (w w' : World) (q : Nat) (F : Nat → Prop) (n' : Nt) : Prop :=
  ∃ F', D w' q F' n' ∧ KeepBut F w w' ∧ ∀ k, F' k → F k ∨ w.heap.size ≤ k
/-- .. where it also hands out bytes of which it keeps nothing. -/
def NDidW (D : World → Nat → (Nat → Prop) → Nt → Prop) (w w' : World) (q : Nat) (F : Nat → Prop) (n' : Nt) (sv : Value) (bs : List Int) : Prop :=
  ∃ F', D w' q F' n' ∧ KeepBut F w w' ∧ (∀ k, F' k → F k ∨ w.heap.size ≤ k) ∧ w'.ownsRow 0 5 1 sv bs.length (bs.map (Value.int .u8)) ∧ ∀ g, sv.ownBlock = some g → ¬ F' g ∧ (F g ∨ w.heap.size ≤ g)
/-- What a program's network must do. -/
structure NetDo (D : World → Nat → (Nat → Prop) → Nt → Prop) : Prop where
  keep : ∀ {w w' : World} {q : Nat} {F S : Nat → Prop} {n : Nt}, D w q F n → KeepBut S w w' → (∀ k, F k → ¬ S k) → D w' q F n
  lt : ∀ {w : World} {q : Nat} {F : Nat → Prop} {n : Nt}, D w q F n → ∀ k, F k → k < w.heap.size
  ok : ∀ {w : World} {q : Nat} {F : Nat → Prop} {n : Nt}, D w q F n → n.Ok
  new : ∀ (room : Int) (w : World), newOk8 room = true → Calls Try.prog 10 #[.int .i64 room] w fun e w' => ∃ q F, e = .returned (.tuple #[.pointer (some ⟨q, 0, none⟩), .int .i64 0]) ∧ D w' q F (newN room.toNat) ∧ (∀ k, F k → w.heap.size ≤ k) ∧ Below w.heap.size w w'
  newNo : ∀ (room : Int) (w : World), newOk8 room = false → Calls Try.prog 10 #[.int .i64 room] w fun e w' => e = .returned (.tuple #[.pointer none, .int .i64 1]) ∧ Below w.heap.size w w'
  sen : ∀ {w : World} {q : Nat} {F : Nat → Prop} {n : Nt} (x : Wr) (sv : Value), D w q F n → x.Ok → Lies .u8 w sv x.b → n.lost ≤ 1000000 →
    Calls Try.prog 23 #[.pointer (some ⟨q, 0, none⟩), .agg (wcs x sv)] w fun e w' => e = .returned (.int .i64 (senA n x)) ∧ NDid D w w' q F (senD n x)
  tak : ∀ {w : World} {q : Nat} {F : Nat → Prop} {n : Nt} (i : Int), D w q F n →
    Calls Try.prog 25 #[.pointer (some ⟨q, 0, none⟩), .int .i64 i] w fun e w' => ∃ sv, e = .returned (.tuple #[.agg (wcs (n.nth i) sv), .int .i64 (atA n i)]) ∧ NDidW D w w' q F (takD n i) sv (n.nth i).b
  at' : ∀ {w : World} {q : Nat} {F : Nat → Prop} {n : Nt} (i : Int), D w q F n →
    Calls Try.prog 21 #[.pointer (some ⟨q, 0, none⟩), .int .i64 i] w fun e w' => ∃ sv, e = .returned (.tuple #[.agg (wcs (n.nth i) sv), .int .i64 (atA n i)]) ∧ w'.ownsRow w.heap.size 5 1 sv (n.nth i).b.length ((n.nth i).b.map (Value.int .u8)) ∧ Below w.heap.size w w'
  dro : ∀ {w : World} {q : Nat} {F : Nat → Prop} {n : Nt} (i : Int), D w q F n → n.lost ≤ 1000000 → Calls Try.prog 28 #[.pointer (some ⟨q, 0, none⟩), .int .i64 i] w fun e w' => e = .returned (.int .i64 (atA n i)) ∧ NDid D w w' q F (droD n i)
  twi : ∀ {w : World} {q : Nat} {F : Nat → Prop} {n : Nt} (i : Int), D w q F n → Calls Try.prog 24 #[.pointer (some ⟨q, 0, none⟩), .int .i64 i] w fun e w' => e = .returned (.int .i64 (twiA n i)) ∧ NDid D w w' q F (twiD n i)
  lat : ∀ {w : World} {q : Nat} {F : Nat → Prop} {n : Nt} (i : Int), D w q F n → Calls Try.prog 27 #[.pointer (some ⟨q, 0, none⟩), .int .i64 i] w fun e w' => e = .returned (.int .i64 (atA n i)) ∧ NDid D w w' q F (latD n i)
  len : ∀ {w : World} {q : Nat} {F : Nat → Prop} {n : Nt}, D w q F n → Calls Try.prog 16 #[.pointer (some ⟨q, 0, none⟩)] w fun e w' => e = .returned (.int .i64 (n.l.length : Int)) ∧ ∃ m, w' = w.drewN m
  los : ∀ {w : World} {q : Nat} {F : Nat → Prop} {n : Nt}, D w q F n → n.lost ≤ 1000000 → Calls Try.prog 17 #[.pointer (some ⟨q, 0, none⟩)] w fun e w' => e = .returned (.int .i64 (n.lost : Int)) ∧ ∃ m, w' = w.drewN m
  to' : ∀ {w : World} {q : Nat} {F : Nat → Prop} {n : Nt} (node : Nat), D w q F n → node < 256 → Calls Try.prog 19 #[.pointer (some ⟨q, 0, none⟩), .int .u8 (node : Int)] w fun e w' => ∃ v, e = .returned v ∧ Lies .i64 w' v (toL n node) ∧ Below w.heap.size w w'
section
variable {D : World → Nat → (Nat → Prop) → Nt → Prop}
theorem NetDo.below (H : NetDo D) {w w' : World} {q : Nat} {F : Nat → Prop} {n : Nt} (h : D w q F n) (hB : Below w.heap.size w w') : D w' q F n := H.keep h (KeepBut.of_below (fun _ => False) hB) (fun _ _ h => h)
theorem NDid.before {w w1 w2 : World} {q : Nat} {F : Nat → Prop} {n' : Nt} (hB : Below w.heap.size w w1) (h : NDid D w1 w2 q F n') : NDid D w w2 q F n' := by
  obtain ⟨F', h1, hk, hF⟩ := h
  exact ⟨F', h1, (KeepBut.of_below F hB).trans hk (fun _ _ h => h), fun k hk => (hF k hk).imp id (fun h => Nat.le_trans hB.size h)⟩
theorem NDidW.before {w w1 w2 : World} {q : Nat} {F : Nat → Prop} {n' : Nt} {sv : Value} {bs : List Int} (hB : Below w.heap.size w w1) (h : NDidW D w1 w2 q F n' sv bs) : NDidW D w w2 q F n' sv bs := by
  obtain ⟨F', h1, hk, hF, ho, hg⟩ := h
  exact ⟨F', h1, (KeepBut.of_below F hB).trans hk (fun _ _ h => h), fun k hk => (hF k hk).imp id (fun h => Nat.le_trans hB.size h), ho, fun g e => ⟨(hg g e).1, (hg g e).2.imp id (fun h => Nat.le_trans hB.size h)⟩⟩
theorem NDidW.after (H : NetDo D) {w w1 w2 : World} {q : Nat} {F : Nat → Prop} {n' : Nt} {sv : Value} {bs : List Int} (h : NDidW D w w1 q F n' sv bs) (hB : Below w1.heap.size w1 w2) : NDidW D w w2 q F n' sv bs := by
  obtain ⟨F', h1, hk, hF, ho, hg⟩ := h
  exact ⟨F', H.below h1 hB, hk.trans (KeepBut.of_below F hB) (fun _ _ h => h), hF, owns_keep ho (KeepBut.of_below (fun _ => False) hB) (fun _ _ h => h), hg⟩
theorem NDidW.of_did {w w1 : World} {q : Nat} {F : Nat → Prop} {n' : Nt} (h : NDid D w w1 q F n') : NDidW D w w1 q F n' (.slice none 0 0) [] := by
  obtain ⟨F', h1, hk, hF⟩ := h
  exact ⟨F', h1, hk, hF, World.ownsRow_nil _ _ _ _, fun g e => by cases e⟩
theorem owns_any8 {w : World} {base e size n : Nat} {v : Value} {xs : List Value} (h : w.ownsRow base e size v n xs) : w.ownsRow 0 e size v n xs := by
  obtain ⟨hl, h0 | ⟨g, cap, cur, rfl, _, r⟩⟩ := h
  · exact ⟨hl, .inl h0⟩
  · exact ⟨hl, .inr ⟨g, cap, cur, rfl, Nat.zero_le _, r⟩⟩
/-- As NDidW, told by the world w3 in which the call was made. -/
def NDid3 (D : World → Nat → (Nat → Prop) → Nt → Prop) (w w3 w4 : World) (q : Nat) (F : Nat → Prop) (n' : Nt) (sv : Value) (bs : List Int) : Prop :=
  ∃ F', D w4 q F' n' ∧ KeepBut F w w4 ∧ (∀ k, F' k → F k ∨ w3.heap.size ≤ k) ∧ w4.ownsRow 0 5 1 sv bs.length (bs.map (Value.int .u8)) ∧ (∀ g, sv.ownBlock = some g → ¬ F' g ∧ (F g ∨ w3.heap.size ≤ g)) ∧ w3.heap.size = w.heap.size + 3
/-- Two variables of the call's own are written. -/
theorem KeepBut.trans2 {a b : Nat} {w w1 w2 : World} (h : KeepBut (fun k => k = a) w w1) (h2 : KeepBut (fun k => k = b) w1 w2) : KeepBut (fun k => k = a ∨ k = b) w w2 :=
  (h.mono (S' := fun k => k = a ∨ k = b) (fun _ e => .inl e)).trans h2 (fun _ _ e => .inr e)
/-- 'does' writes to two variables of its own, made ahead of the call. -/
theorem ndid_put (H : NetDo D) {w w3 w4 w7 : World} {q : Nat} {F : Nat → Prop} {n' : Nt} {sv : Value} {bs : List Int} (h : NDid3 D w w3 w4 q F n' sv bs) (hFL : ∀ k, F k → k < w.heap.size) (hk : KeepBut (fun k => k = w.heap.size + 2 ∨ k = w.heap.size + 1) w4 w7) : NDidW D w w7 q F n' sv bs := by
  obtain ⟨F', h1, hk1, hF', ho, hg, hs⟩ := h
  have far : ∀ k, F' k → ¬ (k = w.heap.size + 2 ∨ k = w.heap.size + 1) := fun k hf e => by
    rcases hF' k hf with x | x
    · have := hFL k x; omega
    · omega
  have farv : ∀ g, sv.ownBlock = some g → ¬ (g = w.heap.size + 2 ∨ g = w.heap.size + 1) := fun g e e2 => by
    rcases (hg g e).2 with x | x
    · have := hFL g x; omega
    · omega
  refine ⟨F', H.keep h1 hk far, hk1.trans (hk.mono (S' := fun k => F k ∨ w.heap.size ≤ k) (fun k e => .inr (by omega))) ?_, fun k hf => (hF' k hf).imp id (fun x => by omega), owns_keep ho hk farv, fun g e => ⟨(hg g e).1, (hg g e).2.imp id (fun x => by omega)⟩⟩
  rintro k hk (x | x)
  · exact x
  · omega
set_option maxRecDepth 100000 in
set_option maxHeartbeats 3200000 in
theorem does_any8 (H : NetDo D) (q : Nat) (F : Nat → Prop) (n : Nt) (a : NAct) (sv : Value) (w : World) (h : D w q F n) (ha : a.Ok) (hL : Lies .u8 w sv a.b) (hlost : n.lost ≤ 1000000) :
    Calls Try.prog 13 #[.pointer (some ⟨q, 0, none⟩), .agg #[.int .u8 (a.kind : Int), .int .u8 (a.fr : Int), .int .u8 (a.to : Int), .int .i64 a.i, sv]] w fun e w' => ∃ sv', e = .returned (.tuple #[.agg (wcs (nctW n a) sv'), .int .i64 (nctA n a)]) ∧ NDidW D w w' q F (nctD n a) sv' (nctW n a).b := by
  obtain ⟨ao, cap, hsv⟩ := hL.shape
  subst hsv
  have hk := ha.k
  -- the three variables: the act, the result, the wire
  obtain ⟨w1, hw1⟩ : ∃ w1, w1 = w.alloc (.cells #[.int .u8 (a.kind : Int), .int .u8 (a.fr : Int), .int .u8 (a.to : Int), .int .i64 a.i, .slice ao a.b.length cap] 37) := ⟨_, rfl⟩
  obtain ⟨w2, hw2⟩ : ∃ w2, w2 = w1.alloc (.cells #[.int .u8 0, .int .u8 0, .slice none 0 0] 39) := ⟨_, rfl⟩
  obtain ⟨w3, hw3⟩ : ∃ w3, w3 = w2.alloc (.cells #[.int .u8 0, .int .u8 0, .slice none 0 0] 50) := ⟨_, rfl⟩
  have s1 : w1.heap.size = w.heap.size + 1 := by rw [hw1]; simp
  have s2 : w2.heap.size = w.heap.size + 2 := by rw [hw2]; simp [s1]
  have s3 : w3.heap.size = w.heap.size + 3 := by rw [hw3]; simp [s2]
  have hB1 : Below w.heap.size w w1 := hw1 ▸ alloc_below8 w _
  have hB2 : Below w1.heap.size w1 w2 := hw2 ▸ alloc_below8 w1 _
  have hB3 : Below w2.heap.size w2 w3 := hw3 ▸ alloc_below8 w2 _
  have hX1 : Box w1 w.heap.size #[.int .u8 (a.kind : Int), .int .u8 (a.fr : Int), .int .u8 (a.to : Int), .int .i64 a.i, .slice ao a.b.length cap] 37 := hw1 ▸ box_new w _ _
  have hX2 : Box w2 (w.heap.size + 1) #[.int .u8 0, .int .u8 0, .slice none 0 0] 39 := by have := box_new w1 #[.int .u8 0, .int .u8 0, .slice none 0 0] 39; rw [← hw2, s1] at this; exact this
  have hX3 : Box w3 (w.heap.size + 2) #[.int .u8 0, .int .u8 0, .slice none 0 0] 50 := by have := box_new w2 #[.int .u8 0, .int .u8 0, .slice none 0 0] 50; rw [← hw3, s2] at this; exact this
  have HX1 := hide ((hX1.below8 hB2).below8 hB3)
  have HX2 := hide (hX2.below8 hB3)
  have HX3 := hide hX3
  have HB03 := hide (hB1.trans ((hB2.trans (hB3.mono hB2.size)).mono hB1.size))
  have HFL := hide (H.lt h)
  have HD := hide (H.below h HB03.out)
  have HL := hide (hL.below HB03.out)
  have HS3 := hide s3
  have HA := hide ha
  have hrem : (a.kind : Int).tmod 6 = ((a.kind % 6 : Nat) : Int) := by
    rw [Int.tmod_eq_emod_of_nonneg (by omega)]; omega
  have HWK : Hid (nctW n a = if a.kind % 6 = 1 then n.nth a.i else if a.kind % 6 = 2 then n.nth a.i else nilW) := rfl
  have HAK : Hid (nctA n a = if a.kind % 6 = 1 then atA n a.i else if a.kind % 6 = 2 then atA n a.i else if a.kind % 6 = 3 then atA n a.i else if a.kind % 6 = 4 then twiA n a.i else if a.kind % 6 = 5 then atA n a.i else senA n a.wire) := rfl
  have HDK : Hid (nctD n a = if a.kind % 6 = 1 then takD n a.i else if a.kind % 6 = 2 then n else if a.kind % 6 = 3 then droD n a.i else if a.kind % 6 = 4 then twiD n a.i else if a.kind % 6 = 5 then latD n a.i else senD n a.wire) := rfl
  have hr6 : a.kind % 6 < 6 := Nat.mod_lt _ (by decide)
  have HW3 : Hid (((w.alloc (.cells #[.int .u8 (a.kind : Int), .int .u8 (a.fr : Int), .int .u8 (a.to : Int), .int .i64 a.i, .slice ao a.b.length cap] 37)).alloc (.cells #[.int .u8 0, .int .u8 0, .slice none 0 0] 39)).alloc (.cells #[.int .u8 0, .int .u8 0, .slice none 0 0] 50) = w3) := hide (by rw [hw3, hw2, hw1])
  generalize a.kind % 6 = r at *
  have hcs : r = 0 ∨ r = 1 ∨ r = 2 ∨ r = 3 ∨ r = 4 ∨ r = 5 := by omega
  clear h hL hB1 hB2 hB3 hX1 hX2 hX3 hw1 hw2 hw3 s1 s2 s3 hr6
  rcases hcs with rfl | rfl | rfl | rfl | rfl | rfl
  · have HW : Hid (nctW n a = nilW) := hide (by rw [HWK.out]; simp)
    have HAA : Hid (nctA n a = senA n a.wire) := hide (by rw [HAK.out]; simp)
    have HDD : Hid (nctD n a = senD n a.wire) := hide (by rw [HDK.out]; simp)
    rw [HW.out, HAA.out, HDD.out]
    have C := hide (H.sen a.wire (.slice ao a.b.length cap) HD.out HA.out.wire HL.out hlost)
    have x0 := HX1.out.cell 0 _ rfl
    have x1 := HX1.out.cell 1 _ rfl
    have x2 := HX1.out.cell 2 _ rfl
    have x3 := HX1.out.cell 3 _ rfl
    have x4 := HX1.out.cell 4 _ rfl
    have hW3 := HW3.out
    clear HWK HAK HDK HW HAA HDD
    go_enter Try.func13, Try.ntmps13
    go_wp2_with fail
    refine C.out.mono ?_
    rintro e w4 ⟨rfl, h4⟩
    have h4 := NDidW.of_did h4
    have H4 : Hid (NDid3 D w w3 w4 q F _ _ _) := hide (by obtain ⟨F', g1, g2, g3, g4, g5⟩ := h4; exact ⟨F', g1, (KeepBut.of_below F HB03.out).trans g2 (fun _ _ h => h), g3, g4, g5, HS3.out⟩)
    obtain ⟨F4, hD4, hk4, hF4, ho4, hg4⟩ := h4
    replace HX2 := hide (HX2.out.keep hk4 (fun hf => by have := HFL.out _ hf; omega))
    replace HX3 := hide (HX3.out.keep hk4 (fun hf => by have := HFL.out _ hf; omega))
    have HSZ : Hid (w3.heap.size ≤ w4.heap.size) := hide hk4.size
    clear hD4 hk4 hF4 ho4 hg4 C HD HL HX1 HB03 x0 x1 x2 x3 x4 hW3 HW3
    go_wp2_with (first
      | (refine wp_load_box rfl _ rfl (w.heap.size + 2) rfl HX3.out Try.underlying50 rfl infoW ?_))
    refine (ours_any nilW none 0 0 w4).mono ?_
    rintro e w6 ⟨rfl, hB6⟩
    have HX26 := hide (HX2.out.below8 hB6)
    have HK6 : Hid (KeepBut (fun k => k = w.heap.size + 2) w4 w6) := hide (KeepBut.of_below _ hB6)
    clear hB6
    go_wp2_with (first
      | (refine wp_store_box rfl rfl _ _ rfl (w.heap.size + 1) rfl rfl HX26.out rfl infoRW (wcs_one _ _ _ _) ?_; intro w7 hb7 hk7; have HX7 := hide hb7; have HK7 := hide hk7; clear hb7 hk7))
    refine bodyPost_ret (results_two8 rfl _ _ (w.heap.size + 1) rfl rfl HX7.out Try.underlying39 rfl infoRW) rfl ?_
    refine ⟨_, rfl, ?_⟩
    exact ndid_put H H4.out HFL.out (HK6.out.trans2 HK7.out)
  · have HW : Hid (nctW n a = n.nth a.i) := hide (by rw [HWK.out]; simp)
    have HAA : Hid (nctA n a = atA n a.i) := hide (by rw [HAK.out]; simp)
    have HDD : Hid (nctD n a = takD n a.i) := hide (by rw [HDK.out]; simp)
    rw [HW.out, HAA.out, HDD.out]
    have C := hide (H.tak a.i HD.out)
    have x0 := HX1.out.cell 0 _ rfl
    have x1 := HX1.out.cell 1 _ rfl
    have x2 := HX1.out.cell 2 _ rfl
    have x3 := HX1.out.cell 3 _ rfl
    have x4 := HX1.out.cell 4 _ rfl
    have hW3 := HW3.out
    clear HWK HAK HDK HW HAA HDD
    go_enter Try.func13, Try.ntmps13
    go_wp2_with fail
    refine C.out.mono ?_
    rintro e w4 ⟨sv4, rfl, h4⟩
    have H4 : Hid (NDid3 D w w3 w4 q F _ _ _) := hide (by obtain ⟨F', g1, g2, g3, g4, g5⟩ := h4; exact ⟨F', g1, (KeepBut.of_below F HB03.out).trans g2 (fun _ _ h => h), g3, g4, g5, HS3.out⟩)
    obtain ⟨F4, hD4, hk4, hF4, ho4, hg4⟩ := h4
    replace HX2 := hide (HX2.out.keep hk4 (fun hf => by have := HFL.out _ hf; omega))
    replace HX3 := hide (HX3.out.keep hk4 (fun hf => by have := HFL.out _ hf; omega))
    obtain ⟨a4, c4, hv4⟩ := (Lies.of_own ho4).shape
    subst hv4
    have HSZ : Hid (w3.heap.size ≤ w4.heap.size) := hide hk4.size
    clear hD4 hk4 hF4 ho4 hg4 C HD HL HX1 HB03 x0 x1 x2 x3 x4 hW3 HW3
    go_wp2_with (first
      | (refine wp_store_box rfl rfl _ _ rfl (w.heap.size + 2) rfl rfl HX3.out rfl infoW (wcs_one _ _ _ _) ?_; intro w5 hb5 hk5; have HX5 := hide hb5; have HK5 := hide hk5; clear hb5 hk5)
      | (refine wp_load_box rfl _ rfl (w.heap.size + 2) rfl HX5.out Try.underlying50 rfl infoW ?_))
    have HX25 := hide (HX2.out.keep HK5.out (by omega))
    refine (ours_any _ a4 _ c4 w5).mono ?_
    rintro e w6 ⟨rfl, hB6⟩
    have HX26 := hide (HX25.out.below8 hB6)
    have HB6 := hide hB6
    have HK6 := hide (HK5.out.trans (KeepBut.of_below (fun k => k = w.heap.size + 2) hB6) (fun _ _ h => h))
    clear hB6
    go_wp2_with (first
      | (refine wp_store_box rfl rfl _ _ rfl (w.heap.size + 1) rfl rfl HX26.out rfl infoRW (wcs_one _ _ _ _) ?_; intro w7 hb7 hk7; have HX7 := hide hb7; have HK7 := hide hk7; clear hb7 hk7))
    refine bodyPost_ret (results_two8 rfl _ _ (w.heap.size + 1) rfl rfl HX7.out Try.underlying39 rfl infoRW) rfl ?_
    refine ⟨_, rfl, ?_⟩
    exact ndid_put H H4.out HFL.out (HK6.out.trans2 HK7.out)
  · have HW : Hid (nctW n a = n.nth a.i) := hide (by rw [HWK.out]; simp)
    have HAA : Hid (nctA n a = atA n a.i) := hide (by rw [HAK.out]; simp)
    have HDD : Hid (nctD n a = n) := hide (by rw [HDK.out]; simp)
    rw [HW.out, HAA.out, HDD.out]
    have C := hide (H.at' a.i HD.out)
    have x0 := HX1.out.cell 0 _ rfl
    have x1 := HX1.out.cell 1 _ rfl
    have x2 := HX1.out.cell 2 _ rfl
    have x3 := HX1.out.cell 3 _ rfl
    have x4 := HX1.out.cell 4 _ rfl
    have hW3 := HW3.out
    clear HWK HAK HDK HW HAA HDD
    go_enter Try.func13, Try.ntmps13
    go_wp2_with fail
    refine C.out.mono ?_
    rintro e w4 ⟨sv4, rfl, ho4, hB4⟩
    have h4 : NDidW D w3 w4 q F n sv4 (n.nth a.i).b := ⟨F, H.below HD.out hB4, KeepBut.of_below _ hB4, fun k hk => .inl hk, owns_any8 ho4, fun g e => ⟨fun hf => by have h1 := (ho4.lt g e).1; have h2 := H.lt HD.out g hf; omega, .inr (ho4.lt g e).1⟩⟩
    have H4 : Hid (NDid3 D w w3 w4 q F _ _ _) := hide (by obtain ⟨F', g1, g2, g3, g4, g5⟩ := h4; exact ⟨F', g1, (KeepBut.of_below F HB03.out).trans g2 (fun _ _ h => h), g3, g4, g5, HS3.out⟩)
    clear ho4 hB4
    obtain ⟨F4, hD4, hk4, hF4, ho4, hg4⟩ := h4
    replace HX2 := hide (HX2.out.keep hk4 (fun hf => by have := HFL.out _ hf; omega))
    replace HX3 := hide (HX3.out.keep hk4 (fun hf => by have := HFL.out _ hf; omega))
    obtain ⟨a4, c4, hv4⟩ := (Lies.of_own ho4).shape
    subst hv4
    have HSZ : Hid (w3.heap.size ≤ w4.heap.size) := hide hk4.size
    clear hD4 hk4 hF4 ho4 hg4 C HD HL HX1 HB03 x0 x1 x2 x3 x4 hW3 HW3
    go_wp2_with (first
      | (refine wp_store_box rfl rfl _ _ rfl (w.heap.size + 2) rfl rfl HX3.out rfl infoW (wcs_one _ _ _ _) ?_; intro w5 hb5 hk5; have HX5 := hide hb5; have HK5 := hide hk5; clear hb5 hk5)
      | (refine wp_load_box rfl _ rfl (w.heap.size + 2) rfl HX5.out Try.underlying50 rfl infoW ?_))
    have HX25 := hide (HX2.out.keep HK5.out (by omega))
    refine (ours_any _ a4 _ c4 w5).mono ?_
    rintro e w6 ⟨rfl, hB6⟩
    have HX26 := hide (HX25.out.below8 hB6)
    have HB6 := hide hB6
    have HK6 := hide (HK5.out.trans (KeepBut.of_below (fun k => k = w.heap.size + 2) hB6) (fun _ _ h => h))
    clear hB6
    go_wp2_with (first
      | (refine wp_store_box rfl rfl _ _ rfl (w.heap.size + 1) rfl rfl HX26.out rfl infoRW (wcs_one _ _ _ _) ?_; intro w7 hb7 hk7; have HX7 := hide hb7; have HK7 := hide hk7; clear hb7 hk7))
    refine bodyPost_ret (results_two8 rfl _ _ (w.heap.size + 1) rfl rfl HX7.out Try.underlying39 rfl infoRW) rfl ?_
    refine ⟨_, rfl, ?_⟩
    exact ndid_put H H4.out HFL.out (HK6.out.trans2 HK7.out)
  · have HW : Hid (nctW n a = nilW) := hide (by rw [HWK.out]; simp)
    have HAA : Hid (nctA n a = atA n a.i) := hide (by rw [HAK.out]; simp)
    have HDD : Hid (nctD n a = droD n a.i) := hide (by rw [HDK.out]; simp)
    rw [HW.out, HAA.out, HDD.out]
    have C := hide (H.dro a.i HD.out hlost)
    have x0 := HX1.out.cell 0 _ rfl
    have x1 := HX1.out.cell 1 _ rfl
    have x2 := HX1.out.cell 2 _ rfl
    have x3 := HX1.out.cell 3 _ rfl
    have x4 := HX1.out.cell 4 _ rfl
    have hW3 := HW3.out
    clear HWK HAK HDK HW HAA HDD
    go_enter Try.func13, Try.ntmps13
    go_wp2_with fail
    refine C.out.mono ?_
    rintro e w4 ⟨rfl, h4⟩
    have h4 := NDidW.of_did h4
    have H4 : Hid (NDid3 D w w3 w4 q F _ _ _) := hide (by obtain ⟨F', g1, g2, g3, g4, g5⟩ := h4; exact ⟨F', g1, (KeepBut.of_below F HB03.out).trans g2 (fun _ _ h => h), g3, g4, g5, HS3.out⟩)
    obtain ⟨F4, hD4, hk4, hF4, ho4, hg4⟩ := h4
    replace HX2 := hide (HX2.out.keep hk4 (fun hf => by have := HFL.out _ hf; omega))
    replace HX3 := hide (HX3.out.keep hk4 (fun hf => by have := HFL.out _ hf; omega))
    have HSZ : Hid (w3.heap.size ≤ w4.heap.size) := hide hk4.size
    clear hD4 hk4 hF4 ho4 hg4 C HD HL HX1 HB03 x0 x1 x2 x3 x4 hW3 HW3
    go_wp2_with (first
      | (refine wp_load_box rfl _ rfl (w.heap.size + 2) rfl HX3.out Try.underlying50 rfl infoW ?_))
    refine (ours_any nilW none 0 0 w4).mono ?_
    rintro e w6 ⟨rfl, hB6⟩
    have HX26 := hide (HX2.out.below8 hB6)
    have HK6 : Hid (KeepBut (fun k => k = w.heap.size + 2) w4 w6) := hide (KeepBut.of_below _ hB6)
    clear hB6
    go_wp2_with (first
      | (refine wp_store_box rfl rfl _ _ rfl (w.heap.size + 1) rfl rfl HX26.out rfl infoRW (wcs_one _ _ _ _) ?_; intro w7 hb7 hk7; have HX7 := hide hb7; have HK7 := hide hk7; clear hb7 hk7))
    refine bodyPost_ret (results_two8 rfl _ _ (w.heap.size + 1) rfl rfl HX7.out Try.underlying39 rfl infoRW) rfl ?_
    refine ⟨_, rfl, ?_⟩
    exact ndid_put H H4.out HFL.out (HK6.out.trans2 HK7.out)
  · have HW : Hid (nctW n a = nilW) := hide (by rw [HWK.out]; simp)
    have HAA : Hid (nctA n a = twiA n a.i) := hide (by rw [HAK.out]; simp)
    have HDD : Hid (nctD n a = twiD n a.i) := hide (by rw [HDK.out]; simp)
    rw [HW.out, HAA.out, HDD.out]
    have C := hide (H.twi a.i HD.out)
    have x0 := HX1.out.cell 0 _ rfl
    have x1 := HX1.out.cell 1 _ rfl
    have x2 := HX1.out.cell 2 _ rfl
    have x3 := HX1.out.cell 3 _ rfl
    have x4 := HX1.out.cell 4 _ rfl
    have hW3 := HW3.out
    clear HWK HAK HDK HW HAA HDD
    go_enter Try.func13, Try.ntmps13
    go_wp2_with fail
    refine C.out.mono ?_
    rintro e w4 ⟨rfl, h4⟩
    have h4 := NDidW.of_did h4
    have H4 : Hid (NDid3 D w w3 w4 q F _ _ _) := hide (by obtain ⟨F', g1, g2, g3, g4, g5⟩ := h4; exact ⟨F', g1, (KeepBut.of_below F HB03.out).trans g2 (fun _ _ h => h), g3, g4, g5, HS3.out⟩)
    obtain ⟨F4, hD4, hk4, hF4, ho4, hg4⟩ := h4
    replace HX2 := hide (HX2.out.keep hk4 (fun hf => by have := HFL.out _ hf; omega))
    replace HX3 := hide (HX3.out.keep hk4 (fun hf => by have := HFL.out _ hf; omega))
    have HSZ : Hid (w3.heap.size ≤ w4.heap.size) := hide hk4.size
    clear hD4 hk4 hF4 ho4 hg4 C HD HL HX1 HB03 x0 x1 x2 x3 x4 hW3 HW3
    go_wp2_with (first
      | (refine wp_load_box rfl _ rfl (w.heap.size + 2) rfl HX3.out Try.underlying50 rfl infoW ?_))
    refine (ours_any nilW none 0 0 w4).mono ?_
    rintro e w6 ⟨rfl, hB6⟩
    have HX26 := hide (HX2.out.below8 hB6)
    have HK6 : Hid (KeepBut (fun k => k = w.heap.size + 2) w4 w6) := hide (KeepBut.of_below _ hB6)
    clear hB6
    go_wp2_with (first
      | (refine wp_store_box rfl rfl _ _ rfl (w.heap.size + 1) rfl rfl HX26.out rfl infoRW (wcs_one _ _ _ _) ?_; intro w7 hb7 hk7; have HX7 := hide hb7; have HK7 := hide hk7; clear hb7 hk7))
    refine bodyPost_ret (results_two8 rfl _ _ (w.heap.size + 1) rfl rfl HX7.out Try.underlying39 rfl infoRW) rfl ?_
    refine ⟨_, rfl, ?_⟩
    exact ndid_put H H4.out HFL.out (HK6.out.trans2 HK7.out)
  · have HW : Hid (nctW n a = nilW) := hide (by rw [HWK.out]; simp)
    have HAA : Hid (nctA n a = atA n a.i) := hide (by rw [HAK.out]; simp)
    have HDD : Hid (nctD n a = latD n a.i) := hide (by rw [HDK.out]; simp)
    rw [HW.out, HAA.out, HDD.out]
    have C := hide (H.lat a.i HD.out)
    have x0 := HX1.out.cell 0 _ rfl
    have x1 := HX1.out.cell 1 _ rfl
    have x2 := HX1.out.cell 2 _ rfl
    have x3 := HX1.out.cell 3 _ rfl
    have x4 := HX1.out.cell 4 _ rfl
    have hW3 := HW3.out
    clear HWK HAK HDK HW HAA HDD
    go_enter Try.func13, Try.ntmps13
    go_wp2_with fail
    refine C.out.mono ?_
    rintro e w4 ⟨rfl, h4⟩
    have h4 := NDidW.of_did h4
    have H4 : Hid (NDid3 D w w3 w4 q F _ _ _) := hide (by obtain ⟨F', g1, g2, g3, g4, g5⟩ := h4; exact ⟨F', g1, (KeepBut.of_below F HB03.out).trans g2 (fun _ _ h => h), g3, g4, g5, HS3.out⟩)
    obtain ⟨F4, hD4, hk4, hF4, ho4, hg4⟩ := h4
    replace HX2 := hide (HX2.out.keep hk4 (fun hf => by have := HFL.out _ hf; omega))
    replace HX3 := hide (HX3.out.keep hk4 (fun hf => by have := HFL.out _ hf; omega))
    have HSZ : Hid (w3.heap.size ≤ w4.heap.size) := hide hk4.size
    clear hD4 hk4 hF4 ho4 hg4 C HD HL HX1 HB03 x0 x1 x2 x3 x4 hW3 HW3
    go_wp2_with (first
      | (refine wp_load_box rfl _ rfl (w.heap.size + 2) rfl HX3.out Try.underlying50 rfl infoW ?_))
    refine (ours_any nilW none 0 0 w4).mono ?_
    rintro e w6 ⟨rfl, hB6⟩
    have HX26 := hide (HX2.out.below8 hB6)
    have HK6 : Hid (KeepBut (fun k => k = w.heap.size + 2) w4 w6) := hide (KeepBut.of_below _ hB6)
    clear hB6
    go_wp2_with (first
      | (refine wp_store_box rfl rfl _ _ rfl (w.heap.size + 1) rfl rfl HX26.out rfl infoRW (wcs_one _ _ _ _) ?_; intro w7 hb7 hk7; have HX7 := hide hb7; have HK7 := hide hk7; clear hb7 hk7))
    refine bodyPost_ret (results_two8 rfl _ _ (w.heap.size + 1) rfl rfl HX7.out Try.underlying39 rfl infoRW) rfl ?_
    refine ⟨_, rfl, ?_⟩
    exact ndid_put H H4.out HFL.out (HK6.out.trans2 HK7.out)
end
end Go.Proofs.Yteehkjdolmmapaa
