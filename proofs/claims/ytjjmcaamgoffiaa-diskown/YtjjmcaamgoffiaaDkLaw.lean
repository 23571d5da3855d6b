/-
  What a program's disk must do, as one bundle: for the laws of layer 7; a call of a script done on it ('does'), and the probe 'alive', by the bundle. Own work.
-/
import Derived.Test.YtjjmcaamgoffiaaDkRef5
import Derived.Test.YtjjmcaamgoffiaaDkActs
namespace Go.Proofs.Ytjjmcaamgoffiaa
open Go.RowKit

/-- What a call leaves of a disk: F, F' are the blocks that it uses. -/
def Did (D : World → Nat → (Nat → Prop) → Dk → Prop) (w w' : World) (q : Nat) (F : Nat → Prop) (d' : Dk) : Prop :=
  ∃ F', D w' q F' d' ∧ KeepBut F w w' ∧ ∀ k, F' k → F k ∨ w.heap.size ≤ k
/-- What a program's disk must do. -/
structure DiskDo (D : World → Nat → (Nat → Prop) → Dk → Prop) : Prop where
  keep : ∀ {w w' : World} {q : Nat} {F S : Nat → Prop} {d : Dk}, D w q F d → KeepBut S w w' → (∀ k, F k → ¬ S k) → D w' q F d
  lt : ∀ {w : World} {q : Nat} {F : Nat → Prop} {d : Dk}, D w q F d → ∀ k, F k → k < w.heap.size
  ok : ∀ {w : World} {q : Nat} {F : Nat → Prop} {d : Dk}, D w q F d → d.Ok
  new : ∀ (room : Int) (w : World), newOk room = true → Calls Try.prog 10 #[.int .i64 room] w fun e w' => ∃ q F, e = .returned (.tuple #[.pointer (some ⟨q, 0, none⟩), .int .i64 0]) ∧ D w' q F (newD room.toNat) ∧ (∀ k, F k → w.heap.size ≤ k) ∧ Below w.heap.size w w'
  newNo : ∀ (room : Int) (w : World), newOk room = false → Calls Try.prog 10 #[.int .i64 room] w fun e w' => e = .returned (.tuple #[.pointer none, .int .i64 1]) ∧ Below w.heap.size w w'
  app : ∀ {w : World} {q : Nat} {F : Nat → Prop} {d : Dk} (vx : Value) (xs : List Int), D w q F d → Lies .u8 w vx xs → (∀ c ∈ xs, 0 ≤ c ∧ c < 256) → xs.length ≤ 100000000000000 → d.bs.length ≤ 100000000 →
    Calls Try.prog 28 #[.pointer (some ⟨q, 0, none⟩), vx] w fun e w' => e = .returned (.tuple #[.int .i64 (appA d xs).1, .int .i64 (appA d xs).2]) ∧ Did D w w' q F (appD d xs)
  for' : ∀ {w : World} {q : Nat} {F : Nat → Prop} {d : Dk}, D w q F d → Calls Try.prog 27 #[.pointer (some ⟨q, 0, none⟩)] w fun e w' => e = .returned (.int .i64 (forA d)) ∧ Did D w w' q F (forD d)
  cut : ∀ {w : World} {q : Nat} {F : Nat → Prop} {d : Dk} (to : Int), D w q F d → Calls Try.prog 29 #[.pointer (some ⟨q, 0, none⟩), .int .i64 to] w fun e w' => e = .returned (.int .i64 (cutA d to)) ∧ Did D w w' q F (cutD d to)
  tri : ∀ {w : World} {q : Nat} {F : Nat → Prop} {d : Dk} (to : Int), D w q F d → Calls Try.prog 31 #[.pointer (some ⟨q, 0, none⟩), .int .i64 to] w fun e w' => e = .returned (.int .i64 (cutA d to)) ∧ Did D w w' q F (triD d to)
  rea : ∀ {w : World} {q : Nat} {F : Nat → Prop} {d : Dk}, D w q F d → Calls Try.prog 15 #[.pointer (some ⟨q, 0, none⟩)] w fun e w' => ∃ v, e = .returned (.tuple #[v, .int .i64 (reaA d)]) ∧ w'.ownsRow w.heap.size 5 1 v (reaB d).length ((reaB d).map (Value.int .u8)) ∧ Below w.heap.size w w'
  bas : ∀ {w : World} {q : Nat} {F : Nat → Prop} {d : Dk}, D w q F d → Calls Try.prog 19 #[.pointer (some ⟨q, 0, none⟩)] w fun e w' => e = .returned (.int .i64 (d.base : Int)) ∧ ∃ m, w' = w.drewN m
  end' : ∀ {w : World} {q : Nat} {F : Nat → Prop} {d : Dk}, D w q F d → Calls Try.prog 20 #[.pointer (some ⟨q, 0, none⟩)] w fun e w' => e = .returned (.int .i64 (d.bs.length : Int)) ∧ ∃ m, w' = w.drewN m
  fcd : ∀ {w : World} {q : Nat} {F : Nat → Prop} {d : Dk}, D w q F d → Calls Try.prog 17 #[.pointer (some ⟨q, 0, none⟩)] w fun e w' => e = .returned (.tuple #[.int .i64 (d.fbase : Int), .int .i64 (d.fend : Int)]) ∧ ∃ m, w' = w.drewN m
  lef : ∀ {w : World} {q : Nat} {F : Nat → Prop} {d : Dk}, D w q F d → Calls Try.prog 21 #[.pointer (some ⟨q, 0, none⟩)] w fun e w' => e = .returned (.int .i64 ((d.left : Nat) : Int)) ∧ ∃ m, w' = w.drewN m
  roo : ∀ {w : World} {q : Nat} {F : Nat → Prop} {d : Dk}, D w q F d → Calls Try.prog 23 #[.pointer (some ⟨q, 0, none⟩)] w fun e w' => e = .returned (.int .i64 (d.room : Int)) ∧ ∃ m, w' = w.drewN m
  on : ∀ {w : World} {q : Nat} {F : Nat → Prop} {d : Dk}, D w q F d → Calls Try.prog 24 #[.pointer (some ⟨q, 0, none⟩)] w fun e w' => e = .returned (.bool (!d.off)) ∧ ∃ m, w' = w.drewN m
  arm : ∀ {w : World} {q : Nat} {F : Nat → Prop} {d : Dk} (n : Int), D w q F d → n ≤ 9223372036854775807 → Calls Try.prog 26 #[.pointer (some ⟨q, 0, none⟩), .int .i64 n] w fun e w' => e = .returned (.tuple #[]) ∧ Did D w w' q F (armD d n)
  fai : ∀ {w : World} {q : Nat} {F : Nat → Prop} {d : Dk}, D w q F d → Calls Try.prog 30 #[.pointer (some ⟨q, 0, none⟩)] w fun e w' => e = .returned (.int .i64 (faiA d)) ∧ Did D w w' q F (faiD d)
  sta : ∀ {w : World} {q : Nat} {F : Nat → Prop} {d : Dk} (keep : Int) (c : Bool) (vx : Value) (xs : List Int), D w q F d → Lies .u8 w vx xs → (∀ c ∈ xs, 0 ≤ c ∧ c < 256) → xs.length ≤ 100000000000000 → d.bs.length ≤ 100000000 → keep ≤ 9223372036854775807 →
    Calls Try.prog 25 #[.pointer (some ⟨q, 0, none⟩), .int .i64 keep, .bool c, vx] w fun e w' => e = .returned (.int .i64 (staA d xs)) ∧ Did D w w' q F (staD d keep c xs)
section
variable {D : World → Nat → (Nat → Prop) → Dk → Prop}
theorem DiskDo.below (H : DiskDo D) {w w' : World} {q : Nat} {F : Nat → Prop} {d : Dk} (h : D w q F d) (hB : Below w.heap.size w w') : D w' q F d := H.keep h (KeepBut.of_below (fun _ => False) hB) (fun _ _ h => h)
theorem Did.before {w w1 w2 : World} {q : Nat} {F : Nat → Prop} {d' : Dk} (hB : Below w.heap.size w w1) (h : Did D w1 w2 q F d') : Did D w w2 q F d' := by
  obtain ⟨F', h1, hk, hF⟩ := h
  refine ⟨F', h1, (KeepBut.of_below F hB).trans hk (fun _ _ h => h), fun k hk => ?_⟩
  rcases hF k hk with h | h
  · exact .inl h
  · exact .inr (Nat.le_trans hB.size h)
set_option maxRecDepth 100000 in
set_option maxHeartbeats 3200000 in
theorem does_any (H : DiskDo D) (q : Nat) (F : Nat → Prop) (d : Dk) (a : DAct) (sv : Value) (w : World) (h : D w q F d) (ha : a.Ok) (hL : Lies .u8 w sv a.b) (hxl : a.b.length ≤ 100000000000000) (hdl : d.bs.length ≤ 100000000) :
    Calls Try.prog 13 #[.pointer (some ⟨q, 0, none⟩), .agg #[.int .u8 (a.kind : Int), .int .i64 a.n, sv, .bool a.cut]] w fun e w' => e = .returned (.tuple #[.int .i64 (actA d a).1, .int .i64 (actA d a).2]) ∧ Did D w w' q F (actD d a) := by
  obtain ⟨ao, cap, hsv⟩ := hL.shape
  subst hsv
  have hk := ha.k
  have hB0 := alloc_below7 w (.cells #[.int .u8 (a.kind : Int), .int .i64 a.n, .slice ao a.b.length cap, .bool a.cut] 36)
  have HB0 := hide hB0
  have HD0 := hide (H.below h hB0)
  have HL0 := hide (hL.below hB0)
  have hrem : (a.kind : Int).tmod 8 = ((a.kind % 8 : Nat) : Int) := by
    rw [Int.tmod_eq_emod_of_nonneg (by omega)]; omega
  have hn2 := ha.n2
  have HAK : Hid (actA d a = if a.kind % 8 = 1 then (0, forA d) else if a.kind % 8 = 2 then (0, cutA d a.n) else if a.kind % 8 = 7 then (0, cutA d a.n) else if a.kind % 8 = 3 then (0, 0) else if a.kind % 8 = 4 then (0, faiA d) else if a.kind % 8 = 5 then (0, staA d a.b) else appA d a.b) := rfl
  have HDK : Hid (actD d a = if a.kind % 8 = 1 then forD d else if a.kind % 8 = 2 then cutD d a.n else if a.kind % 8 = 7 then triD d a.n else if a.kind % 8 = 3 then armD d a.n else if a.kind % 8 = 4 then faiD d else if a.kind % 8 = 5 then staD d a.n a.cut a.b else appD d a.b) := rfl
  have hr8 : a.kind % 8 < 8 := Nat.mod_lt _ (by decide)
  generalize a.kind % 8 = r at *
  have hcs : r = 0 ∨ r = 1 ∨ r = 2 ∨ r = 3 ∨ r = 4 ∨ r = 5 ∨ r = 6 ∨ r = 7 := by omega
  clear h hL hB0 hr8
  rcases hcs with rfl | rfl | rfl | rfl | rfl | rfl | rfl | rfl
  · have HA : Hid (actA d a = appA d a.b) := hide (by rw [HAK.out]; simp)
    have HD : Hid (actD d a = appD d a.b) := hide (by rw [HDK.out]; simp)
    have C := hide (H.app _ a.b HD0.out HL0.out ha.b hxl hdl)
    clear HAK HDK
    go_enter Try.func13, Try.ntmps13
    go_wp2_with fail
    refine C.out.mono ?_
    rintro e w1 ⟨rfl, h1⟩
    have H1 := hide (Did.before HB0.out h1)
    clear h1 C
    go_wp2_with fail
    go_ret2
    rw [HA.out, HD.out]
    exact ⟨rfl, H1.out⟩
  · have HA : Hid (actA d a = (0, forA d)) := hide (by rw [HAK.out]; simp)
    have HD : Hid (actD d a = forD d) := hide (by rw [HDK.out]; simp)
    have C := hide (H.for' HD0.out)
    clear HAK HDK
    go_enter Try.func13, Try.ntmps13
    go_wp2_with fail
    refine C.out.mono ?_
    rintro e w1 ⟨rfl, h1⟩
    have H1 := hide (Did.before HB0.out h1)
    clear h1 C
    go_wp2_with fail
    go_ret2
    rw [HA.out, HD.out]
    exact ⟨rfl, H1.out⟩
  · have HA : Hid (actA d a = (0, cutA d a.n)) := hide (by rw [HAK.out]; simp)
    have HD : Hid (actD d a = cutD d a.n) := hide (by rw [HDK.out]; simp)
    have C := hide (H.cut a.n HD0.out)
    clear HAK HDK
    go_enter Try.func13, Try.ntmps13
    go_wp2_with fail
    refine C.out.mono ?_
    rintro e w1 ⟨rfl, h1⟩
    have H1 := hide (Did.before HB0.out h1)
    clear h1 C
    go_wp2_with fail
    go_ret2
    rw [HA.out, HD.out]
    exact ⟨rfl, H1.out⟩
  · have HA : Hid (actA d a = (0, 0)) := hide (by rw [HAK.out]; simp)
    have HD : Hid (actD d a = armD d a.n) := hide (by rw [HDK.out]; simp)
    have C := hide (H.arm a.n HD0.out hn2)
    clear HAK HDK
    go_enter Try.func13, Try.ntmps13
    go_wp2_with fail
    refine C.out.mono ?_
    rintro e w1 ⟨rfl, h1⟩
    have H1 := hide (Did.before HB0.out h1)
    clear h1 C
    go_wp2_with fail
    go_ret2
    rw [HA.out, HD.out]
    exact ⟨rfl, H1.out⟩
  · have HA : Hid (actA d a = (0, faiA d)) := hide (by rw [HAK.out]; simp)
    have HD : Hid (actD d a = faiD d) := hide (by rw [HDK.out]; simp)
    have C := hide (H.fai HD0.out)
    clear HAK HDK
    go_enter Try.func13, Try.ntmps13
    go_wp2_with fail
    refine C.out.mono ?_
    rintro e w1 ⟨rfl, h1⟩
    have H1 := hide (Did.before HB0.out h1)
    clear h1 C
    go_wp2_with fail
    go_ret2
    rw [HA.out, HD.out]
    exact ⟨rfl, H1.out⟩
  · have HA : Hid (actA d a = (0, staA d a.b)) := hide (by rw [HAK.out]; simp)
    have HD : Hid (actD d a = staD d a.n a.cut a.b) := hide (by rw [HDK.out]; simp)
    have C := hide (H.sta a.n a.cut _ a.b HD0.out HL0.out ha.b hxl hdl hn2)
    clear HAK HDK
    go_enter Try.func13, Try.ntmps13
    go_wp2_with fail
    refine C.out.mono ?_
    rintro e w1 ⟨rfl, h1⟩
    have H1 := hide (Did.before HB0.out h1)
    clear h1 C
    go_wp2_with fail
    go_ret2
    rw [HA.out, HD.out]
    exact ⟨rfl, H1.out⟩
  · have HA : Hid (actA d a = appA d a.b) := hide (by rw [HAK.out]; simp)
    have HD : Hid (actD d a = appD d a.b) := hide (by rw [HDK.out]; simp)
    have C := hide (H.app _ a.b HD0.out HL0.out ha.b hxl hdl)
    clear HAK HDK
    go_enter Try.func13, Try.ntmps13
    go_wp2_with fail
    refine C.out.mono ?_
    rintro e w1 ⟨rfl, h1⟩
    have H1 := hide (Did.before HB0.out h1)
    clear h1 C
    go_wp2_with fail
    go_ret2
    rw [HA.out, HD.out]
    exact ⟨rfl, H1.out⟩
  · have HA : Hid (actA d a = (0, cutA d a.n)) := hide (by rw [HAK.out]; simp)
    have HD : Hid (actD d a = triD d a.n) := hide (by rw [HDK.out]; simp)
    have C := hide (H.tri a.n HD0.out)
    clear HAK HDK
    go_enter Try.func13, Try.ntmps13
    go_wp2_with fail
    refine C.out.mono ?_
    rintro e w1 ⟨rfl, h1⟩
    have H1 := hide (Did.before HB0.out h1)
    clear h1 C
    go_wp2_with fail
    go_ret2
    rw [HA.out, HD.out]
    exact ⟨rfl, H1.out⟩
end
end Go.Proofs.Ytjjmcaamgoffiaa
