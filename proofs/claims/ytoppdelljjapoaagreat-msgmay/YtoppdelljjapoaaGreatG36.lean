/-
  Own texts put together: MpIn4. Own work.
-/
import Derived.Test.YtoppdelljjapoaaGreatG35
namespace Go.Proofs.YtoppdelljjapoaaGreat
section
open Go.RowKit Classical

section
variable {ρ : Operand → Value} {w : World} {dst : Option Tmp} {ty : TypeId} {pos : String} {aft : Array Edge} {gd : Option (Nat × Bool)}
theorem y_fldR1 (x : Operand) {q : Nat} (hx : ρ x = .pointer (some ⟨q, 0, none⟩)) : (execOp ρ ⟨dst, .fieldAddr 39 x 1, ty, pos, aft, gd⟩).run Tryz.prog w = .ok (.value (.pointer (some ⟨q, 1, none⟩))) w := by simp [go_sem, hx]
theorem y_fldR2 (x : Operand) {q : Nat} (hx : ρ x = .pointer (some ⟨q, 0, none⟩)) : (execOp ρ ⟨dst, .fieldAddr 39 x 2, ty, pos, aft, gd⟩).run Tryz.prog w = .ok (.value (.pointer (some ⟨q, 4, none⟩))) w := by simp [go_sem, hx]
theorem y_fldR3 (x : Operand) {q : Nat} (hx : ρ x = .pointer (some ⟨q, 0, none⟩)) : (execOp ρ ⟨dst, .fieldAddr 39 x 3, ty, pos, aft, gd⟩).run Tryz.prog w = .ok (.value (.pointer (some ⟨q, 5, none⟩))) w := by simp [go_sem, hx]
theorem y_fldR4 (x : Operand) {q : Nat} (hx : ρ x = .pointer (some ⟨q, 0, none⟩)) : (execOp ρ ⟨dst, .fieldAddr 39 x 4, ty, pos, aft, gd⟩).run Tryz.prog w = .ok (.value (.pointer (some ⟨q, 7, none⟩))) w := by simp [go_sem, hx]
theorem y_fldR5 (x : Operand) {q : Nat} (hx : ρ x = .pointer (some ⟨q, 0, none⟩)) : (execOp ρ ⟨dst, .fieldAddr 39 x 5, ty, pos, aft, gd⟩).run Tryz.prog w = .ok (.value (.pointer (some ⟨q, 15, none⟩))) w := by simp [go_sem, hx]
theorem y_fldR6 (x : Operand) {q : Nat} (hx : ρ x = .pointer (some ⟨q, 0, none⟩)) : (execOp ρ ⟨dst, .fieldAddr 39 x 6, ty, pos, aft, gd⟩).run Tryz.prog w = .ok (.value (.pointer (some ⟨q, 16, none⟩))) w := by simp [go_sem, hx]
theorem y_fldR7 (x : Operand) {q : Nat} (hx : ρ x = .pointer (some ⟨q, 0, none⟩)) : (execOp ρ ⟨dst, .fieldAddr 39 x 7, ty, pos, aft, gd⟩).run Tryz.prog w = .ok (.value (.pointer (some ⟨q, 17, none⟩))) w := by simp [go_sem, hx]
theorem y_fldR8 (x : Operand) {q : Nat} (hx : ρ x = .pointer (some ⟨q, 0, none⟩)) : (execOp ρ ⟨dst, .fieldAddr 39 x 8, ty, pos, aft, gd⟩).run Tryz.prog w = .ok (.value (.pointer (some ⟨q, 18, none⟩))) w := by simp [go_sem, hx]
theorem y_fldR9 (x : Operand) {q : Nat} (hx : ρ x = .pointer (some ⟨q, 0, none⟩)) : (execOp ρ ⟨dst, .fieldAddr 39 x 9, ty, pos, aft, gd⟩).run Tryz.prog w = .ok (.value (.pointer (some ⟨q, 19, none⟩))) w := by simp [go_sem, hx]
theorem y_mkfn (fn : Fn) (cap : Array Operand) (vs : Array Value) (hv : cap.map ρ = vs) : (execOp ρ ⟨dst, .makeFunc fn #[] cap, ty, pos, aft, gd⟩).run Tryz.prog w = .ok (.value (.func fn #[] vs)) w := by
  subst hv
  simp [execOp, make_fn]
theorem y_build4 (x y z u : Operand) {a b c d : Fn} {ca cb cc cd : Array Value} (hx : ρ x = .func a #[] ca) (hy : ρ y = .func b #[] cb) (hz : ρ z = .func c #[] cc) (hu : ρ u = .func d #[] cd) :
    (execOp ρ ⟨dst, .build 92 #[(0, x), (1, y), (2, z), (3, u)], ty, pos, aft, gd⟩).run Tryz.prog w = .ok (.value (.agg #[.func a #[] ca, .func b #[] cb, .func c #[] cc, .func d #[] cd])) w := by
  have h : (Instr.build 92 #[(0, .func a #[] ca), (1, .func b #[] cb), (2, .func c #[] cc), (3, .func d #[] cd)]).run Tryz.prog w = .ok (.agg #[.func a #[] ca, .func b #[] cb, .func c #[] cc, .func d #[] cd]) w := by kernel_rfl
  simp [execOp, hx, hy, hz, hu, h]
end
/-- The cells of ten fields. -/
def fE (F : Nat → List Value) : List Value := F 0 ++ (F 1 ++ (F 2 ++ (F 3 ++ (F 4 ++ (F 5 ++ (F 6 ++ (F 7 ++ (F 8 ++ F 9))))))))
def fA (F : Nat → List Value) : Array Value := (fE F).toArray
theorem four_of {l : List Value} (h : l.length = 4) : ∃ a b c d, l = [a, b, c, d] := by
  match l, h with
  | [a, b, c, d], _ => exact ⟨a, b, c, d, rfl⟩
theorem fE_len {F : Nat → List Value} (h : ∀ n, n < 10 → (F n).length = 4) : (fE F).length = 40 := by
  simp only [fE, List.length_append, h 0 (by decide), h 1 (by decide), h 2 (by decide), h 3 (by decide), h 4 (by decide), h 5 (by decide), h 6 (by decide), h 7 (by decide), h 8 (by decide), h 9 (by decide)]
def ofTen (l0 l1 l2 l3 l4 l5 l6 l7 l8 l9 : List Value) (n : Nat) : List Value := match n with
  | 0 => l0
  | 1 => l1
  | 2 => l2
  | 3 => l3
  | 4 => l4
  | 5 => l5
  | 6 => l6
  | 7 => l7
  | 8 => l8
  | _ => l9
theorem FV.one {n lo hi q : Nat} {w : World} {vs : List Value} (h : FV n lo hi q w vs) : ∀ u ∈ vs, u.oneCell' = true := by
  revert h
  unfold FV
  split <;> first | (intro h u hu; rw [h] at hu; simp at hu; rcases hu with rfl | rfl | rfl | rfl <;> rfl) | (rintro ⟨ba, bm, bp, bg, bz, h⟩ u hu; rw [h.eq] at hu; simp at hu; rcases hu with rfl | rfl | rfl | rfl <;> rfl)
set_option maxRecDepth 100000 in
theorem build_ten (l0 l1 l2 l3 l4 l5 l6 l7 l8 l9 : List Value) (e0 : l0.length = 4) (e1 : l1.length = 4) (e2 : l2.length = 4) (e3 : l3.length = 4) (e4 : l4.length = 4) (e5 : l5.length = 4) (e6 : l6.length = 4) (e7 : l7.length = 4) (e8 : l8.length = 4) (e9 : l9.length = 4) (w : World) : (Instr.build 93 #[(0, .agg l0.toArray), (1, .agg l1.toArray), (2, .agg l2.toArray), (3, .agg l3.toArray), (4, .agg l4.toArray), (5, .agg l5.toArray), (6, .agg l6.toArray), (7, .agg l7.toArray), (8, .agg l8.toArray), (9, .agg l9.toArray)]).run Tryz.prog w = .ok (.agg (fA (ofTen l0 l1 l2 l3 l4 l5 l6 l7 l8 l9))) w := by
  obtain ⟨a0, b0, c0, d0, rfl⟩ := four_of e0
  obtain ⟨a1, b1, c1, d1, rfl⟩ := four_of e1
  obtain ⟨a2, b2, c2, d2, rfl⟩ := four_of e2
  obtain ⟨a3, b3, c3, d3, rfl⟩ := four_of e3
  obtain ⟨a4, b4, c4, d4, rfl⟩ := four_of e4
  obtain ⟨a5, b5, c5, d5, rfl⟩ := four_of e5
  obtain ⟨a6, b6, c6, d6, rfl⟩ := four_of e6
  obtain ⟨a7, b7, c7, d7, rfl⟩ := four_of e7
  obtain ⟨a8, b8, c8, d8, rfl⟩ := four_of e8
  obtain ⟨a9, b9, c9, d9, rfl⟩ := four_of e9
  kernel_rfl
theorem y_build10 {ρ : Operand → Value} {w : World} {dst : Option Tmp} {ty : TypeId} {pos : String} {aft : Array Edge} {gd : Option (Nat × Bool)} (x0 x1 x2 x3 x4 x5 x6 x7 x8 x9 : Operand) {l0 l1 l2 l3 l4 l5 l6 l7 l8 l9 : List Value} (h0 : ρ x0 = .agg l0.toArray) (h1 : ρ x1 = .agg l1.toArray) (h2 : ρ x2 = .agg l2.toArray) (h3 : ρ x3 = .agg l3.toArray) (h4 : ρ x4 = .agg l4.toArray) (h5 : ρ x5 = .agg l5.toArray) (h6 : ρ x6 = .agg l6.toArray) (h7 : ρ x7 = .agg l7.toArray) (h8 : ρ x8 = .agg l8.toArray) (h9 : ρ x9 = .agg l9.toArray) (e0 : l0.length = 4) (e1 : l1.length = 4) (e2 : l2.length = 4) (e3 : l3.length = 4) (e4 : l4.length = 4) (e5 : l5.length = 4) (e6 : l6.length = 4) (e7 : l7.length = 4) (e8 : l8.length = 4) (e9 : l9.length = 4) :
    (execOp ρ ⟨dst, .build 93 #[(0, x0), (1, x1), (2, x2), (3, x3), (4, x4), (5, x5), (6, x6), (7, x7), (8, x8), (9, x9)], ty, pos, aft, gd⟩).run Tryz.prog w = .ok (.value (.agg (fA (ofTen l0 l1 l2 l3 l4 l5 l6 l7 l8 l9)))) w := by
  have h := build_ten l0 l1 l2 l3 l4 l5 l6 l7 l8 l9 e0 e1 e2 e3 e4 e5 e6 e7 e8 e9 w
  unfold execOp
  simp only [List.map_toArray, List.map_cons, List.map_nil, h0, h1, h2, h3, h4, h5, h6, h7, h8, h9, Sem.run_bind, Sem.run_pure, Result.andThen_ok, h]
def FsAt (lo q : Nat) (W : World) (F : Nat → List Value) : Prop := ∀ n, n < 10 → FV n lo W.heap.size q W (F n)
theorem FV.more {n lo q : Nat} {W W' : World} {vs : List Value} (h : FV n lo W.heap.size q W vs) (hk : KeepBut (fun k => k = lo + 1) W W') : FV n lo W'.heap.size q W' vs := (h.keep hk (fun k e => by omega)).mono hk.size
def InI (lo q : Nat) (i : Nat) (v : Value) (W : World) : Prop := match i with
  | 0 => v = .pointer (some ⟨q, 0, none⟩)
  | 1 => v = .pointer (some ⟨q, 0, none⟩)
  | 2 => v = .pointer (some ⟨q, 1, none⟩)
  | 3 => ∃ vs : List Value, v = .agg vs.toArray ∧ FV 0 lo W.heap.size q W vs
  | 4 => v = .pointer (some ⟨q, 0, none⟩)
  | 5 => v = .pointer (some ⟨q, 0, none⟩)
  | 6 => v = .pointer (some ⟨q, 4, none⟩)
  | 7 => ∃ vs : List Value, v = .agg vs.toArray ∧ FV 1 lo W.heap.size q W vs
  | 8 => v = .pointer (some ⟨q, 0, none⟩)
  | 9 => v = .pointer (some ⟨q, 0, none⟩)
  | 10 => v = .pointer (some ⟨q, 5, none⟩)
  | 11 => v = .func (.func 84) #[] #[.pointer (some ⟨lo, 0, none⟩)]
  | 12 => ∃ vs : List Value, v = .agg vs.toArray ∧ FV 2 lo W.heap.size q W vs
  | 13 => v = .pointer (some ⟨q, 0, none⟩)
  | 14 => v = .pointer (some ⟨q, 0, none⟩)
  | 15 => v = .pointer (some ⟨q, 7, none⟩)
  | 16 => ∃ vs : List Value, v = .agg vs.toArray ∧ FV 3 lo W.heap.size q W vs
  | 17 => v = .pointer (some ⟨q, 0, none⟩)
  | 18 => v = .pointer (some ⟨q, 0, none⟩)
  | 19 => v = .pointer (some ⟨q, 15, none⟩)
  | 20 => v = .func (.func 86) #[] #[]
  | 21 => ∃ vs : List Value, v = .agg vs.toArray ∧ FV 4 lo W.heap.size q W vs
  | 22 => v = .pointer (some ⟨q, 0, none⟩)
  | 23 => v = .pointer (some ⟨q, 0, none⟩)
  | 24 => v = .pointer (some ⟨q, 16, none⟩)
  | 25 => ∃ vs : List Value, v = .agg vs.toArray ∧ FV 5 lo W.heap.size q W vs
  | 26 => v = .pointer (some ⟨q, 0, none⟩)
  | 27 => v = .pointer (some ⟨q, 0, none⟩)
  | 28 => v = .pointer (some ⟨q, 17, none⟩)
  | 29 => v = .func (.func 87) #[] #[]
  | 30 => v = .func (.func 89) #[] #[]
  | 31 => v = .func (.func 90) #[] #[]
  | 32 => ∃ vs : List Value, v = .agg vs.toArray ∧ FV 6 lo W.heap.size q W vs
  | 33 => v = .pointer (some ⟨q, 0, none⟩)
  | 34 => v = .pointer (some ⟨q, 0, none⟩)
  | 35 => v = .pointer (some ⟨q, 18, none⟩)
  | 36 => v = .func (.func 88) #[] #[.pointer (some ⟨lo, 0, none⟩)]
  | 37 => ∃ vs : List Value, v = .agg vs.toArray ∧ FV 7 lo W.heap.size q W vs
  | 38 => v = .pointer (some ⟨q, 0, none⟩)
  | 39 => v = .pointer (some ⟨q, 0, none⟩)
  | 40 => v = .pointer (some ⟨q, 19, none⟩)
  | 41 => ∃ vs : List Value, v = .agg vs.toArray ∧ FV 8 lo W.heap.size q W vs
  | 42 => v = .func (.func 102) #[] #[.pointer (some ⟨lo, 0, none⟩)]
  | 43 => v = .func (.func 103) #[] #[.pointer (some ⟨lo, 0, none⟩)]
  | 44 => v = .func (.func 104) #[] #[.pointer (some ⟨lo, 0, none⟩)]
  | 45 => v = .func (.func 105) #[] #[.pointer (some ⟨lo, 0, none⟩)]
  | 46 => ∃ vs : List Value, v = .agg vs.toArray ∧ FV 9 lo W.heap.size q W vs
  | 47 => ∃ F, v = .agg (fA F) ∧ FsAt lo q W F
  | _ => True
theorem InI.more {lo q i : Nat} {v : Value} {W W' : World} (h : InI lo q i v W) (hk : KeepBut (fun k => k = lo + 1) W W') : InI lo q i v W' := by
  revert h
  unfold InI
  split <;> first | exact fun h => h | exact fun ⟨vs, e, h⟩ => ⟨vs, e, h.more hk⟩ | exact fun ⟨F, e, h⟩ => ⟨F, e, fun n hn => (h n hn).more hk⟩
def SIn (lo q : Nat) (W0 : World) (listed : Array Bool) (W : World) : Prop := KeepBut (fun k => k = lo + 1) W0 W ∧ (listed.getD 48 true = false → Box W (lo + 1) (Array.replicate 40 .nilFunc) 93) ∧ (listed.getD 48 true = true → ∃ F, Box W (lo + 1) (fA F) 93 ∧ FsAt lo q W F)
theorem SIn.next {lo q : Nat} {W0 W W' : World} {listed : Array Bool} {i : Nat} (h : SIn lo q W0 listed W) (hi : i ≠ 48) (hB : Below W.heap.size W W') : SIn lo q W0 (listed.setIfInBounds i true) W' := by
  unfold SIn
  rw [listed_ne hi]
  refine ⟨h.1.trans (KeepBut.of_below (fun k => k = lo + 1) hB) (fun _ _ e => e), fun e => (h.2.1 e).belowI hB, fun e => ?_⟩
  obtain ⟨F, h1, h2⟩ := h.2.2 e
  exact ⟨F, h1.belowI hB, fun n hn => (h2 n hn).more (KeepBut.of_below _ hB)⟩
theorem infoFlds : (Tryz.prog.info? 93).map (·.size) = some 40 := by kernel_rfl
theorem fA_store {lo q : Nat} {W : World} {F : Nat → List Value} {ρ : Operand → Value} {dst : Option Tmp} {ty : TypeId} {pos : String} {aft : Array Edge} {gd : Option (Nat × Bool)} (x y : Operand) (hx : ρ x = .pointer (some ⟨lo + 1, 0, none⟩)) (hy : ρ y = .agg (fA F)) (hb : Box W (lo + 1) (Array.replicate 40 .nilFunc) 93) (hF : FsAt lo q W F) :
    (execOp ρ ⟨dst, .store 93 x y, ty, pos, aft, gd⟩).run Tryz.prog W = .ok .skip (W.setRow (lo + 1) (fA F)) := by
  have hl : (fE F).length = 40 := fE_len (fun n hn => (hF n hn).len)
  refine y_storeMid (o := 0) (v := .agg (fA F)) 93 x y hx hy hb ?_ (decide_eq_true ?_) ?_ ?_
  · show (fE F).toArray = ([] ++ fE F ++ (Array.replicate 40 Value.nilFunc).toList.drop (0 + (fE F).length)).toArray
    rw [hl, List.nil_append, List.drop_eq_nil_of_le (by simp), List.append_nil]
  · show 0 + (fE F).length ≤ _
    rw [hl]
    simp
  · show _ = some (fE F).length
    rw [hl]
    exact infoFlds
  · show (fE F).all _ = true
    rw [List.all_eq_true]
    intro u hu
    simp only [fE, List.mem_append] at hu
    rcases hu with h | h | h | h | h | h | h | h | h | h
    · exact (hF 0 (by decide)).one u h
    · exact (hF 1 (by decide)).one u h
    · exact (hF 2 (by decide)).one u h
    · exact (hF 3 (by decide)).one u h
    · exact (hF 4 (by decide)).one u h
    · exact (hF 5 (by decide)).one u h
    · exact (hF 6 (by decide)).one u h
    · exact (hF 7 (by decide)).one u h
    · exact (hF 8 (by decide)).one u h
    · exact (hF 9 (by decide)).one u h
theorem enF_tx : ∀ args w, (callFunc 91 args).run Tryz.prog w = .ok (.enter 91 args) w := enters_of Tryz.func91 (by kernel_rfl) rfl
theorem enF_u32 : ∀ args w, (callFunc 95 args).run Tryz.prog w = .ok (.enter 95 args) w := enters_of Tryz.func95 (by kernel_rfl) rfl
theorem enF_reg : ∀ args w, (callFunc 96 args).run Tryz.prog w = .ok (.enter 96 args) w := enters_of Tryz.func96 (by kernel_rfl) rfl
theorem enF_key : ∀ args w, (callFunc 99 args).run Tryz.prog w = .ok (.enter 99 args) w := enters_of Tryz.func99 (by kernel_rfl) rfl
theorem enF_u8 : ∀ args w, (callFunc 100 args).run Tryz.prog w = .ok (.enter 100 args) w := enters_of Tryz.func100 (by kernel_rfl) rfl
theorem enF_item : ∀ args w, (callFunc 101 args).run Tryz.prog w = .ok (.enter 101 args) w := enters_of Tryz.func101 (by kernel_rfl) rfl
set_option maxRecDepth 100000 in
set_option maxHeartbeats 1600000 in
theorem fieldsIn_any (q : Nat) (w : World) :
    Calls Tryz.prog 42 #[.pointer (some ⟨q, 0, none⟩)] w fun e w' => ∃ F, e = .returned (.agg (fA F)) ∧ FA w.heap.size w'.heap.size q w' F ∧ Below w.heap.size w w' := by
  have hmf := make_fn
  obtain ⟨lo, hlo⟩ : ∃ lo, lo = w.heap.size := ⟨_, rfl⟩
  have hA : Below w.heap.size w ((w.alloc (.cells #[.pointer (some ⟨q, 0, none⟩)] 95)).alloc (.cells (#[.nilFunc, .nilFunc, .nilFunc, .nilFunc, .nilFunc, .nilFunc, .nilFunc, .nilFunc, .nilFunc, .nilFunc, .nilFunc, .nilFunc, .nilFunc, .nilFunc, .nilFunc, .nilFunc, .nilFunc, .nilFunc, .nilFunc, .nilFunc, .nilFunc, .nilFunc, .nilFunc, .nilFunc, .nilFunc, .nilFunc, .nilFunc, .nilFunc, .nilFunc, .nilFunc, .nilFunc, .nilFunc, .nilFunc, .nilFunc, .nilFunc, .nilFunc, .nilFunc, .nilFunc, .nilFunc, .nilFunc]) 93)) := ((Below.refl _ _).alloc (Nat.le_refl _) _).alloc (by simp) _
  have hX : Box ((w.alloc (.cells #[.pointer (some ⟨q, 0, none⟩)] 95)).alloc (.cells (#[.nilFunc, .nilFunc, .nilFunc, .nilFunc, .nilFunc, .nilFunc, .nilFunc, .nilFunc, .nilFunc, .nilFunc, .nilFunc, .nilFunc, .nilFunc, .nilFunc, .nilFunc, .nilFunc, .nilFunc, .nilFunc, .nilFunc, .nilFunc, .nilFunc, .nilFunc, .nilFunc, .nilFunc, .nilFunc, .nilFunc, .nilFunc, .nilFunc, .nilFunc, .nilFunc, .nilFunc, .nilFunc, .nilFunc, .nilFunc, .nilFunc, .nilFunc, .nilFunc, .nilFunc, .nilFunc, .nilFunc]) 93)) w.heap.size #[.pointer (some ⟨q, 0, none⟩)] 95 := (box_new w _ _).belowI (alloc_below10 _ _)
  have hY : Box ((w.alloc (.cells #[.pointer (some ⟨q, 0, none⟩)] 95)).alloc (.cells (#[.nilFunc, .nilFunc, .nilFunc, .nilFunc, .nilFunc, .nilFunc, .nilFunc, .nilFunc, .nilFunc, .nilFunc, .nilFunc, .nilFunc, .nilFunc, .nilFunc, .nilFunc, .nilFunc, .nilFunc, .nilFunc, .nilFunc, .nilFunc, .nilFunc, .nilFunc, .nilFunc, .nilFunc, .nilFunc, .nilFunc, .nilFunc, .nilFunc, .nilFunc, .nilFunc, .nilFunc, .nilFunc, .nilFunc, .nilFunc, .nilFunc, .nilFunc, .nilFunc, .nilFunc, .nilFunc, .nilFunc]) 93)) (w.heap.size + 1) (#[.nilFunc, .nilFunc, .nilFunc, .nilFunc, .nilFunc, .nilFunc, .nilFunc, .nilFunc, .nilFunc, .nilFunc, .nilFunc, .nilFunc, .nilFunc, .nilFunc, .nilFunc, .nilFunc, .nilFunc, .nilFunc, .nilFunc, .nilFunc, .nilFunc, .nilFunc, .nilFunc, .nilFunc, .nilFunc, .nilFunc, .nilFunc, .nilFunc, .nilFunc, .nilFunc, .nilFunc, .nilFunc, .nilFunc, .nilFunc, .nilFunc, .nilFunc, .nilFunc, .nilFunc, .nilFunc, .nilFunc]) 93 := by
    have := box_new (w.alloc (.cells #[.pointer (some ⟨q, 0, none⟩)] 95)) (#[.nilFunc, .nilFunc, .nilFunc, .nilFunc, .nilFunc, .nilFunc, .nilFunc, .nilFunc, .nilFunc, .nilFunc, .nilFunc, .nilFunc, .nilFunc, .nilFunc, .nilFunc, .nilFunc, .nilFunc, .nilFunc, .nilFunc, .nilFunc, .nilFunc, .nilFunc, .nilFunc, .nilFunc, .nilFunc, .nilFunc, .nilFunc, .nilFunc, .nilFunc, .nilFunc, .nilFunc, .nilFunc, .nilFunc, .nilFunc, .nilFunc, .nilFunc, .nilFunc, .nilFunc, .nilFunc, .nilFunc]) 93
    rw [World.size_alloc] at this
    exact this
  obtain ⟨W0, hW0⟩ : ∃ W0, W0 = (w.alloc (.cells #[.pointer (some ⟨q, 0, none⟩)] 95)).alloc (.cells (#[.nilFunc, .nilFunc, .nilFunc, .nilFunc, .nilFunc, .nilFunc, .nilFunc, .nilFunc, .nilFunc, .nilFunc, .nilFunc, .nilFunc, .nilFunc, .nilFunc, .nilFunc, .nilFunc, .nilFunc, .nilFunc, .nilFunc, .nilFunc, .nilFunc, .nilFunc, .nilFunc, .nilFunc, .nilFunc, .nilFunc, .nilFunc, .nilFunc, .nilFunc, .nilFunc, .nilFunc, .nilFunc, .nilFunc, .nilFunc, .nilFunc, .nilFunc, .nilFunc, .nilFunc, .nilFunc, .nilFunc]) 93) := ⟨_, rfl⟩
  have hsz : W0.heap.size = w.heap.size + 2 := by rw [hW0]; simp
  rw [← hW0] at hA hX hY
  rw [← hlo] at hX hY hsz
  have HA := hide hA
  have HX := hide hX
  have HY : Hid (Box W0 (lo + 1) (Array.replicate 40 .nilFunc) 93) := hide hY
  have HSZ := hide hsz
  have HLO := hide hlo
  have hWW := hW0.symm
  clear hA hX hY hsz hW0
  go_enter Tryz.func42, Tryz.ntmps42
  go_wp2_with fail
  rw [← hlo]
  refine wp_region_each3 (by kernel_rfl) (InI lo q) (SIn lo q W0) (fun i W W' => KeepBut (fun k => k = lo + 1) W W') (by kernel_rfl) (fun i j v W W' _ h hk => h.more hk) ⟨(KeepBut.refl _ _).drew, fun _ => HY.out.belowI (Below.refl _ _).drew, fun h => by cases h⟩ ?_ ?_
  · intro i o hi listed A W hsz hN hS hold hdeps
    have hszW : lo + 2 ≤ W.heap.size := by have := hS.1.size; rw [HSZ.out] at this; exact this
    have hcl : W.cell? ⟨lo, 0, none⟩ = some (.pointer (some ⟨q, 0, none⟩)) := (HX.out.keep hS.1 (by omega)).cell 0 _ rfl
    have hRR : KeepBut (fun k => k = lo + 1) W W := KeepBut.refl _ _
    have hnx : ∀ j, j ≠ 48 → SIn lo q W0 (listed.setIfInBounds j true) W := fun j hj => hS.next hj (Below.refl _ _)
    have hlt : i < 49 := (Array.getElem?_eq_some_iff.1 hi).1
    have hc : i = 0 ∨ i = 1 ∨ i = 2 ∨ i = 3 ∨ i = 4 ∨ i = 5 ∨ i = 6 ∨ i = 7 ∨ i = 8 ∨ i = 9 ∨ i = 10 ∨ i = 11 ∨ i = 12 ∨ i = 13 ∨ i = 14 ∨ i = 15 ∨ i = 16 ∨ i = 17 ∨ i = 18 ∨ i = 19 ∨ i = 20 ∨ i = 21 ∨ i = 22 ∨ i = 23 ∨ i = 24 ∨ i = 25 ∨ i = 26 ∨ i = 27 ∨ i = 28 ∨ i = 29 ∨ i = 30 ∨ i = 31 ∨ i = 32 ∨ i = 33 ∨ i = 34 ∨ i = 35 ∨ i = 36 ∨ i = 37 ∨ i = 38 ∨ i = 39 ∨ i = 40 ∨ i = 41 ∨ i = 42 ∨ i = 43 ∨ i = 44 ∨ i = 45 ∨ i = 46 ∨ i = 47 ∨ i = 48 := by omega
    clear hlt hsz
    rcases hc with rfl | rfl | rfl | rfl | rfl | rfl | rfl | rfl | rfl | rfl | rfl | rfl | rfl | rfl | rfl | rfl | rfl | rfl | rfl | rfl | rfl | rfl | rfl | rfl | rfl | rfl | rfl | rfl | rfl | rfl | rfl | rfl | rfl | rfl | rfl | rfl | rfl | rfl | rfl | rfl | rfl | rfl | rfl | rfl | rfl | rfl | rfl | rfl | rfl
    · obtain rfl := Option.some.inj hi
      have s1 : A.tmps.getD 1 undef = .pointer (some ⟨lo, 0, none⟩) := hold 1 (by kernel_rfl)
      exact t_value (I := InI lo q) (R := fun W' => KeepBut (fun k => k = lo + 1) W W') hi rfl rfl (y_cell_msgp _ s1 hcl) (hnx 0 (by decide)) hRR rfl
    · obtain rfl := Option.some.inj hi
      have s : A.tmps.getD 11 undef = .pointer (some ⟨q, 0, none⟩) := dep3_of hdeps 0 (by kernel_rfl)
      exact t_value (I := InI lo q) (R := fun W' => KeepBut (fun k => k = lo + 1) W W') hi rfl rfl (y_nilc _ s) (hnx 1 (by decide)) hRR rfl
    · obtain rfl := Option.some.inj hi
      have s : A.tmps.getD 12 undef = .pointer (some ⟨q, 0, none⟩) := dep3_of hdeps 1 (by kernel_rfl)
      exact t_value (I := InI lo q) (R := fun W' => KeepBut (fun k => k = lo + 1) W W') hi rfl rfl (y_fldR1 _ s) (hnx 2 (by decide)) hRR rfl
    · obtain rfl := Option.some.inj hi
      have s13 : A.tmps.getD 13 undef = .pointer (some ⟨q, 1, none⟩) := dep3_of hdeps 2 (by kernel_rfl)
      refine t_enter (I := InI lo q) (R := fun W' => KeepBut (fun k => k = lo + 1) W W') hi rfl rfl (y_call 91 _ #[.pointer (some ⟨q, 1, none⟩), .func (.func 92) #[] #[], .func (.func 93) #[] #[], .func (.func 94) #[] #[]] _ rfl (by simp only [List.map_toArray, List.map_cons, List.map_nil, show A.eval (.tmp 13) = .pointer (some ⟨q, 1, none⟩) from s13]; try rfl) enF_tx) ((fieldAt_tx q 1 _ _ _ _ _ _ W).mono ?_)
      rintro e W' ⟨vs, ba, bm, bp, bg, bz, rfl, hf, hB⟩
      exact ⟨_, rfl, hS.next (by decide) hB, KeepBut.of_below _ hB, vs, rfl, ba, bm, bp, bg, bz, hf.mono (Nat.le_refl _) hszW⟩
    · obtain rfl := Option.some.inj hi
      have s1 : A.tmps.getD 1 undef = .pointer (some ⟨lo, 0, none⟩) := hold 1 (by kernel_rfl)
      exact t_value (I := InI lo q) (R := fun W' => KeepBut (fun k => k = lo + 1) W W') hi rfl rfl (y_cell_msgp _ s1 hcl) (hnx 4 (by decide)) hRR rfl
    · obtain rfl := Option.some.inj hi
      have s : A.tmps.getD 15 undef = .pointer (some ⟨q, 0, none⟩) := dep3_of hdeps 4 (by kernel_rfl)
      exact t_value (I := InI lo q) (R := fun W' => KeepBut (fun k => k = lo + 1) W W') hi rfl rfl (y_nilc _ s) (hnx 5 (by decide)) hRR rfl
    · obtain rfl := Option.some.inj hi
      have s : A.tmps.getD 16 undef = .pointer (some ⟨q, 0, none⟩) := dep3_of hdeps 5 (by kernel_rfl)
      exact t_value (I := InI lo q) (R := fun W' => KeepBut (fun k => k = lo + 1) W W') hi rfl rfl (y_fldR2 _ s) (hnx 6 (by decide)) hRR rfl
    · obtain rfl := Option.some.inj hi
      have s17 : A.tmps.getD 17 undef = .pointer (some ⟨q, 4, none⟩) := dep3_of hdeps 6 (by kernel_rfl)
      refine t_enter (I := InI lo q) (R := fun W' => KeepBut (fun k => k = lo + 1) W W') hi rfl rfl (y_call 95 _ #[.pointer (some ⟨q, 4, none⟩), .func (.func 47) #[] #[], .func (.func 69) #[] #[], .func (.func 77) #[] #[]] _ rfl (by simp only [List.map_toArray, List.map_cons, List.map_nil, show A.eval (.tmp 17) = .pointer (some ⟨q, 4, none⟩) from s17]; try rfl) enF_u32) ((fieldAt_u32 q 4 _ _ _ _ _ _ W).mono ?_)
      rintro e W' ⟨vs, ba, bm, bp, bg, bz, rfl, hf, hB⟩
      exact ⟨_, rfl, hS.next (by decide) hB, KeepBut.of_below _ hB, vs, rfl, ba, bm, bp, bg, bz, hf.mono (Nat.le_refl _) hszW⟩
    · obtain rfl := Option.some.inj hi
      have s1 : A.tmps.getD 1 undef = .pointer (some ⟨lo, 0, none⟩) := hold 1 (by kernel_rfl)
      exact t_value (I := InI lo q) (R := fun W' => KeepBut (fun k => k = lo + 1) W W') hi rfl rfl (y_cell_msgp _ s1 hcl) (hnx 8 (by decide)) hRR rfl
    · obtain rfl := Option.some.inj hi
      have s : A.tmps.getD 19 undef = .pointer (some ⟨q, 0, none⟩) := dep3_of hdeps 8 (by kernel_rfl)
      exact t_value (I := InI lo q) (R := fun W' => KeepBut (fun k => k = lo + 1) W W') hi rfl rfl (y_nilc _ s) (hnx 9 (by decide)) hRR rfl
    · obtain rfl := Option.some.inj hi
      have s : A.tmps.getD 20 undef = .pointer (some ⟨q, 0, none⟩) := dep3_of hdeps 9 (by kernel_rfl)
      exact t_value (I := InI lo q) (R := fun W' => KeepBut (fun k => k = lo + 1) W W') hi rfl rfl (y_fldR3 _ s) (hnx 10 (by decide)) hRR rfl
    · obtain rfl := Option.some.inj hi
      have s : A.tmps.getD 3 undef = .func (.func 84) #[] #[.pointer (some ⟨lo, 0, none⟩)] := hold 3 (by kernel_rfl)
      exact t_value (I := InI lo q) (R := fun W' => KeepBut (fun k => k = lo + 1) W W') hi rfl rfl (y_move _ s) (hnx 11 (by decide)) hRR rfl
    · obtain rfl := Option.some.inj hi
      have s21 : A.tmps.getD 21 undef = .pointer (some ⟨q, 5, none⟩) := dep3_of hdeps 10 (by kernel_rfl)
      have s22 : A.tmps.getD 22 undef = .func (.func 84) #[] #[.pointer (some ⟨lo, 0, none⟩)] := dep3_of hdeps 11 (by kernel_rfl)
      refine t_enter (I := InI lo q) (R := fun W' => KeepBut (fun k => k = lo + 1) W W') hi rfl rfl (y_call 96 _ #[.pointer (some ⟨q, 5, none⟩), .func (.func 84) #[] #[.pointer (some ⟨lo, 0, none⟩)], .func (.func 97) #[] #[], .func (.func 98) #[] #[]] _ rfl (by simp only [List.map_toArray, List.map_cons, List.map_nil, show A.eval (.tmp 21) = .pointer (some ⟨q, 5, none⟩) from s21, show A.eval (.tmp 22) = .func (.func 84) #[] #[.pointer (some ⟨lo, 0, none⟩)] from s22]; try rfl) enF_reg) ((fieldAt_reg q 5 _ _ _ _ _ _ W).mono ?_)
      rintro e W' ⟨vs, ba, bm, bp, bg, bz, rfl, hf, hB⟩
      exact ⟨_, rfl, hS.next (by decide) hB, KeepBut.of_below _ hB, vs, rfl, ba, bm, bp, bg, bz, hf.mono (Nat.le_refl _) hszW⟩
    · obtain rfl := Option.some.inj hi
      have s1 : A.tmps.getD 1 undef = .pointer (some ⟨lo, 0, none⟩) := hold 1 (by kernel_rfl)
      exact t_value (I := InI lo q) (R := fun W' => KeepBut (fun k => k = lo + 1) W W') hi rfl rfl (y_cell_msgp _ s1 hcl) (hnx 13 (by decide)) hRR rfl
    · obtain rfl := Option.some.inj hi
      have s : A.tmps.getD 24 undef = .pointer (some ⟨q, 0, none⟩) := dep3_of hdeps 13 (by kernel_rfl)
      exact t_value (I := InI lo q) (R := fun W' => KeepBut (fun k => k = lo + 1) W W') hi rfl rfl (y_nilc _ s) (hnx 14 (by decide)) hRR rfl
    · obtain rfl := Option.some.inj hi
      have s : A.tmps.getD 25 undef = .pointer (some ⟨q, 0, none⟩) := dep3_of hdeps 14 (by kernel_rfl)
      exact t_value (I := InI lo q) (R := fun W' => KeepBut (fun k => k = lo + 1) W W') hi rfl rfl (y_fldR4 _ s) (hnx 15 (by decide)) hRR rfl
    · obtain rfl := Option.some.inj hi
      have s26 : A.tmps.getD 26 undef = .pointer (some ⟨q, 7, none⟩) := dep3_of hdeps 15 (by kernel_rfl)
      refine t_enter (I := InI lo q) (R := fun W' => KeepBut (fun k => k = lo + 1) W W') hi rfl rfl (y_call 99 _ #[.pointer (some ⟨q, 7, none⟩), .func (.func 50) #[] #[], .func (.func 75) #[] #[], .func (.func 83) #[] #[]] _ rfl (by simp only [List.map_toArray, List.map_cons, List.map_nil, show A.eval (.tmp 26) = .pointer (some ⟨q, 7, none⟩) from s26]; try rfl) enF_key) ((fieldAt_key q 7 _ _ _ _ _ _ W).mono ?_)
      rintro e W' ⟨vs, ba, bm, bp, bg, bz, rfl, hf, hB⟩
      exact ⟨_, rfl, hS.next (by decide) hB, KeepBut.of_below _ hB, vs, rfl, ba, bm, bp, bg, bz, hf.mono (Nat.le_refl _) hszW⟩
    · obtain rfl := Option.some.inj hi
      have s1 : A.tmps.getD 1 undef = .pointer (some ⟨lo, 0, none⟩) := hold 1 (by kernel_rfl)
      exact t_value (I := InI lo q) (R := fun W' => KeepBut (fun k => k = lo + 1) W W') hi rfl rfl (y_cell_msgp _ s1 hcl) (hnx 17 (by decide)) hRR rfl
    · obtain rfl := Option.some.inj hi
      have s : A.tmps.getD 28 undef = .pointer (some ⟨q, 0, none⟩) := dep3_of hdeps 17 (by kernel_rfl)
      exact t_value (I := InI lo q) (R := fun W' => KeepBut (fun k => k = lo + 1) W W') hi rfl rfl (y_nilc _ s) (hnx 18 (by decide)) hRR rfl
    · obtain rfl := Option.some.inj hi
      have s : A.tmps.getD 29 undef = .pointer (some ⟨q, 0, none⟩) := dep3_of hdeps 18 (by kernel_rfl)
      exact t_value (I := InI lo q) (R := fun W' => KeepBut (fun k => k = lo + 1) W W') hi rfl rfl (y_fldR5 _ s) (hnx 19 (by decide)) hRR rfl
    · obtain rfl := Option.some.inj hi
      have s : A.tmps.getD 4 undef = .func (.func 86) #[] #[] := hold 4 (by kernel_rfl)
      exact t_value (I := InI lo q) (R := fun W' => KeepBut (fun k => k = lo + 1) W W') hi rfl rfl (y_move _ s) (hnx 20 (by decide)) hRR rfl
    · obtain rfl := Option.some.inj hi
      have s30 : A.tmps.getD 30 undef = .pointer (some ⟨q, 15, none⟩) := dep3_of hdeps 19 (by kernel_rfl)
      have s31 : A.tmps.getD 31 undef = .func (.func 86) #[] #[] := dep3_of hdeps 20 (by kernel_rfl)
      refine t_enter (I := InI lo q) (R := fun W' => KeepBut (fun k => k = lo + 1) W W') hi rfl rfl (y_call 100 _ #[.pointer (some ⟨q, 15, none⟩), .func (.func 86) #[] #[], .func (.func 55) #[] #[], .func (.func 61) #[] #[]] _ rfl (by simp only [List.map_toArray, List.map_cons, List.map_nil, show A.eval (.tmp 30) = .pointer (some ⟨q, 15, none⟩) from s30, show A.eval (.tmp 31) = .func (.func 86) #[] #[] from s31]; try rfl) enF_u8) ((fieldAt_u8 q 15 _ _ _ _ _ _ W).mono ?_)
      rintro e W' ⟨vs, ba, bm, bp, bg, bz, rfl, hf, hB⟩
      exact ⟨_, rfl, hS.next (by decide) hB, KeepBut.of_below _ hB, vs, rfl, ba, bm, bp, bg, bz, hf.mono (Nat.le_refl _) hszW⟩
    · obtain rfl := Option.some.inj hi
      have s1 : A.tmps.getD 1 undef = .pointer (some ⟨lo, 0, none⟩) := hold 1 (by kernel_rfl)
      exact t_value (I := InI lo q) (R := fun W' => KeepBut (fun k => k = lo + 1) W W') hi rfl rfl (y_cell_msgp _ s1 hcl) (hnx 22 (by decide)) hRR rfl
    · obtain rfl := Option.some.inj hi
      have s : A.tmps.getD 33 undef = .pointer (some ⟨q, 0, none⟩) := dep3_of hdeps 22 (by kernel_rfl)
      exact t_value (I := InI lo q) (R := fun W' => KeepBut (fun k => k = lo + 1) W W') hi rfl rfl (y_nilc _ s) (hnx 23 (by decide)) hRR rfl
    · obtain rfl := Option.some.inj hi
      have s : A.tmps.getD 34 undef = .pointer (some ⟨q, 0, none⟩) := dep3_of hdeps 23 (by kernel_rfl)
      exact t_value (I := InI lo q) (R := fun W' => KeepBut (fun k => k = lo + 1) W W') hi rfl rfl (y_fldR6 _ s) (hnx 24 (by decide)) hRR rfl
    · obtain rfl := Option.some.inj hi
      have s35 : A.tmps.getD 35 undef = .pointer (some ⟨q, 16, none⟩) := dep3_of hdeps 24 (by kernel_rfl)
      refine t_enter (I := InI lo q) (R := fun W' => KeepBut (fun k => k = lo + 1) W W') hi rfl rfl (y_call 95 _ #[.pointer (some ⟨q, 16, none⟩), .func (.func 47) #[] #[], .func (.func 69) #[] #[], .func (.func 77) #[] #[]] _ rfl (by simp only [List.map_toArray, List.map_cons, List.map_nil, show A.eval (.tmp 35) = .pointer (some ⟨q, 16, none⟩) from s35]; try rfl) enF_u32) ((fieldAt_u32 q 16 _ _ _ _ _ _ W).mono ?_)
      rintro e W' ⟨vs, ba, bm, bp, bg, bz, rfl, hf, hB⟩
      exact ⟨_, rfl, hS.next (by decide) hB, KeepBut.of_below _ hB, vs, rfl, ba, bm, bp, bg, bz, hf.mono (Nat.le_refl _) hszW⟩
    · obtain rfl := Option.some.inj hi
      have s1 : A.tmps.getD 1 undef = .pointer (some ⟨lo, 0, none⟩) := hold 1 (by kernel_rfl)
      exact t_value (I := InI lo q) (R := fun W' => KeepBut (fun k => k = lo + 1) W W') hi rfl rfl (y_cell_msgp _ s1 hcl) (hnx 26 (by decide)) hRR rfl
    · obtain rfl := Option.some.inj hi
      have s : A.tmps.getD 37 undef = .pointer (some ⟨q, 0, none⟩) := dep3_of hdeps 26 (by kernel_rfl)
      exact t_value (I := InI lo q) (R := fun W' => KeepBut (fun k => k = lo + 1) W W') hi rfl rfl (y_nilc _ s) (hnx 27 (by decide)) hRR rfl
    · obtain rfl := Option.some.inj hi
      have s : A.tmps.getD 38 undef = .pointer (some ⟨q, 0, none⟩) := dep3_of hdeps 27 (by kernel_rfl)
      exact t_value (I := InI lo q) (R := fun W' => KeepBut (fun k => k = lo + 1) W W') hi rfl rfl (y_fldR7 _ s) (hnx 28 (by decide)) hRR rfl
    · obtain rfl := Option.some.inj hi
      have s : A.tmps.getD 5 undef = .func (.func 87) #[] #[] := hold 5 (by kernel_rfl)
      exact t_value (I := InI lo q) (R := fun W' => KeepBut (fun k => k = lo + 1) W W') hi rfl rfl (y_move _ s) (hnx 29 (by decide)) hRR rfl
    · obtain rfl := Option.some.inj hi
      have s : A.tmps.getD 7 undef = .func (.func 89) #[] #[] := hold 7 (by kernel_rfl)
      exact t_value (I := InI lo q) (R := fun W' => KeepBut (fun k => k = lo + 1) W W') hi rfl rfl (y_move _ s) (hnx 30 (by decide)) hRR rfl
    · obtain rfl := Option.some.inj hi
      have s : A.tmps.getD 8 undef = .func (.func 90) #[] #[] := hold 8 (by kernel_rfl)
      exact t_value (I := InI lo q) (R := fun W' => KeepBut (fun k => k = lo + 1) W W') hi rfl rfl (y_move _ s) (hnx 31 (by decide)) hRR rfl
    · obtain rfl := Option.some.inj hi
      have s39 : A.tmps.getD 39 undef = .pointer (some ⟨q, 17, none⟩) := dep3_of hdeps 28 (by kernel_rfl)
      have s40 : A.tmps.getD 40 undef = .func (.func 87) #[] #[] := dep3_of hdeps 29 (by kernel_rfl)
      have s41 : A.tmps.getD 41 undef = .func (.func 89) #[] #[] := dep3_of hdeps 30 (by kernel_rfl)
      have s42 : A.tmps.getD 42 undef = .func (.func 90) #[] #[] := dep3_of hdeps 31 (by kernel_rfl)
      refine t_enter (I := InI lo q) (R := fun W' => KeepBut (fun k => k = lo + 1) W W') hi rfl rfl (y_call 100 _ #[.pointer (some ⟨q, 17, none⟩), .func (.func 87) #[] #[], .func (.func 89) #[] #[], .func (.func 90) #[] #[]] _ rfl (by simp only [List.map_toArray, List.map_cons, List.map_nil, show A.eval (.tmp 39) = .pointer (some ⟨q, 17, none⟩) from s39, show A.eval (.tmp 40) = .func (.func 87) #[] #[] from s40, show A.eval (.tmp 41) = .func (.func 89) #[] #[] from s41, show A.eval (.tmp 42) = .func (.func 90) #[] #[] from s42]; try rfl) enF_u8) ((fieldAt_u8 q 17 _ _ _ _ _ _ W).mono ?_)
      rintro e W' ⟨vs, ba, bm, bp, bg, bz, rfl, hf, hB⟩
      exact ⟨_, rfl, hS.next (by decide) hB, KeepBut.of_below _ hB, vs, rfl, ba, bm, bp, bg, bz, hf.mono (Nat.le_refl _) hszW⟩
    · obtain rfl := Option.some.inj hi
      have s1 : A.tmps.getD 1 undef = .pointer (some ⟨lo, 0, none⟩) := hold 1 (by kernel_rfl)
      exact t_value (I := InI lo q) (R := fun W' => KeepBut (fun k => k = lo + 1) W W') hi rfl rfl (y_cell_msgp _ s1 hcl) (hnx 33 (by decide)) hRR rfl
    · obtain rfl := Option.some.inj hi
      have s : A.tmps.getD 44 undef = .pointer (some ⟨q, 0, none⟩) := dep3_of hdeps 33 (by kernel_rfl)
      exact t_value (I := InI lo q) (R := fun W' => KeepBut (fun k => k = lo + 1) W W') hi rfl rfl (y_nilc _ s) (hnx 34 (by decide)) hRR rfl
    · obtain rfl := Option.some.inj hi
      have s : A.tmps.getD 45 undef = .pointer (some ⟨q, 0, none⟩) := dep3_of hdeps 34 (by kernel_rfl)
      exact t_value (I := InI lo q) (R := fun W' => KeepBut (fun k => k = lo + 1) W W') hi rfl rfl (y_fldR8 _ s) (hnx 35 (by decide)) hRR rfl
    · obtain rfl := Option.some.inj hi
      have s : A.tmps.getD 6 undef = .func (.func 88) #[] #[.pointer (some ⟨lo, 0, none⟩)] := hold 6 (by kernel_rfl)
      exact t_value (I := InI lo q) (R := fun W' => KeepBut (fun k => k = lo + 1) W W') hi rfl rfl (y_move _ s) (hnx 36 (by decide)) hRR rfl
    · obtain rfl := Option.some.inj hi
      have s46 : A.tmps.getD 46 undef = .pointer (some ⟨q, 18, none⟩) := dep3_of hdeps 35 (by kernel_rfl)
      have s47 : A.tmps.getD 47 undef = .func (.func 88) #[] #[.pointer (some ⟨lo, 0, none⟩)] := dep3_of hdeps 36 (by kernel_rfl)
      refine t_enter (I := InI lo q) (R := fun W' => KeepBut (fun k => k = lo + 1) W W') hi rfl rfl (y_call 100 _ #[.pointer (some ⟨q, 18, none⟩), .func (.func 88) #[] #[.pointer (some ⟨lo, 0, none⟩)], .func (.func 55) #[] #[], .func (.func 61) #[] #[]] _ rfl (by simp only [List.map_toArray, List.map_cons, List.map_nil, show A.eval (.tmp 46) = .pointer (some ⟨q, 18, none⟩) from s46, show A.eval (.tmp 47) = .func (.func 88) #[] #[.pointer (some ⟨lo, 0, none⟩)] from s47]; try rfl) enF_u8) ((fieldAt_u8 q 18 _ _ _ _ _ _ W).mono ?_)
      rintro e W' ⟨vs, ba, bm, bp, bg, bz, rfl, hf, hB⟩
      exact ⟨_, rfl, hS.next (by decide) hB, KeepBut.of_below _ hB, vs, rfl, ba, bm, bp, bg, bz, hf.mono (Nat.le_refl _) hszW⟩
    · obtain rfl := Option.some.inj hi
      have s1 : A.tmps.getD 1 undef = .pointer (some ⟨lo, 0, none⟩) := hold 1 (by kernel_rfl)
      exact t_value (I := InI lo q) (R := fun W' => KeepBut (fun k => k = lo + 1) W W') hi rfl rfl (y_cell_msgp _ s1 hcl) (hnx 38 (by decide)) hRR rfl
    · obtain rfl := Option.some.inj hi
      have s : A.tmps.getD 49 undef = .pointer (some ⟨q, 0, none⟩) := dep3_of hdeps 38 (by kernel_rfl)
      exact t_value (I := InI lo q) (R := fun W' => KeepBut (fun k => k = lo + 1) W W') hi rfl rfl (y_nilc _ s) (hnx 39 (by decide)) hRR rfl
    · obtain rfl := Option.some.inj hi
      have s : A.tmps.getD 50 undef = .pointer (some ⟨q, 0, none⟩) := dep3_of hdeps 39 (by kernel_rfl)
      exact t_value (I := InI lo q) (R := fun W' => KeepBut (fun k => k = lo + 1) W W') hi rfl rfl (y_fldR9 _ s) (hnx 40 (by decide)) hRR rfl
    · obtain rfl := Option.some.inj hi
      have s51 : A.tmps.getD 51 undef = .pointer (some ⟨q, 19, none⟩) := dep3_of hdeps 40 (by kernel_rfl)
      refine t_enter (I := InI lo q) (R := fun W' => KeepBut (fun k => k = lo + 1) W W') hi rfl rfl (y_call 101 _ #[.pointer (some ⟨q, 19, none⟩), .func (.func 14) #[] #[], .func (.func 26) #[] #[], .func (.func 32) #[] #[]] _ rfl (by simp only [List.map_toArray, List.map_cons, List.map_nil, show A.eval (.tmp 51) = .pointer (some ⟨q, 19, none⟩) from s51]; try rfl) enF_item) ((fieldAt_item q 19 _ _ _ _ _ _ W).mono ?_)
      rintro e W' ⟨vs, ba, bm, bp, bg, bz, rfl, hf, hB⟩
      exact ⟨_, rfl, hS.next (by decide) hB, KeepBut.of_below _ hB, vs, rfl, ba, bm, bp, bg, bz, hf.mono (Nat.le_refl _) hszW⟩
    · obtain rfl := Option.some.inj hi
      have s1 : A.tmps.getD 1 undef = .pointer (some ⟨lo, 0, none⟩) := hold 1 (by kernel_rfl)
      exact t_value (I := InI lo q) (R := fun W' => KeepBut (fun k => k = lo + 1) W W') hi rfl rfl (y_mkfn _ _ #[.pointer (some ⟨lo, 0, none⟩)] (by simp only [List.map_toArray, List.map_cons, List.map_nil, show A.eval (.tmp 1) = .pointer (some ⟨lo, 0, none⟩) from s1])) (hnx 42 (by decide)) hRR rfl
    · obtain rfl := Option.some.inj hi
      have s1 : A.tmps.getD 1 undef = .pointer (some ⟨lo, 0, none⟩) := hold 1 (by kernel_rfl)
      exact t_value (I := InI lo q) (R := fun W' => KeepBut (fun k => k = lo + 1) W W') hi rfl rfl (y_mkfn _ _ #[.pointer (some ⟨lo, 0, none⟩)] (by simp only [List.map_toArray, List.map_cons, List.map_nil, show A.eval (.tmp 1) = .pointer (some ⟨lo, 0, none⟩) from s1])) (hnx 43 (by decide)) hRR rfl
    · obtain rfl := Option.some.inj hi
      have s1 : A.tmps.getD 1 undef = .pointer (some ⟨lo, 0, none⟩) := hold 1 (by kernel_rfl)
      exact t_value (I := InI lo q) (R := fun W' => KeepBut (fun k => k = lo + 1) W W') hi rfl rfl (y_mkfn _ _ #[.pointer (some ⟨lo, 0, none⟩)] (by simp only [List.map_toArray, List.map_cons, List.map_nil, show A.eval (.tmp 1) = .pointer (some ⟨lo, 0, none⟩) from s1])) (hnx 44 (by decide)) hRR rfl
    · obtain rfl := Option.some.inj hi
      have s1 : A.tmps.getD 1 undef = .pointer (some ⟨lo, 0, none⟩) := hold 1 (by kernel_rfl)
      exact t_value (I := InI lo q) (R := fun W' => KeepBut (fun k => k = lo + 1) W W') hi rfl rfl (y_mkfn _ _ #[.pointer (some ⟨lo, 0, none⟩)] (by simp only [List.map_toArray, List.map_cons, List.map_nil, show A.eval (.tmp 1) = .pointer (some ⟨lo, 0, none⟩) from s1])) (hnx 45 (by decide)) hRR rfl
    · obtain rfl := Option.some.inj hi
      have s53 : A.tmps.getD 53 undef = .func (.func 102) #[] #[.pointer (some ⟨lo, 0, none⟩)] := dep3_of hdeps 42 (by kernel_rfl)
      have s54 : A.tmps.getD 54 undef = .func (.func 103) #[] #[.pointer (some ⟨lo, 0, none⟩)] := dep3_of hdeps 43 (by kernel_rfl)
      have s55 : A.tmps.getD 55 undef = .func (.func 104) #[] #[.pointer (some ⟨lo, 0, none⟩)] := dep3_of hdeps 44 (by kernel_rfl)
      have s56 : A.tmps.getD 56 undef = .func (.func 105) #[] #[.pointer (some ⟨lo, 0, none⟩)] := dep3_of hdeps 45 (by kernel_rfl)
      exact t_value (I := InI lo q) (R := fun W' => KeepBut (fun k => k = lo + 1) W W') hi rfl rfl (y_build4 _ _ _ _ s53 s54 s55 s56) (hnx 46 (by decide)) hRR ⟨_, rfl, rfl⟩
    · obtain rfl := Option.some.inj hi
      obtain ⟨l0, s0, f0⟩ : ∃ vs : List Value, A.tmps.getD 14 undef = .agg vs.toArray ∧ FV 0 lo W.heap.size q W vs := dep3_of hdeps 3 (by kernel_rfl)
      obtain ⟨l1, s1, f1⟩ : ∃ vs : List Value, A.tmps.getD 18 undef = .agg vs.toArray ∧ FV 1 lo W.heap.size q W vs := dep3_of hdeps 7 (by kernel_rfl)
      obtain ⟨l2, s2, f2⟩ : ∃ vs : List Value, A.tmps.getD 23 undef = .agg vs.toArray ∧ FV 2 lo W.heap.size q W vs := dep3_of hdeps 12 (by kernel_rfl)
      obtain ⟨l3, s3, f3⟩ : ∃ vs : List Value, A.tmps.getD 27 undef = .agg vs.toArray ∧ FV 3 lo W.heap.size q W vs := dep3_of hdeps 16 (by kernel_rfl)
      obtain ⟨l4, s4, f4⟩ : ∃ vs : List Value, A.tmps.getD 32 undef = .agg vs.toArray ∧ FV 4 lo W.heap.size q W vs := dep3_of hdeps 21 (by kernel_rfl)
      obtain ⟨l5, s5, f5⟩ : ∃ vs : List Value, A.tmps.getD 36 undef = .agg vs.toArray ∧ FV 5 lo W.heap.size q W vs := dep3_of hdeps 25 (by kernel_rfl)
      obtain ⟨l6, s6, f6⟩ : ∃ vs : List Value, A.tmps.getD 43 undef = .agg vs.toArray ∧ FV 6 lo W.heap.size q W vs := dep3_of hdeps 32 (by kernel_rfl)
      obtain ⟨l7, s7, f7⟩ : ∃ vs : List Value, A.tmps.getD 48 undef = .agg vs.toArray ∧ FV 7 lo W.heap.size q W vs := dep3_of hdeps 37 (by kernel_rfl)
      obtain ⟨l8, s8, f8⟩ : ∃ vs : List Value, A.tmps.getD 52 undef = .agg vs.toArray ∧ FV 8 lo W.heap.size q W vs := dep3_of hdeps 41 (by kernel_rfl)
      obtain ⟨l9, s9, f9⟩ : ∃ vs : List Value, A.tmps.getD 57 undef = .agg vs.toArray ∧ FV 9 lo W.heap.size q W vs := dep3_of hdeps 46 (by kernel_rfl)
      refine t_value (I := InI lo q) (R := fun W' => KeepBut (fun k => k = lo + 1) W W') (v := .agg (fA (ofTen l0 l1 l2 l3 l4 l5 l6 l7 l8 l9))) hi rfl rfl (y_build10 _ _ _ _ _ _ _ _ _ _ s0 s1 s2 s3 s4 s5 s6 s7 s8 s9 f0.len f1.len f2.len f3.len f4.len f5.len f6.len f7.len f8.len f9.len) (hnx 47 (by decide)) hRR ⟨_, rfl, fun n hn => ?_⟩
      · have hc : n = 0 ∨ n = 1 ∨ n = 2 ∨ n = 3 ∨ n = 4 ∨ n = 5 ∨ n = 6 ∨ n = 7 ∨ n = 8 ∨ n = 9 := by omega
        rcases hc with rfl | rfl | rfl | rfl | rfl | rfl | rfl | rfl | rfl | rfl
        · exact f0
        · exact f1
        · exact f2
        · exact f3
        · exact f4
        · exact f5
        · exact f6
        · exact f7
        · exact f8
        · exact f9
    · obtain rfl := Option.some.inj hi
      obtain ⟨F, s58, hF⟩ : ∃ F, A.tmps.getD 58 undef = .agg (fA F) ∧ FsAt lo q W F := dep3_of hdeps 47 (by kernel_rfl)
      have s2 : A.tmps.getD 2 undef = .pointer (some ⟨lo + 1, 0, none⟩) := hold 2 (by kernel_rfl)
      have hbx := hS.2.1 hN.un
      have hb := setRow_box (cs' := fA F) hbx
      exact t_store (I := InI lo q) (R := fun W' => KeepBut (fun k => k = lo + 1) W W') hi rfl (fA_store _ _ s2 s58 hbx hF) ⟨hS.1.trans hb.2 (fun _ _ e => e), fun h6 => (by rw [listed_at] at h6; cases h6), fun _ => ⟨F, hb.1, fun n hn => (hF n hn).more hb.2⟩⟩ hb.2 trivial
  · intro listed a w8 hall hS8 hsz hdf hold hnew
    obtain ⟨F, hbF, hF⟩ := hS8.2.2 (hall 48 (by decide))
    have s2 : a.tmps.getD 2 undef = .pointer (some ⟨lo + 1, 0, none⟩) := hold 2 (by kernel_rfl)
    have hl : (fE F).length = 40 := fE_len (fun n hn => (hF n hn).len)
    have HBF := hide hbF
    have HF := hide hF
    have HK8 := hide hS8.1
    have HIF : Hid ((Tryz.prog.info? 93).map (·.size) = some (fA F).size) := hide (by show _ = some (fE F).length; rw [hl]; exact infoFlds)
    obtain ⟨tm, df⟩ := a
    have hdf : df = [] := hdf
    subst hdf
    have s2 : tm.getD 2 undef = .pointer (some ⟨lo + 1, 0, none⟩) := s2
    clear hS8 hall hnew hold hsz hbF hF hl
    go_wp2_with fail
    refine bodyPost_ret (v := .agg (fA F)) (results_box Tryz.results42 _ _ (lo + 1) s2 HBF.out Tryz.underlying93 rfl HIF.out) rfl ⟨F, rfl, ?_, ?_⟩
    · have hs := HK8.out.size
      rw [HSZ.out] at hs
      rw [← HLO.out]
      exact ⟨HX.out.keep HK8.out (by omega), hs, HF.out⟩
    · rw [HLO.out] at HK8
      exact HA.out.trans (HK8.out.below HA.out.size (fun k e => by omega))
end
end Go.Proofs.YtoppdelljjapoaaGreat
