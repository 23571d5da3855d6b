/-
  Own texts put together: RpFa. Own work.
-/
import Derived.Test.YtlegliimgjmphaaGreatG15
import Derived.Test.YtlegliimgjmphaaGreatG26
import Derived.Test.YtlegliimgjmphaaGreatG27
namespace Go.Proofs.YtlegliimgjmphaaGreat
section
open Go.RowKit Classical
section
variable {P : Program} {ρ : Operand → Value} {w : World} {dst : Option Tmp} {ty : TypeId} {pos : String} {aft : Array Edge} {gd : Option (Nat × Bool)}
theorem y_nilc (x : Operand) {ad : Addr} (hx : ρ x = .pointer (some ad)) : (execOp ρ ⟨dst, .nilCheck x, ty, pos, aft, gd⟩).run P w = .ok (.value (.pointer (some ad))) w := by simp [execOp, hx]
theorem y_callV (g : Operand) (f : FuncId) (cap : Array Value) (xs : Array Operand) (vs : Array Value) (tys : Array TypeId) (hf : ρ g = .func (.func f) #[] cap) (hv : xs.map ρ = vs) (he : ∀ args w, (callFunc f args).run P w = .ok (.enter f args) w) : (execOp ρ ⟨dst, .call { callee := .value g, args := xs, argTypes := tys }, ty, pos, aft, gd⟩).run P w = .ok (.enter f (vs ++ cap)) w := by
 subst hv
 simp [go_sem, hf, he]
theorem y_storeMid (t : TypeId) (x y : Operand) {p o : Nat} {v : Value} {cs cs' : Array Value} {t0 : TypeId} (hx : ρ x = .pointer (some ⟨p, o, none⟩)) (hy : ρ y = v) (hb : Box w p cs t0) (hcs : cs' = (cs.toList.take o ++ v.cells.toList ++ cs.toList.drop (o + v.cells.toList.length)).toArray) (hsz : decide (o + v.cells.toList.length ≤ cs.size) = true) (hi : (P.info? t).map (·.size) = some v.cells.size) (h1 : v.cells.toList.all (·.oneCell') = true) :
  (execOp ρ ⟨dst, .store t x y, ty, pos, aft, gd⟩).run P w = .ok .skip (w.setRow p cs') := by
 have hr : (storeVar t ⟨p, o, none⟩ v).run P w = .ok () (w.setRow p cs') := by
  cases hq : P.info? t with
  | none => simp [hq] at hi
  | some i =>
   have hs : v.cells.size = i.size := by simp [hq] at hi; omega
   have h0 := run_storeCells_at (P := P) p o t0 v.cells.toList 0 cs w hb (by simpa using hsz) (List.all_eq_true.1 h1)
   simp only [Nat.add_zero] at h0
   rw [← hcs] at h0
   simp [storeVar, sizeOf, typeInfo, hq, hs, h0]
 unfold execOp
 simp only [hx, hy, Instr.storeAt, Instr.sureAddr, Sem.run_bind, Sem.run_pure, Result.andThen_ok, hr]
theorem y_cell_recp (x : Operand) {q o : Nat} {v : Value} (hx : ρ x = .pointer (some ⟨q, o, none⟩)) (h : w.cell? ⟨q, o, none⟩ = some v) : (execOp ρ ⟨dst, .load 133 x, ty, pos, aft, gd⟩).run Tryz.prog w = .ok (.value v) w := by simp [go_sem, hx, h]
theorem y_cell_fp_tx (x : Operand) {q o : Nat} {v : Value} (hx : ρ x = .pointer (some ⟨q, o, none⟩)) (h : w.cell? ⟨q, o, none⟩ = some v) : (execOp ρ ⟨dst, .load 179 x, ty, pos, aft, gd⟩).run Tryz.prog w = .ok (.value v) w := by simp [go_sem, hx, h]
theorem y_cell_fm_tx (x : Operand) {q o : Nat} {v : Value} (hx : ρ x = .pointer (some ⟨q, o, none⟩)) (h : w.cell? ⟨q, o, none⟩ = some v) : (execOp ρ ⟨dst, .load 180 x, ty, pos, aft, gd⟩).run Tryz.prog w = .ok (.value v) w := by simp [go_sem, hx, h]
theorem y_cell_fw_tx (x : Operand) {q o : Nat} {v : Value} (hx : ρ x = .pointer (some ⟨q, o, none⟩)) (h : w.cell? ⟨q, o, none⟩ = some v) : (execOp ρ ⟨dst, .load 181 x, ty, pos, aft, gd⟩).run Tryz.prog w = .ok (.value v) w := by simp [go_sem, hx, h]
theorem y_cell_fg_tx (x : Operand) {q o : Nat} {v : Value} (hx : ρ x = .pointer (some ⟨q, o, none⟩)) (h : w.cell? ⟨q, o, none⟩ = some v) : (execOp ρ ⟨dst, .load 182 x, ty, pos, aft, gd⟩).run Tryz.prog w = .ok (.value v) w := by simp [go_sem, hx, h]
theorem y_cell_fp_u32 (x : Operand) {q o : Nat} {v : Value} (hx : ρ x = .pointer (some ⟨q, o, none⟩)) (h : w.cell? ⟨q, o, none⟩ = some v) : (execOp ρ ⟨dst, .load 174 x, ty, pos, aft, gd⟩).run Tryz.prog w = .ok (.value v) w := by simp [go_sem, hx, h]
theorem y_cell_fm_u32 (x : Operand) {q o : Nat} {v : Value} (hx : ρ x = .pointer (some ⟨q, o, none⟩)) (h : w.cell? ⟨q, o, none⟩ = some v) : (execOp ρ ⟨dst, .load 175 x, ty, pos, aft, gd⟩).run Tryz.prog w = .ok (.value v) w := by simp [go_sem, hx, h]
theorem y_cell_fw_u32 (x : Operand) {q o : Nat} {v : Value} (hx : ρ x = .pointer (some ⟨q, o, none⟩)) (h : w.cell? ⟨q, o, none⟩ = some v) : (execOp ρ ⟨dst, .load 176 x, ty, pos, aft, gd⟩).run Tryz.prog w = .ok (.value v) w := by simp [go_sem, hx, h]
theorem y_cell_fg_u32 (x : Operand) {q o : Nat} {v : Value} (hx : ρ x = .pointer (some ⟨q, o, none⟩)) (h : w.cell? ⟨q, o, none⟩ = some v) : (execOp ρ ⟨dst, .load 177 x, ty, pos, aft, gd⟩).run Tryz.prog w = .ok (.value v) w := by simp [go_sem, hx, h]
theorem y_cell_fp_reg (x : Operand) {q o : Nat} {v : Value} (hx : ρ x = .pointer (some ⟨q, o, none⟩)) (h : w.cell? ⟨q, o, none⟩ = some v) : (execOp ρ ⟨dst, .load 184 x, ty, pos, aft, gd⟩).run Tryz.prog w = .ok (.value v) w := by simp [go_sem, hx, h]
theorem y_cell_fm_reg (x : Operand) {q o : Nat} {v : Value} (hx : ρ x = .pointer (some ⟨q, o, none⟩)) (h : w.cell? ⟨q, o, none⟩ = some v) : (execOp ρ ⟨dst, .load 185 x, ty, pos, aft, gd⟩).run Tryz.prog w = .ok (.value v) w := by simp [go_sem, hx, h]
theorem y_cell_fw_reg (x : Operand) {q o : Nat} {v : Value} (hx : ρ x = .pointer (some ⟨q, o, none⟩)) (h : w.cell? ⟨q, o, none⟩ = some v) : (execOp ρ ⟨dst, .load 186 x, ty, pos, aft, gd⟩).run Tryz.prog w = .ok (.value v) w := by simp [go_sem, hx, h]
theorem y_cell_fg_reg (x : Operand) {q o : Nat} {v : Value} (hx : ρ x = .pointer (some ⟨q, o, none⟩)) (h : w.cell? ⟨q, o, none⟩ = some v) : (execOp ρ ⟨dst, .load 187 x, ty, pos, aft, gd⟩).run Tryz.prog w = .ok (.value v) w := by simp [go_sem, hx, h]
theorem y_cell_fp_key (x : Operand) {q o : Nat} {v : Value} (hx : ρ x = .pointer (some ⟨q, o, none⟩)) (h : w.cell? ⟨q, o, none⟩ = some v) : (execOp ρ ⟨dst, .load 196 x, ty, pos, aft, gd⟩).run Tryz.prog w = .ok (.value v) w := by simp [go_sem, hx, h]
theorem y_cell_fm_key (x : Operand) {q o : Nat} {v : Value} (hx : ρ x = .pointer (some ⟨q, o, none⟩)) (h : w.cell? ⟨q, o, none⟩ = some v) : (execOp ρ ⟨dst, .load 197 x, ty, pos, aft, gd⟩).run Tryz.prog w = .ok (.value v) w := by simp [go_sem, hx, h]
theorem y_cell_fw_key (x : Operand) {q o : Nat} {v : Value} (hx : ρ x = .pointer (some ⟨q, o, none⟩)) (h : w.cell? ⟨q, o, none⟩ = some v) : (execOp ρ ⟨dst, .load 198 x, ty, pos, aft, gd⟩).run Tryz.prog w = .ok (.value v) w := by simp [go_sem, hx, h]
theorem y_cell_fg_key (x : Operand) {q o : Nat} {v : Value} (hx : ρ x = .pointer (some ⟨q, o, none⟩)) (h : w.cell? ⟨q, o, none⟩ = some v) : (execOp ρ ⟨dst, .load 200 x, ty, pos, aft, gd⟩).run Tryz.prog w = .ok (.value v) w := by simp [go_sem, hx, h]
theorem y_cell_fp_u64 (x : Operand) {q o : Nat} {v : Value} (hx : ρ x = .pointer (some ⟨q, o, none⟩)) (h : w.cell? ⟨q, o, none⟩ = some v) : (execOp ρ ⟨dst, .load 189 x, ty, pos, aft, gd⟩).run Tryz.prog w = .ok (.value v) w := by simp [go_sem, hx, h]
theorem y_cell_fm_u64 (x : Operand) {q o : Nat} {v : Value} (hx : ρ x = .pointer (some ⟨q, o, none⟩)) (h : w.cell? ⟨q, o, none⟩ = some v) : (execOp ρ ⟨dst, .load 190 x, ty, pos, aft, gd⟩).run Tryz.prog w = .ok (.value v) w := by simp [go_sem, hx, h]
theorem y_cell_fw_u64 (x : Operand) {q o : Nat} {v : Value} (hx : ρ x = .pointer (some ⟨q, o, none⟩)) (h : w.cell? ⟨q, o, none⟩ = some v) : (execOp ρ ⟨dst, .load 191 x, ty, pos, aft, gd⟩).run Tryz.prog w = .ok (.value v) w := by simp [go_sem, hx, h]
theorem y_cell_fg_u64 (x : Operand) {q o : Nat} {v : Value} (hx : ρ x = .pointer (some ⟨q, o, none⟩)) (h : w.cell? ⟨q, o, none⟩ = some v) : (execOp ρ ⟨dst, .load 193 x, ty, pos, aft, gd⟩).run Tryz.prog w = .ok (.value v) w := by simp [go_sem, hx, h]
theorem y_cell_fp_item (x : Operand) {q o : Nat} {v : Value} (hx : ρ x = .pointer (some ⟨q, o, none⟩)) (h : w.cell? ⟨q, o, none⟩ = some v) : (execOp ρ ⟨dst, .load 202 x, ty, pos, aft, gd⟩).run Tryz.prog w = .ok (.value v) w := by simp [go_sem, hx, h]
theorem y_cell_fm_item (x : Operand) {q o : Nat} {v : Value} (hx : ρ x = .pointer (some ⟨q, o, none⟩)) (h : w.cell? ⟨q, o, none⟩ = some v) : (execOp ρ ⟨dst, .load 203 x, ty, pos, aft, gd⟩).run Tryz.prog w = .ok (.value v) w := by simp [go_sem, hx, h]
theorem y_cell_fw_item (x : Operand) {q o : Nat} {v : Value} (hx : ρ x = .pointer (some ⟨q, o, none⟩)) (h : w.cell? ⟨q, o, none⟩ = some v) : (execOp ρ ⟨dst, .load 204 x, ty, pos, aft, gd⟩).run Tryz.prog w = .ok (.value v) w := by simp [go_sem, hx, h]
theorem y_cell_fg_item (x : Operand) {q o : Nat} {v : Value} (hx : ρ x = .pointer (some ⟨q, o, none⟩)) (h : w.cell? ⟨q, o, none⟩ = some v) : (execOp ρ ⟨dst, .load 205 x, ty, pos, aft, gd⟩).run Tryz.prog w = .ok (.value v) w := by simp [go_sem, hx, h]
end
theorem infoU32k : (Tryz.prog.info? 72).map (·.size) = some 1 := by kernel_rfl
theorem infoU64k : (Tryz.prog.info? 77).map (·.size) = some 1 := by kernel_rfl
def midC (cs : Array Value) (o : Nat) (xs : List Value) : Array Value := (cs.toList.take o ++ xs ++ cs.toList.drop (o + xs.length)).toArray
theorem setRow_box {w : World} {p : Nat} {cs cs' : Array Value} {t0 : TypeId} (hb : Box w p cs t0) : Box (w.setRow p cs') p cs' t0 ∧ KeepBut (fun k => k = p) w (w.setRow p cs') :=
 ⟨setRow_heap w p cs cs' t0 (0, 0) hb, ⟨rfl, rfl, rfl, by simp [World.setRow], fun k _ hS => setRow_other w p k cs' hS⟩⟩
theorem range_belowF {w w' : World} {b o : Nat} {cs : List Value} (h : w.rangeAt b o cs) (hb : b < w.heap.size) (hB : Below w.heap.size w w') : w'.rangeAt b o cs := range_below h hb hB
def SPut (w : World) (R : World → Prop) (listed : Array Bool) (W : World) : Prop := (listed.getD 5 true = false → W = w.drew) ∧ (listed.getD 5 true = true → R W)
theorem SPut.next {w W : World} {R : World → Prop} {listed : Array Bool} {i : Nat} (h : SPut w R listed W) (hi : i ≠ 5) : SPut w R (listed.setIfInBounds i true) W := by
 unfold SPut at *
 rw [listed_ne hi]
 exact h
def SGet (w : World) (R F : World → Prop) (listed : Array Bool) (W : World) : Prop := (listed.getD 5 true = false → (listed.getD 3 true = false → W = w.drew) ∧ (listed.getD 3 true = true → R W)) ∧ (listed.getD 5 true = true → F W)
theorem SGet.next {w W : World} {R F : World → Prop} {listed : Array Bool} {i : Nat} (h : SGet w R F listed W) (hi : i ≠ 5) (hi3 : i ≠ 3) : SGet w R F (listed.setIfInBounds i true) W := by
 unfold SGet at *
 rw [listed_ne hi, listed_ne hi3]
 exact h
set_option maxRecDepth 100000 in
theorem fa1_tx (ba bz q off : Nat) (cs : List Value) (b : Bool) (w : World) (h1 : w.cell? ⟨ba, 0, none⟩ = some (.pointer (some ⟨q, off, none⟩))) (h2 : Box w bz ((txE (0, 0, 0)).toArray) 74) (h3 : w.rangeAt q off cs) (hl : cs.length = 3) (ha : ba < w.heap.size) (hq : q < w.heap.size)
  (heq : ∀ W, (binOp .eql 74 (.agg cs.toArray) (.agg ((txE (0, 0, 0)).toArray))).run Tryz.prog W = .ok (.bool b) W) :
  Calls Tryz.prog 170 #[.pointer (some ⟨ba, 0, none⟩), .pointer (some ⟨bz, 0, none⟩)] w fun e w' => e = .returned (.bool b) ∧ Below w.heap.size w w' := by
 have H1 := hide h1
 have H2 := hide h2
 have H3 := hide h3
 have HA := hide ha
 have HQ := hide hq
 have HE := hide heq
 have HL := hide hl
 clear h1 h2 h3 ha hq heq hl
 go_enter Tryz.func170, Tryz.ntmps170
 go_wp2_with fail
 refine wp_region_vals (by kernel_rfl) [(3, .pointer (some ⟨q, off, none⟩)), (4, .pointer (some ⟨q, off, none⟩)), (5, .agg cs.toArray), (6, .agg ((txE (0, 0, 0)).toArray)), (7, .bool b), (2, .bool b)] (by kernel_rfl) rfl ?_ ?_
 ·intro i o hi A w1 hB hold hdeps
  have hlt : i < 6 := (Array.getElem?_eq_some_iff.1 hi).1
  have hc : i = 0 ∨ i = 1 ∨ i = 2 ∨ i = 3 ∨ i = 4 ∨ i = 5 := by omega
  clear hlt
  rcases hc with rfl | rfl | rfl | rfl | rfl | rfl
  ·obtain rfl := Option.some.inj hi
   have s0 : A.tmps.getD 0 undef = .pointer (some ⟨ba, 0, none⟩) := hold 0 (by kernel_rfl)
   exact r_pure hi rfl rfl (y_cell_fp_tx _ s0 ((hB.cell (p := ⟨ba, 0, none⟩) HA.out).trans H1.out))
  ·obtain rfl := Option.some.inj hi
   have s3 : A.tmps.getD 3 undef = .pointer (some ⟨q, off, none⟩) := dep_of hdeps 0 (by kernel_rfl)
   exact r_pure hi rfl rfl (y_nilc _ s3)
  ·obtain rfl := Option.some.inj hi
   have s4 : A.tmps.getD 4 undef = .pointer (some ⟨q, off, none⟩) := dep_of hdeps 1 (by kernel_rfl)
   exact r_pure hi rfl rfl (y_loadMid _ _ s4 (range_belowF H3.out HQ.out hB) Tryz.underlying74 rfl (by rw [HL.out]; exact infoTx10))
  ·obtain rfl := Option.some.inj hi
   have s1 : A.tmps.getD 1 undef = .pointer (some ⟨bz, 0, none⟩) := hold 1 (by kernel_rfl)
   exact r_pure hi rfl rfl (y_load _ _ s1 (H2.out.belowI hB) Tryz.underlying74 rfl infoTx10)
  ·obtain rfl := Option.some.inj hi
   have s5 : A.tmps.getD 5 undef = .agg cs.toArray := dep_of hdeps 2 (by kernel_rfl)
   have s6 : A.tmps.getD 6 undef = .agg ((txE (0, 0, 0)).toArray) := dep_of hdeps 3 (by kernel_rfl)
   exact r_pure hi rfl rfl (y_bin _ _ _ _ _ s5 s6 (HE.out w1) (by kernel_rfl))
  ·obtain rfl := Option.some.inj hi
   have s7 : A.tmps.getD 7 undef = .bool b := dep_of hdeps 4 (by kernel_rfl)
   exact r_pure hi rfl rfl (y_assign _ s7)
 ·intro w8 hB8
  simp only [putAll, Act.put, List.setIfInBounds_toArray, List.set_cons_succ, List.set_cons_zero]
  have HB8 := hide hB8
  clear hB8 H1 H2 H3 HE
  go_wp2_with fail
  go_ret
  exact ⟨rfl, HB8.out⟩
set_option maxRecDepth 100000 in
theorem fa2_tx (bm ba q off : Nat) (cs : List Value) (fid : FuncId) (cap : Array Value) (b : Bool) (w : World) (h0 : w.cell? ⟨bm, 0, none⟩ = some (.func (.func fid) #[] cap)) (h1 : w.cell? ⟨ba, 0, none⟩ = some (.pointer (some ⟨q, off, none⟩))) (h3 : w.rangeAt q off cs) (hl : cs.length = 3) (hm : bm < w.heap.size) (ha : ba < w.heap.size) (hq : q < w.heap.size)
  (hf : ∀ args W, (callFunc fid args).run Tryz.prog W = .ok (.enter fid args) W) (hC : ∀ W, Below w.heap.size w W → Calls Tryz.prog fid (#[.agg cs.toArray] ++ cap) W fun e w' => e = .returned (.bool b) ∧ Below W.heap.size W w') :
  Calls Tryz.prog 171 #[.pointer (some ⟨bm, 0, none⟩), .pointer (some ⟨ba, 0, none⟩)] w fun e w' => e = .returned (.bool b) ∧ Below w.heap.size w w' := by
 have H0 := hide h0
 have H1 := hide h1
 have H3 := hide h3
 have HM := hide hm
 have HA := hide ha
 have HQ := hide hq
 have HF := hide hf
 have C := hide hC
 have HL := hide hl
 clear h0 h1 h3 hm ha hq hf hC hl
 go_enter Tryz.func171, Tryz.ntmps171
 go_wp2_with fail
 refine wp_region_vals (by kernel_rfl) [(3, .func (.func fid) #[] cap), (4, .pointer (some ⟨q, off, none⟩)), (5, .pointer (some ⟨q, off, none⟩)), (6, .agg cs.toArray), (7, .bool b), (2, .bool b)] (by kernel_rfl) rfl ?_ ?_
 ·intro i o hi A w1 hB hold hdeps
  have hlt : i < 6 := (Array.getElem?_eq_some_iff.1 hi).1
  have hc : i = 0 ∨ i = 1 ∨ i = 2 ∨ i = 3 ∨ i = 4 ∨ i = 5 := by omega
  clear hlt
  rcases hc with rfl | rfl | rfl | rfl | rfl | rfl
  ·obtain rfl := Option.some.inj hi
   have s0 : A.tmps.getD 0 undef = .pointer (some ⟨bm, 0, none⟩) := hold 0 (by kernel_rfl)
   exact r_pure hi rfl rfl (y_cell_fm_tx _ s0 ((hB.cell (p := ⟨bm, 0, none⟩) HM.out).trans H0.out))
  ·obtain rfl := Option.some.inj hi
   have s1 : A.tmps.getD 1 undef = .pointer (some ⟨ba, 0, none⟩) := hold 1 (by kernel_rfl)
   exact r_pure hi rfl rfl (y_cell_fp_tx _ s1 ((hB.cell (p := ⟨ba, 0, none⟩) HA.out).trans H1.out))
  ·obtain rfl := Option.some.inj hi
   have s4 : A.tmps.getD 4 undef = .pointer (some ⟨q, off, none⟩) := dep_of hdeps 1 (by kernel_rfl)
   exact r_pure hi rfl rfl (y_nilc _ s4)
  ·obtain rfl := Option.some.inj hi
   have s5 : A.tmps.getD 5 undef = .pointer (some ⟨q, off, none⟩) := dep_of hdeps 2 (by kernel_rfl)
   exact r_pure hi rfl rfl (y_loadMid _ _ s5 (range_belowF H3.out HQ.out hB) Tryz.underlying74 rfl (by rw [HL.out]; exact infoTx10))
  ·obtain rfl := Option.some.inj hi
   have s3 : A.tmps.getD 3 undef = .func (.func fid) #[] cap := dep_of hdeps 0 (by kernel_rfl)
   have s6 : A.tmps.getD 6 undef = .agg cs.toArray := dep_of hdeps 3 (by kernel_rfl)
   exact r_enter hi rfl rfl (y_callV _ fid cap _ #[.agg cs.toArray] _ s3 (by simp only [List.map_toArray, List.map_cons, List.map_nil, show A.eval (.tmp 6) = .agg cs.toArray from s6]) HF.out) (C.out w1 hB)
  ·obtain rfl := Option.some.inj hi
   have s7 : A.tmps.getD 7 undef = .bool b := dep_of hdeps 4 (by kernel_rfl)
   exact r_pure hi rfl rfl (y_assign _ s7)
 ·intro w8 hB8
  simp only [putAll, Act.put, List.setIfInBounds_toArray, List.set_cons_succ, List.set_cons_zero]
  have HB8 := hide hB8
  clear hB8 H0 H1 H3 HF C
  go_wp2_with fail
  go_ret
  exact ⟨rfl, HB8.out⟩
set_option maxRecDepth 100000 in
theorem fa3_tx (pw bp ba q off : Nat) (cs : List Value) (fid : FuncId) (cap : Array Value) (R : World → Prop) (w : World) (h0 : w.cell? ⟨bp, 0, none⟩ = some (.func (.func fid) #[] cap)) (h1 : w.cell? ⟨ba, 0, none⟩ = some (.pointer (some ⟨q, off, none⟩))) (h3 : w.rangeAt q off cs) (hl : cs.length = 3) (hm : bp < w.heap.size) (ha : ba < w.heap.size) (hq : q < w.heap.size)
  (hf : ∀ args W, (callFunc fid args).run Tryz.prog W = .ok (.enter fid args) W) (hC : ∀ W, Below w.heap.size w W → Calls Tryz.prog fid (#[.pointer (some ⟨pw, 0, none⟩), .agg cs.toArray] ++ cap) W fun e w' => e = .returned (.tuple #[]) ∧ R w') :
  Calls Tryz.prog 172 #[.pointer (some ⟨pw, 0, none⟩), .pointer (some ⟨bp, 0, none⟩), .pointer (some ⟨ba, 0, none⟩)] w fun e w' => e = .returned (.tuple #[]) ∧ R w' := by
 have H0 := hide h0
 have H1 := hide h1
 have H3 := hide h3
 have HM := hide hm
 have HA := hide ha
 have HQ := hide hq
 have HF := hide hf
 have C := hide hC
 have hBD : Hid (Below w.heap.size w w.drew) := hide (Below.refl _ _).drew
 have HL := hide hl
 clear h0 h1 h3 hm ha hq hf hC hl
 go_enter Tryz.func172, Tryz.ntmps172
 go_wp2_with fail
 refine wp_region_vals3 (by kernel_rfl) [(some 4, .func (.func fid) #[] cap), (some 5, .pointer (some ⟨pw, 0, none⟩)), (some 6, .pointer (some ⟨q, off, none⟩)), (some 7, .pointer (some ⟨q, off, none⟩)), (some 8, .agg cs.toArray), (some 9, .tuple #[])] [(4, .func (.func fid) #[] cap), (5, .pointer (some ⟨pw, 0, none⟩)), (6, .pointer (some ⟨q, off, none⟩)), (7, .pointer (some ⟨q, off, none⟩)), (8, .agg cs.toArray), (9, .tuple #[])] (SPut w R) (by kernel_rfl) rfl rfl ⟨fun _ => rfl, fun h => by cases h⟩ ?_ ?_
 ·intro i o hi listed A W hsz hN hS hold hdeps
  have hlt : i < 6 := (Array.getElem?_eq_some_iff.1 hi).1
  have hc : i = 0 ∨ i = 1 ∨ i = 2 ∨ i = 3 ∨ i = 4 ∨ i = 5 := by omega
  clear hlt
  rcases hc with rfl | rfl | rfl | rfl | rfl | rfl
  ·obtain rfl := Option.some.inj hi
   have hd := hS.1 (unlisted_of hN.un hN.cl 5 5 (by kernel_rfl))
   subst hd
   have s1 : A.tmps.getD 1 undef = .pointer (some ⟨bp, 0, none⟩) := hold 1 (by kernel_rfl)
   exact o_pure hi rfl rfl rfl (y_cell_fw_tx _ s1 ((hBD.out.cell (p := ⟨bp, 0, none⟩) HM.out).trans H0.out)) (hS.next (by decide))
  ·obtain rfl := Option.some.inj hi
   have s0 : A.tmps.getD 0 undef = .pointer (some ⟨pw, 0, none⟩) := hold 0 (by kernel_rfl)
   exact o_pure hi rfl rfl rfl (y_move _ s0) (hS.next (by decide))
  ·obtain rfl := Option.some.inj hi
   have hd := hS.1 (unlisted_of hN.un hN.cl 5 5 (by kernel_rfl))
   subst hd
   have s2 : A.tmps.getD 2 undef = .pointer (some ⟨ba, 0, none⟩) := hold 2 (by kernel_rfl)
   exact o_pure hi rfl rfl rfl (y_cell_fp_tx _ s2 ((hBD.out.cell (p := ⟨ba, 0, none⟩) HA.out).trans H1.out)) (hS.next (by decide))
  ·obtain rfl := Option.some.inj hi
   have s6 : A.tmps.getD 6 undef = .pointer (some ⟨q, off, none⟩) := slot_of hdeps 2 rfl (by kernel_rfl)
   exact o_pure hi rfl rfl rfl (y_nilc _ s6) (hS.next (by decide))
  ·obtain rfl := Option.some.inj hi
   have hd := hS.1 (unlisted_of hN.un hN.cl 5 5 (by kernel_rfl))
   subst hd
   have s7 : A.tmps.getD 7 undef = .pointer (some ⟨q, off, none⟩) := slot_of hdeps 3 rfl (by kernel_rfl)
   exact o_pure hi rfl rfl rfl (y_loadMid _ _ s7 (range_belowF H3.out HQ.out hBD.out) Tryz.underlying74 rfl (by rw [HL.out]; exact infoTx10)) (hS.next (by decide))
  ·obtain rfl := Option.some.inj hi
   have hd := hS.1 hN.un
   subst hd
   have s4 : A.tmps.getD 4 undef = .func (.func fid) #[] cap := slot_of hdeps 0 rfl (by kernel_rfl)
   have s5 : A.tmps.getD 5 undef = .pointer (some ⟨pw, 0, none⟩) := slot_of hdeps 1 rfl (by kernel_rfl)
   have s8 : A.tmps.getD 8 undef = .agg cs.toArray := slot_of hdeps 4 rfl (by kernel_rfl)
   exact o_enter hi rfl rfl rfl (y_callV _ fid cap _ #[.pointer (some ⟨pw, 0, none⟩), .agg cs.toArray] _ s4 (by simp only [List.map_toArray, List.map_cons, List.map_nil, show A.eval (.tmp 5) = .pointer (some ⟨pw, 0, none⟩) from s5, show A.eval (.tmp 8) = .agg cs.toArray from s8]) HF.out) ((C.out _ hBD.out).mono fun e w' h => ⟨h.1, ⟨fun h5 => (by rw [listed_at] at h5; cases h5), fun _ => h.2⟩⟩)
 ·intro listed w8 hall hS8
  have HR := hide (hS8.2 (hall 5 (by decide)))
  simp only [putAll, Act.put, List.setIfInBounds_toArray, List.set_cons_succ, List.set_cons_zero]
  clear hS8 hall H0 H1 H3 HF C
  go_wp2_with fail
  go_end0
  exact ⟨rfl, HR.out⟩
set_option maxRecDepth 100000 in
theorem fa4_tx (pr bg ba q off : Nat) (xs : List Value) (cs : Array Value) (t0 : TypeId) (fid : FuncId) (cap : Array Value) (R : World → Prop) (w : World) (h0 : w.cell? ⟨bg, 0, none⟩ = some (.func (.func fid) #[] cap)) (h1 : w.cell? ⟨ba, 0, none⟩ = some (.pointer (some ⟨q, off, none⟩))) (hx : xs.length = 3) (hxo : xs.all (·.oneCell') = true) (hm : bg < w.heap.size) (ha : ba < w.heap.size) (hsz : off + 3 ≤ cs.size)
  (hf : ∀ args W, (callFunc fid args).run Tryz.prog W = .ok (.enter fid args) W) (hC : ∀ W, Below w.heap.size w W → Calls Tryz.prog fid (#[.pointer (some ⟨pr, 0, none⟩)] ++ cap) W fun e w' => e = .returned (.agg xs.toArray) ∧ R w')
  (hG : ∀ W, R W → W.cell? ⟨ba, 0, none⟩ = some (.pointer (some ⟨q, off, none⟩)) ∧ Box W q cs t0) :
  Calls Tryz.prog 173 #[.pointer (some ⟨pr, 0, none⟩), .pointer (some ⟨bg, 0, none⟩), .pointer (some ⟨ba, 0, none⟩)] w fun e w' => e = .returned (.tuple #[]) ∧ ∃ w2, R w2 ∧ Box w' q (midC cs off xs) t0 ∧ KeepBut (fun k => k = q) w2 w' := by
 have H0 := hide h0
 have H1 := hide h1
 have HM := hide hm
 have HA := hide ha
 have HF := hide hf
 have C := hide hC
 have HG := hide hG
 have HSZ := hide hsz
 have HXL := hide hx
 have HXO := hide hxo
 have hBD : Hid (Below w.heap.size w w.drew) := hide (Below.refl _ _).drew
 clear h0 h1 hm ha hf hC hG hsz hx hxo
 go_enter Tryz.func173, Tryz.ntmps173
 go_wp2_with fail
 refine wp_region_vals3 (by kernel_rfl) [(some 4, .pointer (some ⟨q, off, none⟩)), (some 5, .func (.func fid) #[] cap), (some 6, .pointer (some ⟨pr, 0, none⟩)), (some 7, .agg xs.toArray), (some 8, .pointer (some ⟨q, off, none⟩)), (none, undef)] [(4, .pointer (some ⟨q, off, none⟩)), (5, .func (.func fid) #[] cap), (6, .pointer (some ⟨pr, 0, none⟩)), (7, .agg xs.toArray), (8, .pointer (some ⟨q, off, none⟩))] (SGet w R (fun w' => ∃ w2, R w2 ∧ Box w' q (midC cs off xs) t0 ∧ KeepBut (fun k => k = q) w2 w')) (by kernel_rfl) rfl rfl ⟨fun _ => ⟨fun _ => rfl, fun h => by cases h⟩, fun h => by cases h⟩ ?_ ?_
 ·intro i o hi listed A W hsz hN hS hold hdeps
  have hlt : i < 6 := (Array.getElem?_eq_some_iff.1 hi).1
  have hc : i = 0 ∨ i = 1 ∨ i = 2 ∨ i = 3 ∨ i = 4 ∨ i = 5 := by omega
  clear hlt
  rcases hc with rfl | rfl | rfl | rfl | rfl | rfl
  ·obtain rfl := Option.some.inj hi
   have h5 := unlisted_of hN.un hN.cl 5 5 (by kernel_rfl)
   have s2 : A.tmps.getD 2 undef = .pointer (some ⟨ba, 0, none⟩) := hold 2 (by kernel_rfl)
   have hcell : W.cell? ⟨ba, 0, none⟩ = some (.pointer (some ⟨q, off, none⟩)) := by
    cases h3 : listed.getD 3 true with
    | false => rw [(hS.1 h5).1 h3]; exact ((hBD.out.cell (p := ⟨ba, 0, none⟩) HA.out).trans H1.out)
    | true => exact (HG.out W ((hS.1 h5).2 h3)).1
   exact o_pure hi rfl rfl rfl (y_cell_fp_tx _ s2 hcell) (hS.next (by decide) (by decide))
  ·obtain rfl := Option.some.inj hi
   have h5 := unlisted_of hN.un hN.cl 5 5 (by kernel_rfl)
   have hd := (hS.1 h5).1 (unlisted_of hN.un hN.cl 5 3 (by kernel_rfl))
   subst hd
   have s1 : A.tmps.getD 1 undef = .pointer (some ⟨bg, 0, none⟩) := hold 1 (by kernel_rfl)
   exact o_pure hi rfl rfl rfl (y_cell_fg_tx _ s1 ((hBD.out.cell (p := ⟨bg, 0, none⟩) HM.out).trans H0.out)) (hS.next (by decide) (by decide))
  ·obtain rfl := Option.some.inj hi
   have s0 : A.tmps.getD 0 undef = .pointer (some ⟨pr, 0, none⟩) := hold 0 (by kernel_rfl)
   exact o_pure hi rfl rfl rfl (y_move _ s0) (hS.next (by decide) (by decide))
  ·obtain rfl := Option.some.inj hi
   have h5 := unlisted_of hN.un hN.cl 5 5 (by kernel_rfl)
   have hd := (hS.1 h5).1 hN.un
   subst hd
   have s5 : A.tmps.getD 5 undef = .func (.func fid) #[] cap := slot_of hdeps 1 rfl (by kernel_rfl)
   have s6 : A.tmps.getD 6 undef = .pointer (some ⟨pr, 0, none⟩) := slot_of hdeps 2 rfl (by kernel_rfl)
   exact o_enter hi rfl rfl rfl (y_callV _ fid cap _ #[.pointer (some ⟨pr, 0, none⟩)] _ s5 (by simp only [List.map_toArray, List.map_cons, List.map_nil, show A.eval (.tmp 6) = .pointer (some ⟨pr, 0, none⟩) from s6]) HF.out) ((C.out _ hBD.out).mono fun e w' h => ⟨h.1, ⟨fun _ => ⟨fun h3 => (by rw [listed_at] at h3; cases h3), fun _ => h.2⟩, fun h6 => (by rw [listed_ne (by decide), h5] at h6; cases h6)⟩⟩)
  ·obtain rfl := Option.some.inj hi
   have s4 : A.tmps.getD 4 undef = .pointer (some ⟨q, off, none⟩) := slot_of hdeps 0 rfl (by kernel_rfl)
   exact o_pure hi rfl rfl rfl (y_nilc _ s4) (hS.next (by decide) (by decide))
  ·obtain rfl := Option.some.inj hi
   have h3 : R W := (hS.1 hN.un).2 (listed_dep hN 3 (by kernel_rfl))
   have s7 : A.tmps.getD 7 undef = .agg xs.toArray := slot_of hdeps 3 rfl (by kernel_rfl)
   have s8 : A.tmps.getD 8 undef = .pointer (some ⟨q, off, none⟩) := slot_of hdeps 4 rfl (by kernel_rfl)
   have hb := setRow_box (cs' := (midC cs off xs)) (HG.out W h3).2
   exact o_store hi rfl rfl (y_storeMid (cs' := (midC cs off xs)) _ _ _ s8 s7 (HG.out W h3).2 rfl (decide_eq_true (by show off + xs.length ≤ cs.size; rw [HXL.out]; exact HSZ.out)) (by show _ = some xs.length; rw [HXL.out]; exact infoTx10) HXO.out) ⟨fun h6 => (by rw [listed_at] at h6; cases h6), fun _ => ⟨W, h3, hb.1, hb.2⟩⟩
 ·intro listed w8 hall hS8
  have HR := hide (hS8.2 (hall 5 (by decide)))
  simp only [putAll, Act.put, List.setIfInBounds_toArray, List.set_cons_succ, List.set_cons_zero]
  clear hS8 hall H0 H1 HF C HG
  go_wp2_with fail
  go_end0
  exact ⟨rfl, HR.out⟩
set_option maxRecDepth 100000 in
theorem fa1_u32 (ba bz q off : Nat) (x : Int) (b : Bool) (w : World) (h1 : w.cell? ⟨ba, 0, none⟩ = some (.pointer (some ⟨q, off, none⟩))) (h2 : Box w bz #[.int .u32 0] 72) (h3 : w.cell? ⟨q, off, none⟩ = some (.int .u32 x)) (ha : ba < w.heap.size) (hq : q < w.heap.size)
  (heq : ∀ W, (binOp .eql 72 (.int .u32 x) (.int .u32 0)).run Tryz.prog W = .ok (.bool b) W) :
  Calls Tryz.prog 165 #[.pointer (some ⟨ba, 0, none⟩), .pointer (some ⟨bz, 0, none⟩)] w fun e w' => e = .returned (.bool b) ∧ Below w.heap.size w w' := by
 have H1 := hide h1
 have H2 := hide h2
 have H3 := hide h3
 have HA := hide ha
 have HQ := hide hq
 have HE := hide heq
 clear h1 h2 h3 ha hq heq
 go_enter Tryz.func165, Tryz.ntmps165
 go_wp2_with fail
 refine wp_region_vals (by kernel_rfl) [(3, .pointer (some ⟨q, off, none⟩)), (4, .pointer (some ⟨q, off, none⟩)), (5, .int .u32 x), (6, .int .u32 0), (7, .bool b), (2, .bool b)] (by kernel_rfl) rfl ?_ ?_
 ·intro i o hi A w1 hB hold hdeps
  have hlt : i < 6 := (Array.getElem?_eq_some_iff.1 hi).1
  have hc : i = 0 ∨ i = 1 ∨ i = 2 ∨ i = 3 ∨ i = 4 ∨ i = 5 := by omega
  clear hlt
  rcases hc with rfl | rfl | rfl | rfl | rfl | rfl
  ·obtain rfl := Option.some.inj hi
   have s0 : A.tmps.getD 0 undef = .pointer (some ⟨ba, 0, none⟩) := hold 0 (by kernel_rfl)
   exact r_pure hi rfl rfl (y_cell_fp_u32 _ s0 ((hB.cell (p := ⟨ba, 0, none⟩) HA.out).trans H1.out))
  ·obtain rfl := Option.some.inj hi
   have s3 : A.tmps.getD 3 undef = .pointer (some ⟨q, off, none⟩) := dep_of hdeps 0 (by kernel_rfl)
   exact r_pure hi rfl rfl (y_nilc _ s3)
  ·obtain rfl := Option.some.inj hi
   have s4 : A.tmps.getD 4 undef = .pointer (some ⟨q, off, none⟩) := dep_of hdeps 1 (by kernel_rfl)
   exact r_pure hi rfl rfl (y_cell_u32 _ s4 ((hB.cell (p := ⟨q, off, none⟩) HQ.out).trans H3.out))
  ·obtain rfl := Option.some.inj hi
   have s1 : A.tmps.getD 1 undef = .pointer (some ⟨bz, 0, none⟩) := hold 1 (by kernel_rfl)
   exact r_pure hi rfl rfl (y_cell_u32 _ s1 ((H2.out.belowI hB).cell 0 _ rfl))
  ·obtain rfl := Option.some.inj hi
   have s5 : A.tmps.getD 5 undef = .int .u32 x := dep_of hdeps 2 (by kernel_rfl)
   have s6 : A.tmps.getD 6 undef = .int .u32 0 := dep_of hdeps 3 (by kernel_rfl)
   exact r_pure hi rfl rfl (y_bin _ _ _ _ _ s5 s6 (HE.out w1) (by kernel_rfl))
  ·obtain rfl := Option.some.inj hi
   have s7 : A.tmps.getD 7 undef = .bool b := dep_of hdeps 4 (by kernel_rfl)
   exact r_pure hi rfl rfl (y_assign _ s7)
 ·intro w8 hB8
  simp only [putAll, Act.put, List.setIfInBounds_toArray, List.set_cons_succ, List.set_cons_zero]
  have HB8 := hide hB8
  clear hB8 H1 H2 H3 HE
  go_wp2_with fail
  go_ret
  exact ⟨rfl, HB8.out⟩
set_option maxRecDepth 100000 in
theorem fa2_u32 (bm ba q off : Nat) (x : Int) (fid : FuncId) (cap : Array Value) (b : Bool) (w : World) (h0 : w.cell? ⟨bm, 0, none⟩ = some (.func (.func fid) #[] cap)) (h1 : w.cell? ⟨ba, 0, none⟩ = some (.pointer (some ⟨q, off, none⟩))) (h3 : w.cell? ⟨q, off, none⟩ = some (.int .u32 x)) (hm : bm < w.heap.size) (ha : ba < w.heap.size) (hq : q < w.heap.size)
  (hf : ∀ args W, (callFunc fid args).run Tryz.prog W = .ok (.enter fid args) W) (hC : ∀ W, Below w.heap.size w W → Calls Tryz.prog fid (#[.int .u32 x] ++ cap) W fun e w' => e = .returned (.bool b) ∧ Below W.heap.size W w') :
  Calls Tryz.prog 166 #[.pointer (some ⟨bm, 0, none⟩), .pointer (some ⟨ba, 0, none⟩)] w fun e w' => e = .returned (.bool b) ∧ Below w.heap.size w w' := by
 have H0 := hide h0
 have H1 := hide h1
 have H3 := hide h3
 have HM := hide hm
 have HA := hide ha
 have HQ := hide hq
 have HF := hide hf
 have C := hide hC
 clear h0 h1 h3 hm ha hq hf hC
 go_enter Tryz.func166, Tryz.ntmps166
 go_wp2_with fail
 refine wp_region_vals (by kernel_rfl) [(3, .func (.func fid) #[] cap), (4, .pointer (some ⟨q, off, none⟩)), (5, .pointer (some ⟨q, off, none⟩)), (6, .int .u32 x), (7, .bool b), (2, .bool b)] (by kernel_rfl) rfl ?_ ?_
 ·intro i o hi A w1 hB hold hdeps
  have hlt : i < 6 := (Array.getElem?_eq_some_iff.1 hi).1
  have hc : i = 0 ∨ i = 1 ∨ i = 2 ∨ i = 3 ∨ i = 4 ∨ i = 5 := by omega
  clear hlt
  rcases hc with rfl | rfl | rfl | rfl | rfl | rfl
  ·obtain rfl := Option.some.inj hi
   have s0 : A.tmps.getD 0 undef = .pointer (some ⟨bm, 0, none⟩) := hold 0 (by kernel_rfl)
   exact r_pure hi rfl rfl (y_cell_fm_u32 _ s0 ((hB.cell (p := ⟨bm, 0, none⟩) HM.out).trans H0.out))
  ·obtain rfl := Option.some.inj hi
   have s1 : A.tmps.getD 1 undef = .pointer (some ⟨ba, 0, none⟩) := hold 1 (by kernel_rfl)
   exact r_pure hi rfl rfl (y_cell_fp_u32 _ s1 ((hB.cell (p := ⟨ba, 0, none⟩) HA.out).trans H1.out))
  ·obtain rfl := Option.some.inj hi
   have s4 : A.tmps.getD 4 undef = .pointer (some ⟨q, off, none⟩) := dep_of hdeps 1 (by kernel_rfl)
   exact r_pure hi rfl rfl (y_nilc _ s4)
  ·obtain rfl := Option.some.inj hi
   have s5 : A.tmps.getD 5 undef = .pointer (some ⟨q, off, none⟩) := dep_of hdeps 2 (by kernel_rfl)
   exact r_pure hi rfl rfl (y_cell_u32 _ s5 ((hB.cell (p := ⟨q, off, none⟩) HQ.out).trans H3.out))
  ·obtain rfl := Option.some.inj hi
   have s3 : A.tmps.getD 3 undef = .func (.func fid) #[] cap := dep_of hdeps 0 (by kernel_rfl)
   have s6 : A.tmps.getD 6 undef = .int .u32 x := dep_of hdeps 3 (by kernel_rfl)
   exact r_enter hi rfl rfl (y_callV _ fid cap _ #[.int .u32 x] _ s3 (by simp only [List.map_toArray, List.map_cons, List.map_nil, show A.eval (.tmp 6) = .int .u32 x from s6]) HF.out) (C.out w1 hB)
  ·obtain rfl := Option.some.inj hi
   have s7 : A.tmps.getD 7 undef = .bool b := dep_of hdeps 4 (by kernel_rfl)
   exact r_pure hi rfl rfl (y_assign _ s7)
 ·intro w8 hB8
  simp only [putAll, Act.put, List.setIfInBounds_toArray, List.set_cons_succ, List.set_cons_zero]
  have HB8 := hide hB8
  clear hB8 H0 H1 H3 HF C
  go_wp2_with fail
  go_ret
  exact ⟨rfl, HB8.out⟩
set_option maxRecDepth 100000 in
theorem fa3_u32 (pw bp ba q off : Nat) (x : Int) (fid : FuncId) (cap : Array Value) (R : World → Prop) (w : World) (h0 : w.cell? ⟨bp, 0, none⟩ = some (.func (.func fid) #[] cap)) (h1 : w.cell? ⟨ba, 0, none⟩ = some (.pointer (some ⟨q, off, none⟩))) (h3 : w.cell? ⟨q, off, none⟩ = some (.int .u32 x)) (hm : bp < w.heap.size) (ha : ba < w.heap.size) (hq : q < w.heap.size)
  (hf : ∀ args W, (callFunc fid args).run Tryz.prog W = .ok (.enter fid args) W) (hC : ∀ W, Below w.heap.size w W → Calls Tryz.prog fid (#[.pointer (some ⟨pw, 0, none⟩), .int .u32 x] ++ cap) W fun e w' => e = .returned (.tuple #[]) ∧ R w') :
  Calls Tryz.prog 167 #[.pointer (some ⟨pw, 0, none⟩), .pointer (some ⟨bp, 0, none⟩), .pointer (some ⟨ba, 0, none⟩)] w fun e w' => e = .returned (.tuple #[]) ∧ R w' := by
 have H0 := hide h0
 have H1 := hide h1
 have H3 := hide h3
 have HM := hide hm
 have HA := hide ha
 have HQ := hide hq
 have HF := hide hf
 have C := hide hC
 have hBD : Hid (Below w.heap.size w w.drew) := hide (Below.refl _ _).drew
 clear h0 h1 h3 hm ha hq hf hC
 go_enter Tryz.func167, Tryz.ntmps167
 go_wp2_with fail
 refine wp_region_vals3 (by kernel_rfl) [(some 4, .func (.func fid) #[] cap), (some 5, .pointer (some ⟨pw, 0, none⟩)), (some 6, .pointer (some ⟨q, off, none⟩)), (some 7, .pointer (some ⟨q, off, none⟩)), (some 8, .int .u32 x), (some 9, .tuple #[])] [(4, .func (.func fid) #[] cap), (5, .pointer (some ⟨pw, 0, none⟩)), (6, .pointer (some ⟨q, off, none⟩)), (7, .pointer (some ⟨q, off, none⟩)), (8, .int .u32 x), (9, .tuple #[])] (SPut w R) (by kernel_rfl) rfl rfl ⟨fun _ => rfl, fun h => by cases h⟩ ?_ ?_
 ·intro i o hi listed A W hsz hN hS hold hdeps
  have hlt : i < 6 := (Array.getElem?_eq_some_iff.1 hi).1
  have hc : i = 0 ∨ i = 1 ∨ i = 2 ∨ i = 3 ∨ i = 4 ∨ i = 5 := by omega
  clear hlt
  rcases hc with rfl | rfl | rfl | rfl | rfl | rfl
  ·obtain rfl := Option.some.inj hi
   have hd := hS.1 (unlisted_of hN.un hN.cl 5 5 (by kernel_rfl))
   subst hd
   have s1 : A.tmps.getD 1 undef = .pointer (some ⟨bp, 0, none⟩) := hold 1 (by kernel_rfl)
   exact o_pure hi rfl rfl rfl (y_cell_fw_u32 _ s1 ((hBD.out.cell (p := ⟨bp, 0, none⟩) HM.out).trans H0.out)) (hS.next (by decide))
  ·obtain rfl := Option.some.inj hi
   have s0 : A.tmps.getD 0 undef = .pointer (some ⟨pw, 0, none⟩) := hold 0 (by kernel_rfl)
   exact o_pure hi rfl rfl rfl (y_move _ s0) (hS.next (by decide))
  ·obtain rfl := Option.some.inj hi
   have hd := hS.1 (unlisted_of hN.un hN.cl 5 5 (by kernel_rfl))
   subst hd
   have s2 : A.tmps.getD 2 undef = .pointer (some ⟨ba, 0, none⟩) := hold 2 (by kernel_rfl)
   exact o_pure hi rfl rfl rfl (y_cell_fp_u32 _ s2 ((hBD.out.cell (p := ⟨ba, 0, none⟩) HA.out).trans H1.out)) (hS.next (by decide))
  ·obtain rfl := Option.some.inj hi
   have s6 : A.tmps.getD 6 undef = .pointer (some ⟨q, off, none⟩) := slot_of hdeps 2 rfl (by kernel_rfl)
   exact o_pure hi rfl rfl rfl (y_nilc _ s6) (hS.next (by decide))
  ·obtain rfl := Option.some.inj hi
   have hd := hS.1 (unlisted_of hN.un hN.cl 5 5 (by kernel_rfl))
   subst hd
   have s7 : A.tmps.getD 7 undef = .pointer (some ⟨q, off, none⟩) := slot_of hdeps 3 rfl (by kernel_rfl)
   exact o_pure hi rfl rfl rfl (y_cell_u32 _ s7 ((hBD.out.cell (p := ⟨q, off, none⟩) HQ.out).trans H3.out)) (hS.next (by decide))
  ·obtain rfl := Option.some.inj hi
   have hd := hS.1 hN.un
   subst hd
   have s4 : A.tmps.getD 4 undef = .func (.func fid) #[] cap := slot_of hdeps 0 rfl (by kernel_rfl)
   have s5 : A.tmps.getD 5 undef = .pointer (some ⟨pw, 0, none⟩) := slot_of hdeps 1 rfl (by kernel_rfl)
   have s8 : A.tmps.getD 8 undef = .int .u32 x := slot_of hdeps 4 rfl (by kernel_rfl)
   exact o_enter hi rfl rfl rfl (y_callV _ fid cap _ #[.pointer (some ⟨pw, 0, none⟩), .int .u32 x] _ s4 (by simp only [List.map_toArray, List.map_cons, List.map_nil, show A.eval (.tmp 5) = .pointer (some ⟨pw, 0, none⟩) from s5, show A.eval (.tmp 8) = .int .u32 x from s8]) HF.out) ((C.out _ hBD.out).mono fun e w' h => ⟨h.1, ⟨fun h5 => (by rw [listed_at] at h5; cases h5), fun _ => h.2⟩⟩)
 ·intro listed w8 hall hS8
  have HR := hide (hS8.2 (hall 5 (by decide)))
  simp only [putAll, Act.put, List.setIfInBounds_toArray, List.set_cons_succ, List.set_cons_zero]
  clear hS8 hall H0 H1 H3 HF C
  go_wp2_with fail
  go_end0
  exact ⟨rfl, HR.out⟩
set_option maxRecDepth 100000 in
theorem fa4_u32 (pr bg ba q off : Nat) (x : Int) (cs : Array Value) (t0 : TypeId) (fid : FuncId) (cap : Array Value) (R : World → Prop) (w : World) (h0 : w.cell? ⟨bg, 0, none⟩ = some (.func (.func fid) #[] cap)) (h1 : w.cell? ⟨ba, 0, none⟩ = some (.pointer (some ⟨q, off, none⟩))) (hm : bg < w.heap.size) (ha : ba < w.heap.size) (hsz : off + 1 ≤ cs.size)
  (hf : ∀ args W, (callFunc fid args).run Tryz.prog W = .ok (.enter fid args) W) (hC : ∀ W, Below w.heap.size w W → Calls Tryz.prog fid (#[.pointer (some ⟨pr, 0, none⟩)] ++ cap) W fun e w' => e = .returned (.int .u32 x) ∧ R w')
  (hG : ∀ W, R W → W.cell? ⟨ba, 0, none⟩ = some (.pointer (some ⟨q, off, none⟩)) ∧ Box W q cs t0) :
  Calls Tryz.prog 168 #[.pointer (some ⟨pr, 0, none⟩), .pointer (some ⟨bg, 0, none⟩), .pointer (some ⟨ba, 0, none⟩)] w fun e w' => e = .returned (.tuple #[]) ∧ ∃ w2, R w2 ∧ Box w' q (midC cs off [.int .u32 x]) t0 ∧ KeepBut (fun k => k = q) w2 w' := by
 have H0 := hide h0
 have H1 := hide h1
 have HM := hide hm
 have HA := hide ha
 have HF := hide hf
 have C := hide hC
 have HG := hide hG
 have HSZ := hide hsz
 have hBD : Hid (Below w.heap.size w w.drew) := hide (Below.refl _ _).drew
 clear h0 h1 hm ha hf hC hG hsz
 go_enter Tryz.func168, Tryz.ntmps168
 go_wp2_with fail
 refine wp_region_vals3 (by kernel_rfl) [(some 4, .pointer (some ⟨q, off, none⟩)), (some 5, .func (.func fid) #[] cap), (some 6, .pointer (some ⟨pr, 0, none⟩)), (some 7, .int .u32 x), (some 8, .pointer (some ⟨q, off, none⟩)), (none, undef)] [(4, .pointer (some ⟨q, off, none⟩)), (5, .func (.func fid) #[] cap), (6, .pointer (some ⟨pr, 0, none⟩)), (7, .int .u32 x), (8, .pointer (some ⟨q, off, none⟩))] (SGet w R (fun w' => ∃ w2, R w2 ∧ Box w' q (midC cs off [.int .u32 x]) t0 ∧ KeepBut (fun k => k = q) w2 w')) (by kernel_rfl) rfl rfl ⟨fun _ => ⟨fun _ => rfl, fun h => by cases h⟩, fun h => by cases h⟩ ?_ ?_
 ·intro i o hi listed A W hsz hN hS hold hdeps
  have hlt : i < 6 := (Array.getElem?_eq_some_iff.1 hi).1
  have hc : i = 0 ∨ i = 1 ∨ i = 2 ∨ i = 3 ∨ i = 4 ∨ i = 5 := by omega
  clear hlt
  rcases hc with rfl | rfl | rfl | rfl | rfl | rfl
  ·obtain rfl := Option.some.inj hi
   have h5 := unlisted_of hN.un hN.cl 5 5 (by kernel_rfl)
   have s2 : A.tmps.getD 2 undef = .pointer (some ⟨ba, 0, none⟩) := hold 2 (by kernel_rfl)
   have hcell : W.cell? ⟨ba, 0, none⟩ = some (.pointer (some ⟨q, off, none⟩)) := by
    cases h3 : listed.getD 3 true with
    | false => rw [(hS.1 h5).1 h3]; exact ((hBD.out.cell (p := ⟨ba, 0, none⟩) HA.out).trans H1.out)
    | true => exact (HG.out W ((hS.1 h5).2 h3)).1
   exact o_pure hi rfl rfl rfl (y_cell_fp_u32 _ s2 hcell) (hS.next (by decide) (by decide))
  ·obtain rfl := Option.some.inj hi
   have h5 := unlisted_of hN.un hN.cl 5 5 (by kernel_rfl)
   have hd := (hS.1 h5).1 (unlisted_of hN.un hN.cl 5 3 (by kernel_rfl))
   subst hd
   have s1 : A.tmps.getD 1 undef = .pointer (some ⟨bg, 0, none⟩) := hold 1 (by kernel_rfl)
   exact o_pure hi rfl rfl rfl (y_cell_fg_u32 _ s1 ((hBD.out.cell (p := ⟨bg, 0, none⟩) HM.out).trans H0.out)) (hS.next (by decide) (by decide))
  ·obtain rfl := Option.some.inj hi
   have s0 : A.tmps.getD 0 undef = .pointer (some ⟨pr, 0, none⟩) := hold 0 (by kernel_rfl)
   exact o_pure hi rfl rfl rfl (y_move _ s0) (hS.next (by decide) (by decide))
  ·obtain rfl := Option.some.inj hi
   have h5 := unlisted_of hN.un hN.cl 5 5 (by kernel_rfl)
   have hd := (hS.1 h5).1 hN.un
   subst hd
   have s5 : A.tmps.getD 5 undef = .func (.func fid) #[] cap := slot_of hdeps 1 rfl (by kernel_rfl)
   have s6 : A.tmps.getD 6 undef = .pointer (some ⟨pr, 0, none⟩) := slot_of hdeps 2 rfl (by kernel_rfl)
   exact o_enter hi rfl rfl rfl (y_callV _ fid cap _ #[.pointer (some ⟨pr, 0, none⟩)] _ s5 (by simp only [List.map_toArray, List.map_cons, List.map_nil, show A.eval (.tmp 6) = .pointer (some ⟨pr, 0, none⟩) from s6]) HF.out) ((C.out _ hBD.out).mono fun e w' h => ⟨h.1, ⟨fun _ => ⟨fun h3 => (by rw [listed_at] at h3; cases h3), fun _ => h.2⟩, fun h6 => (by rw [listed_ne (by decide), h5] at h6; cases h6)⟩⟩)
  ·obtain rfl := Option.some.inj hi
   have s4 : A.tmps.getD 4 undef = .pointer (some ⟨q, off, none⟩) := slot_of hdeps 0 rfl (by kernel_rfl)
   exact o_pure hi rfl rfl rfl (y_nilc _ s4) (hS.next (by decide) (by decide))
  ·obtain rfl := Option.some.inj hi
   have h3 : R W := (hS.1 hN.un).2 (listed_dep hN 3 (by kernel_rfl))
   have s7 : A.tmps.getD 7 undef = .int .u32 x := slot_of hdeps 3 rfl (by kernel_rfl)
   have s8 : A.tmps.getD 8 undef = .pointer (some ⟨q, off, none⟩) := slot_of hdeps 4 rfl (by kernel_rfl)
   have hb := setRow_box (cs' := (midC cs off [.int .u32 x])) (HG.out W h3).2
   exact o_store hi rfl rfl (y_storeMid (cs' := (midC cs off [.int .u32 x])) _ _ _ s8 s7 (HG.out W h3).2 rfl (decide_eq_true HSZ.out) infoU32k rfl) ⟨fun h6 => (by rw [listed_at] at h6; cases h6), fun _ => ⟨W, h3, hb.1, hb.2⟩⟩
 ·intro listed w8 hall hS8
  have HR := hide (hS8.2 (hall 5 (by decide)))
  simp only [putAll, Act.put, List.setIfInBounds_toArray, List.set_cons_succ, List.set_cons_zero]
  clear hS8 hall H0 H1 HF C HG
  go_wp2_with fail
  go_end0
  exact ⟨rfl, HR.out⟩
set_option maxRecDepth 100000 in
theorem fa1_reg (ba bz q off : Nat) (cs : List Value) (b : Bool) (w : World) (h1 : w.cell? ⟨ba, 0, none⟩ = some (.pointer (some ⟨q, off, none⟩))) (h2 : Box w bz ((rgE (0, 0)).toArray) 76) (h3 : w.rangeAt q off cs) (hl : cs.length = 2) (ha : ba < w.heap.size) (hq : q < w.heap.size)
  (heq : ∀ W, (binOp .eql 76 (.agg cs.toArray) (.agg ((rgE (0, 0)).toArray))).run Tryz.prog W = .ok (.bool b) W) :
  Calls Tryz.prog 178 #[.pointer (some ⟨ba, 0, none⟩), .pointer (some ⟨bz, 0, none⟩)] w fun e w' => e = .returned (.bool b) ∧ Below w.heap.size w w' := by
 have H1 := hide h1
 have H2 := hide h2
 have H3 := hide h3
 have HA := hide ha
 have HQ := hide hq
 have HE := hide heq
 have HL := hide hl
 clear h1 h2 h3 ha hq heq hl
 go_enter Tryz.func178, Tryz.ntmps178
 go_wp2_with fail
 refine wp_region_vals (by kernel_rfl) [(3, .pointer (some ⟨q, off, none⟩)), (4, .pointer (some ⟨q, off, none⟩)), (5, .agg cs.toArray), (6, .agg ((rgE (0, 0)).toArray)), (7, .bool b), (2, .bool b)] (by kernel_rfl) rfl ?_ ?_
 ·intro i o hi A w1 hB hold hdeps
  have hlt : i < 6 := (Array.getElem?_eq_some_iff.1 hi).1
  have hc : i = 0 ∨ i = 1 ∨ i = 2 ∨ i = 3 ∨ i = 4 ∨ i = 5 := by omega
  clear hlt
  rcases hc with rfl | rfl | rfl | rfl | rfl | rfl
  ·obtain rfl := Option.some.inj hi
   have s0 : A.tmps.getD 0 undef = .pointer (some ⟨ba, 0, none⟩) := hold 0 (by kernel_rfl)
   exact r_pure hi rfl rfl (y_cell_fp_reg _ s0 ((hB.cell (p := ⟨ba, 0, none⟩) HA.out).trans H1.out))
  ·obtain rfl := Option.some.inj hi
   have s3 : A.tmps.getD 3 undef = .pointer (some ⟨q, off, none⟩) := dep_of hdeps 0 (by kernel_rfl)
   exact r_pure hi rfl rfl (y_nilc _ s3)
  ·obtain rfl := Option.some.inj hi
   have s4 : A.tmps.getD 4 undef = .pointer (some ⟨q, off, none⟩) := dep_of hdeps 1 (by kernel_rfl)
   exact r_pure hi rfl rfl (y_loadMid _ _ s4 (range_belowF H3.out HQ.out hB) Tryz.underlying76 rfl (by rw [HL.out]; exact infoReg10))
  ·obtain rfl := Option.some.inj hi
   have s1 : A.tmps.getD 1 undef = .pointer (some ⟨bz, 0, none⟩) := hold 1 (by kernel_rfl)
   exact r_pure hi rfl rfl (y_load _ _ s1 (H2.out.belowI hB) Tryz.underlying76 rfl infoReg10)
  ·obtain rfl := Option.some.inj hi
   have s5 : A.tmps.getD 5 undef = .agg cs.toArray := dep_of hdeps 2 (by kernel_rfl)
   have s6 : A.tmps.getD 6 undef = .agg ((rgE (0, 0)).toArray) := dep_of hdeps 3 (by kernel_rfl)
   exact r_pure hi rfl rfl (y_bin _ _ _ _ _ s5 s6 (HE.out w1) (by kernel_rfl))
  ·obtain rfl := Option.some.inj hi
   have s7 : A.tmps.getD 7 undef = .bool b := dep_of hdeps 4 (by kernel_rfl)
   exact r_pure hi rfl rfl (y_assign _ s7)
 ·intro w8 hB8
  simp only [putAll, Act.put, List.setIfInBounds_toArray, List.set_cons_succ, List.set_cons_zero]
  have HB8 := hide hB8
  clear hB8 H1 H2 H3 HE
  go_wp2_with fail
  go_ret
  exact ⟨rfl, HB8.out⟩
set_option maxRecDepth 100000 in
theorem fa2_reg (bm ba q off : Nat) (cs : List Value) (fid : FuncId) (cap : Array Value) (b : Bool) (w : World) (h0 : w.cell? ⟨bm, 0, none⟩ = some (.func (.func fid) #[] cap)) (h1 : w.cell? ⟨ba, 0, none⟩ = some (.pointer (some ⟨q, off, none⟩))) (h3 : w.rangeAt q off cs) (hl : cs.length = 2) (hm : bm < w.heap.size) (ha : ba < w.heap.size) (hq : q < w.heap.size)
  (hf : ∀ args W, (callFunc fid args).run Tryz.prog W = .ok (.enter fid args) W) (hC : ∀ W, Below w.heap.size w W → Calls Tryz.prog fid (#[.agg cs.toArray] ++ cap) W fun e w' => e = .returned (.bool b) ∧ Below W.heap.size W w') :
  Calls Tryz.prog 179 #[.pointer (some ⟨bm, 0, none⟩), .pointer (some ⟨ba, 0, none⟩)] w fun e w' => e = .returned (.bool b) ∧ Below w.heap.size w w' := by
 have H0 := hide h0
 have H1 := hide h1
 have H3 := hide h3
 have HM := hide hm
 have HA := hide ha
 have HQ := hide hq
 have HF := hide hf
 have C := hide hC
 have HL := hide hl
 clear h0 h1 h3 hm ha hq hf hC hl
 go_enter Tryz.func179, Tryz.ntmps179
 go_wp2_with fail
 refine wp_region_vals (by kernel_rfl) [(3, .func (.func fid) #[] cap), (4, .pointer (some ⟨q, off, none⟩)), (5, .pointer (some ⟨q, off, none⟩)), (6, .agg cs.toArray), (7, .bool b), (2, .bool b)] (by kernel_rfl) rfl ?_ ?_
 ·intro i o hi A w1 hB hold hdeps
  have hlt : i < 6 := (Array.getElem?_eq_some_iff.1 hi).1
  have hc : i = 0 ∨ i = 1 ∨ i = 2 ∨ i = 3 ∨ i = 4 ∨ i = 5 := by omega
  clear hlt
  rcases hc with rfl | rfl | rfl | rfl | rfl | rfl
  ·obtain rfl := Option.some.inj hi
   have s0 : A.tmps.getD 0 undef = .pointer (some ⟨bm, 0, none⟩) := hold 0 (by kernel_rfl)
   exact r_pure hi rfl rfl (y_cell_fm_reg _ s0 ((hB.cell (p := ⟨bm, 0, none⟩) HM.out).trans H0.out))
  ·obtain rfl := Option.some.inj hi
   have s1 : A.tmps.getD 1 undef = .pointer (some ⟨ba, 0, none⟩) := hold 1 (by kernel_rfl)
   exact r_pure hi rfl rfl (y_cell_fp_reg _ s1 ((hB.cell (p := ⟨ba, 0, none⟩) HA.out).trans H1.out))
  ·obtain rfl := Option.some.inj hi
   have s4 : A.tmps.getD 4 undef = .pointer (some ⟨q, off, none⟩) := dep_of hdeps 1 (by kernel_rfl)
   exact r_pure hi rfl rfl (y_nilc _ s4)
  ·obtain rfl := Option.some.inj hi
   have s5 : A.tmps.getD 5 undef = .pointer (some ⟨q, off, none⟩) := dep_of hdeps 2 (by kernel_rfl)
   exact r_pure hi rfl rfl (y_loadMid _ _ s5 (range_belowF H3.out HQ.out hB) Tryz.underlying76 rfl (by rw [HL.out]; exact infoReg10))
  ·obtain rfl := Option.some.inj hi
   have s3 : A.tmps.getD 3 undef = .func (.func fid) #[] cap := dep_of hdeps 0 (by kernel_rfl)
   have s6 : A.tmps.getD 6 undef = .agg cs.toArray := dep_of hdeps 3 (by kernel_rfl)
   exact r_enter hi rfl rfl (y_callV _ fid cap _ #[.agg cs.toArray] _ s3 (by simp only [List.map_toArray, List.map_cons, List.map_nil, show A.eval (.tmp 6) = .agg cs.toArray from s6]) HF.out) (C.out w1 hB)
  ·obtain rfl := Option.some.inj hi
   have s7 : A.tmps.getD 7 undef = .bool b := dep_of hdeps 4 (by kernel_rfl)
   exact r_pure hi rfl rfl (y_assign _ s7)
 ·intro w8 hB8
  simp only [putAll, Act.put, List.setIfInBounds_toArray, List.set_cons_succ, List.set_cons_zero]
  have HB8 := hide hB8
  clear hB8 H0 H1 H3 HF C
  go_wp2_with fail
  go_ret
  exact ⟨rfl, HB8.out⟩
set_option maxRecDepth 100000 in
theorem fa3_reg (pw bp ba q off : Nat) (cs : List Value) (fid : FuncId) (cap : Array Value) (R : World → Prop) (w : World) (h0 : w.cell? ⟨bp, 0, none⟩ = some (.func (.func fid) #[] cap)) (h1 : w.cell? ⟨ba, 0, none⟩ = some (.pointer (some ⟨q, off, none⟩))) (h3 : w.rangeAt q off cs) (hl : cs.length = 2) (hm : bp < w.heap.size) (ha : ba < w.heap.size) (hq : q < w.heap.size)
  (hf : ∀ args W, (callFunc fid args).run Tryz.prog W = .ok (.enter fid args) W) (hC : ∀ W, Below w.heap.size w W → Calls Tryz.prog fid (#[.pointer (some ⟨pw, 0, none⟩), .agg cs.toArray] ++ cap) W fun e w' => e = .returned (.tuple #[]) ∧ R w') :
  Calls Tryz.prog 180 #[.pointer (some ⟨pw, 0, none⟩), .pointer (some ⟨bp, 0, none⟩), .pointer (some ⟨ba, 0, none⟩)] w fun e w' => e = .returned (.tuple #[]) ∧ R w' := by
 have H0 := hide h0
 have H1 := hide h1
 have H3 := hide h3
 have HM := hide hm
 have HA := hide ha
 have HQ := hide hq
 have HF := hide hf
 have C := hide hC
 have hBD : Hid (Below w.heap.size w w.drew) := hide (Below.refl _ _).drew
 have HL := hide hl
 clear h0 h1 h3 hm ha hq hf hC hl
 go_enter Tryz.func180, Tryz.ntmps180
 go_wp2_with fail
 refine wp_region_vals3 (by kernel_rfl) [(some 4, .func (.func fid) #[] cap), (some 5, .pointer (some ⟨pw, 0, none⟩)), (some 6, .pointer (some ⟨q, off, none⟩)), (some 7, .pointer (some ⟨q, off, none⟩)), (some 8, .agg cs.toArray), (some 9, .tuple #[])] [(4, .func (.func fid) #[] cap), (5, .pointer (some ⟨pw, 0, none⟩)), (6, .pointer (some ⟨q, off, none⟩)), (7, .pointer (some ⟨q, off, none⟩)), (8, .agg cs.toArray), (9, .tuple #[])] (SPut w R) (by kernel_rfl) rfl rfl ⟨fun _ => rfl, fun h => by cases h⟩ ?_ ?_
 ·intro i o hi listed A W hsz hN hS hold hdeps
  have hlt : i < 6 := (Array.getElem?_eq_some_iff.1 hi).1
  have hc : i = 0 ∨ i = 1 ∨ i = 2 ∨ i = 3 ∨ i = 4 ∨ i = 5 := by omega
  clear hlt
  rcases hc with rfl | rfl | rfl | rfl | rfl | rfl
  ·obtain rfl := Option.some.inj hi
   have hd := hS.1 (unlisted_of hN.un hN.cl 5 5 (by kernel_rfl))
   subst hd
   have s1 : A.tmps.getD 1 undef = .pointer (some ⟨bp, 0, none⟩) := hold 1 (by kernel_rfl)
   exact o_pure hi rfl rfl rfl (y_cell_fw_reg _ s1 ((hBD.out.cell (p := ⟨bp, 0, none⟩) HM.out).trans H0.out)) (hS.next (by decide))
  ·obtain rfl := Option.some.inj hi
   have s0 : A.tmps.getD 0 undef = .pointer (some ⟨pw, 0, none⟩) := hold 0 (by kernel_rfl)
   exact o_pure hi rfl rfl rfl (y_move _ s0) (hS.next (by decide))
  ·obtain rfl := Option.some.inj hi
   have hd := hS.1 (unlisted_of hN.un hN.cl 5 5 (by kernel_rfl))
   subst hd
   have s2 : A.tmps.getD 2 undef = .pointer (some ⟨ba, 0, none⟩) := hold 2 (by kernel_rfl)
   exact o_pure hi rfl rfl rfl (y_cell_fp_reg _ s2 ((hBD.out.cell (p := ⟨ba, 0, none⟩) HA.out).trans H1.out)) (hS.next (by decide))
  ·obtain rfl := Option.some.inj hi
   have s6 : A.tmps.getD 6 undef = .pointer (some ⟨q, off, none⟩) := slot_of hdeps 2 rfl (by kernel_rfl)
   exact o_pure hi rfl rfl rfl (y_nilc _ s6) (hS.next (by decide))
  ·obtain rfl := Option.some.inj hi
   have hd := hS.1 (unlisted_of hN.un hN.cl 5 5 (by kernel_rfl))
   subst hd
   have s7 : A.tmps.getD 7 undef = .pointer (some ⟨q, off, none⟩) := slot_of hdeps 3 rfl (by kernel_rfl)
   exact o_pure hi rfl rfl rfl (y_loadMid _ _ s7 (range_belowF H3.out HQ.out hBD.out) Tryz.underlying76 rfl (by rw [HL.out]; exact infoReg10)) (hS.next (by decide))
  ·obtain rfl := Option.some.inj hi
   have hd := hS.1 hN.un
   subst hd
   have s4 : A.tmps.getD 4 undef = .func (.func fid) #[] cap := slot_of hdeps 0 rfl (by kernel_rfl)
   have s5 : A.tmps.getD 5 undef = .pointer (some ⟨pw, 0, none⟩) := slot_of hdeps 1 rfl (by kernel_rfl)
   have s8 : A.tmps.getD 8 undef = .agg cs.toArray := slot_of hdeps 4 rfl (by kernel_rfl)
   exact o_enter hi rfl rfl rfl (y_callV _ fid cap _ #[.pointer (some ⟨pw, 0, none⟩), .agg cs.toArray] _ s4 (by simp only [List.map_toArray, List.map_cons, List.map_nil, show A.eval (.tmp 5) = .pointer (some ⟨pw, 0, none⟩) from s5, show A.eval (.tmp 8) = .agg cs.toArray from s8]) HF.out) ((C.out _ hBD.out).mono fun e w' h => ⟨h.1, ⟨fun h5 => (by rw [listed_at] at h5; cases h5), fun _ => h.2⟩⟩)
 ·intro listed w8 hall hS8
  have HR := hide (hS8.2 (hall 5 (by decide)))
  simp only [putAll, Act.put, List.setIfInBounds_toArray, List.set_cons_succ, List.set_cons_zero]
  clear hS8 hall H0 H1 H3 HF C
  go_wp2_with fail
  go_end0
  exact ⟨rfl, HR.out⟩
set_option maxRecDepth 100000 in
theorem fa4_reg (pr bg ba q off : Nat) (xs : List Value) (cs : Array Value) (t0 : TypeId) (fid : FuncId) (cap : Array Value) (R : World → Prop) (w : World) (h0 : w.cell? ⟨bg, 0, none⟩ = some (.func (.func fid) #[] cap)) (h1 : w.cell? ⟨ba, 0, none⟩ = some (.pointer (some ⟨q, off, none⟩))) (hx : xs.length = 2) (hxo : xs.all (·.oneCell') = true) (hm : bg < w.heap.size) (ha : ba < w.heap.size) (hsz : off + 2 ≤ cs.size)
  (hf : ∀ args W, (callFunc fid args).run Tryz.prog W = .ok (.enter fid args) W) (hC : ∀ W, Below w.heap.size w W → Calls Tryz.prog fid (#[.pointer (some ⟨pr, 0, none⟩)] ++ cap) W fun e w' => e = .returned (.agg xs.toArray) ∧ R w')
  (hG : ∀ W, R W → W.cell? ⟨ba, 0, none⟩ = some (.pointer (some ⟨q, off, none⟩)) ∧ Box W q cs t0) :
  Calls Tryz.prog 181 #[.pointer (some ⟨pr, 0, none⟩), .pointer (some ⟨bg, 0, none⟩), .pointer (some ⟨ba, 0, none⟩)] w fun e w' => e = .returned (.tuple #[]) ∧ ∃ w2, R w2 ∧ Box w' q (midC cs off xs) t0 ∧ KeepBut (fun k => k = q) w2 w' := by
 have H0 := hide h0
 have H1 := hide h1
 have HM := hide hm
 have HA := hide ha
 have HF := hide hf
 have C := hide hC
 have HG := hide hG
 have HSZ := hide hsz
 have HXL := hide hx
 have HXO := hide hxo
 have hBD : Hid (Below w.heap.size w w.drew) := hide (Below.refl _ _).drew
 clear h0 h1 hm ha hf hC hG hsz hx hxo
 go_enter Tryz.func181, Tryz.ntmps181
 go_wp2_with fail
 refine wp_region_vals3 (by kernel_rfl) [(some 4, .pointer (some ⟨q, off, none⟩)), (some 5, .func (.func fid) #[] cap), (some 6, .pointer (some ⟨pr, 0, none⟩)), (some 7, .agg xs.toArray), (some 8, .pointer (some ⟨q, off, none⟩)), (none, undef)] [(4, .pointer (some ⟨q, off, none⟩)), (5, .func (.func fid) #[] cap), (6, .pointer (some ⟨pr, 0, none⟩)), (7, .agg xs.toArray), (8, .pointer (some ⟨q, off, none⟩))] (SGet w R (fun w' => ∃ w2, R w2 ∧ Box w' q (midC cs off xs) t0 ∧ KeepBut (fun k => k = q) w2 w')) (by kernel_rfl) rfl rfl ⟨fun _ => ⟨fun _ => rfl, fun h => by cases h⟩, fun h => by cases h⟩ ?_ ?_
 ·intro i o hi listed A W hsz hN hS hold hdeps
  have hlt : i < 6 := (Array.getElem?_eq_some_iff.1 hi).1
  have hc : i = 0 ∨ i = 1 ∨ i = 2 ∨ i = 3 ∨ i = 4 ∨ i = 5 := by omega
  clear hlt
  rcases hc with rfl | rfl | rfl | rfl | rfl | rfl
  ·obtain rfl := Option.some.inj hi
   have h5 := unlisted_of hN.un hN.cl 5 5 (by kernel_rfl)
   have s2 : A.tmps.getD 2 undef = .pointer (some ⟨ba, 0, none⟩) := hold 2 (by kernel_rfl)
   have hcell : W.cell? ⟨ba, 0, none⟩ = some (.pointer (some ⟨q, off, none⟩)) := by
    cases h3 : listed.getD 3 true with
    | false => rw [(hS.1 h5).1 h3]; exact ((hBD.out.cell (p := ⟨ba, 0, none⟩) HA.out).trans H1.out)
    | true => exact (HG.out W ((hS.1 h5).2 h3)).1
   exact o_pure hi rfl rfl rfl (y_cell_fp_reg _ s2 hcell) (hS.next (by decide) (by decide))
  ·obtain rfl := Option.some.inj hi
   have h5 := unlisted_of hN.un hN.cl 5 5 (by kernel_rfl)
   have hd := (hS.1 h5).1 (unlisted_of hN.un hN.cl 5 3 (by kernel_rfl))
   subst hd
   have s1 : A.tmps.getD 1 undef = .pointer (some ⟨bg, 0, none⟩) := hold 1 (by kernel_rfl)
   exact o_pure hi rfl rfl rfl (y_cell_fg_reg _ s1 ((hBD.out.cell (p := ⟨bg, 0, none⟩) HM.out).trans H0.out)) (hS.next (by decide) (by decide))
  ·obtain rfl := Option.some.inj hi
   have s0 : A.tmps.getD 0 undef = .pointer (some ⟨pr, 0, none⟩) := hold 0 (by kernel_rfl)
   exact o_pure hi rfl rfl rfl (y_move _ s0) (hS.next (by decide) (by decide))
  ·obtain rfl := Option.some.inj hi
   have h5 := unlisted_of hN.un hN.cl 5 5 (by kernel_rfl)
   have hd := (hS.1 h5).1 hN.un
   subst hd
   have s5 : A.tmps.getD 5 undef = .func (.func fid) #[] cap := slot_of hdeps 1 rfl (by kernel_rfl)
   have s6 : A.tmps.getD 6 undef = .pointer (some ⟨pr, 0, none⟩) := slot_of hdeps 2 rfl (by kernel_rfl)
   exact o_enter hi rfl rfl rfl (y_callV _ fid cap _ #[.pointer (some ⟨pr, 0, none⟩)] _ s5 (by simp only [List.map_toArray, List.map_cons, List.map_nil, show A.eval (.tmp 6) = .pointer (some ⟨pr, 0, none⟩) from s6]) HF.out) ((C.out _ hBD.out).mono fun e w' h => ⟨h.1, ⟨fun _ => ⟨fun h3 => (by rw [listed_at] at h3; cases h3), fun _ => h.2⟩, fun h6 => (by rw [listed_ne (by decide), h5] at h6; cases h6)⟩⟩)
  ·obtain rfl := Option.some.inj hi
   have s4 : A.tmps.getD 4 undef = .pointer (some ⟨q, off, none⟩) := slot_of hdeps 0 rfl (by kernel_rfl)
   exact o_pure hi rfl rfl rfl (y_nilc _ s4) (hS.next (by decide) (by decide))
  ·obtain rfl := Option.some.inj hi
   have h3 : R W := (hS.1 hN.un).2 (listed_dep hN 3 (by kernel_rfl))
   have s7 : A.tmps.getD 7 undef = .agg xs.toArray := slot_of hdeps 3 rfl (by kernel_rfl)
   have s8 : A.tmps.getD 8 undef = .pointer (some ⟨q, off, none⟩) := slot_of hdeps 4 rfl (by kernel_rfl)
   have hb := setRow_box (cs' := (midC cs off xs)) (HG.out W h3).2
   exact o_store hi rfl rfl (y_storeMid (cs' := (midC cs off xs)) _ _ _ s8 s7 (HG.out W h3).2 rfl (decide_eq_true (by show off + xs.length ≤ cs.size; rw [HXL.out]; exact HSZ.out)) (by show _ = some xs.length; rw [HXL.out]; exact infoReg10) HXO.out) ⟨fun h6 => (by rw [listed_at] at h6; cases h6), fun _ => ⟨W, h3, hb.1, hb.2⟩⟩
 ·intro listed w8 hall hS8
  have HR := hide (hS8.2 (hall 5 (by decide)))
  simp only [putAll, Act.put, List.setIfInBounds_toArray, List.set_cons_succ, List.set_cons_zero]
  clear hS8 hall H0 H1 HF C HG
  go_wp2_with fail
  go_end0
  exact ⟨rfl, HR.out⟩
set_option maxRecDepth 100000 in
theorem fa1_key (ba bz q off : Nat) (cs : List Value) (b : Bool) (w : World) (h1 : w.cell? ⟨ba, 0, none⟩ = some (.pointer (some ⟨q, off, none⟩))) (h2 : Box w bz (eightA [0, 0, 0, 0, 0, 0, 0, 0]) 81) (h3 : w.rangeAt q off cs) (hl : cs.length = 8) (ha : ba < w.heap.size) (hq : q < w.heap.size)
  (heq : ∀ W, (binOp .eql 81 (.agg cs.toArray) (.agg (eightA [0, 0, 0, 0, 0, 0, 0, 0]))).run Tryz.prog W = .ok (.bool b) W) :
  Calls Tryz.prog 200 #[.pointer (some ⟨ba, 0, none⟩), .pointer (some ⟨bz, 0, none⟩)] w fun e w' => e = .returned (.bool b) ∧ Below w.heap.size w w' := by
 have H1 := hide h1
 have H2 := hide h2
 have H3 := hide h3
 have HA := hide ha
 have HQ := hide hq
 have HE := hide heq
 have HL := hide hl
 clear h1 h2 h3 ha hq heq hl
 go_enter Tryz.func200, Tryz.ntmps200
 go_wp2_with fail
 refine wp_region_vals (by kernel_rfl) [(3, .pointer (some ⟨q, off, none⟩)), (4, .pointer (some ⟨q, off, none⟩)), (5, .agg cs.toArray), (6, .agg (eightA [0, 0, 0, 0, 0, 0, 0, 0])), (7, .bool b), (2, .bool b)] (by kernel_rfl) rfl ?_ ?_
 ·intro i o hi A w1 hB hold hdeps
  have hlt : i < 6 := (Array.getElem?_eq_some_iff.1 hi).1
  have hc : i = 0 ∨ i = 1 ∨ i = 2 ∨ i = 3 ∨ i = 4 ∨ i = 5 := by omega
  clear hlt
  rcases hc with rfl | rfl | rfl | rfl | rfl | rfl
  ·obtain rfl := Option.some.inj hi
   have s0 : A.tmps.getD 0 undef = .pointer (some ⟨ba, 0, none⟩) := hold 0 (by kernel_rfl)
   exact r_pure hi rfl rfl (y_cell_fp_key _ s0 ((hB.cell (p := ⟨ba, 0, none⟩) HA.out).trans H1.out))
  ·obtain rfl := Option.some.inj hi
   have s3 : A.tmps.getD 3 undef = .pointer (some ⟨q, off, none⟩) := dep_of hdeps 0 (by kernel_rfl)
   exact r_pure hi rfl rfl (y_nilc _ s3)
  ·obtain rfl := Option.some.inj hi
   have s4 : A.tmps.getD 4 undef = .pointer (some ⟨q, off, none⟩) := dep_of hdeps 1 (by kernel_rfl)
   exact r_pure hi rfl rfl (y_loadMid _ _ s4 (range_belowF H3.out HQ.out hB) Tryz.underlying81 rfl (by rw [HL.out]; exact infoKey10))
  ·obtain rfl := Option.some.inj hi
   have s1 : A.tmps.getD 1 undef = .pointer (some ⟨bz, 0, none⟩) := hold 1 (by kernel_rfl)
   exact r_pure hi rfl rfl (y_load _ _ s1 (H2.out.belowI hB) Tryz.underlying81 rfl infoKey10)
  ·obtain rfl := Option.some.inj hi
   have s5 : A.tmps.getD 5 undef = .agg cs.toArray := dep_of hdeps 2 (by kernel_rfl)
   have s6 : A.tmps.getD 6 undef = .agg (eightA [0, 0, 0, 0, 0, 0, 0, 0]) := dep_of hdeps 3 (by kernel_rfl)
   exact r_pure hi rfl rfl (y_bin _ _ _ _ _ s5 s6 (HE.out w1) (by kernel_rfl))
  ·obtain rfl := Option.some.inj hi
   have s7 : A.tmps.getD 7 undef = .bool b := dep_of hdeps 4 (by kernel_rfl)
   exact r_pure hi rfl rfl (y_assign _ s7)
 ·intro w8 hB8
  simp only [putAll, Act.put, List.setIfInBounds_toArray, List.set_cons_succ, List.set_cons_zero]
  have HB8 := hide hB8
  clear hB8 H1 H2 H3 HE
  go_wp2_with fail
  go_ret
  exact ⟨rfl, HB8.out⟩
set_option maxRecDepth 100000 in
theorem fa2_key (bm ba q off : Nat) (cs : List Value) (fid : FuncId) (cap : Array Value) (b : Bool) (w : World) (h0 : w.cell? ⟨bm, 0, none⟩ = some (.func (.func fid) #[] cap)) (h1 : w.cell? ⟨ba, 0, none⟩ = some (.pointer (some ⟨q, off, none⟩))) (h3 : w.rangeAt q off cs) (hl : cs.length = 8) (hm : bm < w.heap.size) (ha : ba < w.heap.size) (hq : q < w.heap.size)
  (hf : ∀ args W, (callFunc fid args).run Tryz.prog W = .ok (.enter fid args) W) (hC : ∀ W, Below w.heap.size w W → Calls Tryz.prog fid (#[.agg cs.toArray] ++ cap) W fun e w' => e = .returned (.bool b) ∧ Below W.heap.size W w') :
  Calls Tryz.prog 201 #[.pointer (some ⟨bm, 0, none⟩), .pointer (some ⟨ba, 0, none⟩)] w fun e w' => e = .returned (.bool b) ∧ Below w.heap.size w w' := by
 have H0 := hide h0
 have H1 := hide h1
 have H3 := hide h3
 have HM := hide hm
 have HA := hide ha
 have HQ := hide hq
 have HF := hide hf
 have C := hide hC
 have HL := hide hl
 clear h0 h1 h3 hm ha hq hf hC hl
 go_enter Tryz.func201, Tryz.ntmps201
 go_wp2_with fail
 refine wp_region_vals (by kernel_rfl) [(3, .func (.func fid) #[] cap), (4, .pointer (some ⟨q, off, none⟩)), (5, .pointer (some ⟨q, off, none⟩)), (6, .agg cs.toArray), (7, .bool b), (2, .bool b)] (by kernel_rfl) rfl ?_ ?_
 ·intro i o hi A w1 hB hold hdeps
  have hlt : i < 6 := (Array.getElem?_eq_some_iff.1 hi).1
  have hc : i = 0 ∨ i = 1 ∨ i = 2 ∨ i = 3 ∨ i = 4 ∨ i = 5 := by omega
  clear hlt
  rcases hc with rfl | rfl | rfl | rfl | rfl | rfl
  ·obtain rfl := Option.some.inj hi
   have s0 : A.tmps.getD 0 undef = .pointer (some ⟨bm, 0, none⟩) := hold 0 (by kernel_rfl)
   exact r_pure hi rfl rfl (y_cell_fm_key _ s0 ((hB.cell (p := ⟨bm, 0, none⟩) HM.out).trans H0.out))
  ·obtain rfl := Option.some.inj hi
   have s1 : A.tmps.getD 1 undef = .pointer (some ⟨ba, 0, none⟩) := hold 1 (by kernel_rfl)
   exact r_pure hi rfl rfl (y_cell_fp_key _ s1 ((hB.cell (p := ⟨ba, 0, none⟩) HA.out).trans H1.out))
  ·obtain rfl := Option.some.inj hi
   have s4 : A.tmps.getD 4 undef = .pointer (some ⟨q, off, none⟩) := dep_of hdeps 1 (by kernel_rfl)
   exact r_pure hi rfl rfl (y_nilc _ s4)
  ·obtain rfl := Option.some.inj hi
   have s5 : A.tmps.getD 5 undef = .pointer (some ⟨q, off, none⟩) := dep_of hdeps 2 (by kernel_rfl)
   exact r_pure hi rfl rfl (y_loadMid _ _ s5 (range_belowF H3.out HQ.out hB) Tryz.underlying81 rfl (by rw [HL.out]; exact infoKey10))
  ·obtain rfl := Option.some.inj hi
   have s3 : A.tmps.getD 3 undef = .func (.func fid) #[] cap := dep_of hdeps 0 (by kernel_rfl)
   have s6 : A.tmps.getD 6 undef = .agg cs.toArray := dep_of hdeps 3 (by kernel_rfl)
   exact r_enter hi rfl rfl (y_callV _ fid cap _ #[.agg cs.toArray] _ s3 (by simp only [List.map_toArray, List.map_cons, List.map_nil, show A.eval (.tmp 6) = .agg cs.toArray from s6]) HF.out) (C.out w1 hB)
  ·obtain rfl := Option.some.inj hi
   have s7 : A.tmps.getD 7 undef = .bool b := dep_of hdeps 4 (by kernel_rfl)
   exact r_pure hi rfl rfl (y_assign _ s7)
 ·intro w8 hB8
  simp only [putAll, Act.put, List.setIfInBounds_toArray, List.set_cons_succ, List.set_cons_zero]
  have HB8 := hide hB8
  clear hB8 H0 H1 H3 HF C
  go_wp2_with fail
  go_ret
  exact ⟨rfl, HB8.out⟩
set_option maxRecDepth 100000 in
theorem fa3_key (pw bp ba q off : Nat) (cs : List Value) (fid : FuncId) (cap : Array Value) (R : World → Prop) (w : World) (h0 : w.cell? ⟨bp, 0, none⟩ = some (.func (.func fid) #[] cap)) (h1 : w.cell? ⟨ba, 0, none⟩ = some (.pointer (some ⟨q, off, none⟩))) (h3 : w.rangeAt q off cs) (hl : cs.length = 8) (hm : bp < w.heap.size) (ha : ba < w.heap.size) (hq : q < w.heap.size)
  (hf : ∀ args W, (callFunc fid args).run Tryz.prog W = .ok (.enter fid args) W) (hC : ∀ W, Below w.heap.size w W → Calls Tryz.prog fid (#[.pointer (some ⟨pw, 0, none⟩), .agg cs.toArray] ++ cap) W fun e w' => e = .returned (.tuple #[]) ∧ R w') :
  Calls Tryz.prog 202 #[.pointer (some ⟨pw, 0, none⟩), .pointer (some ⟨bp, 0, none⟩), .pointer (some ⟨ba, 0, none⟩)] w fun e w' => e = .returned (.tuple #[]) ∧ R w' := by
 have H0 := hide h0
 have H1 := hide h1
 have H3 := hide h3
 have HM := hide hm
 have HA := hide ha
 have HQ := hide hq
 have HF := hide hf
 have C := hide hC
 have hBD : Hid (Below w.heap.size w w.drew) := hide (Below.refl _ _).drew
 have HL := hide hl
 clear h0 h1 h3 hm ha hq hf hC hl
 go_enter Tryz.func202, Tryz.ntmps202
 go_wp2_with fail
 refine wp_region_vals3 (by kernel_rfl) [(some 4, .func (.func fid) #[] cap), (some 5, .pointer (some ⟨pw, 0, none⟩)), (some 6, .pointer (some ⟨q, off, none⟩)), (some 7, .pointer (some ⟨q, off, none⟩)), (some 8, .agg cs.toArray), (some 9, .tuple #[])] [(4, .func (.func fid) #[] cap), (5, .pointer (some ⟨pw, 0, none⟩)), (6, .pointer (some ⟨q, off, none⟩)), (7, .pointer (some ⟨q, off, none⟩)), (8, .agg cs.toArray), (9, .tuple #[])] (SPut w R) (by kernel_rfl) rfl rfl ⟨fun _ => rfl, fun h => by cases h⟩ ?_ ?_
 ·intro i o hi listed A W hsz hN hS hold hdeps
  have hlt : i < 6 := (Array.getElem?_eq_some_iff.1 hi).1
  have hc : i = 0 ∨ i = 1 ∨ i = 2 ∨ i = 3 ∨ i = 4 ∨ i = 5 := by omega
  clear hlt
  rcases hc with rfl | rfl | rfl | rfl | rfl | rfl
  ·obtain rfl := Option.some.inj hi
   have hd := hS.1 (unlisted_of hN.un hN.cl 5 5 (by kernel_rfl))
   subst hd
   have s1 : A.tmps.getD 1 undef = .pointer (some ⟨bp, 0, none⟩) := hold 1 (by kernel_rfl)
   exact o_pure hi rfl rfl rfl (y_cell_fw_key _ s1 ((hBD.out.cell (p := ⟨bp, 0, none⟩) HM.out).trans H0.out)) (hS.next (by decide))
  ·obtain rfl := Option.some.inj hi
   have s0 : A.tmps.getD 0 undef = .pointer (some ⟨pw, 0, none⟩) := hold 0 (by kernel_rfl)
   exact o_pure hi rfl rfl rfl (y_move _ s0) (hS.next (by decide))
  ·obtain rfl := Option.some.inj hi
   have hd := hS.1 (unlisted_of hN.un hN.cl 5 5 (by kernel_rfl))
   subst hd
   have s2 : A.tmps.getD 2 undef = .pointer (some ⟨ba, 0, none⟩) := hold 2 (by kernel_rfl)
   exact o_pure hi rfl rfl rfl (y_cell_fp_key _ s2 ((hBD.out.cell (p := ⟨ba, 0, none⟩) HA.out).trans H1.out)) (hS.next (by decide))
  ·obtain rfl := Option.some.inj hi
   have s6 : A.tmps.getD 6 undef = .pointer (some ⟨q, off, none⟩) := slot_of hdeps 2 rfl (by kernel_rfl)
   exact o_pure hi rfl rfl rfl (y_nilc _ s6) (hS.next (by decide))
  ·obtain rfl := Option.some.inj hi
   have hd := hS.1 (unlisted_of hN.un hN.cl 5 5 (by kernel_rfl))
   subst hd
   have s7 : A.tmps.getD 7 undef = .pointer (some ⟨q, off, none⟩) := slot_of hdeps 3 rfl (by kernel_rfl)
   exact o_pure hi rfl rfl rfl (y_loadMid _ _ s7 (range_belowF H3.out HQ.out hBD.out) Tryz.underlying81 rfl (by rw [HL.out]; exact infoKey10)) (hS.next (by decide))
  ·obtain rfl := Option.some.inj hi
   have hd := hS.1 hN.un
   subst hd
   have s4 : A.tmps.getD 4 undef = .func (.func fid) #[] cap := slot_of hdeps 0 rfl (by kernel_rfl)
   have s5 : A.tmps.getD 5 undef = .pointer (some ⟨pw, 0, none⟩) := slot_of hdeps 1 rfl (by kernel_rfl)
   have s8 : A.tmps.getD 8 undef = .agg cs.toArray := slot_of hdeps 4 rfl (by kernel_rfl)
   exact o_enter hi rfl rfl rfl (y_callV _ fid cap _ #[.pointer (some ⟨pw, 0, none⟩), .agg cs.toArray] _ s4 (by simp only [List.map_toArray, List.map_cons, List.map_nil, show A.eval (.tmp 5) = .pointer (some ⟨pw, 0, none⟩) from s5, show A.eval (.tmp 8) = .agg cs.toArray from s8]) HF.out) ((C.out _ hBD.out).mono fun e w' h => ⟨h.1, ⟨fun h5 => (by rw [listed_at] at h5; cases h5), fun _ => h.2⟩⟩)
 ·intro listed w8 hall hS8
  have HR := hide (hS8.2 (hall 5 (by decide)))
  simp only [putAll, Act.put, List.setIfInBounds_toArray, List.set_cons_succ, List.set_cons_zero]
  clear hS8 hall H0 H1 H3 HF C
  go_wp2_with fail
  go_end0
  exact ⟨rfl, HR.out⟩
set_option maxRecDepth 100000 in
theorem fa4_key (pr bg ba q off : Nat) (xs : List Value) (cs : Array Value) (t0 : TypeId) (fid : FuncId) (cap : Array Value) (R : World → Prop) (w : World) (h0 : w.cell? ⟨bg, 0, none⟩ = some (.func (.func fid) #[] cap)) (h1 : w.cell? ⟨ba, 0, none⟩ = some (.pointer (some ⟨q, off, none⟩))) (hx : xs.length = 8) (hxo : xs.all (·.oneCell') = true) (hm : bg < w.heap.size) (ha : ba < w.heap.size) (hsz : off + 8 ≤ cs.size)
  (hf : ∀ args W, (callFunc fid args).run Tryz.prog W = .ok (.enter fid args) W) (hC : ∀ W, Below w.heap.size w W → Calls Tryz.prog fid (#[.pointer (some ⟨pr, 0, none⟩)] ++ cap) W fun e w' => e = .returned (.agg xs.toArray) ∧ R w')
  (hG : ∀ W, R W → W.cell? ⟨ba, 0, none⟩ = some (.pointer (some ⟨q, off, none⟩)) ∧ Box W q cs t0) :
  Calls Tryz.prog 203 #[.pointer (some ⟨pr, 0, none⟩), .pointer (some ⟨bg, 0, none⟩), .pointer (some ⟨ba, 0, none⟩)] w fun e w' => e = .returned (.tuple #[]) ∧ ∃ w2, R w2 ∧ Box w' q (midC cs off xs) t0 ∧ KeepBut (fun k => k = q) w2 w' := by
 have H0 := hide h0
 have H1 := hide h1
 have HM := hide hm
 have HA := hide ha
 have HF := hide hf
 have C := hide hC
 have HG := hide hG
 have HSZ := hide hsz
 have HXL := hide hx
 have HXO := hide hxo
 have hBD : Hid (Below w.heap.size w w.drew) := hide (Below.refl _ _).drew
 clear h0 h1 hm ha hf hC hG hsz hx hxo
 go_enter Tryz.func203, Tryz.ntmps203
 go_wp2_with fail
 refine wp_region_vals3 (by kernel_rfl) [(some 4, .pointer (some ⟨q, off, none⟩)), (some 5, .func (.func fid) #[] cap), (some 6, .pointer (some ⟨pr, 0, none⟩)), (some 7, .agg xs.toArray), (some 8, .pointer (some ⟨q, off, none⟩)), (none, undef)] [(4, .pointer (some ⟨q, off, none⟩)), (5, .func (.func fid) #[] cap), (6, .pointer (some ⟨pr, 0, none⟩)), (7, .agg xs.toArray), (8, .pointer (some ⟨q, off, none⟩))] (SGet w R (fun w' => ∃ w2, R w2 ∧ Box w' q (midC cs off xs) t0 ∧ KeepBut (fun k => k = q) w2 w')) (by kernel_rfl) rfl rfl ⟨fun _ => ⟨fun _ => rfl, fun h => by cases h⟩, fun h => by cases h⟩ ?_ ?_
 ·intro i o hi listed A W hsz hN hS hold hdeps
  have hlt : i < 6 := (Array.getElem?_eq_some_iff.1 hi).1
  have hc : i = 0 ∨ i = 1 ∨ i = 2 ∨ i = 3 ∨ i = 4 ∨ i = 5 := by omega
  clear hlt
  rcases hc with rfl | rfl | rfl | rfl | rfl | rfl
  ·obtain rfl := Option.some.inj hi
   have h5 := unlisted_of hN.un hN.cl 5 5 (by kernel_rfl)
   have s2 : A.tmps.getD 2 undef = .pointer (some ⟨ba, 0, none⟩) := hold 2 (by kernel_rfl)
   have hcell : W.cell? ⟨ba, 0, none⟩ = some (.pointer (some ⟨q, off, none⟩)) := by
    cases h3 : listed.getD 3 true with
    | false => rw [(hS.1 h5).1 h3]; exact ((hBD.out.cell (p := ⟨ba, 0, none⟩) HA.out).trans H1.out)
    | true => exact (HG.out W ((hS.1 h5).2 h3)).1
   exact o_pure hi rfl rfl rfl (y_cell_fp_key _ s2 hcell) (hS.next (by decide) (by decide))
  ·obtain rfl := Option.some.inj hi
   have h5 := unlisted_of hN.un hN.cl 5 5 (by kernel_rfl)
   have hd := (hS.1 h5).1 (unlisted_of hN.un hN.cl 5 3 (by kernel_rfl))
   subst hd
   have s1 : A.tmps.getD 1 undef = .pointer (some ⟨bg, 0, none⟩) := hold 1 (by kernel_rfl)
   exact o_pure hi rfl rfl rfl (y_cell_fg_key _ s1 ((hBD.out.cell (p := ⟨bg, 0, none⟩) HM.out).trans H0.out)) (hS.next (by decide) (by decide))
  ·obtain rfl := Option.some.inj hi
   have s0 : A.tmps.getD 0 undef = .pointer (some ⟨pr, 0, none⟩) := hold 0 (by kernel_rfl)
   exact o_pure hi rfl rfl rfl (y_move _ s0) (hS.next (by decide) (by decide))
  ·obtain rfl := Option.some.inj hi
   have h5 := unlisted_of hN.un hN.cl 5 5 (by kernel_rfl)
   have hd := (hS.1 h5).1 hN.un
   subst hd
   have s5 : A.tmps.getD 5 undef = .func (.func fid) #[] cap := slot_of hdeps 1 rfl (by kernel_rfl)
   have s6 : A.tmps.getD 6 undef = .pointer (some ⟨pr, 0, none⟩) := slot_of hdeps 2 rfl (by kernel_rfl)
   exact o_enter hi rfl rfl rfl (y_callV _ fid cap _ #[.pointer (some ⟨pr, 0, none⟩)] _ s5 (by simp only [List.map_toArray, List.map_cons, List.map_nil, show A.eval (.tmp 6) = .pointer (some ⟨pr, 0, none⟩) from s6]) HF.out) ((C.out _ hBD.out).mono fun e w' h => ⟨h.1, ⟨fun _ => ⟨fun h3 => (by rw [listed_at] at h3; cases h3), fun _ => h.2⟩, fun h6 => (by rw [listed_ne (by decide), h5] at h6; cases h6)⟩⟩)
  ·obtain rfl := Option.some.inj hi
   have s4 : A.tmps.getD 4 undef = .pointer (some ⟨q, off, none⟩) := slot_of hdeps 0 rfl (by kernel_rfl)
   exact o_pure hi rfl rfl rfl (y_nilc _ s4) (hS.next (by decide) (by decide))
  ·obtain rfl := Option.some.inj hi
   have h3 : R W := (hS.1 hN.un).2 (listed_dep hN 3 (by kernel_rfl))
   have s7 : A.tmps.getD 7 undef = .agg xs.toArray := slot_of hdeps 3 rfl (by kernel_rfl)
   have s8 : A.tmps.getD 8 undef = .pointer (some ⟨q, off, none⟩) := slot_of hdeps 4 rfl (by kernel_rfl)
   have hb := setRow_box (cs' := (midC cs off xs)) (HG.out W h3).2
   exact o_store hi rfl rfl (y_storeMid (cs' := (midC cs off xs)) _ _ _ s8 s7 (HG.out W h3).2 rfl (decide_eq_true (by show off + xs.length ≤ cs.size; rw [HXL.out]; exact HSZ.out)) (by show _ = some xs.length; rw [HXL.out]; exact infoKey10) HXO.out) ⟨fun h6 => (by rw [listed_at] at h6; cases h6), fun _ => ⟨W, h3, hb.1, hb.2⟩⟩
 ·intro listed w8 hall hS8
  have HR := hide (hS8.2 (hall 5 (by decide)))
  simp only [putAll, Act.put, List.setIfInBounds_toArray, List.set_cons_succ, List.set_cons_zero]
  clear hS8 hall H0 H1 HF C HG
  go_wp2_with fail
  go_end0
  exact ⟨rfl, HR.out⟩
set_option maxRecDepth 100000 in
theorem fa1_u64 (ba bz q off : Nat) (x : Int) (b : Bool) (w : World) (h1 : w.cell? ⟨ba, 0, none⟩ = some (.pointer (some ⟨q, off, none⟩))) (h2 : Box w bz #[.int .u64 0] 77) (h3 : w.cell? ⟨q, off, none⟩ = some (.int .u64 x)) (ha : ba < w.heap.size) (hq : q < w.heap.size)
  (heq : ∀ W, (binOp .eql 77 (.int .u64 x) (.int .u64 0)).run Tryz.prog W = .ok (.bool b) W) :
  Calls Tryz.prog 183 #[.pointer (some ⟨ba, 0, none⟩), .pointer (some ⟨bz, 0, none⟩)] w fun e w' => e = .returned (.bool b) ∧ Below w.heap.size w w' := by
 have H1 := hide h1
 have H2 := hide h2
 have H3 := hide h3
 have HA := hide ha
 have HQ := hide hq
 have HE := hide heq
 clear h1 h2 h3 ha hq heq
 go_enter Tryz.func183, Tryz.ntmps183
 go_wp2_with fail
 refine wp_region_vals (by kernel_rfl) [(3, .pointer (some ⟨q, off, none⟩)), (4, .pointer (some ⟨q, off, none⟩)), (5, .int .u64 x), (6, .int .u64 0), (7, .bool b), (2, .bool b)] (by kernel_rfl) rfl ?_ ?_
 ·intro i o hi A w1 hB hold hdeps
  have hlt : i < 6 := (Array.getElem?_eq_some_iff.1 hi).1
  have hc : i = 0 ∨ i = 1 ∨ i = 2 ∨ i = 3 ∨ i = 4 ∨ i = 5 := by omega
  clear hlt
  rcases hc with rfl | rfl | rfl | rfl | rfl | rfl
  ·obtain rfl := Option.some.inj hi
   have s0 : A.tmps.getD 0 undef = .pointer (some ⟨ba, 0, none⟩) := hold 0 (by kernel_rfl)
   exact r_pure hi rfl rfl (y_cell_fp_u64 _ s0 ((hB.cell (p := ⟨ba, 0, none⟩) HA.out).trans H1.out))
  ·obtain rfl := Option.some.inj hi
   have s3 : A.tmps.getD 3 undef = .pointer (some ⟨q, off, none⟩) := dep_of hdeps 0 (by kernel_rfl)
   exact r_pure hi rfl rfl (y_nilc _ s3)
  ·obtain rfl := Option.some.inj hi
   have s4 : A.tmps.getD 4 undef = .pointer (some ⟨q, off, none⟩) := dep_of hdeps 1 (by kernel_rfl)
   exact r_pure hi rfl rfl (y_cell_u64 _ s4 ((hB.cell (p := ⟨q, off, none⟩) HQ.out).trans H3.out))
  ·obtain rfl := Option.some.inj hi
   have s1 : A.tmps.getD 1 undef = .pointer (some ⟨bz, 0, none⟩) := hold 1 (by kernel_rfl)
   exact r_pure hi rfl rfl (y_cell_u64 _ s1 ((H2.out.belowI hB).cell 0 _ rfl))
  ·obtain rfl := Option.some.inj hi
   have s5 : A.tmps.getD 5 undef = .int .u64 x := dep_of hdeps 2 (by kernel_rfl)
   have s6 : A.tmps.getD 6 undef = .int .u64 0 := dep_of hdeps 3 (by kernel_rfl)
   exact r_pure hi rfl rfl (y_bin _ _ _ _ _ s5 s6 (HE.out w1) (by kernel_rfl))
  ·obtain rfl := Option.some.inj hi
   have s7 : A.tmps.getD 7 undef = .bool b := dep_of hdeps 4 (by kernel_rfl)
   exact r_pure hi rfl rfl (y_assign _ s7)
 ·intro w8 hB8
  simp only [putAll, Act.put, List.setIfInBounds_toArray, List.set_cons_succ, List.set_cons_zero]
  have HB8 := hide hB8
  clear hB8 H1 H2 H3 HE
  go_wp2_with fail
  go_ret
  exact ⟨rfl, HB8.out⟩
set_option maxRecDepth 100000 in
theorem fa2_u64 (bm ba q off : Nat) (x : Int) (fid : FuncId) (cap : Array Value) (b : Bool) (w : World) (h0 : w.cell? ⟨bm, 0, none⟩ = some (.func (.func fid) #[] cap)) (h1 : w.cell? ⟨ba, 0, none⟩ = some (.pointer (some ⟨q, off, none⟩))) (h3 : w.cell? ⟨q, off, none⟩ = some (.int .u64 x)) (hm : bm < w.heap.size) (ha : ba < w.heap.size) (hq : q < w.heap.size)
  (hf : ∀ args W, (callFunc fid args).run Tryz.prog W = .ok (.enter fid args) W) (hC : ∀ W, Below w.heap.size w W → Calls Tryz.prog fid (#[.int .u64 x] ++ cap) W fun e w' => e = .returned (.bool b) ∧ Below W.heap.size W w') :
  Calls Tryz.prog 184 #[.pointer (some ⟨bm, 0, none⟩), .pointer (some ⟨ba, 0, none⟩)] w fun e w' => e = .returned (.bool b) ∧ Below w.heap.size w w' := by
 have H0 := hide h0
 have H1 := hide h1
 have H3 := hide h3
 have HM := hide hm
 have HA := hide ha
 have HQ := hide hq
 have HF := hide hf
 have C := hide hC
 clear h0 h1 h3 hm ha hq hf hC
 go_enter Tryz.func184, Tryz.ntmps184
 go_wp2_with fail
 refine wp_region_vals (by kernel_rfl) [(3, .func (.func fid) #[] cap), (4, .pointer (some ⟨q, off, none⟩)), (5, .pointer (some ⟨q, off, none⟩)), (6, .int .u64 x), (7, .bool b), (2, .bool b)] (by kernel_rfl) rfl ?_ ?_
 ·intro i o hi A w1 hB hold hdeps
  have hlt : i < 6 := (Array.getElem?_eq_some_iff.1 hi).1
  have hc : i = 0 ∨ i = 1 ∨ i = 2 ∨ i = 3 ∨ i = 4 ∨ i = 5 := by omega
  clear hlt
  rcases hc with rfl | rfl | rfl | rfl | rfl | rfl
  ·obtain rfl := Option.some.inj hi
   have s0 : A.tmps.getD 0 undef = .pointer (some ⟨bm, 0, none⟩) := hold 0 (by kernel_rfl)
   exact r_pure hi rfl rfl (y_cell_fm_u64 _ s0 ((hB.cell (p := ⟨bm, 0, none⟩) HM.out).trans H0.out))
  ·obtain rfl := Option.some.inj hi
   have s1 : A.tmps.getD 1 undef = .pointer (some ⟨ba, 0, none⟩) := hold 1 (by kernel_rfl)
   exact r_pure hi rfl rfl (y_cell_fp_u64 _ s1 ((hB.cell (p := ⟨ba, 0, none⟩) HA.out).trans H1.out))
  ·obtain rfl := Option.some.inj hi
   have s4 : A.tmps.getD 4 undef = .pointer (some ⟨q, off, none⟩) := dep_of hdeps 1 (by kernel_rfl)
   exact r_pure hi rfl rfl (y_nilc _ s4)
  ·obtain rfl := Option.some.inj hi
   have s5 : A.tmps.getD 5 undef = .pointer (some ⟨q, off, none⟩) := dep_of hdeps 2 (by kernel_rfl)
   exact r_pure hi rfl rfl (y_cell_u64 _ s5 ((hB.cell (p := ⟨q, off, none⟩) HQ.out).trans H3.out))
  ·obtain rfl := Option.some.inj hi
   have s3 : A.tmps.getD 3 undef = .func (.func fid) #[] cap := dep_of hdeps 0 (by kernel_rfl)
   have s6 : A.tmps.getD 6 undef = .int .u64 x := dep_of hdeps 3 (by kernel_rfl)
   exact r_enter hi rfl rfl (y_callV _ fid cap _ #[.int .u64 x] _ s3 (by simp only [List.map_toArray, List.map_cons, List.map_nil, show A.eval (.tmp 6) = .int .u64 x from s6]) HF.out) (C.out w1 hB)
  ·obtain rfl := Option.some.inj hi
   have s7 : A.tmps.getD 7 undef = .bool b := dep_of hdeps 4 (by kernel_rfl)
   exact r_pure hi rfl rfl (y_assign _ s7)
 ·intro w8 hB8
  simp only [putAll, Act.put, List.setIfInBounds_toArray, List.set_cons_succ, List.set_cons_zero]
  have HB8 := hide hB8
  clear hB8 H0 H1 H3 HF C
  go_wp2_with fail
  go_ret
  exact ⟨rfl, HB8.out⟩
set_option maxRecDepth 100000 in
theorem fa3_u64 (pw bp ba q off : Nat) (x : Int) (fid : FuncId) (cap : Array Value) (R : World → Prop) (w : World) (h0 : w.cell? ⟨bp, 0, none⟩ = some (.func (.func fid) #[] cap)) (h1 : w.cell? ⟨ba, 0, none⟩ = some (.pointer (some ⟨q, off, none⟩))) (h3 : w.cell? ⟨q, off, none⟩ = some (.int .u64 x)) (hm : bp < w.heap.size) (ha : ba < w.heap.size) (hq : q < w.heap.size)
  (hf : ∀ args W, (callFunc fid args).run Tryz.prog W = .ok (.enter fid args) W) (hC : ∀ W, Below w.heap.size w W → Calls Tryz.prog fid (#[.pointer (some ⟨pw, 0, none⟩), .int .u64 x] ++ cap) W fun e w' => e = .returned (.tuple #[]) ∧ R w') :
  Calls Tryz.prog 185 #[.pointer (some ⟨pw, 0, none⟩), .pointer (some ⟨bp, 0, none⟩), .pointer (some ⟨ba, 0, none⟩)] w fun e w' => e = .returned (.tuple #[]) ∧ R w' := by
 have H0 := hide h0
 have H1 := hide h1
 have H3 := hide h3
 have HM := hide hm
 have HA := hide ha
 have HQ := hide hq
 have HF := hide hf
 have C := hide hC
 have hBD : Hid (Below w.heap.size w w.drew) := hide (Below.refl _ _).drew
 clear h0 h1 h3 hm ha hq hf hC
 go_enter Tryz.func185, Tryz.ntmps185
 go_wp2_with fail
 refine wp_region_vals3 (by kernel_rfl) [(some 4, .func (.func fid) #[] cap), (some 5, .pointer (some ⟨pw, 0, none⟩)), (some 6, .pointer (some ⟨q, off, none⟩)), (some 7, .pointer (some ⟨q, off, none⟩)), (some 8, .int .u64 x), (some 9, .tuple #[])] [(4, .func (.func fid) #[] cap), (5, .pointer (some ⟨pw, 0, none⟩)), (6, .pointer (some ⟨q, off, none⟩)), (7, .pointer (some ⟨q, off, none⟩)), (8, .int .u64 x), (9, .tuple #[])] (SPut w R) (by kernel_rfl) rfl rfl ⟨fun _ => rfl, fun h => by cases h⟩ ?_ ?_
 ·intro i o hi listed A W hsz hN hS hold hdeps
  have hlt : i < 6 := (Array.getElem?_eq_some_iff.1 hi).1
  have hc : i = 0 ∨ i = 1 ∨ i = 2 ∨ i = 3 ∨ i = 4 ∨ i = 5 := by omega
  clear hlt
  rcases hc with rfl | rfl | rfl | rfl | rfl | rfl
  ·obtain rfl := Option.some.inj hi
   have hd := hS.1 (unlisted_of hN.un hN.cl 5 5 (by kernel_rfl))
   subst hd
   have s1 : A.tmps.getD 1 undef = .pointer (some ⟨bp, 0, none⟩) := hold 1 (by kernel_rfl)
   exact o_pure hi rfl rfl rfl (y_cell_fw_u64 _ s1 ((hBD.out.cell (p := ⟨bp, 0, none⟩) HM.out).trans H0.out)) (hS.next (by decide))
  ·obtain rfl := Option.some.inj hi
   have s0 : A.tmps.getD 0 undef = .pointer (some ⟨pw, 0, none⟩) := hold 0 (by kernel_rfl)
   exact o_pure hi rfl rfl rfl (y_move _ s0) (hS.next (by decide))
  ·obtain rfl := Option.some.inj hi
   have hd := hS.1 (unlisted_of hN.un hN.cl 5 5 (by kernel_rfl))
   subst hd
   have s2 : A.tmps.getD 2 undef = .pointer (some ⟨ba, 0, none⟩) := hold 2 (by kernel_rfl)
   exact o_pure hi rfl rfl rfl (y_cell_fp_u64 _ s2 ((hBD.out.cell (p := ⟨ba, 0, none⟩) HA.out).trans H1.out)) (hS.next (by decide))
  ·obtain rfl := Option.some.inj hi
   have s6 : A.tmps.getD 6 undef = .pointer (some ⟨q, off, none⟩) := slot_of hdeps 2 rfl (by kernel_rfl)
   exact o_pure hi rfl rfl rfl (y_nilc _ s6) (hS.next (by decide))
  ·obtain rfl := Option.some.inj hi
   have hd := hS.1 (unlisted_of hN.un hN.cl 5 5 (by kernel_rfl))
   subst hd
   have s7 : A.tmps.getD 7 undef = .pointer (some ⟨q, off, none⟩) := slot_of hdeps 3 rfl (by kernel_rfl)
   exact o_pure hi rfl rfl rfl (y_cell_u64 _ s7 ((hBD.out.cell (p := ⟨q, off, none⟩) HQ.out).trans H3.out)) (hS.next (by decide))
  ·obtain rfl := Option.some.inj hi
   have hd := hS.1 hN.un
   subst hd
   have s4 : A.tmps.getD 4 undef = .func (.func fid) #[] cap := slot_of hdeps 0 rfl (by kernel_rfl)
   have s5 : A.tmps.getD 5 undef = .pointer (some ⟨pw, 0, none⟩) := slot_of hdeps 1 rfl (by kernel_rfl)
   have s8 : A.tmps.getD 8 undef = .int .u64 x := slot_of hdeps 4 rfl (by kernel_rfl)
   exact o_enter hi rfl rfl rfl (y_callV _ fid cap _ #[.pointer (some ⟨pw, 0, none⟩), .int .u64 x] _ s4 (by simp only [List.map_toArray, List.map_cons, List.map_nil, show A.eval (.tmp 5) = .pointer (some ⟨pw, 0, none⟩) from s5, show A.eval (.tmp 8) = .int .u64 x from s8]) HF.out) ((C.out _ hBD.out).mono fun e w' h => ⟨h.1, ⟨fun h5 => (by rw [listed_at] at h5; cases h5), fun _ => h.2⟩⟩)
 ·intro listed w8 hall hS8
  have HR := hide (hS8.2 (hall 5 (by decide)))
  simp only [putAll, Act.put, List.setIfInBounds_toArray, List.set_cons_succ, List.set_cons_zero]
  clear hS8 hall H0 H1 H3 HF C
  go_wp2_with fail
  go_end0
  exact ⟨rfl, HR.out⟩
set_option maxRecDepth 100000 in
theorem fa4_u64 (pr bg ba q off : Nat) (x : Int) (cs : Array Value) (t0 : TypeId) (fid : FuncId) (cap : Array Value) (R : World → Prop) (w : World) (h0 : w.cell? ⟨bg, 0, none⟩ = some (.func (.func fid) #[] cap)) (h1 : w.cell? ⟨ba, 0, none⟩ = some (.pointer (some ⟨q, off, none⟩))) (hm : bg < w.heap.size) (ha : ba < w.heap.size) (hsz : off + 1 ≤ cs.size)
  (hf : ∀ args W, (callFunc fid args).run Tryz.prog W = .ok (.enter fid args) W) (hC : ∀ W, Below w.heap.size w W → Calls Tryz.prog fid (#[.pointer (some ⟨pr, 0, none⟩)] ++ cap) W fun e w' => e = .returned (.int .u64 x) ∧ R w')
  (hG : ∀ W, R W → W.cell? ⟨ba, 0, none⟩ = some (.pointer (some ⟨q, off, none⟩)) ∧ Box W q cs t0) :
  Calls Tryz.prog 186 #[.pointer (some ⟨pr, 0, none⟩), .pointer (some ⟨bg, 0, none⟩), .pointer (some ⟨ba, 0, none⟩)] w fun e w' => e = .returned (.tuple #[]) ∧ ∃ w2, R w2 ∧ Box w' q (midC cs off [.int .u64 x]) t0 ∧ KeepBut (fun k => k = q) w2 w' := by
 have H0 := hide h0
 have H1 := hide h1
 have HM := hide hm
 have HA := hide ha
 have HF := hide hf
 have C := hide hC
 have HG := hide hG
 have HSZ := hide hsz
 have hBD : Hid (Below w.heap.size w w.drew) := hide (Below.refl _ _).drew
 clear h0 h1 hm ha hf hC hG hsz
 go_enter Tryz.func186, Tryz.ntmps186
 go_wp2_with fail
 refine wp_region_vals3 (by kernel_rfl) [(some 4, .pointer (some ⟨q, off, none⟩)), (some 5, .func (.func fid) #[] cap), (some 6, .pointer (some ⟨pr, 0, none⟩)), (some 7, .int .u64 x), (some 8, .pointer (some ⟨q, off, none⟩)), (none, undef)] [(4, .pointer (some ⟨q, off, none⟩)), (5, .func (.func fid) #[] cap), (6, .pointer (some ⟨pr, 0, none⟩)), (7, .int .u64 x), (8, .pointer (some ⟨q, off, none⟩))] (SGet w R (fun w' => ∃ w2, R w2 ∧ Box w' q (midC cs off [.int .u64 x]) t0 ∧ KeepBut (fun k => k = q) w2 w')) (by kernel_rfl) rfl rfl ⟨fun _ => ⟨fun _ => rfl, fun h => by cases h⟩, fun h => by cases h⟩ ?_ ?_
 ·intro i o hi listed A W hsz hN hS hold hdeps
  have hlt : i < 6 := (Array.getElem?_eq_some_iff.1 hi).1
  have hc : i = 0 ∨ i = 1 ∨ i = 2 ∨ i = 3 ∨ i = 4 ∨ i = 5 := by omega
  clear hlt
  rcases hc with rfl | rfl | rfl | rfl | rfl | rfl
  ·obtain rfl := Option.some.inj hi
   have h5 := unlisted_of hN.un hN.cl 5 5 (by kernel_rfl)
   have s2 : A.tmps.getD 2 undef = .pointer (some ⟨ba, 0, none⟩) := hold 2 (by kernel_rfl)
   have hcell : W.cell? ⟨ba, 0, none⟩ = some (.pointer (some ⟨q, off, none⟩)) := by
    cases h3 : listed.getD 3 true with
    | false => rw [(hS.1 h5).1 h3]; exact ((hBD.out.cell (p := ⟨ba, 0, none⟩) HA.out).trans H1.out)
    | true => exact (HG.out W ((hS.1 h5).2 h3)).1
   exact o_pure hi rfl rfl rfl (y_cell_fp_u64 _ s2 hcell) (hS.next (by decide) (by decide))
  ·obtain rfl := Option.some.inj hi
   have h5 := unlisted_of hN.un hN.cl 5 5 (by kernel_rfl)
   have hd := (hS.1 h5).1 (unlisted_of hN.un hN.cl 5 3 (by kernel_rfl))
   subst hd
   have s1 : A.tmps.getD 1 undef = .pointer (some ⟨bg, 0, none⟩) := hold 1 (by kernel_rfl)
   exact o_pure hi rfl rfl rfl (y_cell_fg_u64 _ s1 ((hBD.out.cell (p := ⟨bg, 0, none⟩) HM.out).trans H0.out)) (hS.next (by decide) (by decide))
  ·obtain rfl := Option.some.inj hi
   have s0 : A.tmps.getD 0 undef = .pointer (some ⟨pr, 0, none⟩) := hold 0 (by kernel_rfl)
   exact o_pure hi rfl rfl rfl (y_move _ s0) (hS.next (by decide) (by decide))
  ·obtain rfl := Option.some.inj hi
   have h5 := unlisted_of hN.un hN.cl 5 5 (by kernel_rfl)
   have hd := (hS.1 h5).1 hN.un
   subst hd
   have s5 : A.tmps.getD 5 undef = .func (.func fid) #[] cap := slot_of hdeps 1 rfl (by kernel_rfl)
   have s6 : A.tmps.getD 6 undef = .pointer (some ⟨pr, 0, none⟩) := slot_of hdeps 2 rfl (by kernel_rfl)
   exact o_enter hi rfl rfl rfl (y_callV _ fid cap _ #[.pointer (some ⟨pr, 0, none⟩)] _ s5 (by simp only [List.map_toArray, List.map_cons, List.map_nil, show A.eval (.tmp 6) = .pointer (some ⟨pr, 0, none⟩) from s6]) HF.out) ((C.out _ hBD.out).mono fun e w' h => ⟨h.1, ⟨fun _ => ⟨fun h3 => (by rw [listed_at] at h3; cases h3), fun _ => h.2⟩, fun h6 => (by rw [listed_ne (by decide), h5] at h6; cases h6)⟩⟩)
  ·obtain rfl := Option.some.inj hi
   have s4 : A.tmps.getD 4 undef = .pointer (some ⟨q, off, none⟩) := slot_of hdeps 0 rfl (by kernel_rfl)
   exact o_pure hi rfl rfl rfl (y_nilc _ s4) (hS.next (by decide) (by decide))
  ·obtain rfl := Option.some.inj hi
   have h3 : R W := (hS.1 hN.un).2 (listed_dep hN 3 (by kernel_rfl))
   have s7 : A.tmps.getD 7 undef = .int .u64 x := slot_of hdeps 3 rfl (by kernel_rfl)
   have s8 : A.tmps.getD 8 undef = .pointer (some ⟨q, off, none⟩) := slot_of hdeps 4 rfl (by kernel_rfl)
   have hb := setRow_box (cs' := (midC cs off [.int .u64 x])) (HG.out W h3).2
   exact o_store hi rfl rfl (y_storeMid (cs' := (midC cs off [.int .u64 x])) _ _ _ s8 s7 (HG.out W h3).2 rfl (decide_eq_true HSZ.out) infoU64k rfl) ⟨fun h6 => (by rw [listed_at] at h6; cases h6), fun _ => ⟨W, h3, hb.1, hb.2⟩⟩
 ·intro listed w8 hall hS8
  have HR := hide (hS8.2 (hall 5 (by decide)))
  simp only [putAll, Act.put, List.setIfInBounds_toArray, List.set_cons_succ, List.set_cons_zero]
  clear hS8 hall H0 H1 HF C HG
  go_wp2_with fail
  go_end0
  exact ⟨rfl, HR.out⟩
set_option maxRecDepth 100000 in
theorem fa1_item (ba bz q off : Nat) (cs : List Value) (b : Bool) (w : World) (h1 : w.cell? ⟨ba, 0, none⟩ = some (.pointer (some ⟨q, off, none⟩))) (h2 : Box w bz (itA zeroIt) 85) (h3 : w.rangeAt q off cs) (hl : cs.length = 13) (ha : ba < w.heap.size) (hq : q < w.heap.size)
  (heq : ∀ W, (binOp .eql 85 (.agg cs.toArray) (.agg (itA zeroIt))).run Tryz.prog W = .ok (.bool b) W) :
  Calls Tryz.prog 207 #[.pointer (some ⟨ba, 0, none⟩), .pointer (some ⟨bz, 0, none⟩)] w fun e w' => e = .returned (.bool b) ∧ Below w.heap.size w w' := by
 have H1 := hide h1
 have H2 := hide h2
 have H3 := hide h3
 have HA := hide ha
 have HQ := hide hq
 have HE := hide heq
 have HL := hide hl
 clear h1 h2 h3 ha hq heq hl
 go_enter Tryz.func207, Tryz.ntmps207
 go_wp2_with fail
 refine wp_region_vals (by kernel_rfl) [(3, .pointer (some ⟨q, off, none⟩)), (4, .pointer (some ⟨q, off, none⟩)), (5, .agg cs.toArray), (6, .agg (itA zeroIt)), (7, .bool b), (2, .bool b)] (by kernel_rfl) rfl ?_ ?_
 ·intro i o hi A w1 hB hold hdeps
  have hlt : i < 6 := (Array.getElem?_eq_some_iff.1 hi).1
  have hc : i = 0 ∨ i = 1 ∨ i = 2 ∨ i = 3 ∨ i = 4 ∨ i = 5 := by omega
  clear hlt
  rcases hc with rfl | rfl | rfl | rfl | rfl | rfl
  ·obtain rfl := Option.some.inj hi
   have s0 : A.tmps.getD 0 undef = .pointer (some ⟨ba, 0, none⟩) := hold 0 (by kernel_rfl)
   exact r_pure hi rfl rfl (y_cell_fp_item _ s0 ((hB.cell (p := ⟨ba, 0, none⟩) HA.out).trans H1.out))
  ·obtain rfl := Option.some.inj hi
   have s3 : A.tmps.getD 3 undef = .pointer (some ⟨q, off, none⟩) := dep_of hdeps 0 (by kernel_rfl)
   exact r_pure hi rfl rfl (y_nilc _ s3)
  ·obtain rfl := Option.some.inj hi
   have s4 : A.tmps.getD 4 undef = .pointer (some ⟨q, off, none⟩) := dep_of hdeps 1 (by kernel_rfl)
   exact r_pure hi rfl rfl (y_loadMid _ _ s4 (range_belowF H3.out HQ.out hB) Tryz.underlying85 rfl (by rw [HL.out]; exact infoItem))
  ·obtain rfl := Option.some.inj hi
   have s1 : A.tmps.getD 1 undef = .pointer (some ⟨bz, 0, none⟩) := hold 1 (by kernel_rfl)
   exact r_pure hi rfl rfl (y_load _ _ s1 (H2.out.belowI hB) Tryz.underlying85 rfl infoItem)
  ·obtain rfl := Option.some.inj hi
   have s5 : A.tmps.getD 5 undef = .agg cs.toArray := dep_of hdeps 2 (by kernel_rfl)
   have s6 : A.tmps.getD 6 undef = .agg (itA zeroIt) := dep_of hdeps 3 (by kernel_rfl)
   exact r_pure hi rfl rfl (y_bin _ _ _ _ _ s5 s6 (HE.out w1) (by kernel_rfl))
  ·obtain rfl := Option.some.inj hi
   have s7 : A.tmps.getD 7 undef = .bool b := dep_of hdeps 4 (by kernel_rfl)
   exact r_pure hi rfl rfl (y_assign _ s7)
 ·intro w8 hB8
  simp only [putAll, Act.put, List.setIfInBounds_toArray, List.set_cons_succ, List.set_cons_zero]
  have HB8 := hide hB8
  clear hB8 H1 H2 H3 HE
  go_wp2_with fail
  go_ret
  exact ⟨rfl, HB8.out⟩
set_option maxRecDepth 100000 in
theorem fa2_item (bm ba q off : Nat) (cs : List Value) (fid : FuncId) (cap : Array Value) (b : Bool) (w : World) (h0 : w.cell? ⟨bm, 0, none⟩ = some (.func (.func fid) #[] cap)) (h1 : w.cell? ⟨ba, 0, none⟩ = some (.pointer (some ⟨q, off, none⟩))) (h3 : w.rangeAt q off cs) (hl : cs.length = 13) (hm : bm < w.heap.size) (ha : ba < w.heap.size) (hq : q < w.heap.size)
  (hf : ∀ args W, (callFunc fid args).run Tryz.prog W = .ok (.enter fid args) W) (hC : ∀ W, Below w.heap.size w W → Calls Tryz.prog fid (#[.agg cs.toArray] ++ cap) W fun e w' => e = .returned (.bool b) ∧ Below W.heap.size W w') :
  Calls Tryz.prog 208 #[.pointer (some ⟨bm, 0, none⟩), .pointer (some ⟨ba, 0, none⟩)] w fun e w' => e = .returned (.bool b) ∧ Below w.heap.size w w' := by
 have H0 := hide h0
 have H1 := hide h1
 have H3 := hide h3
 have HM := hide hm
 have HA := hide ha
 have HQ := hide hq
 have HF := hide hf
 have C := hide hC
 have HL := hide hl
 clear h0 h1 h3 hm ha hq hf hC hl
 go_enter Tryz.func208, Tryz.ntmps208
 go_wp2_with fail
 refine wp_region_vals (by kernel_rfl) [(3, .func (.func fid) #[] cap), (4, .pointer (some ⟨q, off, none⟩)), (5, .pointer (some ⟨q, off, none⟩)), (6, .agg cs.toArray), (7, .bool b), (2, .bool b)] (by kernel_rfl) rfl ?_ ?_
 ·intro i o hi A w1 hB hold hdeps
  have hlt : i < 6 := (Array.getElem?_eq_some_iff.1 hi).1
  have hc : i = 0 ∨ i = 1 ∨ i = 2 ∨ i = 3 ∨ i = 4 ∨ i = 5 := by omega
  clear hlt
  rcases hc with rfl | rfl | rfl | rfl | rfl | rfl
  ·obtain rfl := Option.some.inj hi
   have s0 : A.tmps.getD 0 undef = .pointer (some ⟨bm, 0, none⟩) := hold 0 (by kernel_rfl)
   exact r_pure hi rfl rfl (y_cell_fm_item _ s0 ((hB.cell (p := ⟨bm, 0, none⟩) HM.out).trans H0.out))
  ·obtain rfl := Option.some.inj hi
   have s1 : A.tmps.getD 1 undef = .pointer (some ⟨ba, 0, none⟩) := hold 1 (by kernel_rfl)
   exact r_pure hi rfl rfl (y_cell_fp_item _ s1 ((hB.cell (p := ⟨ba, 0, none⟩) HA.out).trans H1.out))
  ·obtain rfl := Option.some.inj hi
   have s4 : A.tmps.getD 4 undef = .pointer (some ⟨q, off, none⟩) := dep_of hdeps 1 (by kernel_rfl)
   exact r_pure hi rfl rfl (y_nilc _ s4)
  ·obtain rfl := Option.some.inj hi
   have s5 : A.tmps.getD 5 undef = .pointer (some ⟨q, off, none⟩) := dep_of hdeps 2 (by kernel_rfl)
   exact r_pure hi rfl rfl (y_loadMid _ _ s5 (range_belowF H3.out HQ.out hB) Tryz.underlying85 rfl (by rw [HL.out]; exact infoItem))
  ·obtain rfl := Option.some.inj hi
   have s3 : A.tmps.getD 3 undef = .func (.func fid) #[] cap := dep_of hdeps 0 (by kernel_rfl)
   have s6 : A.tmps.getD 6 undef = .agg cs.toArray := dep_of hdeps 3 (by kernel_rfl)
   exact r_enter hi rfl rfl (y_callV _ fid cap _ #[.agg cs.toArray] _ s3 (by simp only [List.map_toArray, List.map_cons, List.map_nil, show A.eval (.tmp 6) = .agg cs.toArray from s6]) HF.out) (C.out w1 hB)
  ·obtain rfl := Option.some.inj hi
   have s7 : A.tmps.getD 7 undef = .bool b := dep_of hdeps 4 (by kernel_rfl)
   exact r_pure hi rfl rfl (y_assign _ s7)
 ·intro w8 hB8
  simp only [putAll, Act.put, List.setIfInBounds_toArray, List.set_cons_succ, List.set_cons_zero]
  have HB8 := hide hB8
  clear hB8 H0 H1 H3 HF C
  go_wp2_with fail
  go_ret
  exact ⟨rfl, HB8.out⟩
set_option maxRecDepth 100000 in
theorem fa3_item (pw bp ba q off : Nat) (cs : List Value) (fid : FuncId) (cap : Array Value) (R : World → Prop) (w : World) (h0 : w.cell? ⟨bp, 0, none⟩ = some (.func (.func fid) #[] cap)) (h1 : w.cell? ⟨ba, 0, none⟩ = some (.pointer (some ⟨q, off, none⟩))) (h3 : w.rangeAt q off cs) (hl : cs.length = 13) (hm : bp < w.heap.size) (ha : ba < w.heap.size) (hq : q < w.heap.size)
  (hf : ∀ args W, (callFunc fid args).run Tryz.prog W = .ok (.enter fid args) W) (hC : ∀ W, Below w.heap.size w W → Calls Tryz.prog fid (#[.pointer (some ⟨pw, 0, none⟩), .agg cs.toArray] ++ cap) W fun e w' => e = .returned (.tuple #[]) ∧ R w') :
  Calls Tryz.prog 209 #[.pointer (some ⟨pw, 0, none⟩), .pointer (some ⟨bp, 0, none⟩), .pointer (some ⟨ba, 0, none⟩)] w fun e w' => e = .returned (.tuple #[]) ∧ R w' := by
 have H0 := hide h0
 have H1 := hide h1
 have H3 := hide h3
 have HM := hide hm
 have HA := hide ha
 have HQ := hide hq
 have HF := hide hf
 have C := hide hC
 have hBD : Hid (Below w.heap.size w w.drew) := hide (Below.refl _ _).drew
 have HL := hide hl
 clear h0 h1 h3 hm ha hq hf hC hl
 go_enter Tryz.func209, Tryz.ntmps209
 go_wp2_with fail
 refine wp_region_vals3 (by kernel_rfl) [(some 4, .func (.func fid) #[] cap), (some 5, .pointer (some ⟨pw, 0, none⟩)), (some 6, .pointer (some ⟨q, off, none⟩)), (some 7, .pointer (some ⟨q, off, none⟩)), (some 8, .agg cs.toArray), (some 9, .tuple #[])] [(4, .func (.func fid) #[] cap), (5, .pointer (some ⟨pw, 0, none⟩)), (6, .pointer (some ⟨q, off, none⟩)), (7, .pointer (some ⟨q, off, none⟩)), (8, .agg cs.toArray), (9, .tuple #[])] (SPut w R) (by kernel_rfl) rfl rfl ⟨fun _ => rfl, fun h => by cases h⟩ ?_ ?_
 ·intro i o hi listed A W hsz hN hS hold hdeps
  have hlt : i < 6 := (Array.getElem?_eq_some_iff.1 hi).1
  have hc : i = 0 ∨ i = 1 ∨ i = 2 ∨ i = 3 ∨ i = 4 ∨ i = 5 := by omega
  clear hlt
  rcases hc with rfl | rfl | rfl | rfl | rfl | rfl
  ·obtain rfl := Option.some.inj hi
   have hd := hS.1 (unlisted_of hN.un hN.cl 5 5 (by kernel_rfl))
   subst hd
   have s1 : A.tmps.getD 1 undef = .pointer (some ⟨bp, 0, none⟩) := hold 1 (by kernel_rfl)
   exact o_pure hi rfl rfl rfl (y_cell_fw_item _ s1 ((hBD.out.cell (p := ⟨bp, 0, none⟩) HM.out).trans H0.out)) (hS.next (by decide))
  ·obtain rfl := Option.some.inj hi
   have s0 : A.tmps.getD 0 undef = .pointer (some ⟨pw, 0, none⟩) := hold 0 (by kernel_rfl)
   exact o_pure hi rfl rfl rfl (y_move _ s0) (hS.next (by decide))
  ·obtain rfl := Option.some.inj hi
   have hd := hS.1 (unlisted_of hN.un hN.cl 5 5 (by kernel_rfl))
   subst hd
   have s2 : A.tmps.getD 2 undef = .pointer (some ⟨ba, 0, none⟩) := hold 2 (by kernel_rfl)
   exact o_pure hi rfl rfl rfl (y_cell_fp_item _ s2 ((hBD.out.cell (p := ⟨ba, 0, none⟩) HA.out).trans H1.out)) (hS.next (by decide))
  ·obtain rfl := Option.some.inj hi
   have s6 : A.tmps.getD 6 undef = .pointer (some ⟨q, off, none⟩) := slot_of hdeps 2 rfl (by kernel_rfl)
   exact o_pure hi rfl rfl rfl (y_nilc _ s6) (hS.next (by decide))
  ·obtain rfl := Option.some.inj hi
   have hd := hS.1 (unlisted_of hN.un hN.cl 5 5 (by kernel_rfl))
   subst hd
   have s7 : A.tmps.getD 7 undef = .pointer (some ⟨q, off, none⟩) := slot_of hdeps 3 rfl (by kernel_rfl)
   exact o_pure hi rfl rfl rfl (y_loadMid _ _ s7 (range_belowF H3.out HQ.out hBD.out) Tryz.underlying85 rfl (by rw [HL.out]; exact infoItem)) (hS.next (by decide))
  ·obtain rfl := Option.some.inj hi
   have hd := hS.1 hN.un
   subst hd
   have s4 : A.tmps.getD 4 undef = .func (.func fid) #[] cap := slot_of hdeps 0 rfl (by kernel_rfl)
   have s5 : A.tmps.getD 5 undef = .pointer (some ⟨pw, 0, none⟩) := slot_of hdeps 1 rfl (by kernel_rfl)
   have s8 : A.tmps.getD 8 undef = .agg cs.toArray := slot_of hdeps 4 rfl (by kernel_rfl)
   exact o_enter hi rfl rfl rfl (y_callV _ fid cap _ #[.pointer (some ⟨pw, 0, none⟩), .agg cs.toArray] _ s4 (by simp only [List.map_toArray, List.map_cons, List.map_nil, show A.eval (.tmp 5) = .pointer (some ⟨pw, 0, none⟩) from s5, show A.eval (.tmp 8) = .agg cs.toArray from s8]) HF.out) ((C.out _ hBD.out).mono fun e w' h => ⟨h.1, ⟨fun h5 => (by rw [listed_at] at h5; cases h5), fun _ => h.2⟩⟩)
 ·intro listed w8 hall hS8
  have HR := hide (hS8.2 (hall 5 (by decide)))
  simp only [putAll, Act.put, List.setIfInBounds_toArray, List.set_cons_succ, List.set_cons_zero]
  clear hS8 hall H0 H1 H3 HF C
  go_wp2_with fail
  go_end0
  exact ⟨rfl, HR.out⟩
set_option maxRecDepth 100000 in
theorem fa4_item (pr bg ba q off : Nat) (xs : List Value) (cs : Array Value) (t0 : TypeId) (fid : FuncId) (cap : Array Value) (R : World → Prop) (w : World) (h0 : w.cell? ⟨bg, 0, none⟩ = some (.func (.func fid) #[] cap)) (h1 : w.cell? ⟨ba, 0, none⟩ = some (.pointer (some ⟨q, off, none⟩))) (hx : xs.length = 13) (hxo : xs.all (·.oneCell') = true) (hm : bg < w.heap.size) (ha : ba < w.heap.size) (hsz : off + 13 ≤ cs.size)
  (hf : ∀ args W, (callFunc fid args).run Tryz.prog W = .ok (.enter fid args) W) (hC : ∀ W, Below w.heap.size w W → Calls Tryz.prog fid (#[.pointer (some ⟨pr, 0, none⟩)] ++ cap) W fun e w' => e = .returned (.agg xs.toArray) ∧ R w')
  (hG : ∀ W, R W → W.cell? ⟨ba, 0, none⟩ = some (.pointer (some ⟨q, off, none⟩)) ∧ Box W q cs t0) :
  Calls Tryz.prog 210 #[.pointer (some ⟨pr, 0, none⟩), .pointer (some ⟨bg, 0, none⟩), .pointer (some ⟨ba, 0, none⟩)] w fun e w' => e = .returned (.tuple #[]) ∧ ∃ w2, R w2 ∧ Box w' q (midC cs off xs) t0 ∧ KeepBut (fun k => k = q) w2 w' := by
 have H0 := hide h0
 have H1 := hide h1
 have HM := hide hm
 have HA := hide ha
 have HF := hide hf
 have C := hide hC
 have HG := hide hG
 have HSZ := hide hsz
 have HXL := hide hx
 have HXO := hide hxo
 have hBD : Hid (Below w.heap.size w w.drew) := hide (Below.refl _ _).drew
 clear h0 h1 hm ha hf hC hG hsz hx hxo
 go_enter Tryz.func210, Tryz.ntmps210
 go_wp2_with fail
 refine wp_region_vals3 (by kernel_rfl) [(some 4, .pointer (some ⟨q, off, none⟩)), (some 5, .func (.func fid) #[] cap), (some 6, .pointer (some ⟨pr, 0, none⟩)), (some 7, .agg xs.toArray), (some 8, .pointer (some ⟨q, off, none⟩)), (none, undef)] [(4, .pointer (some ⟨q, off, none⟩)), (5, .func (.func fid) #[] cap), (6, .pointer (some ⟨pr, 0, none⟩)), (7, .agg xs.toArray), (8, .pointer (some ⟨q, off, none⟩))] (SGet w R (fun w' => ∃ w2, R w2 ∧ Box w' q (midC cs off xs) t0 ∧ KeepBut (fun k => k = q) w2 w')) (by kernel_rfl) rfl rfl ⟨fun _ => ⟨fun _ => rfl, fun h => by cases h⟩, fun h => by cases h⟩ ?_ ?_
 ·intro i o hi listed A W hsz hN hS hold hdeps
  have hlt : i < 6 := (Array.getElem?_eq_some_iff.1 hi).1
  have hc : i = 0 ∨ i = 1 ∨ i = 2 ∨ i = 3 ∨ i = 4 ∨ i = 5 := by omega
  clear hlt
  rcases hc with rfl | rfl | rfl | rfl | rfl | rfl
  ·obtain rfl := Option.some.inj hi
   have h5 := unlisted_of hN.un hN.cl 5 5 (by kernel_rfl)
   have s2 : A.tmps.getD 2 undef = .pointer (some ⟨ba, 0, none⟩) := hold 2 (by kernel_rfl)
   have hcell : W.cell? ⟨ba, 0, none⟩ = some (.pointer (some ⟨q, off, none⟩)) := by
    cases h3 : listed.getD 3 true with
    | false => rw [(hS.1 h5).1 h3]; exact ((hBD.out.cell (p := ⟨ba, 0, none⟩) HA.out).trans H1.out)
    | true => exact (HG.out W ((hS.1 h5).2 h3)).1
   exact o_pure hi rfl rfl rfl (y_cell_fp_item _ s2 hcell) (hS.next (by decide) (by decide))
  ·obtain rfl := Option.some.inj hi
   have h5 := unlisted_of hN.un hN.cl 5 5 (by kernel_rfl)
   have hd := (hS.1 h5).1 (unlisted_of hN.un hN.cl 5 3 (by kernel_rfl))
   subst hd
   have s1 : A.tmps.getD 1 undef = .pointer (some ⟨bg, 0, none⟩) := hold 1 (by kernel_rfl)
   exact o_pure hi rfl rfl rfl (y_cell_fg_item _ s1 ((hBD.out.cell (p := ⟨bg, 0, none⟩) HM.out).trans H0.out)) (hS.next (by decide) (by decide))
  ·obtain rfl := Option.some.inj hi
   have s0 : A.tmps.getD 0 undef = .pointer (some ⟨pr, 0, none⟩) := hold 0 (by kernel_rfl)
   exact o_pure hi rfl rfl rfl (y_move _ s0) (hS.next (by decide) (by decide))
  ·obtain rfl := Option.some.inj hi
   have h5 := unlisted_of hN.un hN.cl 5 5 (by kernel_rfl)
   have hd := (hS.1 h5).1 hN.un
   subst hd
   have s5 : A.tmps.getD 5 undef = .func (.func fid) #[] cap := slot_of hdeps 1 rfl (by kernel_rfl)
   have s6 : A.tmps.getD 6 undef = .pointer (some ⟨pr, 0, none⟩) := slot_of hdeps 2 rfl (by kernel_rfl)
   exact o_enter hi rfl rfl rfl (y_callV _ fid cap _ #[.pointer (some ⟨pr, 0, none⟩)] _ s5 (by simp only [List.map_toArray, List.map_cons, List.map_nil, show A.eval (.tmp 6) = .pointer (some ⟨pr, 0, none⟩) from s6]) HF.out) ((C.out _ hBD.out).mono fun e w' h => ⟨h.1, ⟨fun _ => ⟨fun h3 => (by rw [listed_at] at h3; cases h3), fun _ => h.2⟩, fun h6 => (by rw [listed_ne (by decide), h5] at h6; cases h6)⟩⟩)
  ·obtain rfl := Option.some.inj hi
   have s4 : A.tmps.getD 4 undef = .pointer (some ⟨q, off, none⟩) := slot_of hdeps 0 rfl (by kernel_rfl)
   exact o_pure hi rfl rfl rfl (y_nilc _ s4) (hS.next (by decide) (by decide))
  ·obtain rfl := Option.some.inj hi
   have h3 : R W := (hS.1 hN.un).2 (listed_dep hN 3 (by kernel_rfl))
   have s7 : A.tmps.getD 7 undef = .agg xs.toArray := slot_of hdeps 3 rfl (by kernel_rfl)
   have s8 : A.tmps.getD 8 undef = .pointer (some ⟨q, off, none⟩) := slot_of hdeps 4 rfl (by kernel_rfl)
   have hb := setRow_box (cs' := (midC cs off xs)) (HG.out W h3).2
   exact o_store hi rfl rfl (y_storeMid (cs' := (midC cs off xs)) _ _ _ s8 s7 (HG.out W h3).2 rfl (decide_eq_true (by show off + xs.length ≤ cs.size; rw [HXL.out]; exact HSZ.out)) (by show _ = some xs.length; rw [HXL.out]; exact infoItem) HXO.out) ⟨fun h6 => (by rw [listed_at] at h6; cases h6), fun _ => ⟨W, h3, hb.1, hb.2⟩⟩
 ·intro listed w8 hall hS8
  have HR := hide (hS8.2 (hall 5 (by decide)))
  simp only [putAll, Act.put, List.setIfInBounds_toArray, List.set_cons_succ, List.set_cons_zero]
  clear hS8 hall H0 H1 HF C HG
  go_wp2_with fail
  go_end0
  exact ⟨rfl, HR.out⟩
end
end Go.Proofs.YtlegliimgjmphaaGreat
