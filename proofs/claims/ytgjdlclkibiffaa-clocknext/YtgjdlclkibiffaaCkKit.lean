/-
  Layer 9's small things: names as values, rows of them, 'theirs', 'ours', the reference's Same, a script of acts. Own work.
-/
import Derived.Test.YtgjdlclkibiffaaCkPlain
import Derived.Test.YtgjdlclkibiffaaIdVals
import Derived.Test.YtgjdlclkibiffaaIdBox
import Derived.Test.YtgjdlclkibiffaaRecs
import Derived.BigQuiet
import Derived.Deep.QuietTactic
import Derived.Deep.LoopGhost
namespace Go.Proofs.Ytgjdlclkibiffaa
open Go.RowKit

/-- A name's cells, a timer's, an act's. -/
abbrev nmA (n : NmP) : Array Value := #[.int .u8 n.1, .int .u8 n.2.1, .int .u32 n.2.2.1, .int .u32 n.2.2.2]
abbrev nmE (n : NmP) : List Value := [.int .u8 n.1, .int .u8 n.2.1, .int .u32 n.2.2.1, .int .u32 n.2.2.2]
abbrev tmA (t : TmP) : Array Value := #[.int .u8 t.1.1, .int .u8 t.1.2.1, .int .u32 t.1.2.2.1, .int .u32 t.1.2.2.2, .int .u32 t.2]
abbrev tmE (t : TmP) : List Value := [.int .u8 t.1.1, .int .u8 t.1.2.1, .int .u32 t.1.2.2.1, .int .u32 t.1.2.2.2, .int .u32 t.2]
abbrev KaP := Int × NmP × Int
abbrev kaA (a : KaP) : Array Value := #[.int .u8 a.1, .int .u8 a.2.1.1, .int .u8 a.2.1.2.1, .int .u32 a.2.1.2.2.1, .int .u32 a.2.1.2.2.2, .int .u32 a.2.2]
abbrev kaE (a : KaP) : List Value := [.int .u8 a.1, .int .u8 a.2.1.1, .int .u8 a.2.1.2.1, .int .u32 a.2.1.2.2.1, .int .u32 a.2.1.2.2.2, .int .u32 a.2.2]
def kaOk (a : KaP) : Prop := (0 ≤ a.1 ∧ a.1 < 256) ∧ nmOk a.2.1 ∧ (0 ≤ a.2.2 ∧ a.2.2 < 4294967296)
theorem nm_one (n : NmP) : ∀ u ∈ nmE n, u.oneCell' = true := by intro u hu; simp at hu; rcases hu with rfl | rfl | rfl | rfl <;> rfl
theorem tm_one (n : TmP) : ∀ u ∈ tmE n, u.oneCell' = true := by intro u hu; simp at hu; rcases hu with rfl | rfl | rfl | rfl | rfl <;> rfl
theorem nmA_one (n : NmP) : (nmA n).all (·.oneCell') = true := by simp [Value.oneCell']
theorem tmA_one (n : TmP) : (tmA n).all (·.oneCell') = true := by simp [Value.oneCell']
theorem recCN : Rec 37 47 4 nmE := ⟨Try.underlying37, rec_info (z := .agg (nmA nilN)) (K := 4) (B := 16) (by kernel_rfl) rfl (by decide), by decide, fun _ => rfl⟩
theorem recRN : Rec 41 34 4 nmE := ⟨Try.underlying41, rec_info (z := .agg (nmA nilN)) (K := 4) (B := 16) (by kernel_rfl) rfl (by decide), by decide, fun _ => rfl⟩
theorem recTM : Rec 26 77 5 tmE := ⟨Try.underlying26, rec_info (z := .agg (tmA (nilN, 0))) (K := 5) (B := 20) (by kernel_rfl) rfl (by decide), by decide, fun _ => rfl⟩
theorem recKA : Rec 22 36 6 kaE := ⟨Try.underlying22, rec_info (z := .agg (kaA (0, nilN, 0))) (K := 6) (B := 24) (by kernel_rfl) rfl (by decide), by decide, fun _ => rfl⟩
theorem infoCN : (Try.prog.info? 47).map (·.size) = some 4 := by kernel_rfl
theorem infoRN9 : (Try.prog.info? 34).map (·.size) = some 4 := by kernel_rfl
theorem infoTM : (Try.prog.info? 77).map (·.size) = some 5 := by kernel_rfl
theorem alloc_below9 (w : World) (o : Obj) : Below w.heap.size w (w.alloc o) := (Below.refl _ _).alloc (Nat.le_refl _) o
theorem below_drewN9 (w : World) (n : Nat) : Below w.heap.size w (w.drewN n) := ⟨rfl, rfl, rfl, Nat.le_refl _, fun _ _ => rfl⟩
theorem nm_eq (n m : NmP) : (decide (n = m)) = (n.1 == m.1 && (n.2.1 == m.2.1 && n.2.2.1 == m.2.2.1 && n.2.2.2 == m.2.2.2)) := by
  obtain ⟨a, b, c, d⟩ := n
  obtain ⟨e, f, g, h⟩ := m
  rw [Bool.eq_iff_iff]
  simp [and_assoc]
theorem eq_cname (n m : NmP) (w : World) : (Op.equalIn 10000 47 (.agg (nmA n)) (.agg (nmA m))).run Try.prog w = .ok (decide (n = m)) w := by
  have hS : Try.prog.underlying 47 = some (.struct (Try.prog.fieldsOf 47)) := by kernel_rfl
  have hin := fun w => eq_tx9 n.2.1 n.2.2.1 n.2.2.2 m.2.1 m.2.2.1 m.2.2.2 w
  have hti : ∀ w, (Op.equalIn 9999 5 (.int .u8 n.1) (.int .u8 m.1)).run Try.prog w = .ok (n.1 == m.1) w := fun w => by
    rw [show (9999 : Nat) = 9998 + 1 from rfl]
    go_simp
  rw [nm_eq]
  generalize (n.2.1 == m.2.1 && n.2.2.1 == m.2.2.1 && n.2.2.2 == m.2.2.2) = r at *
  rw [show (10000 : Nat) = 9999 + 1 from rfl, run_equalIn_agg w 9999 47 _ _ hS (by kernel_rfl)]
  simp only [Program.fieldsOf, Try.underlying47]
  generalize 9999 = d0 at *
  go_simp
  cases r <;> by_cases h0 : n.1 = m.1 <;> simp [h0]
theorem eql_cname (n m : NmP) (w : World) : (binOp .eql 47 (.agg (nmA n)) (.agg (nmA m))).run Try.prog w = .ok (.bool (decide (n = m))) w := by
  rw [run_eql_struct, eq_cname]; rfl
theorem neq_cname (n m : NmP) (w : World) : (binOp .neq 47 (.agg (nmA n)) (.agg (nmA m))).run Try.prog w = .ok (.bool (!decide (n = m))) w := by
  rw [run_neq_struct, eq_cname]; rfl
theorem eq_rname (n m : NmP) (w : World) : (Op.equalIn 10000 34 (.agg (nmA n)) (.agg (nmA m))).run Try.prog w = .ok (decide (n = m)) w := by
  have hS : Try.prog.underlying 34 = some (.struct (Try.prog.fieldsOf 34)) := by kernel_rfl
  have hin := fun w => eq_tx9 n.2.1 n.2.2.1 n.2.2.2 m.2.1 m.2.2.1 m.2.2.2 w
  have hti : ∀ w, (Op.equalIn 9999 5 (.int .u8 n.1) (.int .u8 m.1)).run Try.prog w = .ok (n.1 == m.1) w := fun w => by
    rw [show (9999 : Nat) = 9998 + 1 from rfl]
    go_simp
  rw [nm_eq]
  generalize (n.2.1 == m.2.1 && n.2.2.1 == m.2.2.1 && n.2.2.2 == m.2.2.2) = r at *
  rw [show (10000 : Nat) = 9999 + 1 from rfl, run_equalIn_agg w 9999 34 _ _ hS (by kernel_rfl)]
  simp only [Program.fieldsOf, Try.underlying34]
  generalize 9999 = d0 at *
  go_simp
  cases r <;> by_cases h0 : n.1 = m.1 <;> simp [h0]
theorem eql_rname (n m : NmP) (w : World) : (binOp .eql 34 (.agg (nmA n)) (.agg (nmA m))).run Try.prog w = .ok (.bool (decide (n = m))) w := by
  rw [run_eql_struct, eq_rname]; rfl
theorem neq_rname (n m : NmP) (w : World) : (binOp .neq 34 (.agg (nmA n)) (.agg (nmA m))).run Try.prog w = .ok (.bool (!decide (n = m))) w := by
  rw [run_neq_struct, eq_rname]; rfl
set_option maxRecDepth 100000 in
theorem theirs_any (n : NmP) (w : World) : Calls Try.prog 16 #[.agg (nmA n)] w fun e w' => e = .returned (.agg (nmA n)) ∧ Below w.heap.size w w' := by
  have HB1 := hide (alloc_below9 w (.cells (nmA n) 34))
  go_enter Try.func16, Try.ntmps16
  go_wp2
  refine bodyPost_ret (results_box rfl _ _ (w.heap.size + 1) rfl (cs := nmA n) (t0 := 47) ?_ Try.underlying47 rfl infoCN) rfl ?_
  · have := box_new (w.alloc (.cells (nmA n) 34)) (nmA n) 47
    simpa using this
  · exact ⟨rfl, ((Below.refl _ _).alloc (Nat.le_refl _) _).alloc (by simp) _⟩
theorem short_any9 (v : Value) (fs : List KaP) (w w0 : World) (h : RSrc kaE w0 v fs) :
    Calls Try.prog 10 #[v] w fun e w' => ∃ v', e = .returned v' ∧ w' = w ∧ RSrc kaE w0 v' (fs.take 150) := by
  obtain ⟨ao, cap, rfl, hc, hm⟩ := h.shape
  unfold maxLen at hm
  have HH := hide h
  clear h
  by_cases hl : fs.length ≤ 150
  · have hto := fun W => run_toR recKA W ao fs.length cap fs.length hc
    have HT : Hid (RSrc kaE w0 (.slice ao fs.length cap) (fs.take 150)) := hide (by rw [List.take_of_length_le hl]; exact HH.out)
    have d1 : ¬ ((150 : Int) < (fs.length : Int)) := by omega
    go_enter Try.func10, Try.ntmps10
    go_wp2
    go_ret
    exact ⟨_, rfl, rfl, HT.out⟩
  · have hto := fun W => run_toR recKA W ao fs.length cap 150 (by omega)
    have HT : Hid (RSrc kaE w0 (.slice ao 150 cap) (fs.take 150)) := hide (src_takeR HH.out recKA.len (by omega))
    have d1 : (150 : Int) < (fs.length : Int) := by omega
    go_enter Try.func10, Try.ntmps10
    go_wp2
    go_ret
    exact ⟨_, rfl, rfl, HT.out⟩
set_option maxRecDepth 100000 in
set_option maxHeartbeats 1600000 in
theorem ours9_any (v : Value) (ns : List NmP) (w : World) (h : RSrc nmE w v ns) (hl : ns.length ≤ 100000) :
    Calls Try.prog 14 #[v] w fun e w' => ∃ v', e = .returned v' ∧ w'.ownsRow w.heap.size 34 4 v' ns.length (flat nmE ns) ∧ Below w.heap.size w w' := by
  obtain ⟨ao, cap, rfl, hc, hm⟩ := h.shape
  have HH := hide h
  clear h
  obtain ⟨LN, hLN⟩ : ∃ LN, LN = ns.length := ⟨_, rfl⟩
  have HLN := hide hLN
  have hL : LN ≤ 100000 := by omega
  rw [← hLN]
  clear hc hm hl hLN
  go_enter Try.func14, Try.ntmps14
  go_wp2_with fail
  go_loopg [3, 8] LN (fun g x i wr => ∃ (k : Nat) (ax : Option Addr) (cx : Nat), k + g = LN ∧ x = .slice ax k cx ∧ i = .int .i64 k ∧ Hid (wr.ownsRow w.heap.size 34 4 (.slice ax k cx) k (flat nmE (ns.take k))) ∧ Hid (Below w.heap.size w wr))
  case atStart => exact ⟨0, none, 0, by omega, rfl, rfl, hide (by simp [flat]; exact World.ownsRow_nil _ _ _ _), hide (Below.refl _ _)⟩
  case round =>
    obtain ⟨k, ax, cx, hk, rfl, rfl, HO, HB⟩ := hrel
    have HS := HB.out.size
    cases gk with
    | zero =>
      obtain rfl : k = LN := by omega
      have hz : ¬ ((k : Int) < (k : Int)) := by omega
      have HT : Hid (ns.take k = ns) := hide (by rw [HLN.out]; simp)
      rw [HT.out] at HO
      go_wp2_with fail
      go_ret
      exact ⟨_, rfl, HO.out, HB.out⟩
    | succ g =>
      have hz : (k : Int) < (LN : Int) := by omega
      have hkn : k < ns.length := by rw [← HLN.out]; omega
      obtain ⟨_, b, off, rfl, hb, hcl⟩ := (HH.out.below HB.out).at recCN.len hkn
      have r0 := hcl 0 _ rfl
      rw [Nat.add_zero] at r0
      have r1 := hcl 1 _ rfl
      have r2 := hcl 2 _ rfl
      have r3 := hcl 3 _ rfl
      have HT : Hid (ns.take (k + 1) = ns.take k ++ [ns[k]]) := hide (by rw [List.take_succ_eq_append_getElem hkn])
      have HTL : Hid ((ns.take k).length = k) := hide (by rw [List.length_take]; omega)
      generalize ns[k] = x at *
      have hA1 := alloc_below9 wr (.cells (nmA x) 47)
      have hX1 := box_new wr (nmA x) 47
      obtain ⟨w1, hw1⟩ : ∃ w1, w1 = wr.alloc (.cells (nmA x) 47) := ⟨_, rfl⟩
      rw [← hw1] at hA1 hX1
      have hW1 := hw1.symm
      have x0 := hX1.cell 0 _ rfl
      have x1 := hX1.cell 1 _ rfl
      have x2 := hX1.cell 2 _ rfl
      have x3 := hX1.cell 3 _ rfl
      have hA2 := alloc_below9 w1 (.cells (nmA x) 34)
      have HO2 := hide (owns_keep (owns_keep HO.out (KeepBut.of_below (fun _ => False) hA1) (fun _ _ h => h)) (KeepBut.of_below (fun _ => False) hA2) (fun _ _ h => h))
      have HB2 := hide (HB.out.trans ((hA1.trans (hA2.mono hA1.size)).mono HB.out.size))
      have HSRC := hide (src_new (enc := nmE) w1 x (nmA x) rfl 34)
      have HOo := hide HO.out
      rw [← HTL.out] at HO2
      clear hcl hA1 hA2 hX1 hw1 hb
      go_wp2_with (at_builtin; refine wp_recs recRN _ rfl _ _ rfl w.heap.size (.slice ax k cx) _ (ns.take k) [x] rfl (by rw [HTL.out] at *; exact HO2.out) rfl HSRC.out (fun y hy => by simp at hy; subst hy; exact nm_one _) (by rw [HTL.out]; simp; omega) HB2.out.size ?_; intro v4 w4 ho4 hg4 _; obtain ⟨a4, c4, hv4, _⟩ := owns_shapeR ho4; subst hv4; have HO4 := hide ho4; have HB4 : Hid (Below w.heap.size w w4) := hide (HB2.out.grown hg4 HB2.out.size (fun j hj => (HOo.out.lt j hj).1)); clear ho4 hg4)
      go_roundg g
      case measure => omega
      case rel => exact ⟨k + 1, a4, c4, by omega, by rw [Nat.min_eq_left (Nat.le_of_lt hkn)], by first | rfl | go_num, hide (by have h4 := HO4.out; rw [← HT.out] at h4; rw [List.length_take, Nat.min_eq_left (by have := HLN.out; omega)] at h4; exact h4), HB4⟩
set_option maxRecDepth 100000 in
set_option maxHeartbeats 800000 in
theorem same9_any (v1 v2 : Value) (ns : List NmP) (w : World) (h1 : RSrc nmE w v1 ns) (h2 : RSrc nmE w v2 ns) :
    Calls Try.prog 13 #[v1, v2] w fun e w' => e = .returned (.bool true) ∧ ∃ n, w' = w.drewN n := by
  obtain ⟨a1, c1, rfl, hc1, hm1⟩ := h1.shape
  obtain ⟨a2, c2, rfl, hc2, hm2⟩ := h2.shape
  have H1 := hide h1
  have H2 := hide h2
  unfold maxLen at hm1
  obtain ⟨L, hL⟩ : ∃ L, L = ns.length := ⟨_, rfl⟩
  have HL := hide hL
  have hL2 : L ≤ 9223372036854775807 := by omega
  rw [← hL]
  have hne : ((L : Int) != (L : Int)) = false := by simp
  clear hc1 hm1 hc2 hm2 h1 h2 hL
  go_enter Try.func13, Try.ntmps13
  go_wp2
  go_loopw [5] (fun i wr => ∃ k : Nat, k ≤ L ∧ i = .int .i64 k ∧ ∃ n, wr = w.drewN n) (fun i _ => L - (intOf i).toNat)
  case atStart => exact ⟨0, Nat.zero_le _, rfl, 0, rfl⟩
  case round =>
    obtain ⟨k, hk, rfl, nd, rfl⟩ := hrel
    by_cases hlt : k < L
    · have hkn : k < ns.length := by rw [← HL.out]; exact hlt
      obtain ⟨_, b1, o1, rfl, _, hc1⟩ := H1.out.at recRN.len hkn
      obtain ⟨_, b2, o2, rfl, _, hc2⟩ := H2.out.at recRN.len hkn
      have r0 := hc1 0 _ rfl
      have r1 := hc1 1 _ rfl
      have r2 := hc1 2 _ rfl
      have r3 := hc1 3 _ rfl
      have q0 := hc2 0 _ rfl
      have q1 := hc2 1 _ rfl
      have q2 := hc2 2 _ rfl
      have q3 := hc2 3 _ rfl
      rw [Nat.add_zero] at r0 q0
      generalize ns[k] = x at *
      have hq := fun w => neq_rname x x w
      have hxx : (!decide (x = x)) = false := by simp
      rw [hxx] at hq
      have hltI : (k : Int) < (L : Int) := by omega
      clear hc1 hc2
      go_wp2
      go_quiet (fail)
      go_wp2
      go_roundw
      case rel => exact ⟨k + 1, by omega, by go_num, nd + nq, by simp⟩
      case measure => simp [intOf]; omega
    · go_wp2
      go_ret
      exact ⟨rfl, _, rfl⟩
end Go.Proofs.Ytgjdlclkibiffaa
