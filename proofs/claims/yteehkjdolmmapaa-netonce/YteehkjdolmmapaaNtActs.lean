/-
  Scripts of layer 8: a slice of acts, each with bytes of its own; 'short' and 'long' of the laws. Own work.
-/
import Derived.Test.YteehkjdolmmapaaNtPlain
import Derived.Test.YteehkjdolmmapaaCuts
import Derived.Test.YteehkjdolmmapaaBoxes
import Derived.Deep.LoopGhost
namespace Go.Proofs.Yteehkjdolmmapaa
open Go.RowKit

/-- An act's cells. -/
def ncells (a : NAct) (sv : Value) : Array Value := #[.int .u8 (a.kind : Int), .int .u8 (a.fr : Int), .int .u8 (a.to : Int), .int .i64 a.i, sv]
/-- A slice that holds these acts. -/
def NLies (w : World) (v : Value) (fs : List NAct) : Prop :=
  (fs = [] ∧ ∃ (ao : Option Addr) (cap : Nat), v = .slice ao 0 cap ∧ (ao = none → cap = 0)) ∨
  (fs ≠ [] ∧ ∃ b off cap : Nat, v = .slice (some ⟨b, off, none⟩) fs.length cap ∧ b < w.heap.size ∧ fs.length ≤ cap ∧ cap ≤ maxLen ∧
    ∀ t (ht : t < fs.length), ∃ sv, Lies .u8 w sv fs[t].b ∧ ∀ j, j < 5 → w.cell? ⟨b, off + t * 5 + j, none⟩ = (ncells fs[t] sv)[j]?)
theorem NLies.below {w w' : World} {v : Value} {fs : List NAct} (hB : Below w.heap.size w w') (h : NLies w v fs) : NLies w' v fs := by
  rcases h with h | ⟨hne, b, off, cap, rfl, hb, h1, h2, hc⟩
  · exact .inl h
  · refine .inr ⟨hne, b, off, cap, rfl, Nat.lt_of_lt_of_le hb hB.size, h1, h2, fun t ht => ?_⟩
    obtain ⟨sv, hL, hj⟩ := hc t ht
    exact ⟨sv, hL.below hB, fun j hj5 => (hB.cell (p := ⟨b, off + t * 5 + j, none⟩) hb).trans (hj j hj5)⟩
theorem NLies.shape {w : World} {v : Value} {fs : List NAct} (h : NLies w v fs) : ∃ (ao : Option Addr) (cap : Nat), v = .slice ao fs.length cap ∧ fs.length ≤ cap ∧ (ao = none → cap = 0) ∧ fs.length ≤ maxLen := by
  rcases h with ⟨rfl, ao, cap, rfl, h0⟩ | ⟨_, b, off, cap, rfl, _, h1, h2, _⟩
  · exact ⟨ao, cap, rfl, Nat.zero_le _, h0, Nat.zero_le _⟩
  · exact ⟨_, cap, rfl, h1, (fun h => by cases h), Nat.le_trans h1 h2⟩
theorem NLies.take {w : World} {ao : Option Addr} {cap n : Nat} {fs : List NAct} (h : NLies w (.slice ao fs.length cap) fs) (hn : n ≤ fs.length) : NLies w (.slice ao n cap) (fs.take n) := by
  rcases h with ⟨rfl, ao', cap', e, h0⟩ | ⟨hne, b, off, cap', e, hb, hl, hm, hc⟩
  · cases e
    obtain rfl : n = 0 := by simpa using hn
    exact .inl ⟨by simp, ao, cap, rfl, h0⟩
  · cases e
    by_cases h0 : n = 0
    · subst h0
      exact .inl ⟨by simp, _, _, rfl, fun h => by cases h⟩
    · have hlen : (fs.take n).length = n := by simp; omega
      refine .inr ⟨fun e => by rw [e] at hlen; simp at hlen; omega, b, off, cap, by rw [hlen], hb, by omega, hm, fun t ht => ?_⟩
      obtain ⟨sv, h1, h2⟩ := hc t (by omega)
      rw [List.getElem_take]
      exact ⟨sv, h1, h2⟩
/-- The cells of one act. -/
theorem NLies.at {w : World} {v : Value} {fs : List NAct} (h : NLies w v fs) (k : Nat) (hk : k < fs.length) : ∃ b off cap sv, v = .slice (some ⟨b, off, none⟩) fs.length cap ∧ b < w.heap.size ∧ Lies .u8 w sv fs[k].b ∧
    w.cell? ⟨b, off + k * 5, none⟩ = some (.int .u8 (fs[k].kind : Int)) ∧ w.cell? ⟨b, off + k * 5 + 1, none⟩ = some (.int .u8 (fs[k].fr : Int)) ∧ w.cell? ⟨b, off + k * 5 + 2, none⟩ = some (.int .u8 (fs[k].to : Int)) ∧ w.cell? ⟨b, off + k * 5 + 3, none⟩ = some (.int .i64 fs[k].i) ∧ w.cell? ⟨b, off + k * 5 + 4, none⟩ = some sv := by
  rcases h with ⟨rfl, _⟩ | ⟨_, b, off, cap, rfl, hb, _, _, hc⟩
  · simp at hk
  · obtain ⟨sv, hL, hj⟩ := hc k hk
    exact ⟨b, off, cap, sv, rfl, hb, hL, hj 0 (by omega), hj 1 (by omega), hj 2 (by omega), hj 3 (by omega), hj 4 (by omega)⟩
theorem run_toN (w : World) (ao : Option Addr) (m cap n : Nat) (hn : n ≤ cap) : (Instr.sliceAt 22 (.slice ao m cap) none (some (.int .i64 n)) none).run Try.prog w = .ok (.slice ao n cap) w := by
  have h2 : (if cap = 0 then ao else Option.map (fun x => x.add 0) ao) = ao := by
    split
    · rfl
    · cases ao with
      | none => rfl
      | some ad => simp [Addr.add]
  simp [Instr.sliceAt, Instr.slice, run_underlying Try.underlying22, Instr.sliceBounds, Instr.sliceBound, asIntOf, h2]
  omega
theorem short_any8 (v : Value) (fs : List NAct) (w : World) (h : NLies w v fs) :
    Calls Try.prog 12 #[v] w fun e w' => ∃ v', e = .returned v' ∧ NLies w v' (fs.take 100) ∧ w' = w ∧ ∀ W, NLies W v fs → NLies W v' (fs.take 100) := by
  obtain ⟨ao, cap, rfl, hc, _, hm⟩ := h.shape
  unfold maxLen at hm
  have HH := hide h
  clear h
  by_cases hl : fs.length ≤ 100
  · have hto := fun W => run_toN W ao fs.length cap fs.length hc
    have HT : Hid (∀ W, NLies W (.slice ao fs.length cap) fs → NLies W (.slice ao fs.length cap) (fs.take 100)) := hide (fun W h => by rw [List.take_of_length_le hl]; exact h)
    have d1 : ¬ ((100 : Int) < (fs.length : Int)) := by omega
    go_enter Try.func12, Try.ntmps12
    go_wp2
    go_ret
    exact ⟨_, rfl, HT.out w HH.out, rfl, HT.out⟩
  · have hto := fun W => run_toN W ao fs.length cap 100 (by omega)
    have HT : Hid (∀ W, NLies W (.slice ao fs.length cap) fs → NLies W (.slice ao 100 cap) (fs.take 100)) := hide (fun W h => h.take (by omega))
    have d1 : (100 : Int) < (fs.length : Int) := by omega
    go_enter Try.func12, Try.ntmps12
    go_wp2
    go_ret
    exact ⟨_, rfl, HT.out w HH.out, rfl, HT.out⟩
/-- How many bytes a script has, each act's counted up to so many. -/
def bulkN (fs : List NAct) : Nat := (fs.map fun a => min a.b.length 65536).sum
theorem bulkN_snoc (fs : List NAct) (a : NAct) : bulkN (fs ++ [a]) = bulkN fs + min a.b.length 65536 := by simp [bulkN]
theorem bulkN_le : ∀ fs : List NAct, bulkN fs ≤ 65536 * fs.length
  | [] => by simp [bulkN]
  | a :: l => by
    have ih := bulkN_le l
    unfold bulkN at ih ⊢
    simp only [List.map_cons, List.sum_cons, List.length_cons]
    omega
theorem bulkN_each : ∀ (fs : List NAct) (a : NAct), a ∈ fs → min a.b.length 65536 ≤ bulkN fs
  | [], a, h => by cases h
  | x :: l, a, h => by
    have ih := bulkN_each l a
    unfold bulkN at ih ⊢
    simp only [List.map_cons, List.sum_cons]
    rcases List.mem_cons.1 h with rfl | h
    · omega
    · have := ih h; omega
theorem take_snocN (l : List NAct) (k : Nat) (h : k < l.length) : l.take (k + 1) = l.take k ++ [l[k]] := by
  rw [List.take_add_one]
  simp [h]
set_option maxRecDepth 100000 in
set_option maxHeartbeats 800000 in
/-- Whether a script has too many bytes. -/
theorem long_any8 (v : Value) (fs : List NAct) (w : World) (h : NLies w v fs) :
    Calls Try.prog 8 #[v] w fun e w' => e = .returned (.bool (decide (32768 < bulkN (fs.take 100)))) ∧ Below w.heap.size w w' := by
  have C := hide (short_any8 v fs w h)
  obtain ⟨ts, has⟩ : ∃ ts, ts = fs.take 100 := ⟨_, rfl⟩
  have hal : ts.length ≤ 100 := by rw [has]; simp; omega
  rw [← has] at C ⊢
  obtain ⟨ao0, cap0, hv0, _⟩ := h.shape
  subst hv0
  obtain ⟨R, hR⟩ : ∃ R, R = decide (32768 < bulkN ts) := ⟨_, rfl⟩
  rw [← hR]
  have HR := hide hR
  clear h has hR
  go_enter Try.func8, Try.ntmps8
  go_wp2_with fail
  refine C.out.mono ?_
  rintro e w1 ⟨v1, rfl, hL1, hw1, _⟩
  rw [hw1]
  obtain ⟨ao, cap, hv1, hcap, _, _⟩ := hL1.shape
  subst hv1
  have HL := hide hL1
  clear hL1 hw1 C
  go_wp2_with fail
  go_loopg [3, 9] ts.length (fun g x i wr => ∃ k : Nat, k + g = ts.length ∧ x = .int .i64 ((bulkN (ts.take k) : Nat) : Int) ∧ i = .int .i64 k ∧ Below w.heap.size w wr)
  case atStart => exact ⟨0, by omega, by simp [bulkN], rfl, Below.refl _ _⟩
  case round =>
    obtain ⟨k, hk, rfl, rfl, hB⟩ := hrel
    have HB := hide hB
    have hsz := hB.size
    clear hB
    cases gk with
    | zero =>
      obtain rfl : k = ts.length := by omega
      have hz : ¬ ((ts.length : Int) < (ts.length : Int)) := by omega
      rw [List.take_length]
      have HD : Hid (decide ((bulkN ts : Int) > 32768) = R) := hide (by rw [HR.out]; congr 1; exact propext ⟨fun h => by omega, fun h => by omega⟩)
      generalize bulkN ts = B at *
      go_wp2
      go_ret
      exact ⟨ret_bool (by first | exact HD.out | (rw [HR.out]; simp)), HB.out⟩
    | succ g =>
      have hz : (k : Int) < (ts.length : Int) := by omega
      obtain ⟨b, off, cap', sv, e, hb, hLs, c0, c1, c2, c3, c4⟩ := (HL.out.below HB.out).at k (by omega)
      cases e
      obtain ⟨sa, sc, hsv⟩ := hLs.shape
      subst hsv
      have hmx := hLs.len
      unfold maxLen at hmx
      have HS : Hid (bulkN (ts.take (k + 1)) = bulkN (ts.take k) + min ts[k].b.length 65536) := hide (by rw [take_snocN ts k (by omega), bulkN_snoc])
      have hbl : bulkN (ts.take k) ≤ 65536 * 100 := by have := bulkN_le (ts.take k); simp at this; omega
      clear hLs
      generalize bulkN (ts.take k) = B at *
      generalize ts[k].b.length = L at *
      generalize ts[k].kind = kd at *
      generalize ts[k].fr = an at *
      generalize ts[k].to = at' at *
      generalize ts[k].i = ac at *
      go_wp2
      all_goals
        go_roundg g
        case measure => omega
        case rel => exact ⟨k + 1, by omega, by rw [HS.out]; exact congrArg (Value.int .i64) (by omega), by first | rfl | go_num, HB.out.alloc (by omega) _⟩
end Go.Proofs.Yteehkjdolmmapaa
