/-
  For DiskFull: 'make([]byte, n)', numbers of sixteen bits as a slice, a disk of zeros as a plain thing. Own work.
-/
import Derived.Test.YtjjmcaamgoffiaaDkAlive
import Derived.Test.YtjjmcaamgoffiaaFramePlain
import Derived.Deep.OwnRows
namespace Go.Proofs.Ytjjmcaamgoffiaa
open Go.RowKit Go.ChangeShapes Go.WideShapes Go.ChangeAt

def zeros (n : Nat) : List Int := List.replicate n 0
theorem zeros_len (n : Nat) : (zeros n).length = n := by simp [zeros]
theorem zeros_add (n m : Nat) : zeros n ++ zeros m = zeros (n + m) := by simp [zeros]
theorem made_cells7 (n : Nat) : madeCells #[Value.int .u8 0] n = ((zeros n).map (Value.int .u8)).toArray := by
  apply Array.ext
  · simp [madeCells, zeros]
  · intro i h1 h2
    simp [madeCells, zeros, Nat.mod_one]
/-- 'make([]byte, n)' -/
theorem wp_make7 {ops : Array Oper} {rest : List Oper} {o : Oper} {a : Act} {Q : Exit → Act → World → Prop} (w : World) (hg : o.guard = none) (l c : Operand) (hop : o.op = Op.makeSlice 29 l c) (n : Nat) (hl : a.eval l = .int .i64 n) (hc : a.eval c = .int .i64 n) (hn : n ≤ 1000000)
    (h : ∀ w', Lies .u8 w' (.slice (some ⟨w.heap.size, 0, none⟩) n n) (zeros n) → Below w.heap.size w w' → wpList Try.prog ops Q rest (a.put o.dst (.slice (some ⟨w.heap.size, 0, none⟩) n n)) w') : wpList Try.prog ops Q (o :: rest) a w := by
  obtain ⟨i0, hi, hz0, hz1, hz2⟩ := info_parts info5
  refine wpList_make_row w hg l c 29 hop 5 i0 (.int .u8 0) Try.underlying29 hi hz0 hz1 rfl .i64 .i64 n hl hc (by rw [hz2]; omega) (by omega) ?_
  rw [made_cells7]
  refine h _ ?_ (alloc_below7 w _)
  have hb := box_new w ((zeros n).map (Value.int .u8)).toArray 5
  by_cases h0 : n = 0
  · subst h0; exact .inl ⟨rfl, _, _, rfl, fun h => by cases h⟩
  · refine .inr ⟨fun e => h0 (by have := congrArg List.length e; simpa [zeros] using this), w.heap.size, 0, n, by rw [zeros_len], hb.lt, by rw [zeros_len]; exact Nat.le_refl _, by unfold maxLen; omega, fun t ht => ?_⟩
    rw [Nat.zero_add]
    exact hb.cell t _ (by rw [zeros_len] at ht; simp [zeros, List.getD, ht])
theorem u16s_of_trod {H : Type} {enc : TypeId × Value → H} {W : World} {a0 : Option Addr} {len cap : Nat} {d : DataW H} {p : List MemPlace}
    (h : DataW.Trod enc Try.prog W 0 (fun _ => true) true 57 (.slice a0 len cap) d p) : ∃ xs, Lies .u16 W (.slice a0 len cap) xs ∧ ∀ c ∈ xs, 0 ≤ c ∧ c < 65536 := by
  obtain ⟨fuel, hf⟩ := h
  rcases open_ints Try.underlying57 Try.underlying56 (by kernel_rfl) hf with ⟨hcs, _⟩ | ⟨x, l, c, zs, hcs, _, hl, hm, hz, _, hcell, hwz⟩
  · simp [Value.cells] at hcs
    obtain ⟨rfl, rfl, rfl⟩ := hcs
    exact ⟨[], Lies.nil _ _, by simp⟩
  · simp [Value.cells] at hcs
    obtain ⟨rfl, rfl, rfl⟩ := hcs
    simp only [if_true] at hz
    refine ⟨zs.take len, ?_, fun c hc => ?_⟩
    · by_cases h0 : len = 0
      · subst h0
        exact .inl ⟨by simp, _, _, rfl, fun h => by cases h⟩
      · obtain ⟨b, off, spot⟩ := x
        have hc0 := hcell 0 (by omega)
        have hspot : spot = none := by simpa [Addr.add] using World.cell?_spot hc0
        subst hspot
        have hxl : (zs.take len).length = len := by simp; omega
        have hb : b < W.heap.size := by
          rcases Nat.lt_or_ge b W.heap.size with h | h
          · exact h
          · have hn : W.heap[b]? = none := by simp [h]
            simp [Addr.add, World.cell?, hn] at hc0
        refine .inr ⟨?_, b, off, cap, by rw [hxl], hb, by omega, hm, fun t ht => ?_⟩
        · intro e; rw [e] at hxl; simp at hxl; omega
        · have := hcell t (by omega)
          rw [Addr.add_lit] at this
          rw [this]
          have ht2 : t < len := by omega
          simp [List.getD, ht2]
    · have := bounds_u16 (hwz c (List.mem_of_mem_take hc))
      omega
theorem run_toU (w : World) (ao : Option Addr) (m cap n : Nat) (hn : n ≤ cap) : (Instr.sliceAt 57 (.slice ao m cap) none (some (.int .i64 n)) none).run Try.prog w = .ok (.slice ao n cap) w := by
  have h2 : (if cap = 0 then ao else Option.map (fun x => x.add 0) ao) = ao := by
    split
    · rfl
    · cases ao with
      | none => rfl
      | some ad => simp [Addr.add]
  simp [Instr.sliceAt, Instr.slice, run_underlying Try.underlying57, Instr.sliceBounds, Instr.sliceBound, asIntOf, h2]
  omega
/-- A disk of room n that has h zeros, none of them forced. -/
def fullD (n h : Nat) : Dk := ⟨n, zeros h, 0, 0, 0, false, false, 0⟩
theorem full_left (n h : Nat) : (fullD n h).left = n - h := by simp [Dk.left, fullD, zeros_len]
theorem full_app_no {n h k : Nat} (hh : n < h + k) (hl : h ≤ n) : appA (fullD n h) (zeros k) = (0, 9) ∧ appD (fullD n h) (zeros k) = fullD n h := by
  have hk : (fullD n h).left < (zeros k).length := by rw [full_left, zeros_len]; omega
  have ho : (fullD n h).off = false := rfl
  unfold appA appD
  simp only [ho, Bool.false_eq_true, if_false, if_pos hk]
  exact ⟨trivial, trivial⟩
theorem full_app {n h k : Nat} (hh : h + k ≤ n) : appA (fullD n h) (zeros k) = ((h : Int), 0) ∧ appD (fullD n h) (zeros k) = fullD n (h + k) := by
  have hk : ¬ (fullD n h).left < (zeros k).length := by rw [full_left, zeros_len]; omega
  have ho : (fullD n h).off = false := rfl
  unfold appA appD
  simp only [ho, Bool.false_eq_true, if_false, if_neg hk]
  refine ⟨by simp [fullD, zeros_len], ?_⟩
  simp [fullD, zeros_add]
def fullC (n h t : Nat) : Dk := ⟨n, zeros h, t, 0, 0, false, false, 0⟩
def fullF (n h t : Nat) : Dk := ⟨n, zeros h, t, t, h, false, false, 0⟩
theorem full_cut {n h t : Nat} (ht : t ≤ h) : cutA (fullD n h) (t : Int) = 0 ∧ cutD (fullD n h) (t : Int) = fullC n h t := by
  have hi : (fullD n h).inB (t : Int) = true := by simp [Dk.inB, fullD, zeros_len]; omega
  have ho : (fullD n h).off = false := rfl
  unfold cutA cutD
  simp only [ho, Bool.false_eq_true, if_false, hi, if_true, Int.toNat_natCast]
  exact ⟨trivial, rfl⟩
theorem full_force (n h t : Nat) : forA (fullC n h t) = 0 ∧ forD (fullC n h t) = fullF n h t := by
  have ho : (fullC n h t).off = false := rfl
  have ha : (fullC n h t).armed = false := rfl
  unfold forA forD
  simp only [ho, ha, Bool.false_eq_true, if_false, Bool.false_and]
  exact ⟨trivial, by simp [fullC, fullF, zeros_len]⟩
end Go.Proofs.Ytjjmcaamgoffiaa
