/-
  What a program's package frame must answer (layer 4), as one proposition; the statements' helpers long and alive from it. Own work.
-/
import Derived.Test.YtgchgbbldhpgeabFrLists
namespace Go.Proofs.Ytgchgbbldhpgeab
open Go.RowKit

def putF (bs load : List Int) : List Int × Int := if load.length ≤ 4096 then (bs ++ frameF load, 0) else ([], 5)
def SizeOK : Prop := ∀ (n : Int) (w : World), -9223372036854775808 ≤ n → n ≤ 9223372036854775807 → Calls Try.prog 13 #[.int .i64 n] w fun e w' => e = .returned (.int .i64 (sizeF n)) ∧ Below w.heap.size w w'
def PutOK : Prop := ∀ (vb vl : Value) (bs load : List Int) (w : World), Lies .u8 w vb bs → Lies .u8 w vl load → (∀ c ∈ load, 0 ≤ c ∧ c < 256) → bs.length ≤ 100000 →
    Calls Try.prog 5 #[vb, vl] w fun e w' => ∃ v', e = .returned (.tuple #[v', .int .i64 (putF bs load).2]) ∧ w'.ownsRow w.heap.size 5 1 v' (putF bs load).1.length ((putF bs load).1.map (Value.int .u8)) ∧ Below w.heap.size w w'
def NextOK : Prop := ∀ (v : Value) (bs : List Int) (w : World), Lies .u8 w v bs → (∀ c ∈ bs, 0 ≤ c ∧ c < 256) → bs.length ≤ 1000000 →
    Calls Try.prog 10 #[v] w fun e w' => ∃ v', e = .returned (.tuple #[v', .int .i64 (nextF bs).2.1, .int .i64 (nextF bs).2.2]) ∧ Lies .u8 w' v' (nextF bs).1 ∧ Below w.heap.size w w'
def ScanOK : Prop := ∀ (v : Value) (bs : List Int) (w : World), Lies .u8 w v bs → (∀ c ∈ bs, 0 ≤ c ∧ c < 256) → bs.length ≤ 1000000 →
    Calls Try.prog 9 #[v] w fun e w' => ∃ v', e = .returned (.tuple #[v', .int .i64 (scanF bs).2]) ∧ LiesL w' v' (scanF bs).1 ∧ Below w.heap.size w w'
def AllOK : Prop := ∀ (v : Value) (bs : List Int) (w : World), Lies .u8 w v bs → (∀ c ∈ bs, 0 ≤ c ∧ c < 256) → bs.length ≤ 1000000 →
    Calls Try.prog 6 #[v] w fun e w' => ∃ v', e = .returned (.tuple #[v', .int .i64 (allF bs).2]) ∧ LiesL w' v' (allF bs).1 ∧ Below w.heap.size w w'
structure FrameOK : Prop where
  -- of the functions 13 5 10 9 6
  size : SizeOK
  put : PutOK
  next : NextOK
  scan : ScanOK
  all : AllOK

theorem frlong_any (ao : Option Addr) (n cap : Nat) (w : World) : Calls Try.prog 8 #[.slice ao n cap] w fun e w' => e = .returned (.bool (decide ((6000 : Int) < (n : Int)))) ∧ w' = w := by
  go_enter Try.func8, Try.ntmps8
  go_wp2
  go_ret
  exact ⟨rfl, rfl⟩
theorem frame_nil : frameF [] = [167, 94, 0, 0, 241, 97, 119, 210] := by kernel_rfl
theorem put_nil : putF [] [] = ([167, 94, 0, 0, 241, 97, 119, 210], 0) := by
  unfold putF
  rw [if_pos (by simp), frame_nil]
  rfl
theorem next_nil : nextF [167, 94, 0, 0, 241, 97, 119, 210] = ([], 8, 0) := by
  have := next_put [] [] (by simp) (by simp)
  rw [List.append_nil, frame_nil] at this
  exact this
theorem lies_lit (w : World) (xs : List Int) (h0 : xs ≠ []) (hl : xs.length ≤ 1000) : Lies .u8 (w.alloc (.cells (xs.map (Value.int .u8)).toArray 5)) (.slice (some ⟨w.heap.size, 0, none⟩) xs.length xs.length) xs :=
  .inr ⟨h0, w.heap.size, 0, xs.length, rfl, by simp, Nat.le_refl _, by unfold maxLen; omega, fun t ht => by simp [List.getD, ht]⟩
set_option maxRecDepth 100000 in
set_option maxHeartbeats 3200000 in
theorem fralive_of (P : PutOK) (N : NextOK) (w : World) : Calls Try.prog 4 #[] w fun e w' => e = .returned (.bool true) ∧ Below w.heap.size w w' := by
  go_enter Try.func4, Try.ntmps4
  go_wp2_with fail
  refine (P _ _ [] [] w (Lies.nil _ _) (Lies.nil _ _) (by simp) (by simp)).mono ?_
  rintro e w1 ⟨v1, rfl, ho1, hB1⟩
  rw [put_nil] at ho1 ⊢
  obtain ⟨a1, c1, e1⟩ := (Lies.of_own ho1).shape
  subst e1
  have HO1 := hide ho1
  have HB1 := hide hB1
  clear ho1 hB1
  go_wp2_with fail
  refine (N _ _ _ (Lies.of_own HO1.out) (by simp) (by simp)).mono ?_
  rintro e w2 ⟨v2, rfl, hL2, hB2⟩
  rw [next_nil] at hL2 ⊢
  obtain ⟨a2, c2, e2⟩ := hL2.shape
  subst e2
  have HL2 := hide ((Lies.of_own HO1.out).below hB2)
  have HB2 := hide (HB1.out.trans (hB2.mono HB1.out.size))
  clear hL2 hB2
  have HBA := hide (below_two w2 (.cells #[.int .u8 167, .int .u8 94, .int .u8 0, .int .u8 0, .int .u8 241, .int .u8 97, .int .u8 119, .int .u8 210] 5))
  go_wp2_with fail
  refine (same_any _ _ [167, 94, 0, 0, 241, 97, 119, 210] _ (HL2.out.below HBA.out) (lies_lit w2 [167, 94, 0, 0, 241, 97, 119, 210] (by simp) (by simp))).mono ?_
  rintro e w3 ⟨rfl, rfl⟩
  go_wp2_with fail
  go_ret
  exact ⟨rfl, HB2.out.trans (HBA.out.mono HB2.out.size)⟩
/-- Of a seat that holds them all: 13 9 6. -/
theorem fralive_any (F : FrameOK) (w : World) : Calls Try.prog 4 #[] w fun e w' => e = .returned (.bool true) ∧ Below w.heap.size w w' := fralive_of F.put F.next w
end Go.Proofs.Ytgchgbbldhpgeab
