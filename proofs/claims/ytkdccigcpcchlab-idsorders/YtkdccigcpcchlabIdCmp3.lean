/-
  The program's Keys: bytes compared. Own work.
-/
import Derived.Test.YtkdccigcpcchlabIdCmp
namespace Go.Proofs.Ytkdccigcpcchlab
open Go.RowKit

theorem load_bytes (w : World) (b off : Nat) (xs : List Int) (hc : ∀ t, t < xs.length → w.cell? ⟨b, off + t, none⟩ = some (.int .u8 (xs.getD t 0))) :
    (Extern.Bytes.loadBytes ⟨b, off, none⟩ xs.length .empty).run Try.prog w = .ok ⟨(Lib.bytesOf xs).toArray⟩ w := by
  have hl := Lib.run_loadBytesX (P := Try.prog) w xs ⟨b, off, none⟩ .empty (fun j x hj => by
    have hjl : j < xs.length := (List.getElem?_eq_some_iff.1 hj).1
    have e : (⟨b, off, none⟩ : Addr).add j = ⟨b, off + j, none⟩ := by unfold Addr.add; split <;> simp_all
    rw [e, hc j (by omega), List.getD_eq_getElem?_getD, hj]
    rfl)
  rw [hl]
  congr 1
  apply ByteArray.ext
  show (#[] : Array UInt8) ++ (Lib.bytesOf xs).toArray = (Lib.bytesOf xs).toArray
  simp
theorem run_compareSlice (w : World) (b1 o1 c1 b2 o2 c2 : Nat) (xs ys : List Int) (h1 : ∀ t, t < xs.length → w.cell? ⟨b1, o1 + t, none⟩ = some (.int .u8 (xs.getD t 0))) (h2 : ∀ t, t < ys.length → w.cell? ⟨b2, o2 + t, none⟩ = some (.int .u8 (ys.getD t 0))) :
    (Extern.BytealgCompare.compare #[.slice (some ⟨b1, o1, none⟩) xs.length c1, .slice (some ⟨b2, o2, none⟩) ys.length c2]).run Try.prog w = .ok (.int .i64 (Lib.compareBytes (Lib.bytesOf xs) (Lib.bytesOf ys))) w := by
  have l1 := load_bytes w b1 o1 xs h1
  have l2 := load_bytes w b2 o2 ys h2
  change Sem.run Try.prog (do pure (goInt (Extern.BytealgCompare.cmp (← Extern.Bytes.bytesOf (.slice (some ⟨b1, o1, none⟩) xs.length c1)) (← Extern.Bytes.bytesOf (.slice (some ⟨b2, o2, none⟩) ys.length c2))))) w = _
  simp only [Extern.Bytes.bytesOf, Sem.run_bind, Sem.run_pure, l1, l2, Result.andThen]
  rw [Lib.cmp_eq]
  rfl
set_option maxRecDepth 100000 in
theorem bcompare_any (w : World) (b1 o1 c1 b2 o2 c2 : Nat) (xs ys : List Int) (h1 : ∀ t, t < xs.length → w.cell? ⟨b1, o1 + t, none⟩ = some (.int .u8 (xs.getD t 0))) (h2 : ∀ t, t < ys.length → w.cell? ⟨b2, o2 + t, none⟩ = some (.int .u8 (ys.getD t 0)))
    (hl : xs.length = ys.length) (hx : ∀ c ∈ xs, 0 ≤ c ∧ c < 256) (hy : ∀ c ∈ ys, 0 ≤ c ∧ c < 256) :
    Calls Try.prog 23 #[.slice (some ⟨b1, o1, none⟩) xs.length c1, .slice (some ⟨b2, o2, none⟩) ys.length c2] w fun e w' => e = .returned (.int .i64 (lexF xs ys)) ∧ w' = w := by
  have hr := run_compareSlice w b1 o1 c1 b2 o2 c2 xs ys h1 h2
  rw [compare_lex xs ys hl hx hy] at hr
  generalize lexF xs ys = r at *
  generalize xs.length = n1 at *
  generalize ys.length = n2 at *
  clear h1 h2 hx hy hl
  go_enter Try.func23, Try.ntmps23
  go_wp2
  rw [run_callFunc_extern Try.func41 (by kernel_rfl) (by kernel_rfl) (by kernel_rfl) (e := Extern.BytealgCompare.compare) (by kernel_rfl), hr]
  simp only [Result.andThen]
  rw [Oper.upon_value]
  go_wp2
  go_ret
  exact ⟨rfl, rfl⟩
set_option maxRecDepth 100000 in
set_option maxHeartbeats 1600000 in
theorem keys_any (a b : List Int) (w : World) (ha : a.length = 8) (hb : b.length = 8) (hx : ∀ c ∈ a, 0 ≤ c ∧ c < 256) (hy : ∀ c ∈ b, 0 ≤ c ∧ c < 256) : Calls Try.prog 9 #[.agg (cells8 a), .agg (cells8 b)] w fun e w' => e = .returned (.int .i64 (lexF a b)) ∧ Below w.heap.size w w' := by
  have hA : Box ((w.alloc (.cells (cells8 a) 29)).alloc (.cells (cells8 b) 29)) w.heap.size (cells8 a) 29 := (box_new w _ _).belowI ((Below.refl _ _).alloc (Nat.le_refl _) _)
  have hB : Box ((w.alloc (.cells (cells8 a) 29)).alloc (.cells (cells8 b) 29)) (w.heap.size + 1) (cells8 b) 29 := by
    have := box_new (w.alloc (.cells (cells8 a) 29)) (cells8 b) 29
    rw [World.size_alloc] at this
    exact this
  have hc1 : ∀ n t, t < a.length → (((w.alloc (.cells (cells8 a) 29)).alloc (.cells (cells8 b) 29)).drewN n).cell? ⟨w.heap.size, 0 + t, none⟩ = some (.int .u8 (a.getD t 0)) := fun n t ht => by
    rw [Nat.zero_add]; exact hA.cell t _ (by simp [cells8, List.getD, ht])
  have hc2 : ∀ n t, t < b.length → (((w.alloc (.cells (cells8 a) 29)).alloc (.cells (cells8 b) 29)).drewN n).cell? ⟨w.heap.size + 1, 0 + t, none⟩ = some (.int .u8 (b.getD t 0)) := fun n t ht => by
    rw [Nat.zero_add]; exact hB.cell t _ (by simp [cells8, List.getD, ht])
  have HC : Hid (∀ n, Calls Try.prog 23 #[.slice (some ⟨w.heap.size, 0, none⟩) 8 8, .slice (some ⟨w.heap.size + 1, 0, none⟩) 8 8] (((w.alloc (.cells (cells8 a) 29)).alloc (.cells (cells8 b) 29)).drewN n) fun e w' => e = .returned (.int .i64 (lexF a b)) ∧ w' = (((w.alloc (.cells (cells8 a) 29)).alloc (.cells (cells8 b) 29)).drewN n)) := hide (fun n => by
    have h := bcompare_any _ w.heap.size 0 8 (w.heap.size + 1) 0 8 a b (hc1 n) (hc2 n) (by omega) hx hy
    rw [ha, hb] at h
    exact h)
  clear hA hB hc1 hc2 hx hy
  generalize lexF a b = r at *
  generalize cells8 a = ca at *
  generalize cells8 b = cb at *
  go_enter Try.func9, Try.ntmps9
  go_wp2
  go_quiet ((go_at_call 23; exact Calls.quiet_of_same (HC.out _)))
  go_wp2
  go_ret
  exact ⟨rfl, below_drewN (((Below.refl _ _).alloc (Nat.le_refl _) _).alloc (by simp) _)⟩
end Go.Proofs.Ytkdccigcpcchlab
