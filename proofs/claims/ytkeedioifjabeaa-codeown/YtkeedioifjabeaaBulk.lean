/-
  How many bytes fields have that are not too long. Of no program but for the fields' form. Own work.
-/
import Derived.Test.YtkeedioifjabeaaWrite
namespace Go.Proofs.Ytkeedioifjabeaa
open Go

/-- All fields' bytes. -/
def allB (fs : List Fld) : List Int := fs.flatMap fieldB
theorem allB_snoc (fs : List Fld) (k : Nat) (h : k < fs.length) : allB (fs.take (k + 1)) = allB (fs.take k) ++ fieldB (fs.getD k fld0) := by
  unfold allB
  rw [List.take_add_one, List.flatMap_append]
  congr 1
  simp [List.getD, h]
def sumS (fs : List Fld) : Nat := (fs.map fun f => f.s.size).sum
theorem sumS_cons (f : Fld) (fs : List Fld) : sumS (f :: fs) = f.s.size + sumS fs := by simp [sumS]
theorem total_cons (f : Fld) (fs : List Fld) : total (f :: fs) = min f.s.size 65536 + total fs := by simp [total]
theorem sumS_cases (R : Nat) : ∀ fs : List Fld, total fs ≤ 65536 → (∀ f ∈ fs, f.s.size ≤ R) → sumS fs = total fs ∨ (total fs = 65536 ∧ sumS fs ≤ R)
  | [], _, _ => .inl rfl
  | f :: fs, h, hR => by
    rw [total_cons] at h
    have hf := hR f (by simp)
    have ih := sumS_cases R fs (by omega) (fun g hg => hR g (by simp [hg]))
    rw [sumS_cons, total_cons]
    omega
theorem sumS_le (R : Nat) (h65 : 65536 ≤ R) (fs : List Fld) (h : total fs ≤ 65536) (hR : ∀ f ∈ fs, f.s.size ≤ R) : sumS fs ≤ R := by
  rcases sumS_cases R fs h hR with e | ⟨_, e⟩ <;> omega
theorem fieldB_len (f : Fld) (hf : f.ok) : (fieldB f).length ≤ 10 + f.s.size := by
  have h1 := shortS_len10 hf.n
  have h2 := shortS_len10 (n := f.s.size) (by have := hf.s; omega)
  have h3 := keyI_length f.s
  unfold fieldB
  split
  · omega
  · split
    · simp; omega
    · split
      · simp; omega
      · split
        · rw [List.length_append, strI_length]; omega
        · omega
theorem sumS_snoc (fs : List Fld) (k : Nat) (h : k < fs.length) : sumS (fs.take (k + 1)) = sumS (fs.take k) + (fs.getD k fld0).s.size := by
  unfold sumS
  rw [List.take_add_one, List.map_append, List.sum_append]
  congr 1
  simp [List.getD, h]
theorem sumS_take_le (fs : List Fld) (k : Nat) : sumS (fs.take k) ≤ sumS fs := by
  have : sumS fs = sumS (fs.take k) + sumS (fs.drop k) := by
    unfold sumS
    rw [← List.sum_append, ← List.map_append, List.take_append_drop]
  omega
theorem allB_len : ∀ fs : List Fld, (∀ f ∈ fs, f.ok) → (allB fs).length ≤ 10 * fs.length + sumS fs
  | [], _ => by simp [allB]
  | f :: fs, h => by
    have ih := allB_len fs (fun g hg => h g (by simp [hg]))
    have hf := fieldB_len f (h f (by simp))
    unfold allB at ih ⊢
    rw [List.flatMap_cons, List.length_append, sumS_cons, List.length_cons]
    omega
/-- The room at each round. -/
theorem room_at (R : Nat) (h65 : 65536 ≤ R) (hR47 : R ≤ 140737488351232) (gs : List Fld) (hlen : gs.length ≤ 200) (hok : ∀ f ∈ gs, f.ok) (ht : total gs ≤ 65536) (hR : ∀ f ∈ gs, f.s.size ≤ R) (k : Nat) (hk : k < gs.length) :
    roomFor ((allB (gs.take k)).length + (gs.getD k fld0).s.size) := by
  unfold roomFor
  have h1 := allB_len (gs.take k) (fun f hf => hok f (List.mem_of_mem_take hf))
  have h2 := sumS_snoc gs k hk
  have h3 := sumS_take_le gs (k + 1)
  have h4 := sumS_le R h65 gs ht hR
  have h5 : (gs.take k).length ≤ k := by rw [List.length_take]; omega
  omega
theorem room_end (R : Nat) (h65 : 65536 ≤ R) (gs : List Fld) (hlen : gs.length ≤ 200) (hok : ∀ f ∈ gs, f.ok) (ht : total gs ≤ 65536) (hR : ∀ f ∈ gs, f.s.size ≤ R) : (allB gs).length ≤ 2000 + R := by
  have h1 := allB_len gs hok
  have h4 := sumS_le R h65 gs ht hR
  omega
end Go.Proofs.Ytkeedioifjabeaa
