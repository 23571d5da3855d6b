/-
  Keys and their texts as plain functions; where a byte 0 first stands; the order of bytes. Own work.
-/
import Derived.Test.YtgjdlclkibiffaaIdPlain
import Derived.Lib.Bytealg
import Derived.Lib.Bytes
namespace Go.Proofs.Ytgjdlclkibiffaa

def zero8i : List Int := [0, 0, 0, 0, 0, 0, 0, 0]
/-- The bytes ahead of the first 0. -/
def aheadF : List Int → List Int
  | [] => []
  | x :: r => if x = 0 then [] else x :: aheadF r
/-- KeyOf. -/
def keyOfF (xs : List Int) : List Int × Int := if xs.length = 0 ∨ 8 < xs.length ∨ 0 ∈ xs then (zero8i, 1) else (xs ++ List.replicate (8 - xs.length) 0, 0)
/-- Name. -/
def nameF (k : List Int) : List Int × Bool := if aheadF k = [] ∨ k ≠ aheadF k ++ List.replicate (8 - (aheadF k).length) 0 then ([], false) else (aheadF k, true)

theorem aheadF_le : ∀ k : List Int, (aheadF k).length ≤ k.length
  | [] => by simp [aheadF]
  | x :: r => by
    have := aheadF_le r
    unfold aheadF
    split <;> simp; omega
theorem aheadF_no : ∀ k : List Int, 0 ∉ aheadF k
  | [] => by simp [aheadF]
  | x :: r => by
    have := aheadF_no r
    unfold aheadF
    split
    · simp
    · simp only [List.mem_cons, not_or]
      exact ⟨fun h => by omega, this⟩
theorem aheadF_app : ∀ (xs : List Int) (n : Nat), 0 ∉ xs → aheadF (xs ++ List.replicate n 0) = xs
  | [], 0, _ => by simp [aheadF]
  | [], n + 1, _ => by simp [aheadF, List.replicate_succ]
  | x :: r, n, h => by
    simp only [List.mem_cons, not_or] at h
    rw [List.cons_append]
    unfold aheadF
    rw [if_neg (fun e => h.1 e.symm), aheadF_app r n h.2]
theorem aheadF_take : ∀ k : List Int, aheadF k = k.take (aheadF k).length
  | [] => by simp [aheadF]
  | x :: r => by
    have := aheadF_take r
    unfold aheadF
    split
    · simp
    · simp only [List.length_cons, List.take_succ_cons]
      rw [← this]
theorem aheadF_sub (k : List Int) : ∀ c ∈ aheadF k, c ∈ k := by
  intro c hc
  rw [aheadF_take k] at hc
  exact List.mem_of_mem_take hc
/-- No 0 stands there: all are ahead. -/
theorem aheadF_all : ∀ k : List Int, 0 ∉ k → aheadF k = k
  | [], _ => by simp [aheadF]
  | x :: r, h => by
    simp only [List.mem_cons, not_or] at h
    unfold aheadF
    rw [if_neg (fun e => h.1 e.symm), aheadF_all r h.2]
theorem keyOfF_fst (xs : List Int) : (keyOfF xs).1.length = 8 := by
  unfold keyOfF
  split
  · rfl
  · simp; omega
theorem keyOfF_byte (xs : List Int) (h : ∀ c ∈ xs, 0 ≤ c ∧ c < 256) : ∀ c ∈ (keyOfF xs).1, 0 ≤ c ∧ c < 256 := by
  unfold keyOfF
  split
  · intro c hc
    simp [zero8i] at hc
    omega
  · intro c hc
    simp only [List.mem_append, List.mem_replicate] at hc
    rcases hc with hc | hc
    · exact h c hc
    · omega
/-- A text is its key's name. -/
theorem name_of_key (xs : List Int) (h : (keyOfF xs).2 = 0) : nameF (keyOfF xs).1 = (xs, true) := by
  unfold keyOfF at h ⊢
  split at h
  · simp at h
  · rename_i hc
    rw [if_neg hc]
    simp only [not_or] at hc
    unfold nameF
    rw [aheadF_app xs _ hc.2.2, if_neg]
    simp only [not_or]
    refine ⟨fun e => hc.1 (by rw [e]; rfl), fun h2 => h2 rfl⟩
theorem key_refused (xs : List Int) (h : (keyOfF xs).2 ≠ 0) : (keyOfF xs).1 = zero8i := by
  unfold keyOfF at h ⊢
  split at h
  · rename_i hc
    rw [if_pos hc]
  · simp at h
/-- A key that may be is its name's. -/
theorem key_of_name (k : List Int) (hl : k.length = 8) (h : (nameF k).2 = true) : keyOfF (nameF k).1 = (k, 0) ∧ 1 ≤ (nameF k).1.length := by
  unfold nameF at h ⊢
  split at h
  · simp at h
  · rename_i hc
    rw [if_neg hc]
    simp only [not_or, Classical.not_not] at hc
    have h1 : (aheadF k).length ≠ 0 := fun e => hc.1 (List.eq_nil_of_length_eq_zero e)
    have h2 := aheadF_le k
    refine ⟨?_, Nat.pos_of_ne_zero h1⟩
    unfold keyOfF
    rw [if_neg]
    · rw [← hc.2]
    · simp only [not_or]
      exact ⟨h1, by omega, aheadF_no k⟩
theorem name_refused (k : List Int) (h : (nameF k).2 = false) : (nameF k).1 = [] := by
  unfold nameF at h ⊢
  split at h
  · rename_i hc; rw [if_pos hc]
  · simp at h
/-- The program's way to Name: by the key of the bytes ahead. -/
theorem nameF_by_key (k : List Int) (hl : k.length = 8) : nameF k = if (keyOfF (aheadF k)).2 ≠ 0 ∨ (keyOfF (aheadF k)).1 ≠ k then ([], false) else (aheadF k, true) := by
  have h2 := aheadF_le k
  have h3 := aheadF_no k
  unfold nameF keyOfF
  by_cases h : aheadF k = []
  · simp [h]
  · have h1 : (aheadF k).length ≠ 0 := fun e => h (List.eq_nil_of_length_eq_zero e)
    have hn : ¬ ((aheadF k).length = 0 ∨ 8 < (aheadF k).length ∨ 0 ∈ aheadF k) := by
      simp only [not_or]; exact ⟨h1, by omega, h3⟩
    rw [if_neg hn]
    by_cases h4 : k = aheadF k ++ List.replicate (8 - (aheadF k).length) 0
    · rw [if_neg (by simp only [not_or, Classical.not_not]; exact ⟨h, h4⟩), if_neg (by simp only [not_or, Classical.not_not]; exact ⟨by trivial, h4.symm⟩)]
    · rw [if_pos (.inr h4), if_pos (.inr (fun e => h4 e.symm))]

/-- What a search of the byte 0 gives. -/
theorem index_zero : ∀ xs : List Int, (∀ c ∈ xs, 0 ≤ c ∧ c < 256) → Lib.indexByte (Lib.bytesOf xs) 0 = if 0 ∈ xs then ((aheadF xs).length : Int) else -1
  | [], _ => by simp [Lib.bytesOf, Lib.indexByte]
  | x :: r, h => by
    have ih := index_zero r (fun c hc => h c (List.mem_cons_of_mem _ hc))
    have hx := h x (List.mem_cons_self ..)
    have e : Lib.bytesOf (x :: r) = UInt8.ofNat x.toNat :: Lib.bytesOf r := rfl
    rw [e]
    unfold Lib.indexByte aheadF
    by_cases h0 : x = 0
    · subst h0; simp
    · have hne : (UInt8.ofNat x.toNat == 0) = false := by
        rw [beq_eq_false_iff_ne]
        intro e2
        have := congrArg UInt8.toNat e2
        rw [UInt8.toNat_ofNat'] at this
        simp at this
        omega
      rw [hne, ih]
      have h0' : ¬ (0 : Int) = x := fun e => h0 e.symm
      by_cases hm : (0 : Int) ∈ r
      · have : ((((aheadF r).length : Int)) == -1) = false := by rw [beq_eq_false_iff_ne]; omega
        simp [hm, h0, this]
      · simp [hm, h0']
/-- What comparing bytes gives. -/
theorem compare_lex : ∀ a b : List Int, a.length = b.length → (∀ c ∈ a, 0 ≤ c ∧ c < 256) → (∀ c ∈ b, 0 ≤ c ∧ c < 256) → Lib.compareBytes (Lib.bytesOf a) (Lib.bytesOf b) = lexF a b
  | [], [], _, _, _ => by simp [Lib.bytesOf, Lib.compareBytes, lexF]
  | [], _ :: _, h, _, _ => by simp at h
  | _ :: _, [], h, _, _ => by simp at h
  | x :: xs, y :: ys, h, ha, hb => by
    have ih := compare_lex xs ys (by simpa using h) (fun c hc => ha c (List.mem_cons_of_mem _ hc)) (fun c hc => hb c (List.mem_cons_of_mem _ hc))
    have hx := ha x (List.mem_cons_self ..)
    have hy := hb y (List.mem_cons_self ..)
    have e1 : Lib.bytesOf (x :: xs) = UInt8.ofNat x.toNat :: Lib.bytesOf xs := rfl
    have e2 : Lib.bytesOf (y :: ys) = UInt8.ofNat y.toNat :: Lib.bytesOf ys := rfl
    have hlt : ∀ p q : Int, 0 ≤ p → p < 256 → 0 ≤ q → q < 256 → (UInt8.ofNat p.toNat < UInt8.ofNat q.toNat ↔ p < q) := by
      intro p q p0 p1 q0 q1
      rw [UInt8.lt_iff_toNat_lt, UInt8.toNat_ofNat', UInt8.toNat_ofNat']
      omega
    have c := cmpF_rng x y
    rw [e1, e2]
    unfold Lib.compareBytes lexF orF
    rw [ih]
    have l1 := hlt x y hx.1 hx.2 hy.1 hy.2
    have l2 := hlt y x hy.1 hy.2 hx.1 hx.2
    rcases c with ⟨c1, c2⟩ | ⟨c1, c2⟩ | ⟨c1, c2⟩
    · simp [l1, c1, c2]
    · subst c2; simp [c1]
    · have c3 : ¬ x < y := by omega
      simp [l1, l2, c1, c2, c3]
end Go.Proofs.Ytgjdlclkibiffaa
