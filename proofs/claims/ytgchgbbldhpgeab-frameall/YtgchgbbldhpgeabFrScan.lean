/-
  The frames of bytes, one after another, as plain functions (layer 4). Of no program. Own work.
-/
import Derived.Test.YtgchgbbldhpgeabFrPlain
namespace Go.Proofs.Ytgchgbbldhpgeab
open Go

theorem next_ok (bs : List Int) (h : (nextF bs).2.2 = 0) : 8 ≤ (nextF bs).2.1 ∧ (nextF bs).2.1 ≤ bs.length := by
  unfold nextF at h ⊢
  repeat' split at h
  all_goals first
    | (exfalso; revert h; decide)
    | skip
  rename_i h1 h2 h3 h4 h5 h6 h7 h8
  rw [if_neg h1, if_neg h2, if_neg h3, if_neg h4, if_neg h5, if_neg h6, if_neg h7, if_neg h8]
  exact ⟨Nat.le_add_right _ _, Nat.le_of_not_lt h7⟩
theorem next_no (bs : List Int) (h : (nextF bs).2.2 ≠ 0) : (nextF bs).1 = [] ∧ (nextF bs).2.1 = 0 := by
  unfold nextF at h ⊢
  repeat' split
  all_goals first
    | exact ⟨rfl, rfl⟩
    | skip
  rename_i h1 h2 h3 h4 h5 h6 h7 h8
  rw [if_neg h1, if_neg h2, if_neg h3, if_neg h4, if_neg h5, if_neg h6, if_neg h7, if_neg h8] at h
  exact absurd rfl h
theorem next_code (bs : List Int) : (nextF bs).2.2 = 0 ∨ (nextF bs).2.2 = 3 ∨ (nextF bs).2.2 = 4 ∨ (nextF bs).2.2 = 8 := by
  unfold nextF
  repeat' split
  all_goals simp
theorem next_small (bs : List Int) : (nextF bs).1.length ≤ 4096 ∧ (nextF bs).1.length ≤ bs.length := by
  unfold nextF
  repeat' split
  all_goals first
    | exact ⟨Nat.zero_le _, Nat.zero_le _⟩
    | skip
  rename_i h1 h2 h3 h4 h5 h6 h7 h8
  constructor
  · simp; omega
  · simp; omega
theorem next_bytes (bs : List Int) (hx : ∀ c ∈ bs, 0 ≤ c ∧ c < 256) : ∀ c ∈ (nextF bs).1, 0 ≤ c ∧ c < 256 := by
  unfold nextF
  repeat' split
  all_goals first
    | exact fun c hc => hx c (List.mem_of_mem_drop (List.mem_of_mem_take hc))
    | exact fun c hc => absurd hc List.not_mem_nil
/-- The frames of bytes, and where the first bytes that are none begin. -/
def scanN : Nat → List Int → List (List Int) × Nat
  | 0, _ => ([], 0)
  | f + 1, bs => if (nextF bs).2.2 ≠ 0 then ([], 0) else ((nextF bs).1 :: (scanN f (bs.drop (nextF bs).2.1)).1, (nextF bs).2.1 + (scanN f (bs.drop (nextF bs).2.1)).2)
def scanF (bs : List Int) : List (List Int) × Nat := scanN (bs.length + 1) bs
theorem scan_fuel : ∀ (f g : Nat) (bs : List Int), bs.length < f → bs.length < g → scanN f bs = scanN g bs
  | 0, _, _, h, _ => by omega
  | _ + 1, 0, _, _, h => by omega
  | f + 1, g + 1, bs, hf, hg => by
    unfold scanN
    by_cases h : (nextF bs).2.2 ≠ 0
    · rw [if_pos h, if_pos h]
    · rw [if_neg h, if_neg h]
      have h' : (nextF bs).2.2 = 0 := Classical.byContradiction h
      have hk := next_ok bs h'
      have hl : (bs.drop (nextF bs).2.1).length = bs.length - (nextF bs).2.1 := by simp
      rw [scan_fuel f g _ (by omega) (by omega)]
theorem scan_no (bs : List Int) (h : (nextF bs).2.2 ≠ 0) : scanF bs = ([], 0) := by
  unfold scanF scanN
  rw [if_pos h]
theorem scan_ok (bs : List Int) (h : (nextF bs).2.2 = 0) : scanF bs = ((nextF bs).1 :: (scanF (bs.drop (nextF bs).2.1)).1, (nextF bs).2.1 + (scanF (bs.drop (nextF bs).2.1)).2) := by
  have hk := next_ok bs h
  have hl : (bs.drop (nextF bs).2.1).length = bs.length - (nextF bs).2.1 := by simp
  have e : scanF bs = scanN (bs.length + 1) bs := rfl
  rw [e, scanN, if_neg (by rw [h]; simp)]
  unfold scanF
  rw [scan_fuel bs.length ((bs.drop (nextF bs).2.1).length + 1) _ (by omega) (by omega)]
theorem scan_le (bs : List Int) : (scanF bs).2 ≤ bs.length := by
  suffices h : ∀ n (bs : List Int), bs.length < n → (scanF bs).2 ≤ bs.length from h _ bs (Nat.lt_succ_self _)
  intro n
  induction n with
  | zero => intro bs h; omega
  | succ n ih =>
    intro bs hn
    by_cases h : (nextF bs).2.2 = 0
    · have hk := next_ok bs h
      have hl : (bs.drop (nextF bs).2.1).length = bs.length - (nextF bs).2.1 := by simp
      have hi := ih (bs.drop (nextF bs).2.1) (by omega)
      rw [scan_ok bs h]
      show (nextF bs).2.1 + _ ≤ _
      omega
    · rw [scan_no bs h]; exact Nat.zero_le _
/-- Where the scan ends no frame begins. -/
theorem scan_end (bs : List Int) : (nextF (bs.drop (scanF bs).2)).2.2 ≠ 0 := by
  suffices h : ∀ n (bs : List Int), bs.length < n → (nextF (bs.drop (scanF bs).2)).2.2 ≠ 0 from h _ bs (Nat.lt_succ_self _)
  intro n
  induction n with
  | zero => intro bs h; omega
  | succ n ih =>
    intro bs hn
    by_cases h : (nextF bs).2.2 = 0
    · have hk := next_ok bs h
      have hl : (bs.drop (nextF bs).2.1).length = bs.length - (nextF bs).2.1 := by simp
      have hi := ih (bs.drop (nextF bs).2.1) (by omega)
      rw [scan_ok bs h]
      show (nextF (bs.drop ((nextF bs).2.1 + _))).2.2 ≠ 0
      rw [← List.drop_drop]
      exact hi
    · rw [scan_no bs h]
      exact h
def allF (bs : List Int) : List (List Int) × Int := if (scanF bs).2 < bs.length then ([], (nextF (bs.drop (scanF bs).2)).2.2) else ((scanF bs).1, 0)
/-- Of frames all are found, and then what stands behind. -/
theorem scan_frames (xs : List Int) : ∀ (loads : List (List Int)), (∀ l ∈ loads, l.length ≤ 4096 ∧ ∀ c ∈ l, 0 ≤ c ∧ c < 256) →
    scanF ((loads.map frameF).flatten ++ xs) = (loads ++ (scanF xs).1, (loads.map frameF).flatten.length + (scanF xs).2)
  | [], _ => by simp
  | l :: ls, h => by
    have hl := h l (List.mem_cons_self ..)
    have e : (((l :: ls).map frameF).flatten ++ xs) = frameF l ++ ((ls.map frameF).flatten ++ xs) := by simp
    have hn := next_put l ((ls.map frameF).flatten ++ xs) hl.1 hl.2
    have hp := (parts l ((ls.map frameF).flatten ++ xs) hl.1 hl.2).2.2.2.2.2.2
    rw [e, scan_ok _ (by rw [hn]), hn]
    show (l :: (scanF (List.drop (8 + l.length) _)).1, 8 + l.length + (scanF (List.drop (8 + l.length) _)).2) = _
    rw [hp, scan_frames xs ls (fun k hk => h k (List.mem_cons_of_mem _ hk))]
    simp [frameF_length]
    omega
theorem scan_nil : scanF [] = ([], 0) := scan_no [] (by decide)
theorem scan_cut (load : List Int) (hl : load.length ≤ 4096) (hb : ∀ c ∈ load, 0 ≤ c ∧ c < 256) (n : Nat) (hn : n < 8 + load.length) : scanF ((frameF load).take n) = ([], 0) :=
  scan_no _ (by rw [next_cut load hl hb n hn]; decide)
theorem all_frames (loads : List (List Int)) (h : ∀ l ∈ loads, l.length ≤ 4096 ∧ ∀ c ∈ l, 0 ≤ c ∧ c < 256) : allF (loads.map frameF).flatten = (loads, 0) := by
  have hs := scan_frames [] loads h
  rw [List.append_nil, scan_nil] at hs
  unfold allF
  rw [hs, if_neg (by simp)]
  simp
end Go.Proofs.Ytgchgbbldhpgeab
