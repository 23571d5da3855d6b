/-
  More of a disk as a plain thing: how much a call adds, what an error leaves. Of no program. Own work.
-/
import Derived.Test.YtjjmcaamgoffiaaDkPlain
import Derived.Test.YtjjmcaamgoffiaaBoxes
namespace Go.Proofs.Ytjjmcaamgoffiaa
open Go

theorem Lies.kept {k : IntKind} {S : Nat → Prop} {w w' : World} {v : Value} {xs : List Int} (h : Lies k w v xs) (hk : KeepBut S w w') (hS : ∀ g, v.ownBlock = some g → ¬ S g) : Lies k w' v xs := by
  rcases h with h | ⟨hx, b, off, cap, rfl, hb, hl, hm, hc⟩
  · exact .inl h
  · refine .inr ⟨hx, b, off, cap, rfl, Nat.lt_of_lt_of_le hb hk.size, hl, hm, fun t ht => ?_⟩
    rw [← hc t ht]
    exact World.cell?_of_block (hk.block b hb (hS b rfl))
theorem act_room (d : Dk) (a : DAct) : (actD d a).room = d.room := by
  unfold actD forD cutD triD armD faiD staD appD
  repeat' split
  all_goals rfl
theorem act_len {d : Dk} (h : d.Ok) (a : DAct) : (actD d a).bs.length ≤ d.bs.length + 65536 := by
  have h1 := h.b1
  have h2 := h.b2
  have h3 := h.r2
  have h4 := h.full
  have h5 := h.f1
  have h6 := h.f2
  unfold actD
  split
  · unfold forD; repeat' split
    all_goals simp
  split
  · unfold cutD; repeat' split
    all_goals simp
  split
  · unfold triD; repeat' split
    all_goals simp
    all_goals omega
  split
  · simp [armD]
  split
  · simp [faiD]
  split
  · unfold staD
    split
    · omega
    · split
      · omega
      · rename_i h7 h8
        have := staB_len h a.n a.b (by omega)
        show (staB d a.n a.b).length ≤ _
        omega
  · unfold appD
    split
    · omega
    · split
      · omega
      · rename_i h7 h8
        unfold Dk.left at h8
        simp
        omega
/-- P7.6, by what is asked of it. -/
theorem act_down (d : Dk) (a : DAct) (h : (actA d a).2 = 10) : (actD d a).off = true := by
  unfold actA at h
  unfold actD
  split at h
  · rename_i h1
    rw [if_pos h1]
    unfold forA at h
    unfold forD
    cases ho : d.off
    · rw [ho] at h
      simp only [Bool.false_eq_true, if_false] at h ⊢
      split at h
      · rename_i h2; rw [if_pos h2]
      · simp at h
    · simp [ho]
  rename_i h1; rw [if_neg h1]
  split at h
  · rename_i h2; rw [if_pos h2]
    unfold cutA at h
    unfold cutD
    cases ho : d.off
    · rw [ho] at h
      simp only [Bool.false_eq_true, if_false] at h
      split at h <;> simp at h
    · simp [ho]
  rename_i h2; rw [if_neg h2]
  split at h
  · rename_i h3; rw [if_pos h3]
    unfold cutA at h
    unfold triD
    cases ho : d.off
    · rw [ho] at h
      simp only [Bool.false_eq_true, if_false] at h
      split at h <;> simp at h
    · simp [ho]
  rename_i h3; rw [if_neg h3]
  split at h
  · simp at h
  rename_i h4; rw [if_neg h4]
  split at h
  · rename_i h5; rw [if_pos h5]; rfl
  rename_i h5; rw [if_neg h5]
  split at h
  · unfold staA at h
    simp only at h
    repeat' split at h
    all_goals simp at h
  rename_i h6; rw [if_neg h6]
  unfold appA at h
  unfold appD
  cases ho : d.off
  · rw [ho] at h
    simp only [Bool.false_eq_true, if_false] at h
    split at h <;> simp at h
  · simp [ho]
theorem act_err {d : Dk} {a : DAct} (h : (actA d a).2 ≠ 0) : (actD d a).base = d.base ∧ (actD d a).bs = d.bs ∧ (actD d a).left = d.left ∧ ((actA d a).2 ≠ 10 → (actD d a).off = d.off) ∧ (d.off = true → (actD d a).off = true) := by
  rcases act_error d a h with e | ⟨e, e2⟩
  · rw [e]; exact ⟨rfl, rfl, rfl, fun _ => rfl, fun h => h⟩
  · rw [e]; exact ⟨rfl, rfl, rfl, fun h => absurd e2 h, fun _ => rfl⟩
theorem act_room_le (d : Dk) (a : DAct) {n : Nat} (h : d.room = n) : (actD d a).room = n := by rw [act_room, h]
end Go.Proofs.Ytjjmcaamgoffiaa
