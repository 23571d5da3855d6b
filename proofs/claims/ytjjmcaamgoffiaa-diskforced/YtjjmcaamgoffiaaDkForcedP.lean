/-
  For DiskForced: what the calls ahead of 'more' leave, as a plain thing; sums of lengths. Own work.
-/
import Derived.Test.YtjjmcaamgoffiaaDkFacts
namespace Go.Proofs.Ytjjmcaamgoffiaa
open Go

/-- Behind Start(0, false, nil), Arm(-1), Force. -/
def calmD (d : Dk) : Dk := forD (armD (staD d 0 false []) (-1))
theorem sta_on (d : Dk) (keep : Int) (c : Bool) (h : d.Ok) : (staD d keep c []).off = false := by
  have h1 := h.r1
  have h2 := h.f1
  have h3 := h.f2
  have h4 := h.full
  unfold staD
  cases ho : d.off
  · simp [ho]
  · rw [if_neg (by simp), if_neg (by simp)]
theorem sta_len {d : Dk} (h : d.Ok) (keep : Int) (c : Bool) (b : List Int) : (staD d keep c b).bs.length ≤ d.bs.length + 65536 := by
  have := act_len h ⟨5, keep, b, c⟩
  unfold actD at this
  simpa using this
theorem app_len {d : Dk} (h : d.Ok) (b : List Int) : (appD d b).bs.length ≤ d.bs.length + 65536 := by
  have := act_len h ⟨0, 0, b, false⟩
  unfold actD at this
  simpa using this
theorem cut_len (d : Dk) (to : Int) : (cutD d to).bs.length = d.bs.length := by
  unfold cutD
  repeat' split
  all_goals rfl
theorem calm_force (d : Dk) (h : d.Ok) : forA (armD (staD d 0 false []) (-1)) = 0 := by
  have ho := sta_on d 0 false h
  unfold forA armD
  simp [ho]
theorem calm_facts (d : Dk) (h : d.Ok) : (calmD d).off = false ∧ (calmD d).fbase = (calmD d).base ∧ (calmD d).fend = (calmD d).bs.length ∧ (calmD d).bs = (staD d 0 false []).bs := by
  have ho := sta_on d 0 false h
  unfold calmD
  generalize staD d 0 false [] = x at *
  unfold forD armD
  simp [ho]
theorem calm_ok {d : Dk} (h : d.Ok) : (calmD d).Ok := forD_ok (armD_ok (staD_ok h 0 false [] (by simp)) (-1) (by decide))
theorem calm_len {d : Dk} (h : d.Ok) : (calmD d).bs.length ≤ d.bs.length + 65536 := by
  rw [(calm_facts d h).2.2.2]
  exact sta_len h 0 false []
theorem since_calm {d : Dk} (h : d.Ok) : Since (calmD d) (calmD d) (calmD d).base ((calmD d).bs.drop (calmD d).base) := by
  obtain ⟨h1, h2, h3, _⟩ := calm_facts d h
  exact since_zero (calm_ok h) h1 h2 h3
/-- How long it may have become behind k calls. -/
def lim (k : Nat) : Nat := 65536 * (k + 200)
theorem lim_zero {n : Nat} (h : n ≤ 7000000) : n ≤ lim 0 := by unfold lim; omega
theorem lim_step {n m k : Nat} (h : n ≤ lim k) (h2 : m ≤ n + 65536) : m ≤ lim (k + 1) := by unfold lim at *; omega
theorem lim_le {n k : Nat} (h : n ≤ lim k) (hk : k ≤ 100) : n ≤ 20000000 := by unfold lim at *; omega
theorem since_want_len {d0 d : Dk} {cut : Nat} {want : List Int} (h : Since d0 d cut want) : want.length ≤ d.bs.length := by
  rw [h.wa]; simp
end Go.Proofs.Ytjjmcaamgoffiaa
