/-
  A disk as a plain thing: all bytes that ever were, the base, what is forced, the power, the fuse; what each call answers and leaves. Of no program. Own work.
-/
import Derived.Laws.BitsAllLaws
namespace Go.Proofs.Ytjjmcaamgoffiaa
open Go

/-- A disk. -/
structure Dk where
  room : Nat
  bs : List Int
  base : Nat
  fbase : Nat
  fend : Nat
  off : Bool
  armed : Bool
  fuse : Nat
/-- What holds of each disk that New gave, behind whatever calls. -/
structure Dk.Ok (d : Dk) : Prop where
  r1 : 1 ≤ d.room
  r2 : d.room ≤ 65536
  b1 : d.fbase ≤ d.base
  b2 : d.base ≤ d.bs.length
  f1 : d.fbase ≤ d.fend
  f2 : d.fend ≤ d.bs.length
  full : d.bs.length ≤ d.fbase + d.room
  fu : d.fuse < 9223372036854775808
  by8 : ∀ c ∈ d.bs, 0 ≤ c ∧ c < 256
def newD (room : Nat) : Dk := ⟨room, [], 0, 0, 0, false, false, 0⟩
theorem newD_ok (room : Nat) (h1 : 1 ≤ room) (h2 : room ≤ 65536) : (newD room).Ok := ⟨h1, h2, Nat.le_refl _, Nat.le_refl _, Nat.le_refl _, Nat.le_refl _, by simp [newD], by simp [newD], by simp [newD]⟩
/-- How many bytes there is room for. -/
def Dk.left (d : Dk) : Nat := d.fbase + d.room - d.bs.length
/-- Append(b): the place, the error. -/
def appA (d : Dk) (b : List Int) : Int × Int := if d.off then (0, 10) else if d.left < b.length then (0, 9) else ((d.bs.length : Int), 0)
def appD (d : Dk) (b : List Int) : Dk := if d.off then d else if d.left < b.length then d else { d with bs := d.bs ++ b }
def forA (d : Dk) : Int := if d.off then 10 else if d.armed && d.fuse == 0 then 10 else 0
def forD (d : Dk) : Dk := if d.off then d else if d.armed && d.fuse == 0 then { d with off := true } else { d with fuse := if d.armed then d.fuse - 1 else d.fuse, fbase := d.base, fend := d.bs.length }
/-- A place that may be cut at. -/
def Dk.inB (d : Dk) (to : Int) : Bool := decide ((d.base : Int) ≤ to) && decide (to ≤ (d.bs.length : Int))
def cutA (d : Dk) (to : Int) : Int := if d.off then 10 else if d.inB to then 0 else 1
def cutD (d : Dk) (to : Int) : Dk := if d.off then d else if d.inB to then { d with base := to.toNat } else d
def triD (d : Dk) (to : Int) : Dk := if d.off then d else if d.inB to then { d with bs := d.bs.take to.toNat, fend := min d.fend to.toNat } else d
def reaA (d : Dk) : Int := if d.off then 10 else 0
def reaB (d : Dk) : List Int := if d.off then [] else d.bs.drop d.base
def armD (d : Dk) (n : Int) : Dk := { d with armed := decide (0 ≤ n), fuse := n.toNat }
def faiA (d : Dk) : Int := if d.off then 11 else 0
def faiD (d : Dk) : Dk := { d with off := true }
/-- What a Start leaves there. -/
def staB (d : Dk) (keep : Int) (tail : List Int) : List Int := if tail = [] then d.bs.take (d.fend + min keep.toNat (d.bs.length - d.fend)) else d.bs.take d.fend ++ tail
def staA (d : Dk) (tail : List Int) : Int := if !d.off then 11 else if d.room - (d.fend - d.fbase) < tail.length then 9 else 0
def staE (d : Dk) (keep : Int) (cut : Bool) (tail : List Int) : Nat := if cut && decide (d.base ≤ (staB d keep tail).length) then d.base else d.fbase
def staD (d : Dk) (keep : Int) (cut : Bool) (tail : List Int) : Dk :=
  if !d.off then d else if d.room - (d.fend - d.fbase) < tail.length then d
  else ⟨d.room, staB d keep tail, staE d keep cut tail, staE d keep cut tail, (staB d keep tail).length, false, false, 0⟩
theorem appD_ok {d : Dk} (h : d.Ok) (b : List Int) (hb : ∀ c ∈ b, 0 ≤ c ∧ c < 256) : (appD d b).Ok := by
  unfold appD
  split
  · exact h
  · split
    · exact h
    · rename_i h1 h2
      have := h.full
      have := h.b2
      have := h.f2
      unfold Dk.left at h2
      refine ⟨h.r1, h.r2, h.b1, ?_, h.f1, ?_, ?_, h.fu, fun c hc => ?_⟩
      · simp; omega
      · simp; omega
      · simp; omega
      · rcases List.mem_append.1 hc with hc | hc
        · exact h.by8 c hc
        · exact hb c hc
theorem forD_ok {d : Dk} (h : d.Ok) : (forD d).Ok := by
  have h1 := h.b1
  have h2 := h.full
  have h3 := h.b2
  have h4 := h.fu
  unfold forD
  split
  · exact h
  · split
    · exact ⟨h.r1, h.r2, h.b1, h.b2, h.f1, h.f2, h.full, h.fu, h.by8⟩
    · refine ⟨h.r1, h.r2, Nat.le_refl _, h.b2, h.b2, Nat.le_refl _, ?_, ?_, h.by8⟩
      · show d.bs.length ≤ d.base + d.room; omega
      · show (if d.armed then d.fuse - 1 else d.fuse) < _
        split <;> omega
theorem inB_nat {d : Dk} {to : Int} (h : d.inB to = true) : ∃ n : Nat, to = (n : Int) ∧ d.base ≤ n ∧ n ≤ d.bs.length := by
  unfold Dk.inB at h
  simp only [Bool.and_eq_true, decide_eq_true_eq] at h
  exact ⟨to.toNat, by omega, by omega, by omega⟩
theorem cutD_ok {d : Dk} (h : d.Ok) (to : Int) : (cutD d to).Ok := by
  unfold cutD
  split
  · exact h
  · split
    · rename_i h1 h2
      obtain ⟨n, rfl, e1, e2⟩ := inB_nat h2
      have := h.b1
      exact ⟨h.r1, h.r2, by simp; omega, by simpa using e2, h.f1, h.f2, h.full, h.fu, h.by8⟩
    · exact h
theorem triD_ok {d : Dk} (h : d.Ok) (to : Int) : (triD d to).Ok := by
  unfold triD
  split
  · exact h
  · split
    · rename_i h1 h2
      obtain ⟨n, rfl, e1, e2⟩ := inB_nat h2
      have := h.b1
      have := h.f1
      have := h.full
      rw [Int.toNat_natCast]
      refine ⟨h.r1, h.r2, h.b1, ?_, ?_, ?_, ?_, h.fu, fun c hc => h.by8 c (List.mem_of_mem_take hc)⟩
      · simp; omega
      · simp; omega
      · simp; omega
      · simp; omega
    · exact h
theorem armD_ok {d : Dk} (h : d.Ok) (n : Int) (hn : n ≤ 9223372036854775807) : (armD d n).Ok := ⟨h.r1, h.r2, h.b1, h.b2, h.f1, h.f2, h.full, by show n.toNat < _; omega, h.by8⟩
theorem faiD_ok {d : Dk} (h : d.Ok) : (faiD d).Ok := ⟨h.r1, h.r2, h.b1, h.b2, h.f1, h.f2, h.full, h.fu, h.by8⟩
theorem staB_len {d : Dk} (h : d.Ok) (keep : Int) (tail : List Int) (ht : tail.length ≤ d.room - (d.fend - d.fbase)) : d.fend ≤ (staB d keep tail).length ∧ (staB d keep tail).length ≤ d.fbase + d.room := by
  have := h.f1
  have := h.f2
  have := h.full
  have := h.r2
  unfold staB
  split
  · simp; omega
  · simp; omega
theorem staD_ok {d : Dk} (h : d.Ok) (keep : Int) (cut : Bool) (tail : List Int) (hb : ∀ c ∈ tail, 0 ≤ c ∧ c < 256) : (staD d keep cut tail).Ok := by
  unfold staD
  split
  · exact h
  · split
    · exact h
    · rename_i h1 h2
      obtain ⟨e1, e2⟩ := staB_len h keep tail (by omega)
      have := h.b1
      have := h.f1
      have hE : d.fbase ≤ staE d keep cut tail ∧ staE d keep cut tail ≤ (staB d keep tail).length := by
        unfold staE
        split
        · rename_i h3
          simp only [Bool.and_eq_true, decide_eq_true_eq] at h3
          omega
        · omega
      refine ⟨h.r1, h.r2, Nat.le_refl _, hE.2, hE.2, Nat.le_refl _, ?_, by show 0 < 9223372036854775808; decide, fun c hc => ?_⟩
      · show (staB d keep tail).length ≤ staE d keep cut tail + d.room
        omega
      · have hc : c ∈ staB d keep tail := hc
        unfold staB at hc
        split at hc
        · exact h.by8 c (List.mem_of_mem_take hc)
        · rcases List.mem_append.1 hc with hc | hc
          · exact h.by8 c (List.mem_of_mem_take hc)
          · exact hb c hc
/-- A call of a script, by its kind modulo 8. -/
structure DAct where
  kind : Nat
  n : Int
  b : List Int
  cut : Bool
def actA (d : Dk) (a : DAct) : Int × Int :=
  if a.kind % 8 = 1 then (0, forA d) else if a.kind % 8 = 2 then (0, cutA d a.n) else if a.kind % 8 = 7 then (0, cutA d a.n) else if a.kind % 8 = 3 then (0, 0)
  else if a.kind % 8 = 4 then (0, faiA d) else if a.kind % 8 = 5 then (0, staA d a.b) else appA d a.b
def actD (d : Dk) (a : DAct) : Dk :=
  if a.kind % 8 = 1 then forD d else if a.kind % 8 = 2 then cutD d a.n else if a.kind % 8 = 7 then triD d a.n else if a.kind % 8 = 3 then armD d a.n
  else if a.kind % 8 = 4 then faiD d else if a.kind % 8 = 5 then staD d a.n a.cut a.b else appD d a.b
structure DAct.Ok (a : DAct) : Prop where
  k : a.kind < 256
  n1 : -9223372036854775808 ≤ a.n
  n2 : a.n ≤ 9223372036854775807
  b : ∀ c ∈ a.b, 0 ≤ c ∧ c < 256
theorem actD_ok {d : Dk} (h : d.Ok) {a : DAct} (ha : a.Ok) : (actD d a).Ok := by
  unfold actD
  split
  · exact forD_ok h
  split
  · exact cutD_ok h _
  split
  · exact triD_ok h _
  split
  · exact armD_ok h _ ha.n2
  split
  · exact faiD_ok h
  split
  · exact staD_ok h _ _ _ ha.b
  · exact appD_ok h _ ha.b
/-- P7.6: an error turns nothing but the power. -/
theorem act_error (d : Dk) (a : DAct) (h : (actA d a).2 ≠ 0) : actD d a = d ∨ (actD d a = { d with off := true } ∧ (actA d a).2 = 10) := by
  unfold actA at h ⊢
  unfold actD
  split at h
  · rename_i h1; rw [if_pos h1, if_pos h1]
    unfold forA at h ⊢; unfold forD
    cases ho : d.off
    · rw [ho] at h
      simp only [Bool.false_eq_true, if_false] at h ⊢
      split at h
      · rename_i h2; right; rw [if_pos h2, if_pos h2]; exact ⟨rfl, rfl⟩
      · exact absurd rfl h
    · left; simp
  · rename_i h1; rw [if_neg h1, if_neg h1]
    split at h
    · rename_i h2; rw [if_pos h2, if_pos h2]
      left
      unfold cutA at h; unfold cutD
      cases ho : d.off
      · rw [ho] at h
        simp only [Bool.false_eq_true, if_false] at h ⊢
        split at h
        · exact absurd rfl h
        · rename_i h3; rw [if_neg h3]
      · simp
    · rename_i h2; rw [if_neg h2, if_neg h2]
      split at h
      · rename_i h3; rw [if_pos h3, if_pos h3]
        left
        unfold cutA at h; unfold triD
        cases ho : d.off
        · rw [ho] at h
          simp only [Bool.false_eq_true, if_false] at h ⊢
          split at h
          · exact absurd rfl h
          · rename_i h4; rw [if_neg h4]
        · simp
      · rename_i h3; rw [if_neg h3, if_neg h3]
        split at h
        · exact absurd rfl h
        · rename_i h4; rw [if_neg h4, if_neg h4]
          split at h
          · rename_i h5; rw [if_pos h5, if_pos h5]
            left
            unfold faiA at h; unfold faiD
            cases ho : d.off
            · rw [ho] at h; exact absurd rfl h
            · cases d; simp_all
          · rename_i h5; rw [if_neg h5, if_neg h5]
            split at h
            · rename_i h6; rw [if_pos h6, if_pos h6]
              left
              unfold staA at h; unfold staD
              cases ho : d.off
              · simp
              · rw [ho] at h
                simp only [Bool.not_true, Bool.false_eq_true, if_false] at h ⊢
                split at h
                · rename_i h7; rw [if_pos h7]
                · exact absurd rfl h
            · rename_i h6; rw [if_neg h6, if_neg h6]
              left
              unfold appA at h; unfold appD
              cases ho : d.off
              · rw [ho] at h
                simp only [Bool.false_eq_true, if_false] at h ⊢
                split at h
                · rename_i h7; rw [if_pos h7]
                · exact absurd rfl h
              · simp
/-- P7.4, P7.5: behind a Force come appends and cuts alone; then the power fails, and a Start of no tail. -/
structure Since (d0 d : Dk) (cut : Nat) (want : List Int) : Prop where
  ok : d.Ok
  on : d.off = false
  room : d.room = d0.room
  fb : d.fbase = d0.base
  fe : d.fend = d0.bs.length
  cu : d.base = cut
  wa : want = d.bs.drop d0.base
  le : d0.base ≤ d.base
theorem since_zero {d0 : Dk} (h : d0.Ok) (hon : d0.off = false) (hf : d0.fbase = d0.base) (he : d0.fend = d0.bs.length) : Since d0 d0 d0.base (d0.bs.drop d0.base) :=
  ⟨h, hon, rfl, hf, he, rfl, rfl, Nat.le_refl _⟩
theorem since_app {d0 d : Dk} {cut : Nat} {want : List Int} (h : Since d0 d cut want) (b : List Int) (hb : ∀ c ∈ b, 0 ≤ c ∧ c < 256) (hA : (appA d b).2 = 0) : Since d0 (appD d b) cut (want ++ b) := by
  have hok := appD_ok h.ok b hb
  unfold appA at hA
  unfold appD at hok ⊢
  rw [h.on] at hA hok ⊢
  simp only [Bool.false_eq_true, if_false] at hA hok ⊢
  by_cases hl : d.left < b.length
  · rw [if_pos hl] at hA; simp at hA
  · rw [if_neg hl] at hok ⊢
    have h1 := h.ok.b2
    have h2 := h.le
    refine ⟨hok, rfl, h.room, h.fb, h.fe, h.cu, ?_, h.le⟩
    show want ++ b = (d.bs ++ b).drop d0.base
    rw [h.wa, List.drop_append_of_le_length (by omega)]
theorem since_app_no {d0 d : Dk} {cut : Nat} {want : List Int} (h : Since d0 d cut want) (b : List Int) (hA : (appA d b).2 ≠ 0) : appD d b = d := by
  unfold appA at hA
  unfold appD
  rw [h.on] at hA ⊢
  simp only [Bool.false_eq_true, if_false] at hA ⊢
  by_cases hl : d.left < b.length
  · rw [if_pos hl]
  · rw [if_neg hl] at hA; exact absurd rfl hA
theorem since_cut {d0 d : Dk} {cut : Nat} {want : List Int} (h : Since d0 d cut want) (to : Int) (hA : cutA d to = 0) : ∃ n : Nat, to = (n : Int) ∧ Since d0 (cutD d to) n want := by
  have hok := cutD_ok h.ok to
  unfold cutA at hA
  unfold cutD at hok ⊢
  rw [h.on] at hA hok ⊢
  simp only [Bool.false_eq_true, if_false] at hA hok ⊢
  cases hi : d.inB to
  · rw [hi] at hA; simp at hA
  · obtain ⟨n, rfl, e1, e2⟩ := inB_nat hi
    simp only [hi, if_true, Int.toNat_natCast] at hok ⊢
    exact ⟨n, rfl, ⟨hok, rfl, h.room, h.fb, h.fe, rfl, h.wa, Nat.le_trans h.le e1⟩⟩
theorem since_cut_no {d0 d : Dk} {cut : Nat} {want : List Int} (h : Since d0 d cut want) (to : Int) (hA : cutA d to ≠ 0) : cutD d to = d := by
  unfold cutA at hA
  unfold cutD
  rw [h.on] at hA ⊢
  simp only [Bool.false_eq_true, if_false] at hA ⊢
  cases hi : d.inB to
  · rfl
  · rw [hi] at hA; simp at hA
/-- What is there behind that Start. -/
theorem since_start {d0 d : Dk} {cut : Nat} {want : List Int} (h : Since d0 d cut want) (keep : Int) (c : Bool) :
    staA (faiD d) [] = 0 ∧ ∃ e : Dk, e = staD (faiD d) keep c [] ∧ e.Ok ∧ e.off = false ∧ (e.base = d0.base ∨ (c = true ∧ e.base = cut)) ∧ d0.bs.length ≤ e.bs.length ∧ e.bs.length - d0.base ≤ want.length ∧ e.base ≤ e.bs.length ∧ d0.base ≤ e.base ∧
      e.bs.drop e.base = (want.take (e.bs.length - d0.base)).drop (e.base - d0.base) := by
  have h1 := h.ok.f1
  have h2 := h.ok.f2
  have h3 := h.ok.full
  have h4 := h.fb
  have h5 := h.fe
  have h6 := h.le
  have h7 := h.ok.b2
  have hr := h.ok.r1
  have hA : staA (faiD d) [] = 0 := by simp [staA, faiD]
  have hok := staD_ok (faiD_ok h.ok) keep c [] (by simp)
  have hd : staD (faiD d) keep c [] = ⟨d.room, staB (faiD d) keep [], staE (faiD d) keep c [], staE (faiD d) keep c [], (staB (faiD d) keep []).length, false, false, 0⟩ := by simp [staD, faiD]
  have hB : staB (faiD d) keep [] = d.bs.take (d.fend + min keep.toNat (d.bs.length - d.fend)) := by simp [staB, faiD]
  have hE : staE (faiD d) keep c [] = if c && decide (d.base ≤ (staB (faiD d) keep []).length) then d.base else d.fbase := rfl
  obtain ⟨m, hm⟩ : ∃ m, m = d.fend + min keep.toNat (d.bs.length - d.fend) := ⟨_, rfl⟩
  rw [← hm] at hB
  have hml : m ≤ d.bs.length := by omega
  have hmf : d.fend ≤ m := by omega
  have hBl : (staB (faiD d) keep []).length = m := by rw [hB]; simp; omega
  refine ⟨hA, _, rfl, hok, by rw [hd], ?_⟩
  rw [hd]
  simp only
  rw [hBl] at hE ⊢
  have hwl : want.length = d.bs.length - d0.base := by rw [h.wa]; simp
  obtain ⟨q, hq⟩ : ∃ q, q = staE (faiD d) keep c [] := ⟨_, rfl⟩
  rw [← hq] at hE ⊢
  have hq2 : (q = d0.base ∨ (c = true ∧ q = cut)) ∧ q ≤ m ∧ d0.base ≤ q := by
    rw [hE]
    cases c
    · simp; omega
    · by_cases hdm : d.base ≤ m
      · simp only [hdm, decide_true, Bool.and_self, if_true]
        have := h.cu
        exact ⟨.inr ⟨trivial, this⟩, trivial, by omega⟩
      · simp only [hdm, decide_false, Bool.and_false, Bool.false_eq_true, if_false]
        exact ⟨.inl h4, by omega, by omega⟩
  refine ⟨hq2.1, by omega, by omega, hq2.2.1, hq2.2.2, ?_⟩
  rw [hB, h.wa]
  rw [← List.drop_take, List.drop_drop]
  congr 1
  omega
end Go.Proofs.Ytjjmcaamgoffiaa
