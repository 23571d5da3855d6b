/-
  Own texts put together: LkTog. Own work.
-/
import Derived.Test.YtddflccjmigloaaG33
namespace Go.Proofs.Ytddflccjmigloaa
section
open Go.RowKit Go.Maps Classical

theorem does_ok {a : LAct} {l l' : List (UsP KeyT)} {er : Int} {wn : List TxN} {gr : List (GtP KeyT)} (h : LkI l) (ht : TxB a.t) (htm : a.tm < 4294967296) (hR : DoesR a l er l' wn gr) : LkI l' := by
  rcases hR with ⟨_, h1, _⟩ | ⟨_, h1, _⟩ | ⟨_, h1, _⟩ | ⟨_, h1⟩
  · exact prepR_ok h h1
  · exact relR_ok h h1
  · exact restR_ok h ht h1
  · exact ask_ok h ht htm (fun e => ask_mode2 e) h1
def mnN (l : List (UsP KeyT)) (k : KeyT) : Nat := (l.filter fun u => decide (u.h k ≠ 0)).length
def wrN (l : List (UsP KeyT)) (k : KeyT) : Nat := (l.filter fun u => decide (u.h k = 2)).length
theorem mnN_take (l : List (UsP KeyT)) (k : KeyT) {j : Nat} (h : j < l.length) : mnN (l.take (j + 1)) k = mnN (l.take j) k + (if l[j].h k ≠ 0 then 1 else 0) := by
  unfold mnN
  rw [List.take_succ_eq_append_getElem h, List.filter_append, List.length_append]
  congr 1
  by_cases hd : l[j].h k ≠ 0
  · rw [if_pos hd, List.filter_cons_of_pos (by simpa using hd)]; rfl
  · rw [if_neg hd, List.filter_cons_of_neg (by simpa using hd)]; rfl
theorem wrN_take (l : List (UsP KeyT)) (k : KeyT) {j : Nat} (h : j < l.length) : wrN (l.take (j + 1)) k = wrN (l.take j) k + (if l[j].h k = 2 then 1 else 0) := by
  unfold wrN
  rw [List.take_succ_eq_append_getElem h, List.filter_append, List.length_append]
  congr 1
  by_cases hd : l[j].h k = 2
  · rw [if_pos hd, List.filter_cons_of_pos (by simpa using hd)]; rfl
  · rw [if_neg hd, List.filter_cons_of_neg (by simpa using hd)]; rfl
theorem two_of {l : List (UsP KeyT)} (hr : l.Pairwise fun a b => txO a.tx b.tx < 0) (p : UsP KeyT → Bool) (h : 2 ≤ (l.filter p).length) : ∃ a b, a ∈ l ∧ b ∈ l ∧ a.tx ≠ b.tx ∧ p a = true ∧ p b = true := by
  have hf := hr.filter p
  match hl : l.filter p, h, hf with
  | a :: b :: r, _, hf =>
    have hab := (List.pairwise_cons.1 hf).1 b List.mem_cons_self
    have ha : a ∈ l.filter p := by rw [hl]; exact List.mem_cons_self
    have hb : b ∈ l.filter p := by rw [hl]; exact List.mem_cons_of_mem _ List.mem_cons_self
    have h1 := List.mem_filter.1 ha
    have h2 := List.mem_filter.1 hb
    exact ⟨a, b, h1.1, h2.1, fun e => by rw [e, (txO_zero _ _).2 rfl] at hab; omega, h1.2, h2.2⟩
theorem tog_count {l : List (UsP KeyT)} (h : LkI l) (k : KeyT) : wrN l k ≤ 1 ∧ (wrN l k = 1 → mnN l k ≤ 1) := by
  refine ⟨Nat.le_of_not_lt (fun hw => ?_), fun hw => Nat.le_of_not_lt (fun hm => ?_)⟩
  · obtain ⟨a, b, ha, hb, hne, pa, pb⟩ := two_of h.b.rise _ hw
    have ea : a.h k = 2 := by simpa using pa
    have eb : b.h k = 2 := by simpa using pb
    exact h.m.tog a ha b hb hne k ⟨by omega, by omega, .inl ea⟩
  · obtain ⟨a, b, ha, hb, hne, pa, pb⟩ := two_of h.b.rise _ hm
    have ea : a.h k ≠ 0 := by simpa using pa
    have eb : b.h k ≠ 0 := by simpa using pb
    obtain ⟨u, hu⟩ := List.exists_mem_of_length_pos (l := l.filter (fun u : UsP KeyT => decide (u.h k = 2))) (by unfold wrN at hw; omega)
    have h1 := List.mem_filter.1 hu
    have eu : u.h k = 2 := by simpa using h1.2
    by_cases e : u.tx = a.tx
    · exact h.m.tog u h1.1 b hb (fun e2 => hne (e.symm.trans e2)) k ⟨by omega, eb, .inl eu⟩
    · exact h.m.tog u h1.1 a ha e k ⟨by omega, ea, .inl eu⟩
theorem src_users {w : World} {base : Nat} {v : Value} {l : List (UsP KeyT)} (h : w.ownsRow base 30 3 v l.length (rowOf (l.map fun x => txI x.tx))) : RSrc (fun u : UsP KeyT => txCs (txI u.tx)) w v l := by
  have e : rowOf (l.map fun x => txI x.tx) = flat (fun u : UsP KeyT => txCs (txI u.tx)) l := by
    unfold rowOf flat
    rw [List.flatMap_map]
  rw [e] at h
  exact RSrc.of_own h
theorem lvok_below {w w' : World} {x : LActV} (h : LvOk w x) {B : Nat} (hB : Below B w w') (hBs : w.heap.size ≤ B := by exact Nat.le_refl _) : LvOk w' x := ⟨h.kd, h.tm, h.tx, h.m, h.src.below (hB.mono hBs)⟩
theorem far_ks {fs : List LActV} (h : farL fs = false) : ∀ a ∈ fs.take 60, a.a.ks.length ≤ 30 := fun a ha => by
  unfold farL at h
  have := List.any_eq_false.1 h a ha
  unfold actB15 at this
  simpa using this
theorem act_key {w : World} {p : Nat} {a : LAct} {u : Value} (h : Box w p (lactA a u) 37) : w.rangeAt p 5 (eightE a.k.1) := fun j v hv => by
  have hj : j < 8 := (List.getElem?_eq_some_iff.1 hv).1
  refine h.cell (5 + j) v ?_
  match j, hj with
  | 0, _ => exact hv
  | 1, _ => exact hv
  | 2, _ => exact hv
  | 3, _ => exact hv
  | 4, _ => exact hv
  | 5, _ => exact hv
  | 6, _ => exact hv
  | 7, _ => exact hv
/-- The C of the table behind so many acts. -/
theorem cgrow {C C' k : Nat} (h : C ≤ 30 + k) (h2 : C' ≤ max (C + 1) 30) : C' ≤ 30 + (k + 1) := by omega
end
end Go.Proofs.Ytddflccjmigloaa
