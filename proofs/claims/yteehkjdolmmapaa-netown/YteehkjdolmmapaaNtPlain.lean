/-
  A network as a plain thing: its wires in their order, what is lost; what each call answers and leaves. Of no program. Own work.
-/
import Derived.Laws.BitsAllLaws
namespace Go.Proofs.Yteehkjdolmmapaa
open Go

/-- A wire. -/
structure Wr where
  fr : Nat
  to : Nat
  b : List Int
structure Wr.Ok (x : Wr) : Prop where
  f : x.fr < 256
  t : x.to < 256
  b : ∀ c ∈ x.b, 0 ≤ c ∧ c < 256
def nilW : Wr := ⟨0, 0, []⟩
theorem nilW_ok : nilW.Ok := ⟨by decide, by decide, by simp [nilW]⟩
/-- A network. -/
structure Nt where
  room : Nat
  l : List Wr
  lost : Nat
structure Nt.Ok (n : Nt) : Prop where
  r1 : 1 ≤ n.room
  r2 : n.room ≤ 256
  full : n.l.length ≤ n.room
  w : ∀ x ∈ n.l, x.Ok
  b : ∀ x ∈ n.l, x.b.length ≤ 4096
def newN (room : Nat) : Nt := ⟨room, [], 0⟩
theorem newN_ok (room : Nat) (h1 : 1 ≤ room) (h2 : room ≤ 256) : (newN room).Ok := ⟨h1, h2, by simp [newN], by simp [newN], by simp [newN]⟩
/-- Send. -/
def senA (n : Nt) (x : Wr) : Int := if 8 ≤ x.fr ∨ 8 ≤ x.to then 1 else if 4096 < x.b.length then 5 else if n.room ≤ n.l.length then 9 else 0
def senD (n : Nt) (x : Wr) : Nt := if 8 ≤ x.fr ∨ 8 ≤ x.to then n else if 4096 < x.b.length then n else if n.room ≤ n.l.length then { n with lost := n.lost + 1 } else { n with l := n.l ++ [x] }
/-- Whether the i-th is there. -/
def Nt.inN (n : Nt) (i : Int) : Bool := decide (0 ≤ i) && decide (i < (n.l.length : Int))
def Nt.nth (n : Nt) (i : Int) : Wr := if n.inN i then n.l.getD i.toNat nilW else nilW
def atA (n : Nt) (i : Int) : Int := if n.inN i then 0 else 6
def takD (n : Nt) (i : Int) : Nt := if n.inN i then { n with l := n.l.eraseIdx i.toNat } else n
def droD (n : Nt) (i : Int) : Nt := if n.inN i then { n with l := n.l.eraseIdx i.toNat, lost := n.lost + 1 } else n
def twiA (n : Nt) (i : Int) : Int := if n.inN i then (if n.room ≤ n.l.length then 9 else 0) else 6
def twiD (n : Nt) (i : Int) : Nt := if n.inN i then (if n.room ≤ n.l.length then n else { n with l := n.l ++ [n.nth i] }) else n
def latD (n : Nt) (i : Int) : Nt := if n.inN i then { n with l := n.l.eraseIdx i.toNat ++ [n.nth i] } else n
/-- The places of those that go to a node. -/
def toL (n : Nt) (node : Nat) : List Int := ((List.range n.l.length).filter fun i => (n.l.getD i nilW).to == node).map fun (i : Nat) => (i : Int)
theorem inN_nat {n : Nt} {i : Int} (h : n.inN i = true) : ∃ k : Nat, i = (k : Int) ∧ k < n.l.length := by
  unfold Nt.inN at h
  simp only [Bool.and_eq_true, decide_eq_true_eq] at h
  exact ⟨i.toNat, by omega, by omega⟩
theorem nth_mem {n : Nt} {i : Int} (h : n.inN i = true) : n.nth i ∈ n.l := by
  obtain ⟨k, rfl, hk⟩ := inN_nat h
  unfold Nt.nth
  rw [if_pos h, Int.toNat_natCast]
  simp [List.getD, hk]
theorem nth_ok {n : Nt} (h : n.Ok) (i : Int) : (n.nth i).Ok ∧ (n.nth i).b.length ≤ 4096 := by
  cases hi : n.inN i
  · unfold Nt.nth; rw [hi]; exact ⟨nilW_ok, by simp [nilW]⟩
  · exact ⟨h.w _ (nth_mem hi), h.b _ (nth_mem hi)⟩
theorem senD_ok {n : Nt} (h : n.Ok) {x : Wr} (hx : x.Ok) : (senD n x).Ok := by
  have h1 := h.full
  unfold senD
  split
  · exact h
  split
  · exact h
  split
  · exact ⟨h.r1, h.r2, h.full, h.w, h.b⟩
  · rename_i h2 h3 h4
    refine ⟨h.r1, h.r2, by simp; omega, fun y hy => ?_, fun y hy => ?_⟩
    · rcases List.mem_append.1 hy with hy | hy
      · exact h.w y hy
      · obtain rfl : y = x := by simpa using hy
        exact hx
    · rcases List.mem_append.1 hy with hy | hy
      · exact h.b y hy
      · obtain rfl : y = x := by simpa using hy
        omega
theorem erase_ok {n : Nt} (h : n.Ok) (k lost : Nat) : (⟨n.room, n.l.eraseIdx k, lost⟩ : Nt).Ok :=
  ⟨h.r1, h.r2, Nat.le_trans (List.length_eraseIdx_le _ _) h.full, fun y hy => h.w y (List.mem_of_mem_eraseIdx hy), fun y hy => h.b y (List.mem_of_mem_eraseIdx hy)⟩
theorem takD_ok {n : Nt} (h : n.Ok) (i : Int) : (takD n i).Ok := by
  unfold takD
  split
  · exact erase_ok h _ _
  · exact h
theorem droD_ok {n : Nt} (h : n.Ok) (i : Int) : (droD n i).Ok := by
  unfold droD
  split
  · exact erase_ok h _ _
  · exact h
theorem twiD_ok {n : Nt} (h : n.Ok) (i : Int) : (twiD n i).Ok := by
  have h1 := h.full
  unfold twiD
  split
  · rename_i hi
    split
    · exact h
    · rename_i h2
      refine ⟨h.r1, h.r2, by simp; omega, fun y hy => ?_, fun y hy => ?_⟩
      · rcases List.mem_append.1 hy with hy | hy
        · exact h.w y hy
        · obtain rfl : y = n.nth i := by simpa using hy
          exact (nth_ok h i).1
      · rcases List.mem_append.1 hy with hy | hy
        · exact h.b y hy
        · obtain rfl : y = n.nth i := by simpa using hy
          exact (nth_ok h i).2
  · exact h
theorem latD_ok {n : Nt} (h : n.Ok) (i : Int) : (latD n i).Ok := by
  have h1 := h.full
  unfold latD
  split
  · rename_i hi
    obtain ⟨k, rfl, hk⟩ := inN_nat hi
    refine ⟨h.r1, h.r2, ?_, fun y hy => ?_, fun y hy => ?_⟩
    · show (n.l.eraseIdx (k : Int).toNat ++ [n.nth k]).length ≤ n.room
      rw [Int.toNat_natCast, List.length_append, List.length_eraseIdx_of_lt hk]
      simp
      omega
    · rcases List.mem_append.1 hy with hy | hy
      · exact h.w y (List.mem_of_mem_eraseIdx hy)
      · obtain rfl : y = n.nth k := by simpa using hy
        exact (nth_ok h _).1
    · rcases List.mem_append.1 hy with hy | hy
      · exact h.b y (List.mem_of_mem_eraseIdx hy)
      · obtain rfl : y = n.nth k := by simpa using hy
        exact (nth_ok h _).2
  · exact h
/-- A call of a script, by its kind modulo 6. -/
structure NAct where
  kind : Nat
  fr : Nat
  to : Nat
  i : Int
  b : List Int
structure NAct.Ok (a : NAct) : Prop where
  k : a.kind < 256
  f : a.fr < 256
  t : a.to < 256
  i1 : -9223372036854775808 ≤ a.i
  i2 : a.i ≤ 9223372036854775807
  b : ∀ c ∈ a.b, 0 ≤ c ∧ c < 256
def NAct.wire (a : NAct) : Wr := ⟨a.fr, a.to, a.b⟩
theorem NAct.Ok.wire {a : NAct} (h : a.Ok) : a.wire.Ok := ⟨h.f, h.t, h.b⟩
/-- What it answers: the wire, the error; what it leaves. -/
def nctW (n : Nt) (a : NAct) : Wr := if a.kind % 6 = 1 then n.nth a.i else if a.kind % 6 = 2 then n.nth a.i else nilW
def nctA (n : Nt) (a : NAct) : Int :=
  if a.kind % 6 = 1 then atA n a.i else if a.kind % 6 = 2 then atA n a.i else if a.kind % 6 = 3 then atA n a.i else if a.kind % 6 = 4 then twiA n a.i else if a.kind % 6 = 5 then atA n a.i else senA n a.wire
def nctD (n : Nt) (a : NAct) : Nt :=
  if a.kind % 6 = 1 then takD n a.i else if a.kind % 6 = 2 then n else if a.kind % 6 = 3 then droD n a.i else if a.kind % 6 = 4 then twiD n a.i else if a.kind % 6 = 5 then latD n a.i else senD n a.wire
theorem nctD_ok {n : Nt} (h : n.Ok) {a : NAct} (ha : a.Ok) : (nctD n a).Ok := by
  unfold nctD
  split
  · exact takD_ok h _
  split
  · exact h
  split
  · exact droD_ok h _
  split
  · exact twiD_ok h _
  split
  · exact latD_ok h _
  · exact senD_ok h ha.wire
theorem nct_room (n : Nt) (a : NAct) : (nctD n a).room = n.room := by
  unfold nctD takD droD twiD latD senD
  repeat' split
  all_goals rfl
theorem nct_lost (n : Nt) (a : NAct) : (nctD n a).lost ≤ n.lost + 1 := by
  unfold nctD takD droD twiD latD senD
  repeat' split
  all_goals simp
end Go.Proofs.Yteehkjdolmmapaa
