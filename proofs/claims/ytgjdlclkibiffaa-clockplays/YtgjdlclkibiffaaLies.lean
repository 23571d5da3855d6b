/-
  'Lies': a slice reads as these numbers, in whatever form it came (nil, empty, or with cells). Own work.
-/
import Derived.Test.YtgjdlclkibiffaaProg
import Derived.WalkKit
import Derived.WalkSpells
import Derived.WalkLawsBesides
import Derived.Handy
import Derived.OwnWalk
import Derived.Laws.BytesArg
import Derived.Maps.AppendAt
namespace Go.Proofs.Ytgjdlclkibiffaa
open Go.RowKit
theorem hide {p : Prop} (h : p) : Hid p := h
theorem ret_int {k : IntKind} {a b : Int} (h : a = b) : Ending.returned (.int k a) = .returned (.int k b) := by rw [h]
theorem ret_bool {a b : Bool} (h : a = b) : Ending.returned (.bool a) = .returned (.bool b) := by rw [h]

/-- A slice reads as these numbers. -/
def Lies (k : IntKind) (w : World) (v : Value) (xs : List Int) : Prop :=
  (xs = [] ∧ ∃ (ao : Option Addr) (cap : Nat), v = .slice ao 0 cap ∧ (ao = none → cap = 0)) ∨
  (xs ≠ [] ∧ ∃ b off cap : Nat, v = .slice (some ⟨b, off, none⟩) xs.length cap ∧ b < w.heap.size ∧ xs.length ≤ cap ∧ cap ≤ maxLen ∧
    ∀ t, t < xs.length → w.cell? ⟨b, off + t, none⟩ = some (.int k (xs.getD t 0)))
theorem Lies.below {k : IntKind} {w w' : World} {v : Value} {xs : List Int} (hB : Below w.heap.size w w') (h : Lies k w v xs) : Lies k w' v xs := by
  rcases h with h | ⟨hx, b, off, cap, rfl, hb, hl, hm, hc⟩
  · exact .inl h
  · exact .inr ⟨hx, b, off, cap, rfl, Nat.lt_of_lt_of_le hb hB.size, hl, hm, fun t ht => (hB.cell (p := ⟨b, off + t, none⟩) hb).trans (hc t ht)⟩
theorem Lies.nil (k : IntKind) (w : World) : Lies k w (.slice none 0 0) [] := .inl ⟨rfl, none, 0, rfl, fun _ => rfl⟩
theorem Lies.len {k : IntKind} {w : World} {v : Value} {xs : List Int} (h : Lies k w v xs) : xs.length ≤ maxLen := by
  rcases h with ⟨rfl, _⟩ | ⟨_, b, off, cap, _, _, hl, hm, _⟩
  · simp
  · omega
theorem Lies.of_own {k : IntKind} {w : World} {base e : Nat} {v : Value} {n : Nat} {xs : List Int} (h : w.ownsRow base e 1 v n (xs.map (Value.int k))) : Lies k w v xs := by
  have hl : xs.length = n := by simpa using h.1
  have h0 := h
  obtain ⟨_, ⟨rfl, rfl⟩ | ⟨g, cap, cur, rfl, hg, hh, hn, hcap, hsz, htake⟩⟩ := h
  · obtain rfl : xs = [] := List.eq_nil_of_length_eq_zero hl
    exact Lies.nil _ _
  · by_cases hx : xs = []
    · subst hx
      obtain rfl : n = 0 := hl.symm
      exact .inl ⟨rfl, _, _, rfl, fun h => by cases h⟩
    · refine .inr ⟨hx, g, 0, cap, by rw [hl], (h0.lt g rfl).2, by omega, hcap, fun t ht => ?_⟩
      rw [Nat.zero_add, h0.cellAt t (by omega)]
      simp [ht]

theorem Lies.appendable {k : IntKind} {w : World} {v : Value} {xs : List Int} (h : Lies k w v xs) :
    ∃ (ao : Option Addr) (cap : Nat), v = .slice ao xs.length cap ∧ (ao = none → xs.length = 0 ∧ cap = 0) ∧ (∀ ad, ao = some ad → ∀ j u, (xs.map (Value.int k))[j]? = some u → w.cell? (ad.add j) = some u) := by
  rcases h with ⟨rfl, ao, cap, rfl, h0⟩ | ⟨_, b, off, cap, rfl, _, _, _, hc⟩
  · exact ⟨ao, cap, rfl, fun h => ⟨rfl, h0 h⟩, fun ad _ j u hu => by simp at hu⟩
  · refine ⟨_, cap, rfl, (fun h => by cases h), fun ad had j u hu => ?_⟩
    obtain rfl := Option.some.inj had
    have hj : j < xs.length := by
      have := (List.getElem?_eq_some_iff.1 hu).1
      simpa using this
    rw [Addr.add_lit, hc j hj]
    simp [hj] at hu ⊢
    exact hu

theorem Lies.shape {k : IntKind} {w : World} {v : Value} {xs : List Int} (h : Lies k w v xs) : ∃ (ao : Option Addr) (cap : Nat), v = .slice ao xs.length cap := by
  obtain ⟨ao, cap, e, _⟩ := h.appendable
  exact ⟨ao, cap, e⟩
end Go.Proofs.Ytgjdlclkibiffaa
