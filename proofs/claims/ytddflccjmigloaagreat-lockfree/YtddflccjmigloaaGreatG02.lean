/-
  Own texts put together: Bytes, RWriter, Fields, Write, RSpec, Codec. Own work.
-/
import Derived.Test.YtddflccjmigloaaGreatG01
import Derived.Handy
import Derived.OwnWalk
import Derived.Laws.BytesArg
import Derived.Maps.AppendAt
import Derived.Lib.IndexBytes
namespace Go.Proofs.YtddflccjmigloaaGreat
section
open Go.RowKit

theorem convert_empty (ao : Option Addr) (cap : Nat) (w : World) : (convert 147 9 (.slice ao 0 cap)).run Tryz.prog w = .ok (.string (strOfNums [])) w := by
  cases ao with
  | none => exact run_convert_bytes_nil (P := Tryz.prog) w 147 5 Tryz.underlying147 Tryz.underlying5 0 cap 9 Tryz.underlying9
  | some ad =>
    have hl : (loadCells ad 0).run Tryz.prog w = .ok (([] : List Int).map (Value.int .u8)).toArray w := by
      have := run_loadCells_list (P := Tryz.prog) w ad [] (fun j v hj => by simp at hj)
      simpa using this
    rw [run_convert_bytes_string w 147 9 5 _ 0 cap Tryz.underlying147 Tryz.underlying5 Tryz.underlying9, run_bytesToString w _ 0 cap [] hl]
    rfl
theorem Lies.convert {w : World} {v : Value} {xs : List Int} (h : Lies .u8 w v xs) : (convert 147 9 v).run Tryz.prog w = .ok (.string (strOfNums xs)) w := by
  rcases h with ⟨rfl, ao, cap, rfl, _⟩ | ⟨_, b, off, cap, rfl, _, _, _, hc⟩
  · exact convert_empty ao cap w
  · exact run_convert_bytes_arg w 147 5 Tryz.underlying147 Tryz.underlying5 b off xs.length cap xs rfl hc 9 Tryz.underlying9
end
section
open Go.RowKit

structure Fld where
  kind : Nat
  n : Nat
  s : ByteArray
  most : Int
def fld0 : Fld := ⟨0, 0, ⟨#[]⟩, 0⟩
def fcells (f : Fld) : Array Value := #[.int .u8 (f.kind : Nat), .int .u64 (f.n : Nat), .string f.s, .int .i64 f.most]
/-- Numbers that fit their kinds. -/
structure Fld.ok (f : Fld) : Prop where
  kind : f.kind < 256
  n : f.n < 18446744073709551616
  lo : -9223372036854775808 ≤ f.most
  hi : f.most ≤ 9223372036854775807
  s : f.s.size ≤ 9223372036854775807
/-- A slice of fields lies there. -/
def FLies (w : World) (v : Value) (fs : List Fld) : Prop :=
  (fs = [] ∧ ∃ (ao : Option Addr) (cap : Nat), v = .slice ao 0 cap ∧ (ao = none → cap = 0)) ∨
  (fs ≠ [] ∧ ∃ b off cap : Nat, v = .slice (some ⟨b, off, none⟩) fs.length cap ∧ b < w.heap.size ∧ fs.length ≤ cap ∧ cap ≤ maxLen ∧
    ∀ t, t < fs.length → ∀ j, j < 4 → w.cell? ⟨b, off + t * 4 + j, none⟩ = (fcells (fs.getD t fld0))[j]?)
theorem FLies.below {w w' : World} {v : Value} {fs : List Fld} {B : Nat} (hB : Below B w w') (hs : w.heap.size ≤ B) (h : FLies w v fs) : FLies w' v fs := by
  rcases h with h | ⟨hx, b, off, cap, rfl, hb, hl, hm, hc⟩
  · exact .inl h
  · exact .inr ⟨hx, b, off, cap, rfl, Nat.lt_of_lt_of_le hb hB.size, hl, hm, fun t ht j hj => (hB.cell (p := ⟨b, off + t * 4 + j, none⟩) (Nat.lt_of_lt_of_le hb hs)).trans (hc t ht j hj)⟩
theorem FLies.shape {w : World} {v : Value} {fs : List Fld} (h : FLies w v fs) : ∃ (ao : Option Addr) (cap : Nat), v = .slice ao fs.length cap ∧ fs.length ≤ cap ∧ fs.length ≤ maxLen := by
  rcases h with ⟨rfl, ao, cap, rfl, _⟩ | ⟨_, b, off, cap, rfl, _, hl, hm, _⟩
  · exact ⟨ao, cap, rfl, by simp, by simp⟩
  · exact ⟨_, cap, rfl, hl, Nat.le_trans hl hm⟩
theorem FLies.take {w : World} {ao : Option Addr} {cap k : Nat} {fs : List Fld} (h : FLies w (.slice ao fs.length cap) fs) (hk : k ≤ fs.length) : FLies w (.slice ao k cap) (fs.take k) := by
  rcases h with ⟨rfl, ao', cap', e, hn⟩ | ⟨hne, b, off, cap', e, hb, hl, hm, hc⟩
  · cases e
    obtain rfl : k = 0 := by simpa using hk
    exact .inl ⟨by simp, ao, cap, rfl, hn⟩
  · cases e
    by_cases h0 : k = 0
    · subst h0
      exact .inl ⟨by simp, _, _, rfl, fun h => by cases h⟩
    · have hlen : (fs.take k).length = k := by simp; omega
      refine .inr ⟨?_, b, off, cap, by rw [hlen], hb, by omega, hm, fun t ht j hj => ?_⟩
      · intro e; rw [e] at hlen; simp at hlen; omega
      · rw [hc t (by omega) j hj]
        have : t < k := by omega
        simp [List.getD, this]
end
section
open Go

/-- What is left, how many bytes went, the first fault. -/
structure RS where
  bs : List Int
  went : Nat
  why : Int
  fat : Nat
def RS.fail (r : RS) (e : Int) : RS := { r with why := e, fat := r.went }
def RS.go (r : RS) (k : Nat) : RS := { r with bs := r.bs.drop k, went := r.went + k }
/-! Behind a fault nothing is read, and the fault stays. -/
/-! What is written is read. -/
/-! What is read without a fault is written as the same bytes. -/
/-- What reading a field leaves: its bytes went, or nothing did and the fault tells where. -/
def ReadAs (r r' : RS) (ys : List Int) : Prop :=
  (r'.why = 0 ∧ r.bs = ys ++ r'.bs ∧ r'.went = r.went + ys.length ∧ r'.fat = r.fat) ∨ (r'.why ≠ 0 ∧ r'.bs = r.bs ∧ r'.went = r.went ∧ r'.fat = r.went)
end
section
open Go

/-- What reading leaves: all of its bytes went; or a fault, within what was left. -/
def ReadsTo (r r' : RS) (ys : List Int) : Prop :=
  (r'.why = 0 ∧ r.bs = ys ++ r'.bs ∧ r'.went = r.went + ys.length ∧ r'.fat = r.fat) ∨
  (r'.why ≠ 0 ∧ ∃ k, k ≤ r.bs.length ∧ r'.bs = r.bs.drop k ∧ r'.went = r.went + k ∧ r'.fat = r.went + k)
theorem ReadAs.to {r r' : RS} {ys : List Int} (h : ReadAs r r' ys) : ReadsTo r r' ys := by
  rcases h with h | ⟨h1, h2, h3, h4⟩
  · exact .inl h
  · exact .inr ⟨h1, 0, Nat.zero_le _, by simpa using h2, by simpa using h3, by simpa using h4⟩
theorem ReadsTo.bytes {r r' : RS} {ys : List Int} (h : ReadsTo r r' ys) (hx : ∀ c ∈ r.bs, 0 ≤ c ∧ c < 256) : ∀ c ∈ r'.bs, 0 ≤ c ∧ c < 256 := by
  rcases h with ⟨_, h, _⟩ | ⟨_, k, _, h, _⟩
  · intro c hc; exact hx c (by rw [h]; exact List.mem_append_right _ hc)
  · intro c hc; rw [h] at hc; exact hx c (List.mem_of_mem_drop hc)
theorem ReadsTo.nil {r : RS} (h : r.why = 0) : ReadsTo r r [] := .inl ⟨h, rfl, rfl, rfl⟩
theorem ReadsTo.trans {r r1 r2 : RS} {ys zs : List Int} (h : ReadsTo r r1 ys) (h1 : r1.why = 0) (h2 : ReadsTo r1 r2 zs) : ReadsTo r r2 (ys ++ zs) := by
  rcases h with ⟨_, e1, e2, e3⟩ | ⟨hn, _⟩
  · rcases h2 with ⟨g0, g1, g2, g3⟩ | ⟨g0, k, gk, g1, g2, g3⟩
    · exact .inl ⟨g0, by rw [e1, g1, List.append_assoc], by rw [g2, e2, List.length_append]; omega, by rw [g3, e3]⟩
    · exact .inr ⟨g0, ys.length + k, by rw [e1, List.length_append]; omega, by rw [g1, e1, ← List.drop_drop, List.drop_left], by rw [g2, e2]; omega, by rw [g3, e2]; omega⟩
  · exact absurd h1 hn
end
end Go.Proofs.YtddflccjmigloaaGreat
