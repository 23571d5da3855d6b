/-
  Fields as the laws of layer 3 take them: a slice of structs that lies there; short, long, key. Own work.
-/
import Derived.Test.YtnljibmdcknmeabDoorRWriter
import Derived.Lib.IndexBytes
namespace Go.Proofs.YtnljibmdcknmeabDoor
open Go.RowKit

structure Fld where
  kind : Nat
  n : Nat
  s : ByteArray
  most : Int
def fld0 : Fld := ⟨0, 0, ⟨#[]⟩, 0⟩
def fcells (f : Fld) : Array Value := #[.int .u8 (f.kind : Nat), .int .u64 (f.n : Nat), .string f.s, .int .i64 f.most]
/-- Numbers that fit their kinds. -/
structure Fld.ok (f : Fld) : Prop where
  kind : f.kind < 256
  n : f.n < 18446744073709551616
  lo : -9223372036854775808 ≤ f.most
  hi : f.most ≤ 9223372036854775807
  s : f.s.size ≤ 9223372036854775807
/-- A slice of fields lies there. -/
def FLies (w : World) (v : Value) (fs : List Fld) : Prop :=
  (fs = [] ∧ ∃ (ao : Option Addr) (cap : Nat), v = .slice ao 0 cap ∧ (ao = none → cap = 0)) ∨
  (fs ≠ [] ∧ ∃ b off cap : Nat, v = .slice (some ⟨b, off, none⟩) fs.length cap ∧ b < w.heap.size ∧ fs.length ≤ cap ∧ cap ≤ maxLen ∧
    ∀ t, t < fs.length → ∀ j, j < 4 → w.cell? ⟨b, off + t * 4 + j, none⟩ = (fcells (fs.getD t fld0))[j]?)
theorem FLies.below {w w' : World} {v : Value} {fs : List Fld} {B : Nat} (hB : Below B w w') (hs : w.heap.size ≤ B) (h : FLies w v fs) : FLies w' v fs := by
  rcases h with h | ⟨hx, b, off, cap, rfl, hb, hl, hm, hc⟩
  · exact .inl h
  · exact .inr ⟨hx, b, off, cap, rfl, Nat.lt_of_lt_of_le hb hB.size, hl, hm, fun t ht j hj => (hB.cell (p := ⟨b, off + t * 4 + j, none⟩) (Nat.lt_of_lt_of_le hb hs)).trans (hc t ht j hj)⟩
theorem FLies.shape {w : World} {v : Value} {fs : List Fld} (h : FLies w v fs) : ∃ (ao : Option Addr) (cap : Nat), v = .slice ao fs.length cap ∧ fs.length ≤ cap ∧ fs.length ≤ maxLen := by
  rcases h with ⟨rfl, ao, cap, rfl, _⟩ | ⟨_, b, off, cap, rfl, _, hl, hm, _⟩
  · exact ⟨ao, cap, rfl, by simp, by simp⟩
  · exact ⟨_, cap, rfl, hl, Nat.le_trans hl hm⟩
theorem FLies.take {w : World} {ao : Option Addr} {cap k : Nat} {fs : List Fld} (h : FLies w (.slice ao fs.length cap) fs) (hk : k ≤ fs.length) : FLies w (.slice ao k cap) (fs.take k) := by
  rcases h with ⟨rfl, ao', cap', e, hn⟩ | ⟨hne, b, off, cap', e, hb, hl, hm, hc⟩
  · cases e
    obtain rfl : k = 0 := by simpa using hk
    exact .inl ⟨by simp, ao, cap, rfl, hn⟩
  · cases e
    by_cases h0 : k = 0
    · subst h0
      exact .inl ⟨by simp, _, _, rfl, fun h => by cases h⟩
    · have hlen : (fs.take k).length = k := by simp; omega
      refine .inr ⟨?_, b, off, cap, by rw [hlen], hb, by omega, hm, fun t ht j hj => ?_⟩
      · intro e; rw [e] at hlen; simp at hlen; omega
      · rw [hc t (by omega) j hj]
        have : t < k := by omega
        simp [List.getD, this]
/-- How long the texts are, each counted up to 65536. -/
def total (fs : List Fld) : Nat := (fs.map fun f => min f.s.size 65536).sum
theorem total_snoc (fs : List Fld) (k : Nat) (h : k < fs.length) : total (fs.take (k + 1)) = total (fs.take k) + min (fs.getD k fld0).s.size 65536 := by
  unfold total
  rw [List.take_add_one, List.map_append, List.sum_append]
  congr 1
  simp [List.getD, h]
theorem total_len : ∀ fs : List Fld, total fs ≤ fs.length * 65536
  | [] => Nat.le_refl _
  | f :: fs => by
    have ih := total_len fs
    unfold total at ih ⊢
    rw [List.map_cons, List.sum_cons, List.length_cons, Nat.succ_mul]
    have := Nat.min_le_right f.s.size 65536
    omega
theorem total_le (fs : List Fld) (k : Nat) : total (fs.take k) ≤ k * 65536 :=
  Nat.le_trans (total_len _) (Nat.mul_le_mul_right _ (by rw [List.length_take]; exact Nat.min_le_left _ _))

/-- A text's first eight bytes, zeros behind. -/
def keyI (s : ByteArray) : List Int := (strI s).take 8 ++ List.replicate (8 - s.size) 0
theorem keyI_length (s : ByteArray) : (keyI s).length = 8 := by simp [keyI, strI_length]; omega
/-- So far filled. -/
def keyTo (s : ByteArray) (k : Nat) : List Int := (strI s).take k ++ List.replicate (8 - k) 0
theorem keyTo_zero (s : ByteArray) : keyTo s 0 = List.replicate 8 0 := by simp [keyTo]
theorem keyTo_end (s : ByteArray) (k : Nat) (h : k = 8 ∨ k = s.size) (h8 : k ≤ 8) (hs : k ≤ s.size) : keyTo s k = keyI s := by
  unfold keyTo keyI
  rcases h with rfl | rfl
  · rw [show 8 - s.size = 0 by omega]
  · congr 1
    rw [List.take_of_length_le (by rw [strI_length]; exact Nat.le_refl _), List.take_of_length_le (by rw [strI_length]; exact h8)]
theorem keyTo_next (s : ByteArray) (k : Nat) (h8 : k < 8) (hs : k < s.size) (c : UInt8) (hc : s.data.toList[k]? = some c) :
    ((keyTo s k).map (Value.int .u8)).toArray.setIfInBounds k (.int .u8 (c.toNat : Nat)) = ((keyTo s (k + 1)).map (Value.int .u8)).toArray := by
  have hl : (strI s).length = s.size := strI_length s
  rw [List.setIfInBounds_toArray]
  congr 1
  apply List.ext_getElem?
  intro i
  have h1 : ((keyTo s k).map (Value.int .u8)).length = 8 := by simp [keyTo, hl]; omega
  rw [List.getElem?_set, h1]
  have hsk : (strI s)[k]? = some (c.toNat : Int) := by unfold strI; rw [List.getElem?_map, hc]; rfl
  by_cases hi : k = i
  · subst hi
    rw [if_pos rfl, if_pos h8]
    simp only [keyTo, List.getElem?_map, List.getElem?_append, List.length_take, hl]
    rw [if_pos (by omega)]
    simp [hsk]
  · rw [if_neg hi]
    simp only [keyTo, List.getElem?_map, List.getElem?_append, List.length_take, hl]
    by_cases h2 : i < k
    · rw [if_pos (by omega), if_pos (by omega)]
      simp [h2, show i < k + 1 by omega]
    · rw [if_neg (by omega), if_neg (by omega)]
      simp only [List.getElem?_replicate]
      congr 1
      by_cases h3 : i < 8
      · rw [if_pos (by omega), if_pos (by omega)]
      · rw [if_neg (by omega), if_neg (by omega)]
end Go.Proofs.YtnljibmdcknmeabDoor
