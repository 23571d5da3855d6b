/-
  A reader and a writer of the program's, apart from each other; texts and their numbers. Own work.
-/
import Derived.Test.YtkeedioifjabeaaAlive3
namespace Go.Proofs.Ytkeedioifjabeaa
open Go.RowKit

/-- A reader and a writer, apart. -/
structure RW (w : World) (p : Nat) (vb : Value) (all : List Int) (r : RS) (pc : Nat) (v : Value) (xs : List Int) : Prop where
  cr : CR w p vb all r
  cw : CW w pc v xs
  ne : pc ≠ p
  vp : v.ownBlock ≠ some p
  bp : vb.ownBlock ≠ some pc
  bv : ∀ g, vb.ownBlock = some g → v.ownBlock ≠ some g
theorem RW.below {w w' : World} {p : Nat} {vb : Value} {all : List Int} {r : RS} {pc : Nat} {v : Value} {xs : List Int} (h : RW w p vb all r pc v xs) (hB : Below w.heap.size w w') : RW w' p vb all r pc v xs :=
  ⟨h.cr.below hB, h.cw.below hB, h.ne, h.vp, h.bp, h.bv⟩
theorem RW.read {w w' : World} {p : Nat} {vb : Value} {all : List Int} {r r' : RS} {pc : Nat} {v : Value} {xs : List Int} (h : RW w p vb all r pc v xs) (hc : CR w' p vb all r') (hk : KeepBut (fun k => k = p) w w') : RW w' p vb all r' pc v xs :=
  ⟨hc, h.cw.keep hk h.ne (fun _ hg e => h.vp (e ▸ hg)), h.ne, h.vp, h.bp, h.bv⟩
theorem RW.wrote {w w' : World} {p : Nat} {vb : Value} {all : List Int} {r : RS} {pc : Nat} {v v' : Value} {xs ys : List Int} (h : RW w p vb all r pc v xs) (hw : CWrote w w' pc v v' ys) : RW w' p vb all r pc v' ys := by
  have hplt := h.cr.box.lt
  refine ⟨h.cr.keep hw.keep ?_ ?_, hw.wr, h.ne, ?_, h.bp, ?_⟩
  · rintro (e | e)
    · exact h.ne e.symm
    · exact h.vp e
  · intro g hg hS
    rcases hS with e | e
    · exact h.bp (e ▸ hg)
    · exact h.bv g hg e
  · intro e
    rcases hw.place with e2 | ⟨g, e2, hg⟩
    · exact h.vp (e2 ▸ e)
    · rw [e2] at e; cases e; omega
  · intro g hg e
    rcases hw.place with e2 | ⟨g2, e2, hg2⟩
    · exact h.bv g hg (e2 ▸ e)
    · rw [e2] at e; cases e
      have := owns_lt h.cr.own hg
      omega
theorem strI_strOf (l : List Int) (hl : ∀ c ∈ l, 0 ≤ c ∧ c < 256) : strI (strOfNums l) = l := by
  unfold strI
  rw [strOfNums_data, List.map_map]
  conv => rhs; rw [← List.map_id l]
  apply List.map_congr_left
  intro c hc
  have := hl c hc
  show ((UInt8.ofNat c.toNat).toNat : Int) = c
  rw [UInt8.toNat_ofNat']
  omega
theorem strOf_strI (s : ByteArray) : strOfNums (strI s) = s := by
  unfold strOfNums strI
  rw [List.map_map]
  have : s.data.toList.map ((fun n : Int => UInt8.ofNat n.toNat) ∘ fun b : UInt8 => (b.toNat : Int)) = s.data.toList := by
    conv => rhs; rw [← List.map_id s.data.toList]
    apply List.map_congr_left
    intro b _
    simp
  rw [this]
theorem text_byte (m : Int) (r : RS) (hx : ∀ c ∈ r.bs, 0 ≤ c ∧ c < 256) : ∀ c ∈ (textS m r).1, 0 ≤ c ∧ c < 256 := by
  intro c hc
  unfold textS at hc
  split at hc
  · simp at hc
  · split at hc
    · simp at hc
    · split at hc
      · simp at hc
      · split at hc
        · simp at hc
        · exact hx c (List.mem_of_mem_drop (List.mem_of_mem_take hc))
theorem text_len (m : Int) (r : RS) : (textS m r).1.length ≤ r.bs.length := by
  unfold textS
  split
  · simp
  · split
    · simp
    · split
      · simp
      · split
        · simp
        · simp; omega
theorem byte_byte (r : RS) (hx : ∀ c ∈ r.bs, 0 ≤ c ∧ c < 256) : 0 ≤ (byteS r).1 ∧ (byteS r).1 < 256 := by
  unfold byteS
  split
  · simp
  · split
    · simp
    · rename_i h
      cases hb : r.bs with
      | nil => exact absurd hb h
      | cons c t =>
        have := hx c (by rw [hb]; simp)
        simpa using this
/-- What a reading leaves is a part of the same bytes. -/
theorem ReadAs.fine {r r' : RS} {ys : List Int} (h : ReadAs r r' ys) {all xs : List Int} (ha : all = xs ++ r.bs) (hw : r.went = xs.length) (h0 : r'.why = 0) : all = (xs ++ ys) ++ r'.bs ∧ r'.went = (xs ++ ys).length ∧ r'.fat = r.fat := by
  rcases h with ⟨_, h1, h2, h3⟩ | ⟨h1, _⟩
  · exact ⟨by rw [ha, h1, List.append_assoc], by rw [h2, hw, List.length_append], h3⟩
  · exact absurd h0 h1
theorem ReadAs.wrong {r r' : RS} {ys : List Int} (h : ReadAs r r' ys) (h0 : r'.why ≠ 0) : r'.fat = r.went := by
  rcases h with ⟨h1, _⟩ | ⟨_, _, _, h1⟩
  · exact absurd h1 h0
  · exact h1
end Go.Proofs.Ytkeedioifjabeaa
