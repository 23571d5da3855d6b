/-
  The program's sets of names: New, Has, Add, Drop. Own work.
-/
import Derived.Test.YtkdccigcpcchlaaIdSetK
import Derived.Deep.RegionHeldLaw
import Derived.Deep.QuietTactic
import Derived.BigQuiet
import Derived.Carry
namespace Go.Proofs.Ytkdccigcpcchlaa
open Go.RowKit Go.Maps

/-- At p lies a set that New gave: its map is block b, and reads as D. -/
structure SetAt (w : World) (p b n : Nat) (D : DataW Unit) : Prop where
  box : Box w p #[.map (some b)] 92
  own : w.ownsMap Try.prog 35 unitElem b n D
theorem owns_block {w w' : World} {b n : Nat} {D : DataW Unit} (h : w.ownsMap Try.prog 35 unitElem b n D) (hb : w'.heap[b]? = w.heap[b]?) : w'.ownsMap Try.prog 35 unitElem b n D := by
  obtain ⟨es, clock, h1, h2⟩ := h
  exact ⟨es, clock, hb.trans h1, h2⟩
theorem SetAt.keep {S : Nat → Prop} {w w' : World} {p b n : Nat} {D : DataW Unit} (h : SetAt w p b n D) (hk : KeepBut S w w') (hp : ¬ S p) (hb : ¬ S b) : SetAt w' p b n D :=
  ⟨h.box.keep hk hp, owns_block h.own (hk.block b h.own.lt hb)⟩
theorem SetAt.below {w w' : World} {p b n : Nat} {D : DataW Unit} (h : SetAt w p b n D) (hB : Below w.heap.size w w') : SetAt w' p b n D :=
  h.keep (KeepBut.of_below (fun _ => False) hB) id id
theorem SetAt.ne {w : World} {p b n : Nat} {D : DataW Unit} (h : SetAt w p b n D) : p ≠ b := by
  intro e
  obtain ⟨es, clock, h1, _⟩ := h.own
  have h2 := h.box
  unfold Box at h2
  rw [e, h1] at h2
  cases h2
theorem KeepBut.of_grown {w w' : World} {b : Nat} (h : w.grownBy w' (some b)) : KeepBut (fun k => k = b) w w' :=
  ⟨h.os, h.tape, h.output, h.size, fun k hk hS => h.block k hk (fun e => hS (by cases e; rfl))⟩

/-- What a set reads as behind Add. -/
def addD (D : DataW Unit) (t : TxP) : DataW Unit := if has D (txKey t) then D else D.put (txKey t) (.agg [])

theorem idNew_any (w : World) : Calls Try.prog 43 #[] w fun e w' => ∃ p b, e = .returned (.pointer (some ⟨p, 0, none⟩)) ∧ SetAt w' p b 0 (.map []) ∧ w.heap.size ≤ p ∧ w.heap.size ≤ b ∧ Below w.heap.size w w' := by
  have hmm := @run_makeMap Try.prog
  go_enter Try.func43, Try.ntmps43
  go_wp2
  go_ret
  refine ⟨w.heap.size + 1, w.heap.size, by simp, ⟨?_, ?_⟩, by omega, by omega, ((Below.refl _ _).alloc (Nat.le_refl _) _).alloc (by simp) _⟩
  · have := box_new (w.alloc (.map #[] 0)) #[.map (some w.heap.size)] 92
    simpa using this
  · exact (World.ownsMap_made w Try.prog 35 unitElem).alloc _

set_option maxRecDepth 100000 in
theorem has_any (p b n : Nat) (D : DataW Unit) (t : TxP) (ht : txOk t) (w : World) (h : SetAt w p b n D) :
    Calls Try.prog 48 #[.pointer (some ⟨p, 0, none⟩), txV t] w fun e w' => e = .returned (.bool (has D (txKey t))) ∧ Below w.heap.size w w' := by
  have hlt := h.box.lt
  have hkey := keyOf_tx t ht
  have hp0 := h.box.cell 0 _ rfl
  have L : ∀ W : World, W.ownsMap Try.prog 35 unitElem b n D → (Instr.lookup 90 (.map (some b)) (txV t) true).run Try.prog W = .ok (.tuple #[.agg #[], .bool (has D (txKey t))]) W := fun W hW => by
    obtain ⟨v, ps, hrun, hv⟩ := hW.look_ok txKeyed Try.underlying90 (zeroUnit _) unitElem_mk hkey
    obtain ⟨rfl, _⟩ := unitElem_inv hv
    exact hrun
  have hw0 := h.own.alloc (.cells #[.int .u8 t.1, .int .u32 t.2.1, .int .u32 t.2.2] 35)
  have L1 := L _ hw0
  have L2 := L _ hw0.drew
  have L3 := fun o => L _ (hw0.alloc o)
  have L4 := fun o => L _ ((hw0.alloc o).drew)
  have H := hide h
  have HK := hide hkey
  clear h hkey L hw0
  generalize has D (txKey t) = r at *
  obtain ⟨a, bo, nu⟩ := t
  simp only [txV] at *
  go_enter Try.func48, Try.ntmps48
  go_wp2
  go_region
  all_goals go_wp2
  all_goals go_ret
  all_goals exact ⟨rfl, (((Below.refl _ _).alloc (Nat.le_refl _) _).alloc (by simp) _).drew⟩
theorem has_nil (t : TxP) (w : World) : Calls Try.prog 48 #[.pointer none, txV t] w fun e w' => e = .returned (.bool false) ∧ Below w.heap.size w w' := by
  go_enter Try.func48, Try.ntmps48
  go_wp2
  go_ret
  exact ⟨rfl, (Below.refl _ _).alloc (Nat.le_refl _) _⟩
set_option maxRecDepth 100000 in
theorem has_none (p : Nat) (t : TxP) (ht : txOk t) (w : World) (h : Box w p #[.map none] 92) :
    Calls Try.prog 48 #[.pointer (some ⟨p, 0, none⟩), txV t] w fun e w' => e = .returned (.bool false) ∧ Below w.heap.size w w' := by
  have hlt := h.lt
  have hkey := keyOf_tx t ht
  have hp0 := h.cell 0 _ rfl
  have L : ∀ W : World, (Instr.lookup 90 (.map none) (txV t) true).run Try.prog W = .ok (.tuple #[.agg #[], .bool false]) W := fun W => Maps.look_nil true txKeyed Try.underlying90 (zeroUnit _) hkey
  clear h hkey
  obtain ⟨a, bo, nu⟩ := t
  simp only [txV] at *
  go_enter Try.func48, Try.ntmps48
  go_wp2
  go_region
  all_goals go_wp2
  all_goals go_ret
  all_goals exact ⟨rfl, (((Below.refl _ _).alloc (Nat.le_refl _) _).alloc (by simp) _).drew⟩
theorem eqlSomeMap (b : Nat) (w : World) : (binOp .eql 90 (.map (some b)) (.map none)).run Try.prog w = .ok (.bool false) w := by kernel_rfl
theorem eqlNoneMap (w : World) : (binOp .eql 90 (.map none) (.map none)).run Try.prog w = .ok (.bool true) w := by kernel_rfl
set_option maxRecDepth 100000 in
theorem add_any (p b n : Nat) (D : DataW Unit) (t : TxP) (ht : txOk t) (w : World) (h : SetAt w p b n D) (hn : n < 1000000) :
    Calls Try.prog 44 #[.pointer (some ⟨p, 0, none⟩), txV t] w fun e w' => e = .returned (.bool (!has D (txKey t))) ∧ SetAt w' p b (n + 1) (addD D t) ∧ KeepBut (fun k => k = b) w w' := by
  have hlt := h.box.lt
  have hkey := keyOf_tx t ht
  have hp0 := h.box.cell 0 _ rfl
  have hB0 := (Below.refl w.heap.size w).alloc (Nat.le_refl _) (.cells #[.int .u8 t.1, .int .u32 t.2.1, .int .u32 t.2.2] 35)
  have HC := hide (has_any p b n D t ht _ (h.below hB0))
  have HX := hide (box_new w #[.int .u8 t.1, .int .u32 t.2.1, .int .u32 t.2.2] 35)
  have HB0 := hide hB0
  have H := hide h
  have HK := hide hkey
  have hmn := eqlSomeMap b
  clear h hkey hB0
  by_cases hh : has D (txKey t) = true
  · rw [hh] at HC
    have HE : Hid (addD D t = D) := hide (by unfold addD; rw [if_pos hh])
    obtain ⟨a, bo, nu⟩ := t
    simp only [txV] at *
    go_enter Try.func44, Try.ntmps44
    go_wp2_with (go_at_call 48; refine HC.out.mono ?_; rintro e w1 ⟨rfl, hB1⟩; have HB1 := hide hB1; clear hB1)
    go_ret
    have hB := HB0.out.trans (HB1.out.mono HB0.out.size)
    have hs := H.out.below hB
    exact ⟨by rw [hh]; rfl, by rw [HE.out]; exact ⟨hs.box, hs.own.mono (by omega)⟩, KeepBut.of_below _ hB⟩
  · have hh : has D (txKey t) = false := by simpa using hh
    rw [hh] at HC
    have HE : Hid (addD D t = D.put (txKey t) (.agg [])) := hide (by unfold addD; rw [hh]; rfl)
    obtain ⟨a, bo, nu⟩ := t
    simp only [txV] at *
    go_enter Try.func44, Try.ntmps44
    go_wp2_with (go_at_call 48; refine HC.out.mono ?_; rintro e w1 ⟨rfl, hB1⟩; have HB1 := hide hB1; clear hB1)
    have hB := HB0.out.trans (HB1.out.mono HB0.out.size)
    have hs := H.out.below hB
    have hX1 : Box w1 w.heap.size #[.int .u8 a, .int .u32 bo, .int .u32 nu] 35 := HX.out.keep (KeepBut.of_below (fun _ => False) HB1.out) id
    have x0 := hX1.cell 0 _ rfl
    have x1 := hX1.cell 1 _ rfl
    have x2 := hX1.cell 2 _ rfl
    have y0 := hs.box.cell 0 _ rfl
    obtain ⟨w2, hrun, hown2, hturn⟩ := hs.own.drew.store txKeyed Try.underlying90 (by unfold maxLen; omega) HK.out unitElem_mk
    have HO2 := hide hown2
    have HT := hide hturn
    have HB := hide hB
    have HS := hide hs
    clear hB hs hX1 hown2 hturn
    go_wp2
    go_region
    all_goals go_wp2
    all_goals go_ret
    all_goals
      have hk2 := (KeepBut.of_below (fun k => k = b) HB.out).trans ((KeepBut.refl (fun k => k = b) w1).drew.trans (KeepBut.of_grown HT.out.grown) (fun _ _ h => h)) (fun _ _ h => h)
      exact ⟨by rw [hh]; rfl, by rw [HE.out]; exact ⟨H.out.box.keep hk2 H.out.ne, HO2.out⟩, hk2⟩
theorem add_nil (t : TxP) (w : World) : Calls Try.prog 44 #[.pointer none, txV t] w fun e w' => e = .returned (.bool false) ∧ Below w.heap.size w w' := by
  go_enter Try.func44, Try.ntmps44
  go_wp2
  go_ret
  exact ⟨rfl, (Below.refl _ _).alloc (Nat.le_refl _) _⟩
theorem add_none (p : Nat) (t : TxP) (w : World) (h : Box w p #[.map none] 92) :
    Calls Try.prog 44 #[.pointer (some ⟨p, 0, none⟩), txV t] w fun e w' => e = .returned (.bool false) ∧ Below w.heap.size w w' := by
  have hlt := h.lt
  have hp0 := h.cell 0 _ rfl
  have hmn := eqlNoneMap
  clear h
  go_enter Try.func44, Try.ntmps44
  go_wp2
  go_ret
  exact ⟨rfl, (Below.refl _ _).alloc (Nat.le_refl _) _⟩
set_option maxRecDepth 100000 in
theorem drop_any (p b n : Nat) (D : DataW Unit) (t : TxP) (ht : txOk t) (w : World) (h : SetAt w p b n D) :
    Calls Try.prog 46 #[.pointer (some ⟨p, 0, none⟩), txV t] w fun e w' => e = .returned (.bool (has D (txKey t))) ∧ SetAt w' p b n (D.del (txKey t)) ∧ KeepBut (fun k => k = b) w w' := by
  have hlt := h.box.lt
  have hkey := keyOf_tx t ht
  have hp0 := h.box.cell 0 _ rfl
  have hB0 := (Below.refl w.heap.size w).alloc (Nat.le_refl _) (.cells #[.int .u8 t.1, .int .u32 t.2.1, .int .u32 t.2.2] 35)
  have HC := hide (has_any p b n D t ht _ (h.below hB0))
  have HX := hide (box_new w #[.int .u8 t.1, .int .u32 t.2.1, .int .u32 t.2.2] 35)
  have HB0 := hide hB0
  have H := hide h
  have HK := hide hkey
  clear h hkey hB0
  by_cases hh : has D (txKey t) = true
  · rw [hh] at HC
    obtain ⟨a, bo, nu⟩ := t
    simp only [txV] at *
    go_enter Try.func46, Try.ntmps46
    go_wp2_with (go_at_call 48; refine HC.out.mono ?_; rintro e w1 ⟨rfl, hB1⟩; have HB1 := hide hB1; clear hB1)
    have hB := HB0.out.trans (HB1.out.mono HB0.out.size)
    have hs := H.out.below hB
    have hX1 : Box w1 w.heap.size #[.int .u8 a, .int .u32 bo, .int .u32 nu] 35 := HX.out.keep (KeepBut.of_below (fun _ => False) HB1.out) id
    have x0 := hX1.cell 0 _ rfl
    have x1 := hX1.cell 1 _ rfl
    have x2 := hX1.cell 2 _ rfl
    have y0 := hs.box.cell 0 _ rfl
    obtain ⟨w2, hrun, hown2, hturn⟩ := hs.own.drew.drop txKeyed Try.underlying90 HK.out 0
    have HO2 := hide hown2
    have HT := hide hturn
    have HB := hide hB
    have HS := hide hs
    clear hB hs hX1 hown2 hturn
    go_wp2
    go_region
    all_goals go_wp2
    all_goals go_ret
    all_goals
      have hk2 := (KeepBut.of_below (fun k => k = b) HB.out).trans ((KeepBut.refl (fun k => k = b) w1).drew.trans (KeepBut.of_grown HT.out.grown) (fun _ _ h => h)) (fun _ _ h => h)
      exact ⟨by rw [hh]; rfl, ⟨H.out.box.keep hk2 H.out.ne, HO2.out⟩, hk2⟩
  · have hh : has D (txKey t) = false := by simpa using hh
    rw [hh] at HC
    have HE : Hid (D.del (txKey t) = D) := hide (del_of_not_has hh)
    obtain ⟨a, bo, nu⟩ := t
    simp only [txV] at *
    go_enter Try.func46, Try.ntmps46
    go_wp2_with (go_at_call 48; refine HC.out.mono ?_; rintro e w1 ⟨rfl, hB1⟩; have HB1 := hide hB1; clear hB1)
    go_ret
    have hB := HB0.out.trans (HB1.out.mono HB0.out.size)
    have hs := H.out.below hB
    exact ⟨by rw [hh]; rfl, by rw [HE.out]; exact hs, KeepBut.of_below _ hB⟩
theorem drop_nil (t : TxP) (w : World) : Calls Try.prog 46 #[.pointer none, txV t] w fun e w' => e = .returned (.bool false) ∧ Below w.heap.size w w' := by
  have HC := hide (has_nil t)
  obtain ⟨a, bo, nu⟩ := t
  simp only [txV] at *
  go_enter Try.func46, Try.ntmps46
  go_wp2_with (go_at_call 48; refine (HC.out _).mono ?_; rintro e w1 ⟨rfl, hB1⟩; have HB1 := hide hB1; clear hB1)
  go_ret
  exact ⟨rfl, ((Below.refl _ _).alloc (Nat.le_refl _) _).trans (HB1.out.mono (by simp))⟩
theorem drop_none (p : Nat) (t : TxP) (ht : txOk t) (w : World) (h : Box w p #[.map none] 92) :
    Calls Try.prog 46 #[.pointer (some ⟨p, 0, none⟩), txV t] w fun e w' => e = .returned (.bool false) ∧ Below w.heap.size w w' := by
  have hB0 := (Below.refl w.heap.size w).alloc (Nat.le_refl _) (.cells #[.int .u8 t.1, .int .u32 t.2.1, .int .u32 t.2.2] 35)
  have HC := hide (has_none p t ht _ (h.keep (KeepBut.of_below (fun _ => False) hB0) id))
  clear h hB0
  obtain ⟨a, bo, nu⟩ := t
  simp only [txV] at *
  go_enter Try.func46, Try.ntmps46
  go_wp2_with (go_at_call 48; refine HC.out.mono ?_; rintro e w1 ⟨rfl, hB1⟩; have HB1 := hide hB1; clear hB1)
  go_ret
  exact ⟨rfl, ((Below.refl _ _).alloc (Nat.le_refl _) _).trans (HB1.out.mono (by simp))⟩
end Go.Proofs.Ytkdccigcpcchlaa
