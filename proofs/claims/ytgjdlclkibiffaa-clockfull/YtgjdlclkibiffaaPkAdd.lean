/-
  The program's clock: add, remove. Own work.
-/
import Derived.Test.YtgjdlclkibiffaaPkClk
import Derived.Deep.RegionHeldLaw
namespace Go.Proofs.Ytgjdlclkibiffaa
open Go.RowKit Go.Maps

/-- What a call leaves of a clock. -/
def KDid (w w' : World) (q b : Nat) (sv : Nat → Value) (c' : Ck) : Prop := ∃ sv', PCk w' q b sv' c' ∧ KeepBut (usesC9 q b sv) w w' ∧ ∀ k, usesC9 q b sv' k → usesC9 q b sv k ∨ w.heap.size ≤ k
theorem src_own {w : World} {v : Value} {xs : List TmP} (h : w.ownsRow 0 80 5 v xs.length (flat ptE xs)) : RSrc ptE w v xs := RSrc.of_own h
theorem slot_lt (t : TmP) : slotN t < 64 := Nat.mod_lt _ (by decide)
theorem perm_ins (t : TmP) (l : List TmP) : (t :: l).Perm (insT t l) := by
  unfold insT
  refine List.Perm.symm (List.perm_middle.trans ?_)
  rw [List.takeWhile_append_dropWhile]
theorem ins_take (t : TmP) (xs : List TmP) : xs.take (aheadN xs t) ++ t :: xs.drop (aheadN xs t) = insT t xs := by rw [takeN, dropN]; rfl
theorem ins_slot {c : Ck} (h : c.Ok) (t : TmP) (j : Nat) : (⟨c.now, insT t c.l⟩ : Ck).slot j = if j = slotN t then insT t (c.slot j) else c.slot j := by
  unfold Ck.slot
  show (insT t c.l).filter _ = _
  rw [ins_filter h.sorted]
  by_cases e : j = slotN t
  · simp [e]
  · have : ¬ slotN t = j := fun e2 => e e2.symm
    simp [e, this]
/-- What add leaves. -/
theorem kadd_fin {w W w3 w5 : World} {q b : Nat} {sv : Nat → Value} {c c' : Ck} {t : TmP} {v3 : Value} (h : PCk w q b sv c) (hB : Below w.heap.size w W) (hD : InsDone W w3 (sv (slotN t)) v3 ((c.slot (slotN t)).take (aheadN (c.slot (slotN t)) t) ++ t :: (c.slot (slotN t)).drop (aheadN (c.slot (slotN t)) t)))
    (hm : MapC w5 b (t :: c.l)) (hk : KeepBut (fun k => k = b) (w3.setCell ⟨q, 2 + slotN t, none⟩ v3) w5) (hc' : c' = ⟨c.now, insT t c.l⟩) (hok : c'.Ok) : KDid w w5 q b sv c' := by
  rw [ins_take] at hD
  obtain ⟨hP, hK, hU⟩ := (h.s.below hB).row (slot_lt t) hD.2.2 hD.1 hD.2.1
  refine ⟨updV sv (slotN t) v3, ⟨?_, hok⟩, ?_, fun k hk => ?_⟩
  · have h5 := hP.mapTo hk (hm.perm (perm_ins t c.l))
    subst hc'
    refine ⟨h5.box, h5.map, fun j hj => ?_, h5.far⟩
    rw [ins_slot h.ok]
    have := h5.own j hj
    by_cases e : j = slotN t
    · subst e
      rw [if_pos rfl] at this ⊢
      exact this
    · rw [if_neg e] at this ⊢
      exact this
  · exact ((KeepBut.of_below (usesC9 q b sv) hB).trans hK (fun _ _ e => e)).trans hk (fun k _ e => .inr (.inl e))
  · exact (hU k hk).imp id (fun e => Nat.le_trans hB.size e)
set_option maxRecDepth 100000 in
set_option maxHeartbeats 1600000 in
theorem kadd_any (q b : Nat) (sv : Nat → Value) (c c' : Ck) (t : TmP) (w : World) (h : PCk w q b sv c) (htn : nmOk t.1) (ht0 : 0 ≤ t.2) (ht1 : t.2 < 4294967296) (hno : t.1 ∉ c.l.map Prod.fst) (hc' : c' = ⟨c.now, insT t c.l⟩) (hok : c'.Ok) :
    Calls Try.prog 31 #[.pointer (some ⟨q, 0, none⟩), .agg (ptA t)] w fun e w' => e = .returned (.tuple #[]) ∧ KDid w w' q b sv c' := by
  have hA := alloc_below9 w (.cells (ptA t) 80)
  have hX := box_new w (ptA t) 80
  obtain ⟨w1, hw1⟩ : ∃ w1, w1 = w.alloc (.cells (ptA t) 80) := ⟨_, rfl⟩
  rw [← hw1] at hA hX
  have h1 := h.below hA
  obtain ⟨i, hi⟩ : ∃ i, i = slotN t := ⟨_, rfl⟩
  have hi64 : i < 64 := by rw [hi]; exact slot_lt t
  have hlen := slot_len h.ok i
  have hsrt := slot_sorted h.ok i
  obtain ⟨ao, cap, hvi, hcap⟩ := owns_shapeR (h1.s.own i hi64)
  have C1 : Hid (∀ W, Calls Try.prog 34 #[.int .u32 t.2] W fun e w' => e = .returned (.int .u32 (i : Int)) ∧ w' = W) := hide (fun W => by rw [hi]; exact kslot_any t.2 ht0 ht1 W)
  have C2 : Hid (Calls Try.prog 36 #[sv i, .agg (ptA t), .func (.func 33) #[] #[]] w1.drew fun e w' => ∃ bb, e = .returned (.tuple #[.int .i64 (aheadN (c.slot i) t : Int), .bool bb]) ∧ Below w1.heap.size w1 w') := hide ((pfind_any (sv i) (c.slot i) t w1.drew ((src_own (h1.s.own i hi64)).below (below_drewN9 w1 1)) hsrt (by omega)).mono (fun e w' ⟨bb, h1, h2⟩ => ⟨bb, h1, ⟨h2.os, h2.tape, h2.output, h2.size, h2.block⟩⟩))
  have m2 := h1.cs hi64
  have x0 := hX.cell 0 _ rfl
  have x1 := hX.cell 1 _ rfl
  have x2 := hX.cell 2 _ rfl
  have x3 := hX.cell 3 _ rfl
  have x4 := hX.cell 4 _ rfl
  rw [hvi] at m2 C2
  have H1 := hide h1
  have HX := hide hX
  have HA := hide hA
  have hW1 := hw1.symm
  have HVI := hide hvi
  have hiI : (i : Int) < 64 := by omega
  obtain ⟨pl, hpl⟩ : ∃ pl, pl = aheadN (c.slot i) t := ⟨_, rfl⟩
  have hpl2 : pl ≤ 1024 := by have := aheadN_le (c.slot i) t; omega
  rw [← hpl] at C2
  obtain ⟨ln, hln⟩ : ∃ ln, ln = (c.slot i).length := ⟨_, rfl⟩
  rw [← hln] at C2 m2
  have HPL := hide hpl
  have HLN := hide hln
  have HI := hide hi
  have HOK := hide h.ok
  have H0 := hide h
  clear h h1 hX hA hw1 hvi hcap hlen hsrt hpl hln hi
  go_enter Try.func31, Try.ntmps31
  go_wp2_with (first | (go_at_call 34; refine (C1.out _).mono ?_; rintro e w1 ⟨rfl, rfl⟩))
  go_region_held (fun W => W.cell? ⟨q, 2 + i, none⟩ = some (.slice ao ln cap) ∧ W.cell? ⟨w.heap.size, 0, none⟩ = some (.int .u32 t.2) ∧ W.cell? ⟨w.heap.size, 1, none⟩ = some (.int .u8 t.1.1) ∧ W.cell? ⟨w.heap.size, 2, none⟩ = some (.int .u8 t.1.2.1) ∧ W.cell? ⟨w.heap.size, 3, none⟩ = some (.int .u32 t.1.2.2.1) ∧ W.cell? ⟨w.heap.size, 4, none⟩ = some (.int .u32 t.1.2.2.2)) (go_keep) (first
    | (go_at_call 36; refine C2.out.mono ?_; rintro e w2 ⟨bb, rfl, hB2⟩; have y0 := (H1.out.below hB2).cs hi64; rw [HVI.out, ← HLN.out] at y0; obtain ⟨z0, z1, z2, z3, z4⟩ := (HX.out.belowI hB2).five9; have HB2 := hide hB2; clear hB2))
  have h2 := H1.out.below HB2.out
  have hX2 := HX.out.belowI HB2.out
  have H2 := hide h2
  have HX2 := hide hX2
  have CI : Hid (∀ W, Below w2.heap.size w2 W → Box W w2.heap.size (ptA t) 80 → Calls Try.prog 37 #[.slice ao ln cap, .int .i64 (pl : Int), .slice (some ⟨w2.heap.size, 0, none⟩) 1 1] W fun e w' => ∃ a3 l3 c3, e = .returned (.slice a3 l3 c3) ∧ InsDone W w' (sv i) (.slice a3 l3 c3) ((c.slot i).take pl ++ t :: (c.slot i).drop pl)) := hide (fun W hB hXX => by
    have hp := h2.below hB
    have ho := hp.s.own i hi64
    have hz := pins_any (sv i) (c.slot i) pl t w2.heap.size W ho (by rw [HPL.out]; exact aheadN_le _ _) (by have := slot_len HOK.out i; omega) hXX (fun e => by have := ((h2.s.own i hi64).lt _ e).2; omega)
    rw [HVI.out, ← HLN.out] at hz
    rw [HVI.out, ← HLN.out]
    refine hz.mono (fun e w' ⟨v', e1, e2⟩ => ?_)
    obtain ⟨a3, c3, hv3, _⟩ := owns_shapeR e2.1
    subst hv3
    exact ⟨a3, _, c3, e1, e2⟩)
  have hB3 := alloc_below9 w2 (.cells (ptA t) 80)
  have hX3 := box_new w2 (ptA t) 80
  have HB3 := hide hB3
  have HX3 := hide hX3
  have hne1 : ¬ (q = w2.heap.size) := by have := h2.s.box.lt; omega
  have hne2 : ¬ (w.heap.size = w2.heap.size) := by have := hX2.lt; omega
  have hcq : ∀ o, (w2.alloc o).cell? ⟨q, 2 + i, none⟩ = some (.slice ao ln cap) := fun o => below_cell (alloc_below9 w2 o) h2.s.box.lt y0
  clear h2 hX2 hB3 hX3 m2 x0 x1 x2 x3 x4 C1 C2
  go_wp2_with fail
  go_region_with (first
    | (go_at_call 37; refine (CI.out _ HB3.out.drew HX3.out).mono ?_; rintro e w3 ⟨a3, l3, c3, rfl, h3⟩; have y3 : Box w3 q (ckCells c.now b sv) 69 := ((H2.out.s.box.belowI HB3.out.drew).keep h3.2.2 (H2.out.s.ne_box hi64)); have y4 := y3.cell _ _ (ck_slot _ _ _ hi64); have y5 := y3.frozen (2 + i); have HD := hide h3; clear h3 y3))
  all_goals
    have hW := HA.out.trans (HB2.out.mono HA.out.size)
    have hBW := hW.trans (HB3.out.drew.mono hW.size)
    obtain ⟨hP4, hK4, _⟩ := (H0.out.s.below hBW).row hi64 HD.out.2.2 HD.out.1 HD.out.2.1
    have hT := ((HX2.out.belowI HB3.out.drew).keep hK4 (fun e => by have := H0.out.lt _ e; omega)).five9
    obtain ⟨t0, t1, t2, t3, t4⟩ := hT
    have u1 := hP4.c1
    obtain ⟨w5, hr5, hm5, hk5⟩ : ∃ w5, (Instr.mapUpdate 65 (.map (some b)) (.agg (nmA t.1)) (.int .u32 t.2)).run Try.prog (w3.setCell ⟨q, 2 + i, none⟩ (.slice a3 l3 c3)).drew = .ok () w5 ∧ MapC w5 b (t :: c.l) ∧ KeepBut (fun k => k = b) (w3.setCell ⟨q, 2 + i, none⟩ (.slice a3 l3 c3)).drew w5 := (hP4.below (below_drewN9 _ 1)).map.put (by have := HOK.out.few; omega) htn ht0 ht1 hno
    have HF : Hid (KDid w w5 q b sv c') := hide (by
      have hD := HD.out
      have hI := HI.out
      have hPL := HPL.out
      subst hPL
      subst hI
      exact kadd_fin H0.out hBW hD hm5 ⟨hk5.os, hk5.tape, hk5.output, hk5.size, hk5.block⟩ hc' hok)
    obtain ⟨W4, hW4⟩ : ∃ W4, W4 = w3.setCell ⟨q, 2 + i, none⟩ (.slice a3 l3 c3) := ⟨_, rfl⟩
    rw [← hW4] at t0 t1 t2 t3 t4 u1 hr5
    have hW4s := hW4.symm
    clear hW hBW hP4 hK4 hm5 hk5 hW4 HD hc' y4 y5 hcq y0 z0 z1 z2 z3 z4
    go_wp2_with fail
    go_region
    go_end0
    exact ⟨rfl, HF.out⟩
theorem out_take {t : TmP} {xs : List TmP} (hs : Srt xs) (ht : t ∈ xs) : xs.take (aheadN xs t) ++ xs.drop (aheadN xs t + 1) = xs.filter (fun x => decide (x ≠ t)) ∧ aheadN xs t + 1 ≤ xs.length := by
  have h := take_out hs ht
  refine ⟨?_, h.2⟩
  rw [← h.1, ← List.drop_drop, dropN, takeN]
/-- What remove leaves. -/
theorem krem_fin {w W w3 w5 : World} {q b : Nat} {sv : Nat → Value} {c : Ck} {n : NmP} {x : Int} {v3 : Value} (h : PCk w q b sv c) (hx : (n, x) ∈ c.l) (hB : Below w.heap.size w W)
    (ho : w3.ownsRow 0 80 5 v3 ((c.slot (slotN (n, x))).take (aheadN (c.slot (slotN (n, x))) (n, x)) ++ (c.slot (slotN (n, x))).drop (aheadN (c.slot (slotN (n, x))) (n, x) + 1)).length (flat ptE ((c.slot (slotN (n, x))).take (aheadN (c.slot (slotN (n, x))) (n, x)) ++ (c.slot (slotN (n, x))).drop (aheadN (c.slot (slotN (n, x))) (n, x) + 1)))) (hv : v3.ownBlock = (sv (slotN (n, x))).ownBlock) (hk3 : KeepBut (fun g => (sv (slotN (n, x))).ownBlock = some g) W w3)
    (hm : MapC w5 b (c.l.filter (fun t => decide (t.1 ≠ n)))) (hk : KeepBut (fun k => k = b) (w3.setCell ⟨q, 2 + slotN (n, x), none⟩ v3) w5) : KDid w w5 q b sv (stopD c n) := by
  rw [(out_take (slot_sorted h.ok _) ((mem_slot _ _ _).2 ⟨hx, rfl⟩)).1] at ho
  obtain ⟨hP, hK, hU⟩ := (h.s.below hB).row (slot_lt (n, x)) hk3 ho (.inl hv)
  refine ⟨updV sv (slotN (n, x)) v3, ⟨?_, stopD_ok h.ok n⟩, ?_, fun k hk => ?_⟩
  · have h5 := hP.mapTo hk hm
    refine ⟨h5.box, h5.map, fun j hj => ?_, h5.far⟩
    have := h5.own j hj
    by_cases e : j = slotN (n, x)
    · subst e
      rw [if_pos rfl] at this
      rw [stop_same h.ok hx]
      exact this
    · rw [if_neg e] at this
      rw [stop_other h.ok hx e]
      exact this
  · exact ((KeepBut.of_below (usesC9 q b sv) hB).trans hK (fun _ _ e => e)).trans hk (fun k _ e => .inr (.inl e))
  · exact (hU k hk).imp id (fun e => Nat.le_trans hB.size e)
set_option maxRecDepth 100000 in
set_option maxHeartbeats 1600000 in
theorem krem_any (q b : Nat) (sv : Nat → Value) (c : Ck) (n : NmP) (x : Int) (w : World) (h : PCk w q b sv c) (hx : (n, x) ∈ c.l) :
    Calls Try.prog 29 #[.pointer (some ⟨q, 0, none⟩), .agg (ptA (n, x))] w fun e w' => e = .returned (.tuple #[]) ∧ KDid w w' q b sv (stopD c n) := by
  obtain ⟨t, ht⟩ : ∃ t : TmP, t = (n, x) := ⟨_, rfl⟩
  have htn : nmOk t.1 := by rw [ht]; exact h.ok.ok _ hx
  have ht0 : 0 ≤ t.2 := by rw [ht]; have := (h.ok.at' _ hx).1; simp at this ⊢; omega
  have ht1 : t.2 < 4294967296 := by rw [ht]; have := (h.ok.at' _ hx).2; simp at this ⊢; omega
  rw [← ht]
  have htl : t ∈ c.l := by rw [ht]; exact hx
  have hn1 : n = t.1 := by rw [ht]
  have hA := alloc_below9 w (.cells (ptA t) 80)
  have hX := box_new w (ptA t) 80
  obtain ⟨w1, hw1⟩ : ∃ w1, w1 = w.alloc (.cells (ptA t) 80) := ⟨_, rfl⟩
  rw [← hw1] at hA hX
  have h1 := h.below hA
  obtain ⟨i, hi⟩ : ∃ i, i = slotN t := ⟨_, rfl⟩
  have hi64 : i < 64 := by rw [hi]; exact slot_lt t
  have hlen := slot_len h.ok i
  have hsrt := slot_sorted h.ok i
  have hout := (out_take hsrt ((mem_slot c i t).2 ⟨htl, hi.symm⟩)).2
  obtain ⟨ao, cap, hvi, hcap⟩ := owns_shapeR (h1.s.own i hi64)
  have C1 : Hid (∀ W, Calls Try.prog 34 #[.int .u32 t.2] W fun e w' => e = .returned (.int .u32 (i : Int)) ∧ w' = W) := hide (fun W => by rw [hi]; exact kslot_any t.2 ht0 ht1 W)
  have C2 : Hid (Calls Try.prog 36 #[sv i, .agg (ptA t), .func (.func 33) #[] #[]] w1.drew fun e w' => ∃ bb, e = .returned (.tuple #[.int .i64 (aheadN (c.slot i) t : Int), .bool bb]) ∧ Below w1.heap.size w1 w') := hide ((pfind_any (sv i) (c.slot i) t w1.drew ((src_own (h1.s.own i hi64)).below (below_drewN9 w1 1)) hsrt (by omega)).mono (fun e w' ⟨bb, h1, h2⟩ => ⟨bb, h1, ⟨h2.os, h2.tape, h2.output, h2.size, h2.block⟩⟩))
  have m2 := h1.cs hi64
  have x0 := hX.cell 0 _ rfl
  have x1 := hX.cell 1 _ rfl
  have x2 := hX.cell 2 _ rfl
  have x3 := hX.cell 3 _ rfl
  have x4 := hX.cell 4 _ rfl
  rw [hvi] at m2 C2
  have H1 := hide h1
  have HX := hide hX
  have HA := hide hA
  have hW1 := hw1.symm
  have HVI := hide hvi
  have hiI : (i : Int) < 64 := by omega
  obtain ⟨pl, hpl⟩ : ∃ pl, pl = aheadN (c.slot i) t := ⟨_, rfl⟩
  have hpl2 : pl ≤ 1024 := by have := aheadN_le (c.slot i) t; omega
  have hpl3 : pl + 1 ≤ (c.slot i).length := by rw [hpl]; exact hout
  rw [← hpl] at C2
  obtain ⟨ln, hln⟩ : ∃ ln, ln = (c.slot i).length := ⟨_, rfl⟩
  rw [← hln] at C2 m2
  have HPL := hide hpl
  have HPL3 := hide hpl3
  have HLN := hide hln
  have HI := hide hi
  have HOK := hide h.ok
  have H0 := hide h
  have HT := hide ht
  have HXL := hide hx
  have hwp : IntKind.i64.wrap ((pl : Int) + 1) = (pl : Int) + 1 := by rw [IntKind.wrap_i64]; omega
  clear h h1 hX hA hw1 hvi hcap hlen hsrt hpl hln hi hout hpl3 ht hx htl
  go_enter Try.func29, Try.ntmps29
  go_wp2_with (first | (go_at_call 34; refine (C1.out _).mono ?_; rintro e w1 ⟨rfl, rfl⟩))
  go_region_held (fun W => W.cell? ⟨q, 2 + i, none⟩ = some (.slice ao ln cap) ∧ W.cell? ⟨w.heap.size, 0, none⟩ = some (.int .u32 t.2) ∧ W.cell? ⟨w.heap.size, 1, none⟩ = some (.int .u8 t.1.1) ∧ W.cell? ⟨w.heap.size, 2, none⟩ = some (.int .u8 t.1.2.1) ∧ W.cell? ⟨w.heap.size, 3, none⟩ = some (.int .u32 t.1.2.2.1) ∧ W.cell? ⟨w.heap.size, 4, none⟩ = some (.int .u32 t.1.2.2.2)) (go_keep) (first
    | (go_at_call 36; refine C2.out.mono ?_; rintro e w2 ⟨bb, rfl, hB2⟩; have y0 := (H1.out.below hB2).cs hi64; rw [HVI.out, ← HLN.out] at y0; obtain ⟨z0, z1, z2, z3, z4⟩ := (HX.out.belowI hB2).five9; have HB2 := hide hB2; clear hB2))
  have h2 := H1.out.below HB2.out
  have H2 := hide h2
  have HX2 := hide (HX.out.belowI HB2.out)
  have CI : Hid (Calls Try.prog 35 #[.slice ao ln cap, .int .i64 (pl : Int), .int .i64 ((pl : Int) + 1)] w2.drew fun e w' => ∃ a3 l3 c3, e = .returned (.slice a3 l3 c3) ∧ w'.ownsRow 0 80 5 (.slice a3 l3 c3) ((c.slot i).take pl ++ (c.slot i).drop (pl + 1)).length (flat ptE ((c.slot i).take pl ++ (c.slot i).drop (pl + 1))) ∧ (Value.slice a3 l3 c3).ownBlock = (sv i).ownBlock ∧ KeepBut (fun g => (sv i).ownBlock = some g) w2.drew w') := hide (by
    have hp := h2.below (below_drewN9 w2 1)
    have ho := hp.s.own i hi64
    have hz := pdel_any (sv i) (c.slot i) pl (pl + 1) (w2.drewN 1) ho (by omega) HPL3.out
    rw [HVI.out, ← HLN.out, Int.natCast_add, show ((1 : Nat) : Int) = 1 from rfl] at hz
    rw [HVI.out, ← HLN.out]
    refine hz.mono (fun e w' ⟨v', e1, e2, e3, e4⟩ => ?_)
    obtain ⟨a3, c3, hv3, _⟩ := owns_shapeR e2
    subst hv3
    exact ⟨a3, _, c3, e1, e2, e3, e4⟩)
  clear h2 m2 x0 x1 x2 x3 x4 C1 C2
  go_wp2_with fail
  go_region_with (first
    | (go_at_call 35; refine CI.out.mono ?_; rintro e w3 ⟨a3, l3, c3, rfl, h3⟩; have y3 : Box w3 q (ckCells c.now b sv) 69 := ((H2.out.s.box.belowI (below_drewN9 w2 1)).keep h3.2.2 (H2.out.s.ne_box hi64)); have y4 := y3.cell _ _ (ck_slot _ _ _ hi64); have y5 := y3.frozen (2 + i); have HD := hide h3; clear h3 y3))
  all_goals
    have hBW := (HA.out.trans (HB2.out.mono HA.out.size)).drew
    obtain ⟨hP4, hK4, _⟩ := (H0.out.s.below hBW).row hi64 HD.out.2.2 HD.out.1 (.inl HD.out.2.1)
    have hT := ((HX2.out.belowI (below_drewN9 w2 1)).keep hK4 (fun e => by have := H0.out.lt _ e; omega)).five9
    obtain ⟨t0, t1, t2, t3, t4⟩ := hT
    have u1 := hP4.c1
    obtain ⟨w5, hr5, hm5, hk5⟩ : ∃ w5, (Builtin.delete_ #[65, 47] 0 #[.map (some b), .agg (nmA t.1)]).run Try.prog (w3.setCell ⟨q, 2 + i, none⟩ (.slice a3 l3 c3)).drew = .ok (.tuple #[]) w5 ∧ MapC w5 b (c.l.filter (fun x => decide (x.1 ≠ t.1))) ∧ KeepBut (fun k => k = b) (w3.setCell ⟨q, 2 + i, none⟩ (.slice a3 l3 c3)).drew w5 := (hP4.below (below_drewN9 _ 1)).map.del htn 0
    have HF : Hid (KDid w w5 q b sv (stopD c n)) := hide (by
      have hD := HD.out
      have hI := HI.out
      have hPL := HPL.out
      have hTT := HT.out
      subst hPL
      subst hI
      subst hTT
      exact krem_fin H0.out HXL.out hBW hD.1 hD.2.1 hD.2.2 hm5 ⟨hk5.os, hk5.tape, hk5.output, hk5.size, hk5.block⟩)
    obtain ⟨W4, hW4⟩ : ∃ W4, W4 = w3.setCell ⟨q, 2 + i, none⟩ (.slice a3 l3 c3) := ⟨_, rfl⟩
    rw [← hW4] at t0 t1 t2 t3 t4 u1 hr5
    have hW4s := hW4.symm
    clear hBW hP4 hK4 hm5 hk5 hW4 HD y4 y5 y0 z0 z1 z2 z3 z4
    go_wp2_with fail
    go_region
    go_end0
    exact ⟨rfl, HF.out⟩
end Go.Proofs.Ytgjdlclkibiffaa
