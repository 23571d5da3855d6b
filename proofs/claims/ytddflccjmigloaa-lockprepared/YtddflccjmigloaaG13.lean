/-
  Own texts put together: E10One, LkRef, LkLocked, LkQue. Own work.
-/
import Derived.Test.YtddflccjmigloaaG12
namespace Go.Proofs.Ytddflccjmigloaa
section
open Go.RowKit Classical

/-- A whole variable is loaded, behind a guard that lets it by. -/
theorem wp_load_box_g {ops : Array Oper} {rest : List Oper} {op : Oper} {a : Act} {w : World} {Q : Exit → Act → World → Prop} {t t0 : TypeId} {d : TypeDesc} (hgd : Region.wanted op (yielded ops a.tmps) = true) (x : Operand) (ho : op.op = .load t x)
    (p : Nat) (hx : a.eval x = .pointer (some ⟨p, 0, none⟩)) {cs : Array Value} (hb : Box w p cs t0) (hu : Try.prog.underlying t = some d) (hd : d.isRow = true) (hi : (Try.prog.info? t).map (·.size) = some cs.size)
    (h : wpList Try.prog ops Q rest (a.put op.dst (.agg cs)) w) : wpList Try.prog ops Q (op :: rest) a w := by
  have hr : w.rangeAt p 0 cs.toList := fun j v hv => by
    rw [Nat.zero_add]; exact hb.cell j v (by simpa using hv)
  exact wpList_wanted hgd fun _ hK => wp_load_mid t x ho p 0 hx cs.toList d hr hu hd (by simpa using hi) (hK _ _ (by simpa using h))
end
section
open Go.RowKit Go.Maps Classical

theorem may15_split (tm : Nat) (t : TxN) (k : KeyT) (m : Nat) : mayA15 tm t k m = (stMayB ((tm : Int), (t.1 : Int), (t.2.1 : Int), (t.2.2 : Int)) && ((nameF k.1).2 && (decide (m = 1) || decide (m = 2)))) := rfl
set_option maxRecDepth 100000 in
set_option maxHeartbeats 3200000 in
theorem refusal15 (q b C : Nat) (p : TxN → Nat × Nat) (l : List (UsP KeyT)) (tm : Nat) (t : TxN) (k : KeyT) (m : Nat) (w : World) (h : PLk w q b C p l) (ht : TxB t) :
    Calls Try.prog 31 #[.pointer (some ⟨q, 0, none⟩), .agg #[.int .u32 (tm : Int), .int .u8 (t.1 : Int), .int .u32 (t.2.1 : Int), .int .u32 (t.2.2 : Int)], .agg (eightA k.1), .int .u8 (m : Int)] w fun e w' => e = .returned (.int .i64 (refE15 l (mayA15 tm t k m) t)) ∧ Below w.heap.size w w' := by
  have hA := alloc_below14 w (.cells #[.int .u32 (tm : Int), .int .u8 (t.1 : Int), .int .u32 (t.2.1 : Int), .int .u32 (t.2.2 : Int)] 32)
  have hA2 := alloc_below14 (w.alloc (.cells #[.int .u32 (tm : Int), .int .u8 (t.1 : Int), .int .u32 (t.2.1 : Int), .int .u32 (t.2.2 : Int)] 32)) (.cells (eightA k.1) 34)
  have hB2 := hA.trans (hA2.mono hA.size)
  have HXS := hide ((box_new w #[.int .u32 (tm : Int), .int .u8 (t.1 : Int), .int .u32 (t.2.1 : Int), .int .u32 (t.2.2 : Int)] 32).belowI hA2)
  have HXK : Hid (Box ((w.alloc (.cells #[.int .u32 (tm : Int), .int .u8 (t.1 : Int), .int .u32 (t.2.1 : Int), .int .u32 (t.2.2 : Int)] 32)).alloc (.cells (eightA k.1) 34)) (w.heap.size + 1) (eightA k.1) 34) := hide (by have := box_new (w.alloc (.cells #[.int .u32 (tm : Int), .int .u8 (t.1 : Int), .int .u32 (t.2.1 : Int), .int .u32 (t.2.2 : Int)] 32)) (eightA k.1) 34; simpa using this)
  obtain ⟨w1, hw1⟩ : ∃ w1, w1 = (w.alloc (.cells #[.int .u32 (tm : Int), .int .u8 (t.1 : Int), .int .u32 (t.2.1 : Int), .int .u32 (t.2.2 : Int)] 32)).alloc (.cells (eightA k.1) 34) := ⟨_, rfl⟩
  obtain ⟨p1, hp1⟩ : ∃ p1, p1 = w.heap.size := ⟨_, rfl⟩
  obtain ⟨p2, hp2⟩ : ∃ p2, p2 = p1 + 1 := ⟨_, rfl⟩
  rw [← hw1, ← hp1] at HXS
  rw [← hw1, ← hp1, ← hp2] at HXK
  rw [← hw1] at hB2
  have HW1 := hide hw1
  have HP1 := hide hp1
  have HP2 := hide hp2
  have H1 := hide (h.below hB2)
  have HB := hide hB2
  have CM := hide (made15 q b w1 H1.out.box)
  have CT := hide (fun W => stMay_any (tm : Int) (t.1 : Int) (t.2.1 : Int) (t.2.2 : Int) W)
  have CK := hide (fun W => keyMay15 k.1 k.2 W)
  obtain ⟨MAY, hMAY⟩ : ∃ MAY, MAY = mayA15 tm t k m := ⟨_, rfl⟩
  have hsp := may15_split tm t k m
  rw [← hMAY] at hsp ⊢
  obtain ⟨N1, hN1⟩ : ∃ N1, N1 = stMayB ((tm : Int), (t.1 : Int), (t.2.1 : Int), (t.2.2 : Int)) := ⟨_, rfl⟩
  obtain ⟨N2, hN2⟩ : ∃ N2, N2 = (nameF k.1).2 := ⟨_, rfl⟩
  rw [← hN1] at CT hsp
  rw [← hN2] at CK hsp
  have HSP := hide hsp
  have HTB := hide ht
  have HNO : Hid (MAY = false → refE15 l MAY t = 1) := hide (fun e => by unfold refE15; rw [if_pos e])
  clear h hA hA2 hB2 hw1 hp1 hp2 hsp hMAY hN1 hN2 ht
  go_enter Try.func31, Try.ntmps31
  go_wp2_with fail
  rw [← HW1.out, ← HP1.out, ← HP2.out]
  refine CM.out.mono ?_
  rintro e w0 ⟨rfl, hw0⟩
  rw [hw0]
  clear hw0 CM
  go_wp2_with (refine wp_load_box rfl _ rfl p1 rfl HXS.out Try.underlying32 rfl infoSt15 ?_)
  refine (CT.out w1).mono ?_
  rintro e w3 ⟨rfl, hB3⟩
  replace HXS := hide (HXS.out.belowI hB3)
  replace HXK := hide (HXK.out.belowI hB3)
  replace H1 := hide (H1.out.below hB3)
  replace HB := hide (HB.out.trans (hB3.mono HB.out.size))
  clear hB3 CT
  cases N1 with
  | false =>
    have HE := hide (HNO.out (by rw [HSP.out]; rfl))
    go_wp2_with fail
    go_ret
    exact ⟨by rw [HE.out]; rfl, HB.out⟩
  | true =>
  go_wp2_with (refine wp_load_box_g rfl _ rfl p2 rfl HXK.out Try.underlying34 rfl infoKey15 ?_)
  refine (CK.out w3).mono ?_
  rintro e w4 ⟨rfl, hB3⟩
  replace HXS := hide (HXS.out.belowI hB3)
  replace HXK := hide (HXK.out.belowI hB3)
  replace H1 := hide (H1.out.below hB3)
  replace HB := hide (HB.out.trans (hB3.mono HB.out.size))
  clear hB3 CK
  cases N2 with
  | false =>
    have HE := hide (HNO.out (by rw [HSP.out]; rfl))
    go_wp2_with fail
    go_ret
    exact ⟨by rw [HE.out]; rfl, HB.out⟩
  | true =>
  have h0 : w4.cell? ⟨q, 0, none⟩ = some (.map (some b)) := H1.out.box.cell 0 _ rfl
  obtain ⟨s0, s1, s2, s3⟩ := HXS.out.four
  have L1 := (H1.out.m.below (below_drew14 w4)).look umTy ⟨t, HTB.out⟩
  have L2 := fun o => ((H1.out.m.below (alloc_below14 w4 o)).below (below_drew14 _)).look umTy ⟨t, HTB.out⟩
  obtain ⟨⟨um, ⟨ua, ub, uc⟩, pr, hb, wb⟩, hE⟩ : ∃ E : E15, E = (gU l p ⟨t, HTB.out⟩).getD zE := ⟨_, rfl⟩
  obtain ⟨B, hB0⟩ : ∃ B, B = (gU l p ⟨t, HTB.out⟩).isSome := ⟨_, rfl⟩
  have hpr : pr = (getU l t).pr := by
    have := (H1.out.read ⟨t, HTB.out⟩).2.2
    rw [← hE] at this
    exact this
  have hBs : B = (usL l t).isSome := by rw [hB0]; simp [gU]
  simp only [← hE, ← hB0] at L1 L2
  have hlt := HXS.out.lt
  have hqt := H1.out.box.lt
  have HYES : Hid (MAY = true → refE15 l MAY t = if pr = true then 11 else if B = false ∧ 64 ≤ l.length then 5 else 0) := hide (fun e => by
    unfold refE15
    rw [if_neg (by rw [e]; simp), ← hpr, hBs]
    cases usL l t <;> simp)
  obtain ⟨LN, hLN⟩ : ∃ LN, LN = l.length := ⟨_, rfl⟩
  have HLE := hide (fun W (hW : Below w4.heap.size w4 W) ty => (H1.out.m.below hW).len umTy ty)
  rw [← hLN] at HYES HLE
  have hLf : LN ≤ 64 := by rw [hLN]; exact H1.out.ok.few
  clear hE hB0 hpr hBs hLN
  by_cases hm : m = 1 ∨ m = 2
  case neg =>
    have HE := hide (HNO.out (by rw [HSP.out]; simp; omega))
    have hm1 : ((m : Int) != 1) = true := by simp; omega
    have hm2 : ((m : Int) != 2) = true := by simp; omega
    have hm3 : ¬ m = 1 := by omega
    have hm4 : ¬ m = 2 := by omega
    clear L1 L2 hm
    go_wp2_with fail
    go_ret
    exact ⟨by rw [HE.out]; rfl, HB.out⟩
  case pos =>
  have HE := hide (HYES.out (by rw [HSP.out]; simp; omega))
  rcases hm with rfl | rfl
  all_goals
    go_wp2_with fail
    go_region
    have hA3 := (alloc_below14 w4 (.cells (usA (um, (ua, ub, uc), pr, hb, wb)) 66)).trans ((below_drew14 (w4.alloc (.cells (usA (um, (ua, ub, uc), pr, hb, wb)) 66))).mono (by simp))
    have HX3 := hide ((box_new w4 (usA (um, (ua, ub, uc), pr, hb, wb)) 66).belowI (below_drew14 _))
    have HB3 := hide (HB.out.trans (hA3.mono HB.out.size))
    have hln := HLE.out _ hA3
    have hq3 : ((w4.alloc (.cells (usA (um, (ua, ub, uc), pr, hb, wb)) 66)).drew).cell? ⟨q, 0, none⟩ = some (.map (some b)) := (H1.out.box.belowI hA3).cell 0 _ rfl
    have z4 := HX3.out.cell 4 _ rfl
    clear L1 L2 h0 s0 s1 s2 s3 hlt hqt hA3 HLE
    generalize (w4.alloc (.cells (usA (um, (ua, ub, uc), pr, hb, wb)) 66)).drew = w6 at *
    cases pr with
    | true =>
      go_wp2_with fail
      go_ret
      exact ⟨by rw [HE.out]; rfl, HB3.out⟩
    | false =>
      cases B with
      | true =>
        go_wp2_with fail
        go_ret
        exact ⟨by rw [HE.out]; rfl, HB3.out⟩
      | false =>
        by_cases h64 : 64 ≤ LN
        · have d1 : decide ((LN : Int) ≥ 64) = true := decide_eq_true (by omega)
          have HF : Hid (refE15 l MAY t = 5) := hide (by rw [HE.out]; simp [h64])
          go_wp2_with fail
          go_ret
          exact ⟨by rw [HF.out]; rfl, HB3.out⟩
        · have d1 : decide ((LN : Int) ≥ 64) = false := decide_eq_false (by omega)
          have HF : Hid (refE15 l MAY t = 0) := hide (by rw [HE.out]; simp [h64])
          go_wp2_with fail
          go_ret
          exact ⟨by rw [HF.out]; rfl, HB3.out⟩
end
section
open Go.RowKit Go.Maps Classical

abbrev URng (w : World) (b r : Nat) (l : List (UsP KeyT)) (p : TxN → Nat × Nat) (ks : List TxT) : Prop := GRng 30 (fun t : TxT => txKey (txI t.1)) usV w b r (gU l p) (gU l p) ks
/-- What has come is a user. -/
theorem gU_some {l : List (UsP KeyT)} (h : LkB l) {p : TxN → Nat × Nat} {t : TxT} {e : E15} (he : gU l p t = some e) : ∃ u ∈ l, u.tx = t.1 ∧ e = (u.tm, u.tx, u.pr, some (p t.1).1, some (p t.1).2) := by
  obtain ⟨u, hu, rfl⟩ := Option.map_eq_some_iff.1 he
  obtain ⟨hm, ht⟩ := (usL_some h).1 hu
  exact ⟨u, hm, ht, rfl⟩
theorem gU_none {l : List (UsP KeyT)} {p : TxN → Nat × Nat} {ks : List TxT} (h : ∀ k, k ∉ ks → gU l p k = none) (hb : LkB l) : ∀ u ∈ l, ∃ t ∈ ks, t.1 = u.tx := fun u hu => by
  have ht : TxB u.tx := (hb.oks u hu).1
  by_cases hk : (⟨u.tx, ht⟩ : TxT) ∈ ks
  · exact ⟨_, hk, rfl⟩
  · have := h _ hk
    have e : usL l u.tx = some u := (usL_some hb).2 ⟨hu, rfl⟩
    simp [gU, e] at this
set_option maxRecDepth 100000 in
set_option maxHeartbeats 3200000 in
theorem isLocked15 (q b C : Nat) (p : TxN → Nat × Nat) (l : List (UsP KeyT)) (k : KeyT) (w : World) (h : PLk w q b C p l) :
    Calls Try.prog 38 #[.pointer (some ⟨q, 0, none⟩), .agg (eightA k.1)] w fun e w' => e = .returned (.bool (decide (∃ u ∈ l, u.h k ≠ 0))) ∧ Below w.heap.size w w' := by
  have hA := alloc_below14 w (.cells (eightA k.1) 34)
  have hX := box_new w (eightA k.1) 34
  obtain ⟨w1, hw1⟩ : ∃ w1, w1 = w.alloc (.cells (eightA k.1) 34) := ⟨_, rfl⟩
  obtain ⟨p1, hp1⟩ : ∃ p1, p1 = w.heap.size := ⟨_, rfl⟩
  rw [← hw1] at hA hX
  rw [← hp1] at hX
  have hW1 := hw1.symm
  have hP1 := hp1.symm
  have H1 := hide (h.below hA)
  have HB := hide hA
  have HX := hide hX
  have h0 : w1.cell? ⟨q, 0, none⟩ = some (.map (some b)) := H1.out.box.cell 0 _ rfl
  obtain ⟨R, hR⟩ : ∃ R, R = decide (∃ u ∈ l, u.h k ≠ 0) := ⟨_, rfl⟩
  have HR := hide hR
  rw [← hR]
  clear h hA hX hw1 hp1 hR
  go_enter Try.func38, Try.ntmps38
  go_wp2_with (at_range; refine wp_range_g umTy _ rfl _ rfl rfl H1.out.m ?_; intro w2 hrg hb2 hs2)
  go_frame
  obtain ⟨r, hr⟩ : ∃ r, r = w1.heap.size := ⟨_, rfl⟩
  rw [← hr] at hrg ⊢
  have HRG := hide hrg
  have HB2 := hide hb2
  have HRR := hide hr
  clear hrg hb2 hs2 h0 hr
  go_loopw [6] (fun _ wr => ∃ ks : List TxT, Hid (URng wr b r l p ks) ∧ Hid (∀ t ∈ ks, ∀ u ∈ l, u.tx = t.1 → u.h k = 0) ∧ Hid (Below w1.heap.size w1 wr)) (fun _ wr => wr.rangeLeft b r)
  case atStart => exact ⟨[], HRG, hide (fun t ht => by cases ht), HB2⟩
  case round =>
    obtain ⟨ks, HG, HZ, HBW⟩ := hrel
    go_wp2_with (at_next; refine wp_next_g umTy _ rfl _ rfl rfl HG.out ?_ ?_)
    · intro hdone
      have HF : Hid (R = false) := hide (by
        rw [HR.out, decide_eq_false_iff_not]
        rintro ⟨u, hu, h1⟩
        obtain ⟨t, ht, e⟩ := gU_none hdone.all H1.out.ok u hu
        exact h1 (HZ.out t ht u hu e.symm))
      clear hdone
      go_wp2_with fail
      go_ret
      exact ⟨by rw [HF.out]; rfl, HB.out.trans (HBW.out.mono HB.out.size)⟩
    · rintro ⟨t, e, w3, hk, he, hrg3, hlt, hkb, hsz, hen⟩
      dsimp only at hen ⊢
      obtain ⟨u, hu, hut, rfl⟩ := gU_some H1.out.ok he
      have hbw3 : Below w1.heap.size w1 w3 := HBW.out.trans (hkb.below HBW.out.size (fun j e => by rw [e, HRR.out]; exact Nat.le_refl _))
      obtain ⟨n, n', hm1, _, _⟩ := (H1.out.below hbw3).maps u hu
      have HZU := hide (box_new w3 zU 66)
      have HAU := hide (alloc_below14 w3 (.cells zU 66))
      have HG3 := hide hrg3
      have HB3 := hide hbw3
      have HLT := hide hlt
      have HUU := hide hut
      rw [hut] at hm1
      have HM1 := hide hm1
      obtain ⟨⟨m1, m2⟩, hmm⟩ : ∃ m, m = p t.1 := ⟨_, rfl⟩
      rw [← hmm] at hen HM1
      clear he hrg3 hkb hsz hut hbw3 hm1 hlt hmm
      have HN : Hid (∀ v ∈ l, v.tx = t.1 → v = u) := hide (fun v hv e => rise_eq H1.out.ok.rise hv hu (e.trans HUU.out.symm))
      by_cases hz : u.h k = 0
      · have hz0 : ((u.h k : Nat) : Int) = 0 := by omega
        have HZ2 : Hid (∀ t' ∈ ks ++ [t], ∀ u ∈ l, u.tx = t'.1 → u.h k = 0) := hide (fun t' ht' v hv e => by
          rcases List.mem_append.1 ht' with h2 | h2
          · exact HZ.out t' h2 v hv e
          · rw [List.mem_singleton] at h2
            subst h2
            rw [HN.out v hv e]
            exact hz)
        go_wp2_with (refine wp_store_box rfl rfl _ _ rfl w3.heap.size rfl (cs' := usA (u.tm, u.tx, u.pr, some m1, some m2)) rfl HZU.out rfl infoUs15 (by simp [Value.oneCell']) ?_; intro w4 hb4 hk4; have HX4 := hide hb4; have HB4 : Hid (Below w3.heap.size w3 w4) := hide (HAU.out.trans (hk4.below HAU.out.size (fun j e => by omega))); clear hb4 hk4; have hg4 := HG3.out.below HB4.out; have HG4 := hide hg4.1; have HL4 := hide hg4.2; clear hg4; have y5 := HX4.out.cell 5 _ rfl; have hxk := (HX.out.belowI (HB3.out.trans (HB4.out.mono HB3.out.size))); obtain ⟨x0, x1, x2, x3, x4, x5, x6, x7⟩ := box_eight14 hxk; have hlk := (MRead.look (.inr ⟨_, _, rfl, HM1.out.below HB4.out⟩) k : (Instr.lookup 64 (.map (some m1)) (kyV k.1) false).run Try.prog w4 = _); clear hxk)
        go_roundw
        case rel => exact ⟨ks ++ [t], HG4, HZ2, hide (HB3.out.trans (HB4.out.mono HB3.out.size))⟩
        case measure => rw [HL4.out]; exact HLT.out
      · have hz0 : (((u.h k : Nat) : Int) != 0) = true := by simp; omega
        have HT : Hid (R = true) := hide (by rw [HR.out, decide_eq_true_eq]; exact ⟨u, hu, hz⟩)
        go_wp2_with (refine wp_store_box rfl rfl _ _ rfl w3.heap.size rfl (cs' := usA (u.tm, u.tx, u.pr, some m1, some m2)) rfl HZU.out rfl infoUs15 (by simp [Value.oneCell']) ?_; intro w4 hb4 hk4; have HX4 := hide hb4; have HB4 : Hid (Below w3.heap.size w3 w4) := hide (HAU.out.trans (hk4.below HAU.out.size (fun j e => by omega))); clear hb4 hk4; have hg4 := HG3.out.below HB4.out; have HG4 := hide hg4.1; have HL4 := hide hg4.2; clear hg4; have y5 := HX4.out.cell 5 _ rfl; have hxk := (HX.out.belowI (HB3.out.trans (HB4.out.mono HB3.out.size))); obtain ⟨x0, x1, x2, x3, x4, x5, x6, x7⟩ := box_eight14 hxk; have hlk := (MRead.look (.inr ⟨_, _, rfl, HM1.out.below HB4.out⟩) k : (Instr.lookup 64 (.map (some m1)) (kyV k.1) false).run Try.prog w4 = _); clear hxk)
        go_ret
        have hfin := HB.out.trans ((HB3.out.trans (HB4.out.mono HB3.out.size)).mono HB.out.size)
        rw [hP1] at hfin
        exact ⟨by rw [HT.out]; rfl, hfin⟩
end
section
open Go.RowKit Go.Maps Classical

theorem recTX15 : Rec 38 30 3 txCs := ⟨Try.underlying38, rec_info (z := .agg #[.int .u8 0, .int .u32 0, .int .u32 0]) (K := 3) (B := 12) (by kernel_rfl) rfl (by decide), by decide, fun _ => rfl⟩
theorem tx_one15 (t : TxP) : ∀ u ∈ txCs t, u.oneCell' = true := fun u hu => by
  simp only [List.mem_cons, List.not_mem_nil, or_false] at hu
  rcases hu with rfl | rfl | rfl <;> rfl
theorem txCs_arr15 (t : TxN) : (#[.int .u8 (t.1 : Int), .int .u32 (t.2.1 : Int), .int .u32 (t.2.2 : Int)] : Array Value).toList = txCs (txI t) := rfl
/-- What SortFunc must do with the table's order, of no more than N names. -/
def SortB (N : Nat) : Prop := ∀ (W : World) (q b C : Nat) (p : TxN → Nat × Nat) (l : List (UsP KeyT)) (base : Nat) (v : Value) (ss : List TxN), PLk W q b C p l → W.ownsRow base 30 3 v ss.length (flat txCs (ss.map txI)) → (∀ t ∈ ss, ∃ u ∈ l, u.tx = t) → ss.Nodup → ss.length ≤ N → (∀ g, v.ownBlock = some g → ¬ FLk q b p l g) →
  Calls Try.prog 29 #[v, .func (.func 30) #[.pointer (some ⟨q, 0, none⟩)] #[]] W fun e w' => e = .returned (.tuple #[]) ∧ ∃ ss' : List TxN, (∀ t, t ∈ ss' ↔ t ∈ ss) ∧ ss'.Pairwise (OldN l) ∧ w'.ownsRow base 30 3 v ss'.length (flat txCs (ss'.map txI)) ∧ KeepBut (fun j => v.ownBlock = some j) W w'
/-- Those of the keys that have come who wait. -/
def whoW (l : List (UsP KeyT)) (k : KeyT) (ks : List TxT) : List TxN := (ks.map (·.1)).filter fun t => decide ((getU l t).w k ≠ 0)
theorem whoW_app (l : List (UsP KeyT)) (k : KeyT) (ks : List TxT) (t : TxT) : whoW l k (ks ++ [t]) = whoW l k ks ++ (if (getU l t.1).w k ≠ 0 then [t.1] else []) := by
  unfold whoW
  rw [List.map_append, List.filter_append]
  congr 1
  by_cases h : (getU l t.1).w k = 0
  · simp [h]
  · simp [h]
theorem whoW_nodup {l : List (UsP KeyT)} {k : KeyT} {ks : List TxT} (h : ks.Nodup) : (whoW l k ks).Nodup := by
  unfold whoW
  rw [List.nodup_iff_pairwise_ne]
  refine List.Pairwise.filter _ ?_
  rw [← List.nodup_iff_pairwise_ne]
  have : ∀ {ks : List TxT}, ks.Nodup → (ks.map (·.1)).Nodup := fun {ks} hn => by
    rw [List.nodup_iff_pairwise_ne, List.pairwise_map]
    exact (List.nodup_iff_pairwise_ne.1 hn).imp (fun {a b} hab e => hab (Subtype.ext e))
  exact this h
theorem whoW_all {l : List (UsP KeyT)} (hb : LkB l) {k : KeyT} {ks : List TxT} (hall : ∀ u ∈ l, ∃ t ∈ ks, t.1 = u.tx) (t : TxN) : t ∈ whoW l k ks ↔ t ∈ queU l k := by
  rw [queU_mem]
  unfold whoW
  rw [List.mem_filter]
  constructor
  · rintro ⟨_, h2⟩
    have h3 : (getU l t).w k ≠ 0 := by simpa using h2
    cases hu : usL l t with
    | none => rw [getU_none hu] at h3; exact absurd rfl h3
    | some u =>
      obtain ⟨hm, rfl⟩ := (usL_some hb).1 hu
      rw [getU_of hb hm] at h3
      exact ⟨u, hm, h3, rfl⟩
  · rintro ⟨u, hu, hw, rfl⟩
    obtain ⟨t', ht', e⟩ := hall u hu
    refine ⟨List.mem_map.2 ⟨t', ht', e⟩, ?_⟩
    rw [getU_of hb hu]
    simpa using hw
theorem que_len {l : List (UsP KeyT)} (hb : LkB l) (k : KeyT) : (queU l k).length ≤ 64 := by
  unfold queU sortU
  rw [List.length_map, List.length_mergeSort]
  exact Nat.le_trans (List.length_filter_le _ _) hb.few
theorem queU_nd {l : List (UsP KeyT)} (hb : LkB l) (k : KeyT) : (queU l k).Nodup := (queU_old hb k).imp fun {x y} hxy e => by subst e; exact hxy.asymm hxy
theorem kept15 {w w' : World} {v : Value} (h : w.grownBy w' v.ownBlock) : KeepBut (fun g => v.ownBlock = some g) w w' := grown_keep h (fun _ h => h)
theorem owns_base15 {w : World} {b b' e size n : Nat} {v : Value} {xs : List Value} (h : w.ownsRow b e size v n xs) (hb : b' ≤ b) : w.ownsRow b' e size v n xs := by
  obtain ⟨hl, h0 | ⟨g, cap, cur, rfl, hg, r⟩⟩ := h
  · exact ⟨hl, .inl h0⟩
  · exact ⟨hl, .inr ⟨g, cap, cur, rfl, Nat.le_trans hb hg, r⟩⟩
theorem ks_le {l : List (UsP KeyT)} {ks : List TxT} (h : ks.Nodup) (hall : ∀ t ∈ ks, ∃ u ∈ l, u.tx = t.1) : ks.length ≤ l.length := by
  have h2 : (ks.map (·.1)).Nodup := by
    rw [List.nodup_iff_pairwise_ne, List.pairwise_map]
    exact (List.nodup_iff_pairwise_ne.1 h).imp (fun {a b} hab e => hab (Subtype.ext e))
  have h3 : ks.map (·.1) ⊆ l.map (·.tx) := fun t ht => by
    obtain ⟨x, hx, rfl⟩ := List.mem_map.1 ht
    obtain ⟨u, hu, e⟩ := hall x hx
    exact List.mem_map.2 ⟨u, hu, e⟩
  have := nodup_le _ _ h2 h3
  simpa using this
set_option maxRecDepth 100000 in
set_option maxHeartbeats 3200000 in
theorem lkQueue_any (N : Nat) (HS : SortB N) (q b C : Nat) (p : TxN → Nat × Nat) (l : List (UsP KeyT)) (k : KeyT) (w : World) (h : PLk w q b C p l) (hN : (queU l k).length ≤ N) :
    Calls Try.prog 17 #[.pointer (some ⟨q, 0, none⟩), .agg (eightA k.1)] w fun e w' => ∃ v, e = .returned v ∧ w'.ownsRow w.heap.size 30 3 v (queU l k).length (flat txCs ((queU l k).map txI)) ∧ Below w.heap.size w w' := by
  have hA := alloc_below14 w (.cells (eightA k.1) 34)
  have hX := box_new w (eightA k.1) 34
  obtain ⟨w1, hw1⟩ : ∃ w1, w1 = w.alloc (.cells (eightA k.1) 34) := ⟨_, rfl⟩
  obtain ⟨p1, hp1⟩ : ∃ p1, p1 = w.heap.size := ⟨_, rfl⟩
  rw [← hw1] at hA hX
  rw [← hp1] at hX
  have HW1 := hide hw1
  have HP1 := hide hp1
  have HFL := hide (fun g hg => h.flt (k := g) hg)
  have H1 := hide (h.below hA)
  have HB := hide hA
  have HX := hide hX
  have CM := hide (made15 q b w1 H1.out.box)
  have HNN := hide hN
  have HSS := hide HS
  clear h hA hX hw1 hp1 hN HS
  go_enter Try.func17, Try.ntmps17
  go_wp2_with fail
  rw [← HW1.out, ← HP1.out]
  refine CM.out.mono ?_
  rintro e w0 ⟨rfl, hw0⟩
  rw [hw0]
  clear hw0 CM
  have h0 : w1.cell? ⟨q, 0, none⟩ = some (.map (some b)) := H1.out.box.cell 0 _ rfl
  go_wp2_with (at_range; refine wp_range_g umTy _ rfl _ rfl rfl H1.out.m ?_; intro w2 hrg hb2 hs2)
  go_frame
  obtain ⟨r, hr⟩ : ∃ r, r = w1.heap.size := ⟨_, rfl⟩
  rw [← hr] at hrg ⊢
  have HRG := hide hrg
  have HB2 := hide hb2
  have HRR := hide hr
  have HSZ : Hid (p1 ≤ w1.heap.size) := hide (by have := HB.out.size; rw [HP1.out]; exact this)
  have HPW : Hid (p1 ≤ w.heap.size) := hide (Nat.le_of_eq HP1.out)
  clear hrg hb2 hs2 h0 hr
  go_loopw [5] (fun x wr => ∃ (ks : List TxT) (ss : List TxN) (ax : Option Addr) (cx : Nat), x = .slice ax ss.length cx ∧ Hid (ss = whoW l k ks) ∧ Hid (URng wr b r l p ks) ∧ Hid (wr.ownsRow w1.heap.size 30 3 (.slice ax ss.length cx) ss.length (flat txCs (ss.map txI))) ∧ Hid (Below w1.heap.size w1 wr) ∧ Hid (ks.length ≤ l.length)) (fun _ wr => wr.rangeLeft b r)
  case atStart => exact ⟨[], [], none, 0, rfl, hide rfl, HRG, hide (World.ownsRow_nil _ _ _ _), HB2, hide (Nat.zero_le _)⟩
  case round =>
    obtain ⟨ks, ss, ax, cx, rfl, HSE, HG, HO, HBW, HKL⟩ := hrel
    go_wp2_with (at_next; refine wp_next_g umTy _ rfl _ rfl rfl HG.out ?_ ?_)
    · intro hdone
      have HAL := hide (whoW_all H1.out.ok (k := k) (gU_none hdone.all H1.out.ok))
      have HND : Hid ss.Nodup := hide (by rw [HSE.out]; exact whoW_nodup HG.out.nodup)
      have HKO := hide (HO.out)
      have HLE : Hid (ss.length ≤ N) := hide (by
        have e : ss.length = (queU l k).length := ((List.perm_ext_iff_of_nodup HND.out (queU_nd H1.out.ok k)).2 (fun t => by rw [HSE.out]; exact HAL.out t)).length_eq
        rw [e]; exact HNN.out)
      have CS := hide (HSS.out wr q b C p l w1.heap.size (.slice ax ss.length cx) ss (H1.out.below HBW.out) HO.out (fun t ht => by
        rw [HSE.out] at ht
        obtain ⟨u, hu, _, e⟩ := queU_mem.1 ((HAL.out t).1 ht)
        exact ⟨u, hu, e⟩) HND.out HLE.out (fun g hg hF => by
        have h1 := (HO.out.lt g hg).1
        have h2 := HFL.out g hF
        have h3 := HB.out.size
        omega))
      have HIF : Hid (∀ t, t ∈ ss ↔ t ∈ queU l k) := hide (fun t => by rw [HSE.out]; exact HAL.out t)
      have HLTG : Hid (∀ j, (Value.slice ax ss.length cx).ownBlock = some j → w1.heap.size ≤ j) := hide (fun j hj => (HO.out.lt j hj).1)
      clear hdone
      go_wp2_with (go_at_call 29; refine CS.out.mono ?_; rintro e w6 ⟨rfl, ss', hm6, hp6, ho6, hk6⟩; have HQE : Hid (ss' = queU l k) := hide (names_unique hp6 (queU_old H1.out.ok k) (fun t => (hm6 t).trans (HIF.out t))); have HO6 := hide ho6; have HB6 := hide (HBW.out.trans (hk6.below HBW.out.size HLTG.out)); clear hm6 hp6 ho6 hk6)
      go_ret
      have hfin := HO6.out
      have hlen : ss'.length = (queU l k).length := by rw [HQE.out]
      rw [hlen] at hfin
      rw [HQE.out] at hfin
      exact ⟨_, rfl, owns_base15 hfin HB.out.size, HB.out.trans (HB6.out.mono HB.out.size)⟩
    · rintro ⟨t, e, w3, hk, he, hrg3, hlt, hkb, hsz, hen⟩
      dsimp only at hen ⊢
      obtain ⟨u, hu, hut, rfl⟩ := gU_some H1.out.ok he
      have hbw3 : Below w1.heap.size w1 w3 := HBW.out.trans (hkb.below HBW.out.size (fun j e => by rw [e, HRR.out]; exact Nat.le_refl _))
      obtain ⟨n, n', _, hm1, _⟩ := (H1.out.below hbw3).maps u hu
      have HZ6 : Hid (Box ((w3.alloc (.cells #[.int .u8 0, .int .u32 0, .int .u32 0] 30)).alloc (.cells zU 66)) w3.heap.size #[.int .u8 0, .int .u32 0, .int .u32 0] 30) := hide ((box_new w3 _ _).belowI (alloc_below14 _ _))
      have HZ7 : Hid (Box ((w3.alloc (.cells #[.int .u8 0, .int .u32 0, .int .u32 0] 30)).alloc (.cells zU 66)) (w3.heap.size + 1) zU 66) := hide (by have := box_new (w3.alloc (.cells #[.int .u8 0, .int .u32 0, .int .u32 0] 30)) zU 66; simpa using this)
      have HAU : Hid (Below w3.heap.size w3 ((w3.alloc (.cells #[.int .u8 0, .int .u32 0, .int .u32 0] 30)).alloc (.cells zU 66))) := hide ((alloc_below14 _ _).trans ((alloc_below14 _ _).mono (by simp)))
      have HNR0 : Hid (∀ g, (Value.slice ax ss.length cx).ownBlock = some g → g ≠ r) := hide (fun g e e2 => by
        obtain ⟨_, ⟨h1, _⟩ | ⟨g', cap, cur, h1, _, hb, _⟩⟩ := HO.out
        · rw [h1] at e; cases e
        · rw [h1] at e
          cases e
          obtain ⟨R0, D0, lf, ct, n0, _, ⟨es, clock, since, seen, c0, _, _, _, _, hr0, _⟩, _⟩ := HG.out.own
          subst e2
          rw [hb] at hr0
          cases hr0)
      have HO3 := hide (owns_keep HO.out hkb HNR0.out)
      have HG3 := hide hrg3
      have HB3 := hide hbw3
      have HLT := hide hlt
      have HUU := hide hut
      rw [hut] at hm1
      have HM1 := hide hm1
      obtain ⟨⟨m1, m2⟩, hmm⟩ : ∃ m, m = p t.1 := ⟨_, rfl⟩
      rw [← hmm] at hen HM1
      have HGU : Hid (getU l t.1 = u) := hide (by rw [← HUU.out]; exact getU_of H1.out.ok hu)
      have HKL2 : Hid ((ks ++ [t]).length ≤ l.length) := hide (ks_le hrg3.nodup (fun t' ht' => by
        obtain ⟨e', he'⟩ := Option.isSome_iff_exists.1 (hrg3.was t' ht')
        obtain ⟨u', hu', ht2, _⟩ := gU_some H1.out.ok he'
        exact ⟨u', hu', ht2⟩))
      clear he hrg3 hkb hsz hut hbw3 hm1 hlt hmm hk
      obtain ⟨⟨y1, y2, y3⟩, ht⟩ := t
      dsimp only at *
      have HA5 : Hid (Below w3.heap.size w3 ((w3.alloc (.cells #[.int .u8 (y1 : Int), .int .u32 (y2 : Int), .int .u32 (y3 : Int)] 30)).alloc (.cells #[.int .u32 (u.tm : Int), .int .u8 (u.tx.1 : Int), .int .u32 (u.tx.2.1 : Int), .int .u32 (u.tx.2.2 : Int), .bool u.pr, .map (some m1), .map (some m2)] 66))) := hide ((alloc_below14 _ _).trans ((alloc_below14 _ _).mono (by simp)))
      have hx5 := HX.out.belowI (HB3.out.trans (HA5.out.mono HB3.out.size))
      obtain ⟨x0, x1, x2, x3, x4, x5, x6, x7⟩ := box_eight14 hx5
      have hlk := (MRead.look (.inr ⟨_, _, rfl, HM1.out.below HA5.out⟩) k : (Instr.lookup 64 (.map (some m2)) (kyV k.1) false).run Try.prog ((w3.alloc (.cells #[.int .u8 (y1 : Int), .int .u32 (y2 : Int), .int .u32 (y3 : Int)] 30)).alloc (.cells #[.int .u32 (u.tm : Int), .int .u8 (u.tx.1 : Int), .int .u32 (u.tx.2.1 : Int), .int .u32 (u.tx.2.2 : Int), .bool u.pr, .map (some m1), .map (some m2)] 66)) = _)
      have hg5 := HG3.out.below HA5.out
      have HG5 := hide hg5.1
      have HL5 := hide hg5.2
      have HO5 := hide (owns_keep HO3.out (KeepBut.of_below (fun _ => False) HA5.out) (fun _ _ h => h))
      clear hx5 hg5
      by_cases hz : u.w k = 0
      · have hz0 : ((u.w k : Nat) : Int) = 0 := by omega
        have HS2 : Hid (ss = whoW l k (ks ++ [⟨(y1, y2, y3), ht⟩])) := hide (by rw [whoW_app, HGU.out, if_neg (fun h => h hz), List.append_nil]; exact HSE.out)
        go_wp2_with fail
        go_roundw
        case rel => exact ⟨ks ++ [⟨(y1, y2, y3), ht⟩], ss, ax, cx, rfl, HS2, HG5, HO5, hide (HB3.out.trans (HA5.out.mono HB3.out.size)), HKL2⟩
        case measure => rw [HL5.out]; exact HLT.out
      · have hz0 : (((u.w k : Nat) : Int) != 0) = true := by simp; omega
        have HS2 : Hid (ss ++ [(y1, y2, y3)] = whoW l k (ks ++ [⟨(y1, y2, y3), ht⟩])) := hide (by rw [whoW_app, HGU.out, if_pos hz]; rw [← HSE.out])
        have HA6 : Hid (Below w3.heap.size w3 (((w3.alloc (.cells #[.int .u8 (y1 : Int), .int .u32 (y2 : Int), .int .u32 (y3 : Int)] 30)).alloc (.cells #[.int .u32 (u.tm : Int), .int .u8 (u.tx.1 : Int), .int .u32 (u.tx.2.1 : Int), .int .u32 (u.tx.2.2 : Int), .bool u.pr, .map (some m1), .map (some m2)] 66)).alloc (.cells #[.int .u8 (y1 : Int), .int .u32 (y2 : Int), .int .u32 (y3 : Int)] 30))) := hide (HA5.out.trans ((alloc_below14 _ _).mono HA5.out.size))
        have hg6 := HG3.out.below HA6.out
        have HG6 := hide hg6.1
        have HL6 := hide hg6.2
        have HO6 := hide (owns_keep HO3.out (KeepBut.of_below (fun _ => False) HA6.out) (fun _ _ h => h))
        have HSRC : Hid (RSrc txCs (((w3.alloc (.cells #[.int .u8 (y1 : Int), .int .u32 (y2 : Int), .int .u32 (y3 : Int)] 30)).alloc (.cells #[.int .u32 (u.tm : Int), .int .u8 (u.tx.1 : Int), .int .u32 (u.tx.2.1 : Int), .int .u32 (u.tx.2.2 : Int), .bool u.pr, .map (some m1), .map (some m2)] 66)).alloc (.cells #[.int .u8 (y1 : Int), .int .u32 (y2 : Int), .int .u32 (y3 : Int)] 30)) (.slice (some ⟨w3.heap.size + 1 + 1, 0, none⟩) 1 1) [txI (y1, y2, y3)]) := hide (by
          have h1 := src_new (enc := txCs) ((w3.alloc (.cells #[.int .u8 (y1 : Int), .int .u32 (y2 : Int), .int .u32 (y3 : Int)] 30)).alloc (.cells #[.int .u32 (u.tm : Int), .int .u8 (u.tx.1 : Int), .int .u32 (u.tx.2.1 : Int), .int .u32 (u.tx.2.2 : Int), .bool u.pr, .map (some m1), .map (some m2)] 66)) (txI (y1, y2, y3)) _ (txCs_arr15 (y1, y2, y3)) 30
          have e : ((w3.alloc (.cells #[.int .u8 (y1 : Int), .int .u32 (y2 : Int), .int .u32 (y3 : Int)] 30)).alloc (.cells #[.int .u32 (u.tm : Int), .int .u8 (u.tx.1 : Int), .int .u32 (u.tx.2.1 : Int), .int .u32 (u.tx.2.2 : Int), .bool u.pr, .map (some m1), .map (some m2)] 66)).heap.size = w3.heap.size + 1 + 1 := by simp
          rw [e] at h1
          exact h1)
        have HTL : Hid ((ss.map txI).length = ss.length) := hide (by rw [List.length_map])
        have HTN : Hid ((ss ++ [(y1, y2, y3)]).length = ss.length + 1) := hide (by rw [List.length_append]; rfl)
        have HTM : Hid (ss.map txI ++ [txI (y1, y2, y3)] = (ss ++ [(y1, y2, y3)]).map txI) := hide (by rw [List.map_append]; rfl)
        have HSL : Hid (ss.length + 1 ≤ 1000000) := hide (by
          have h1 : ss.length ≤ ks.length := by rw [HSE.out]; unfold whoW; exact Nat.le_trans (List.length_filter_le _ _) (by rw [List.length_map]; exact Nat.le_refl _)
          have h2 := HKL.out
          have h3 := H1.out.ok.few
          omega)
        have HNR : Hid (∀ g, (Value.slice ax ss.length cx).ownBlock = some g → g ≠ r ∧ g ≠ b) := hide (fun g hg => ⟨HNR0.out g hg, fun e => by
          have h1 := (HO6.out.lt g hg).1
          have h2 := H1.out.m.lt
          omega⟩)
        have HBS : Hid (w1.heap.size ≤ (((w3.alloc (.cells #[.int .u8 (y1 : Int), .int .u32 (y2 : Int), .int .u32 (y3 : Int)] 30)).alloc (.cells #[.int .u32 (u.tm : Int), .int .u8 (u.tx.1 : Int), .int .u32 (u.tx.2.1 : Int), .int .u32 (u.tx.2.2 : Int), .bool u.pr, .map (some m1), .map (some m2)] 66)).alloc (.cells #[.int .u8 (y1 : Int), .int .u32 (y2 : Int), .int .u32 (y3 : Int)] 30)).heap.size) := hide (Nat.le_trans HB3.out.size HA6.out.size)
        have HB36 := hide (HB3.out.trans (HA6.out.mono HB3.out.size))
        clear hg6
        go_wp2_with (at_builtin; refine wp_recs recTX15 _ rfl _ _ rfl w1.heap.size (.slice ax ss.length cx) (.slice (some ⟨w3.heap.size + 1 + 1, 0, none⟩) 1 1) (ss.map txI) [txI (y1, y2, y3)] rfl ?_ rfl HSRC.out ?_ ?_ HBS.out ?_)
        · rw [HTL.out]; exact HO6.out
        · exact (fun z hz => by simp at hz; subst hz; exact tx_one15 _)
        · rw [HTL.out]; exact HSL.out
        intro v4 w4 ho4 hg4 _
        rw [HTM.out] at ho4
        obtain ⟨a4, c4, hv4, _⟩ := owns_shapeR ho4
        subst hv4
        have HB4 : Hid (Below w1.heap.size w1 w4) := hide (HB36.out.grown hg4 HBS.out (fun j hj => (HO6.out.lt j hj).1))
        have HG4 := hide (HG6.out.keep (kept15 hg4) (fun e => (HNR.out _ e).2 rfl) (fun e => (HNR.out _ e).1 rfl))
        have HO4 := hide ho4
        clear ho4 hg4
        go_wp2_with fail
        go_roundw
        case rel => exact ⟨ks ++ [⟨(y1, y2, y3), ht⟩], ss ++ [(y1, y2, y3)], a4, c4, by rw [HTN.out], HS2, hide HG4.out.1, hide (by rw [HTN.out]; exact HO4.out), HB4, HKL2⟩
        case measure => rw [HG4.out.2, HL6.out]; exact HLT.out
end
end Go.Proofs.Ytddflccjmigloaa
