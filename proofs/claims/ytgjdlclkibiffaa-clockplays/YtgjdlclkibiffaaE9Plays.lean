/-
  ClockPlays: a clock answers every call, in every order, as the document says. Over any clock that fulfils the bundle. Own work.
-/
import Derived.Test.YtgjdlclkibiffaaCkLaw
import Derived.Test.YtgjdlclkibiffaaCkRef4
import Derived.Test.YtgjdlclkibiffaaE9Next
import Derived.BigQuiet
import Derived.Deep.RegionHeld
import Derived.Deep.LoopGhost
namespace Go.Proofs.Ytgjdlclkibiffaa
open Go.RowKit

section
variable {D : World → Nat → (Nat → Prop) → Ck → Prop}
/-- Both clocks, side by side. -/
structure Duo9 (D : World → Nat → (Nat → Prop) → Ck → Prop) (w : World) (q p : Nat) (F : Nat → Prop) (vb : Value) (c c2 : Ck) (wr : World) : Prop where
  dd : D wr q F c
  rr : RCk wr p vb c2
  ff : ∀ k, F k → w.heap.size ≤ k
  uu : ∀ k, usesK p vb k → w.heap.size ≤ k
  ap : ∀ k, usesK p vb k → ¬ F k
  B : Below w.heap.size w wr
theorem RCk.lt {w : World} {p : Nat} {vb : Value} {c : Ck} (h : RCk w p vb c) : ∀ k, usesK p vb k → k < w.heap.size := by
  rintro k (rfl | e)
  · exact h.box.lt
  · exact (h.far k e).1
theorem Duo9.below (H : ClockDo D) {w wr w' : World} {q p : Nat} {F : Nat → Prop} {vb : Value} {c c2 : Ck} (h : Duo9 D w q p F vb c c2 wr) (hB : Below wr.heap.size wr w') : Duo9 D w q p F vb c c2 w' :=
  ⟨H.below h.dd hB, h.rr.below hB, h.ff, h.uu, h.ap, h.B.trans (hB.mono h.B.size)⟩
theorem Duo9.prog {w wr w' : World} {q p : Nat} {F : Nat → Prop} {vb : Value} {c c2 c' : Ck} (h : Duo9 D w q p F vb c c2 wr) (h2 : CDid D wr w' q F c') : ∃ F', Duo9 D w q p F' vb c' c2 w' := by
  obtain ⟨F', h1, hk, hu⟩ := h2
  refine ⟨F', h1, h.rr.keep hk h.ap, fun k hk' => ?_, h.uu, fun k hu' hf => ?_, h.B.trans (hk.below h.B.size h.ff)⟩
  · rcases hu k hk' with e | e
    · exact h.ff k e
    · exact Nat.le_trans h.B.size e
  · rcases hu k hf with e | e
    · exact h.ap k hu' e
    · have := h.rr.lt k hu'; omega
theorem Duo9.ref (H : ClockDo D) {w wr w' : World} {q p : Nat} {F : Nat → Prop} {vb : Value} {c c2 c' : Ck} (h : Duo9 D w q p F vb c c2 wr) (h2 : RKid wr w' p vb c') : ∃ vb', Duo9 D w q p F vb' c c' w' := by
  obtain ⟨vb', h1, hk, hu⟩ := h2
  have hF : ∀ k, F k → ¬ k = p := fun k hf e => h.ap p (.inl rfl) (e ▸ hf)
  have hus : ∀ k, usesK p vb' k → usesK p vb k ∨ wr.heap.size ≤ k := by
    rintro k (e | e)
    · exact .inl (.inl e)
    · rcases hu with o | o
      · exact .inl (.inr (by rw [← o]; exact e))
      · exact .inr (o k e)
  refine ⟨vb', H.keep h.dd hk hF, h1, h.ff, fun k hk' => ?_, fun k hu' hf => ?_, h.B.trans (hk.below h.B.size (fun k e => by rw [e]; exact h.uu p (.inl rfl)))⟩
  · rcases hus k hk' with e | e
    · exact h.uu k e
    · exact Nat.le_trans h.B.size e
  · rcases hus k hu' with e | e
    · exact h.ap k e hf
    · have := H.lt h.dd k hf; omega
set_option maxRecDepth 100000 in
set_option maxHeartbeats 12800000 in
theorem walkP9 (H : ClockDo D) (v : Value) (fs : List KaP) (w : World) (hL : RSrc kaE w v fs) (hok : ∀ f ∈ fs, kaOk f) :
    Calls Try.prog 3 #[v] w fun e w' => e = .returned (.bool true) ∧ Below w.heap.size w w' := by
  obtain ⟨ao, cap, rfl, hcap, hcm⟩ := hL.shape
  unfold maxLen at hcm
  have HL := hide hL
  have HOK : Hid (∀ f ∈ fs.take 150, kaOk f) := hide (fun f hf => hok f (List.mem_of_mem_take hf))
  clear hL hok
  go_enter Try.func3, Try.ntmps3
  go_wp2_with fail
  refine (H.new w).mono ?_
  rintro e W1 ⟨q, F, rfl, hD1, hF1, hB1⟩
  have heq := fun W => eq_ptr9 W ⟨q, 0, none⟩
  have hX := box_new W1 (rkc newC (.slice none 0 0)) 28
  have hA := alloc_below9 W1 (.cells (rkc newC (.slice none 0 0)) 28)
  obtain ⟨W2, hw2⟩ : ∃ W2, W2 = W1.alloc (.cells (rkc newC (.slice none 0 0)) 28) := ⟨_, rfl⟩
  rw [← hw2] at hX hA
  have hW2 : W1.alloc (.cells #[.int .u32 0, .slice none 0 0] 28) = W2 := hw2.symm
  have HP1 : Hid (W1.heap.size < W2.heap.size) := hide hX.lt
  have HLT := hide (H.lt hD1)
  have hu1 : ∀ k, usesK W1.heap.size (.slice none 0 0) k → w.heap.size ≤ k := by
    intro k hu
    rcases hu with e | e
    · rw [e]; exact hB1.size
    · cases e
  have hap1 : ∀ k, usesK W1.heap.size (.slice none 0 0) k → ¬ F k := by
    intro k hu hf
    rcases hu with e | e
    · have := HLT.out k hf; omega
    · cases e
  have HU : Hid (Duo9 D w q W1.heap.size F (.slice none 0 0) newC newC W2) := hide ⟨H.below hD1 hA, ⟨hX, RSrc.nil _, newC_ok, fun g e => by cases e⟩, hF1, hu1, hap1, hB1.trans (hA.mono hB1.size)⟩
  clear hD1 hF1 hB1 hX hA hw2 hu1 hap1
  go_wp2_with fail
  refine (alive_by9 H _).mono ?_
  rintro e W3 ⟨rfl, hB⟩
  replace HU := hide (HU.out.below H hB)
  clear hB hW2
  have CS := hide (short_any9 _ fs W3 w HL.out)
  go_wp2_with fail
  refine CS.out.mono ?_
  rintro e W1' ⟨v2, rfl, rfl, hL2⟩
  obtain ⟨ts, hts⟩ : ∃ ts, ts = fs.take 150 := ⟨_, rfl⟩
  rw [← hts] at hL2 HOK
  have htl : ts.length ≤ 150 := by rw [hts, List.length_take]; omega
  obtain ⟨a2, c2, hv2, _⟩ := hL2.shape
  subst hv2
  have HL2 := hide hL2
  have HU0 := HU
  clear hts hL2 CS HU HLT
  generalize W1.heap.size = p at *
  go_wp2_with fail
  go_loopg [32] ts.length (fun g i wr => ∃ (k : Nat) (c : Ck) (F : Nat → Prop) (vb : Value), k + g = ts.length ∧ i = .int .i64 k ∧ Hid (Duo9 D w q p F vb c c wr))
  case atStart => exact ⟨0, newC, F, _, by omega, rfl, HU0⟩
  case round =>
    obtain ⟨k, c, F, vb, hk, rfl, HU⟩ := hrel
    clear HU0
    cases gk with
    | zero =>
      have hz : ¬ ((k : Int) < (ts.length : Int)) := by omega
      go_wp2_with fail
      go_ret
      exact ⟨rfl, HU.out.B⟩
    | succ g =>
      have hz : (k : Int) < (ts.length : Int) := by omega
      have hkt : k < ts.length := by omega
      obtain ⟨_, b, off, hao, hb, hcl⟩ := (HL2.out.below HU.out.B).at recKA.len hkt
      cases hao
      have r0 := hcl 0 _ rfl
      have r1 := hcl 1 _ rfl
      have r2 := hcl 2 _ rfl
      have r3 := hcl 3 _ rfl
      have r4 := hcl 4 _ rfl
      have r5 := hcl 5 _ rfl
      rw [Nat.add_zero] at r0
      have hoa := HOK.out ts[k] (List.getElem_mem _)
      generalize ts[k] = a at *
      have HOA := hide hoa
      have hXa := box_new wr (kaA a) 36
      have hAa := alloc_below9 wr (.cells (kaA a) 36)
      obtain ⟨wa, hwa⟩ : ∃ wa, wa = wr.alloc (.cells (kaA a) 36) := ⟨_, rfl⟩
      rw [← hwa] at hXa hAa
      have hWa := hwa.symm
      have HFL : Hid ((∀ j, F j → j < wr.heap.size) ∧ p < wr.heap.size) := hide ⟨H.lt HU.out.dd, HU.out.rr.box.lt⟩
      replace HU := hide (HU.out.below H hAa)
      have HXA := hide hXa
      have HBA : Hid (wr.heap.size < wa.heap.size) := hide hXa.lt
      have k0 := hXa.cell 0 _ rfl
      clear hcl hb hoa hXa hAa hwa
      have hak := HOA.out.1
      have hrem : a.1.tmod 4 = a.1 % 4 := Int.tmod_eq_emod_of_nonneg hak.1
      obtain ⟨r, hr⟩ : ∃ r, r = a.1 % 4 := ⟨_, rfl⟩
      rw [← hr] at hrem
      by_cases h1 : r = 1
      · subst h1
        clear hr
        have HC := hide (H.tick HU.out.dd)
        have HTN : Hid ((tickL c).length ≤ 1024) := hide (Nat.le_trans (tickL_len c) HU.out.rr.ok.few)
        have HCT := hide (fun W (h : RCk W p vb c) => rtick_any p vb c W h)
        go_wp2_with fail
        refine HC.out.mono ?_
        rintro e V1 ⟨v5, rfl, h5, hL5, hg5⟩
        have HPV : Hid (∀ g, v5.ownBlock = some g → ¬ g = p) := hide (fun g e e2 => by
          rcases hg5 g e with h | h
          · exact HU.out.ap p (.inl rfl) (e2 ▸ h)
          · have := HFL.out.2; have := HBA.out; omega)
        replace HXA := hide (HXA.out.keep (by obtain ⟨F', _, hk5, _⟩ := h5; exact hk5) (fun hf => by have := HFL.out.1 _ hf; omega))
        obtain ⟨F5, hU5⟩ := HU.out.prog h5
        replace HU := hide hU5
        obtain ⟨a5, c5, hv5, _⟩ := hL5.shape
        subst hv5
        have HL5 := hide hL5
        have HPW : Hid (p < V1.heap.size) := hide HU.out.rr.box.lt
        clear h5 hU5 hL5 hg5 HC k0
        go_wp2_with fail
        refine (HCT.out _ HU.out.rr).mono ?_
        rintro e V2 ⟨v6, rfl, h6, ho6⟩
        have hk6 : KeepBut (fun j => j = p) V1 V2 := by obtain ⟨_, _, hk6, _⟩ := h6; exact hk6
        replace HL5 := hide (HL5.out.keep hk6 HPV.out)
        replace HXA := hide (HXA.out.keep hk6 (fun e => by have := HFL.out.2; omega))
        obtain ⟨vbb, hU6⟩ := HU.out.ref H h6
        replace HU := hide hU6
        obtain ⟨a6, c6, hv6, _⟩ := owns_shapeR ho6
        subst hv6
        have HO6 := hide ho6
        have HC7 := hide (ours9_any _ (tickL c) V2 HL5.out (by have := HTN.out; omega))
        clear h6 hk6 hU6 ho6 HCT
        go_wp2_with fail
        refine HC7.out.mono ?_
        rintro e V3 ⟨v7, rfl, ho7, hB⟩
        replace HU := hide (HU.out.below H hB)
        replace HXA := hide (HXA.out.belowI hB)
        have HC8 := hide (same9_any _ _ (tickL c) V3 (RSrc.of_own ho7) ((RSrc.of_own HO6.out).below hB))
        obtain ⟨a7, c7, hv7, _⟩ := owns_shapeR ho7
        subst hv7
        clear hB ho7 HC7 HL5 HO6
        go_wp2_with fail
        refine HC8.out.mono ?_
        rintro e V4 ⟨rfl, m8, hw8⟩
        have hB : Below V3.heap.size V3 V4 := hw8 ▸ below_drewN9 V3 m8
        replace HU := hide (HU.out.below H hB)
        replace HXA := hide (HXA.out.belowI hB)
        clear hB hw8 HC8
        obtain ⟨cc, hcc⟩ : ∃ cc, cc = tickD c := ⟨_, rfl⟩
        rw [← hcc] at HU
        generalize tickA c = tA
        generalize (tickL c).length = tl at *
        clear hcc
        have k1 := HXA.out.cell 1 _ rfl
        have k2 := HXA.out.cell 2 _ rfl
        have k3 := HXA.out.cell 3 _ rfl
        have k4 := HXA.out.cell 4 _ rfl
        have k5 := HXA.out.cell 5 _ rfl
        go_wp2_with fail
        refine (theirs_any a.2.1 _).mono ?_
        rintro e T1 ⟨rfl, hB⟩
        replace HU := hide (HU.out.below H hB)
        replace HXA := hide (HXA.out.belowI hB)
        clear k1 k2 k3 k4 k5
        clear hB
        have HC := hide (H.unt a.2.1 HU.out.dd HOA.out.2.1)
        have HCR := hide (fun W (h : RCk W p vbb cc) => runtil_any p vbb cc a.2.1 W h)
        generalize cc.atOf a.2.1 = x1 at HC HCR
        generalize cc.has a.2.1 = b1 at HC HCR
        go_wp2_with fail
        refine HC.out.mono ?_
        rintro e T2 ⟨rfl, hB⟩
        replace HU := hide (HU.out.below H hB)
        replace HXA := hide (HXA.out.belowI hB)
        clear hB HC
        have k1 := HXA.out.cell 1 _ rfl
        have k2 := HXA.out.cell 2 _ rfl
        have k3 := HXA.out.cell 3 _ rfl
        have k4 := HXA.out.cell 4 _ rfl
        have k5 := HXA.out.cell 5 _ rfl
        go_wp2_with fail
        refine (HCR.out _ HU.out.rr).mono ?_
        rintro e T3 ⟨rfl, hB⟩
        replace HU := hide (HU.out.below H hB)
        replace HXA := hide (HXA.out.belowI hB)
        clear hB HCR
        clear k1 k2 k3 k4 k5
        have HC := hide (H.next HU.out.dd)
        have HCR := hide (fun W (h : RCk W p vbb cc) => rnext9_any p vbb cc W h)
        generalize cc.nextN = N at HC HCR
        generalize cc.nextT = x2 at HC HCR
        generalize cc.any = b2 at HC HCR
        go_wp2_with fail
        refine HC.out.mono ?_
        rintro e T4 ⟨rfl, hB⟩
        replace HU := hide (HU.out.below H hB)
        replace HXA := hide (HXA.out.belowI hB)
        have hXn := box_new T4 (nmA N) 47
        have hAn := alloc_below9 T4 (.cells (nmA N) 47)
        obtain ⟨T5, ht5⟩ : ∃ T5, T5 = T4.alloc (.cells (nmA N) 47) := ⟨_, rfl⟩
        rw [← ht5] at hXn hAn
        have hT5 := ht5.symm
        have HXN := hide hXn
        replace HU := hide (HU.out.below H hAn)
        clear hB HC hXn hAn ht5 HXA
        go_wp2_with fail
        refine (HCR.out _ HU.out.rr).mono ?_
        rintro e T6 ⟨rfl, hB⟩
        replace HU := hide (HU.out.below H hB)
        replace HXN := hide (HXN.out.belowI hB)
        have hXm := box_new T6 (nmA N) 34
        have hAm := alloc_below9 T6 (.cells (nmA N) 34)
        obtain ⟨T7, ht7⟩ : ∃ T7, T7 = T6.alloc (.cells (nmA N) 34) := ⟨_, rfl⟩
        rw [← ht7] at hXm hAm
        have hT7 := ht7.symm
        have HXM := hide hXm
        replace HU := hide (HU.out.below H hAm)
        replace HXN := hide (HXN.out.belowI hAm)
        clear hB HCR hXm hAm ht7 hT5
        go_wp2_with fail
        obtain ⟨ar, cr, hvr, _⟩ := HU.out.rr.src.shape
        have HVR := hide hvr
        obtain ⟨ll, hll⟩ : ∃ ll, ll = cc.l.length := ⟨_, rfl⟩
        have HLL := hide hll
        have SS : Hid (∀ Z, Below T7.heap.size T7 Z → (Z.cell? ⟨T4.heap.size, 0, none⟩ = some (.int .u8 N.1) ∧ Z.cell? ⟨T4.heap.size, 1, none⟩ = some (.int .u8 N.2.1) ∧ Z.cell? ⟨T4.heap.size, 2, none⟩ = some (.int .u32 N.2.2.1) ∧ Z.cell? ⟨T4.heap.size, 3, none⟩ = some (.int .u32 N.2.2.2) ∧ Z.cell? ⟨T6.heap.size, 0, none⟩ = some (.int .u8 N.1) ∧ Z.cell? ⟨T6.heap.size, 1, none⟩ = some (.int .u8 N.2.1) ∧ Z.cell? ⟨T6.heap.size, 2, none⟩ = some (.int .u32 N.2.2.1) ∧ Z.cell? ⟨T6.heap.size, 3, none⟩ = some (.int .u32 N.2.2.2) ∧ Z.cell? ⟨p, 0, none⟩ = some (.int .u32 (cc.now : Int)) ∧ Z.cell? ⟨p, 1, none⟩ = some (.slice ar ll cr))) := hide (fun Z hB => by
          have hb1 := HXN.out.belowI hB
          have hb2 := HXM.out.belowI hB
          have hr := (HU.out.rr.below hB).at
          rw [HVR.out, ← HLL.out] at hr
          exact ⟨hb1.cell 0 _ rfl, hb1.cell 1 _ rfl, hb1.cell 2 _ rfl, hb1.cell 3 _ rfl, hb2.cell 0 _ rfl, hb2.cell 1 _ rfl, hb2.cell 2 _ rfl, hb2.cell 3 _ rfl, hr.1, hr.2⟩)
        have ss0 := SS.out T7 (Below.refl _ _)
        have HCUR : Hid (Below T7.heap.size T7 T7.drew) := hide (Below.refl _ _).drew
        have hqn := fun W => neq_cname N N W
        have hqq : (!decide (N = N)) = false := by simp
        rw [hqq] at hqn
        have CLEN := hide (fun Z (hB : Below T7.heap.size T7 Z) => H.len (H.below HU.out.dd hB))
        rw [← hll] at CLEN
        clear hvr hll hqq hT7
        go_region_held (fun w' => w'.cell? ⟨T4.heap.size, 0, none⟩ = some (.int .u8 N.1) ∧ w'.cell? ⟨T4.heap.size, 1, none⟩ = some (.int .u8 N.2.1) ∧ w'.cell? ⟨T4.heap.size, 2, none⟩ = some (.int .u32 N.2.2.1) ∧ w'.cell? ⟨T4.heap.size, 3, none⟩ = some (.int .u32 N.2.2.2) ∧ w'.cell? ⟨T6.heap.size, 0, none⟩ = some (.int .u8 N.1) ∧ w'.cell? ⟨T6.heap.size, 1, none⟩ = some (.int .u8 N.2.1) ∧ w'.cell? ⟨T6.heap.size, 2, none⟩ = some (.int .u32 N.2.2.1) ∧ w'.cell? ⟨T6.heap.size, 3, none⟩ = some (.int .u32 N.2.2.2) ∧ w'.cell? ⟨p, 0, none⟩ = some (.int .u32 (cc.now : Int)) ∧ w'.cell? ⟨p, 1, none⟩ = some (.slice ar ll cr)) (go_keep) (first
          | (go_at_call 16; refine (theirs_any N _).mono ?_; rintro e Y1 ⟨rfl, hB⟩; replace HCUR := hide (HCUR.out.trans (hB.mono HCUR.out.size)); have ss := SS.out Y1 HCUR.out; clear hB)
          | (go_at_call 24; refine (H.now (H.below HU.out.dd HCUR.out)).mono ?_; rintro e Y2 ⟨rfl, m, hw⟩; have hB : Below _ _ Y2 := hw ▸ below_drewN9 _ m; replace HCUR := hide (HCUR.out.trans (hB.mono HCUR.out.size)); have ss := SS.out Y2 HCUR.out; clear hB hw)
          | (go_at_call 25; refine (CLEN.out _ HCUR.out).mono ?_; rintro e Y3 ⟨rfl, m, hw⟩; have hB : Below _ _ Y3 := hw ▸ below_drewN9 _ m; replace HCUR := hide (HCUR.out.trans (hB.mono HCUR.out.size)); have ss := SS.out Y3 HCUR.out; clear hB hw))
        all_goals go_wp2_with fail
        all_goals go_roundg g
        all_goals first
          | omega
          | exact ⟨k + 1, cc, _, vbb, by omega, by first | rfl | go_num, hide (HU.out.below H HCUR.out)⟩
      · have d1 : (r == 1) = false := by simp [h1]
        by_cases h2 : r = 2
        · subst h2
          clear hr
          have ss0 : _ ∧ _ ∧ _ ∧ _ ∧ _ := ⟨HXA.out.cell 1 _ rfl, HXA.out.cell 2 _ rfl, HXA.out.cell 3 _ rfl, HXA.out.cell 4 _ rfl, HXA.out.cell 5 _ rfl⟩
          go_wp2_with fail
          replace HU := hide (HU.out.below H (Below.refl wa.heap.size wa).drew)
          replace HXA := hide (HXA.out.belowI (Below.refl wa.heap.size wa).drew)
          have HNP : Hid (wr.heap.size ≠ p) := hide (by have := HFL.out.2; omega)
          clear k0
          go_region_held (fun w' => w'.cell? ⟨wr.heap.size, 1, none⟩ = some (.int .u8 a.2.1.1) ∧ w'.cell? ⟨wr.heap.size, 2, none⟩ = some (.int .u8 a.2.1.2.1) ∧ w'.cell? ⟨wr.heap.size, 3, none⟩ = some (.int .u32 a.2.1.2.2.1) ∧ w'.cell? ⟨wr.heap.size, 4, none⟩ = some (.int .u32 a.2.1.2.2.2) ∧ w'.cell? ⟨wr.heap.size, 5, none⟩ = some (.int .u32 a.2.2)) (go_keep) (first
            | (go_at_call 16; refine (theirs_any a.2.1 _).mono ?_; rintro e Z1 ⟨rfl, hB⟩; replace HU := hide (HU.out.below H hB); replace HXA := hide (HXA.out.belowI hB); have ss : _ ∧ _ ∧ _ ∧ _ ∧ _ := ⟨HXA.out.cell 1 _ rfl, HXA.out.cell 2 _ rfl, HXA.out.cell 3 _ rfl, HXA.out.cell 4 _ rfl, HXA.out.cell 5 _ rfl⟩; clear hB)
            | (go_at_call 15; refine (H.stop a.2.1 HU.out.dd HOA.out.2.1).mono ?_; rintro e Z2 ⟨rfl, h5⟩; replace HXA := hide (HXA.out.keep (by obtain ⟨F', _, hk5, _⟩ := h5; exact hk5) (fun hf => by have := HFL.out.1 _ hf; omega)); obtain ⟨F5, hU5⟩ := HU.out.prog h5; replace HU := hide hU5; have ss : _ ∧ _ ∧ _ ∧ _ ∧ _ := ⟨HXA.out.cell 1 _ rfl, HXA.out.cell 2 _ rfl, HXA.out.cell 3 _ rfl, HXA.out.cell 4 _ rfl, HXA.out.cell 5 _ rfl⟩; clear h5 hU5)
            | (go_at_call 17; refine (rstop_any p vb c a.2.1 _ HU.out.rr).mono ?_; rintro e Z3 ⟨rfl, h6⟩; replace HXA := hide (HXA.out.keep (by obtain ⟨_, _, hk6, _⟩ := h6; exact hk6) (fun e => HNP.out e)); obtain ⟨vbb, hU6⟩ := HU.out.ref H h6; replace HU := hide hU6; have ss : _ ∧ _ ∧ _ ∧ _ ∧ _ := ⟨HXA.out.cell 1 _ rfl, HXA.out.cell 2 _ rfl, HXA.out.cell 3 _ rfl, HXA.out.cell 4 _ rfl, HXA.out.cell 5 _ rfl⟩; clear h6 hU6))
          all_goals
            obtain ⟨cc, hcc⟩ : ∃ cc, cc = stopD c a.2.1 := ⟨_, rfl⟩
            rw [← hcc] at HU
            generalize c.has a.2.1 = hh0 at *
            clear hcc ss
            clear ss0
            have k1 := HXA.out.cell 1 _ rfl
            have k2 := HXA.out.cell 2 _ rfl
            have k3 := HXA.out.cell 3 _ rfl
            have k4 := HXA.out.cell 4 _ rfl
            have k5 := HXA.out.cell 5 _ rfl
            go_wp2_with fail
            refine (theirs_any a.2.1 _).mono ?_
            rintro e T1 ⟨rfl, hB⟩
            replace HU := hide (HU.out.below H hB)
            replace HXA := hide (HXA.out.belowI hB)
            clear k1 k2 k3 k4 k5
            clear hB
            have HC := hide (H.unt a.2.1 HU.out.dd HOA.out.2.1)
            have HCR := hide (fun W (h : RCk W p vbb cc) => runtil_any p vbb cc a.2.1 W h)
            generalize cc.atOf a.2.1 = x1 at HC HCR
            generalize cc.has a.2.1 = b1 at HC HCR
            go_wp2_with fail
            refine HC.out.mono ?_
            rintro e T2 ⟨rfl, hB⟩
            replace HU := hide (HU.out.below H hB)
            replace HXA := hide (HXA.out.belowI hB)
            clear hB HC
            have k1 := HXA.out.cell 1 _ rfl
            have k2 := HXA.out.cell 2 _ rfl
            have k3 := HXA.out.cell 3 _ rfl
            have k4 := HXA.out.cell 4 _ rfl
            have k5 := HXA.out.cell 5 _ rfl
            go_wp2_with fail
            refine (HCR.out _ HU.out.rr).mono ?_
            rintro e T3 ⟨rfl, hB⟩
            replace HU := hide (HU.out.below H hB)
            replace HXA := hide (HXA.out.belowI hB)
            clear hB HCR
            clear k1 k2 k3 k4 k5
            have HC := hide (H.next HU.out.dd)
            have HCR := hide (fun W (h : RCk W p vbb cc) => rnext9_any p vbb cc W h)
            generalize cc.nextN = N at HC HCR
            generalize cc.nextT = x2 at HC HCR
            generalize cc.any = b2 at HC HCR
            go_wp2_with fail
            refine HC.out.mono ?_
            rintro e T4 ⟨rfl, hB⟩
            replace HU := hide (HU.out.below H hB)
            replace HXA := hide (HXA.out.belowI hB)
            have hXn := box_new T4 (nmA N) 47
            have hAn := alloc_below9 T4 (.cells (nmA N) 47)
            obtain ⟨T5, ht5⟩ : ∃ T5, T5 = T4.alloc (.cells (nmA N) 47) := ⟨_, rfl⟩
            rw [← ht5] at hXn hAn
            have hT5 := ht5.symm
            have HXN := hide hXn
            replace HU := hide (HU.out.below H hAn)
            clear hB HC hXn hAn ht5 HXA
            go_wp2_with fail
            refine (HCR.out _ HU.out.rr).mono ?_
            rintro e T6 ⟨rfl, hB⟩
            replace HU := hide (HU.out.below H hB)
            replace HXN := hide (HXN.out.belowI hB)
            have hXm := box_new T6 (nmA N) 34
            have hAm := alloc_below9 T6 (.cells (nmA N) 34)
            obtain ⟨T7, ht7⟩ : ∃ T7, T7 = T6.alloc (.cells (nmA N) 34) := ⟨_, rfl⟩
            rw [← ht7] at hXm hAm
            have hT7 := ht7.symm
            have HXM := hide hXm
            replace HU := hide (HU.out.below H hAm)
            replace HXN := hide (HXN.out.belowI hAm)
            clear hB HCR hXm hAm ht7 hT5
            go_wp2_with fail
            obtain ⟨ar, cr, hvr, _⟩ := HU.out.rr.src.shape
            have HVR := hide hvr
            obtain ⟨ll, hll⟩ : ∃ ll, ll = cc.l.length := ⟨_, rfl⟩
            have HLL := hide hll
            have SS : Hid (∀ Z, Below T7.heap.size T7 Z → (Z.cell? ⟨T4.heap.size, 0, none⟩ = some (.int .u8 N.1) ∧ Z.cell? ⟨T4.heap.size, 1, none⟩ = some (.int .u8 N.2.1) ∧ Z.cell? ⟨T4.heap.size, 2, none⟩ = some (.int .u32 N.2.2.1) ∧ Z.cell? ⟨T4.heap.size, 3, none⟩ = some (.int .u32 N.2.2.2) ∧ Z.cell? ⟨T6.heap.size, 0, none⟩ = some (.int .u8 N.1) ∧ Z.cell? ⟨T6.heap.size, 1, none⟩ = some (.int .u8 N.2.1) ∧ Z.cell? ⟨T6.heap.size, 2, none⟩ = some (.int .u32 N.2.2.1) ∧ Z.cell? ⟨T6.heap.size, 3, none⟩ = some (.int .u32 N.2.2.2) ∧ Z.cell? ⟨p, 0, none⟩ = some (.int .u32 (cc.now : Int)) ∧ Z.cell? ⟨p, 1, none⟩ = some (.slice ar ll cr))) := hide (fun Z hB => by
              have hb1 := HXN.out.belowI hB
              have hb2 := HXM.out.belowI hB
              have hr := (HU.out.rr.below hB).at
              rw [HVR.out, ← HLL.out] at hr
              exact ⟨hb1.cell 0 _ rfl, hb1.cell 1 _ rfl, hb1.cell 2 _ rfl, hb1.cell 3 _ rfl, hb2.cell 0 _ rfl, hb2.cell 1 _ rfl, hb2.cell 2 _ rfl, hb2.cell 3 _ rfl, hr.1, hr.2⟩)
            have ss0 := SS.out T7 (Below.refl _ _)
            have HCUR : Hid (Below T7.heap.size T7 T7.drew) := hide (Below.refl _ _).drew
            have hqn := fun W => neq_cname N N W
            have hqq : (!decide (N = N)) = false := by simp
            rw [hqq] at hqn
            have CLEN := hide (fun Z (hB : Below T7.heap.size T7 Z) => H.len (H.below HU.out.dd hB))
            rw [← hll] at CLEN
            clear hvr hll hqq hT7
            go_region_held (fun w' => w'.cell? ⟨T4.heap.size, 0, none⟩ = some (.int .u8 N.1) ∧ w'.cell? ⟨T4.heap.size, 1, none⟩ = some (.int .u8 N.2.1) ∧ w'.cell? ⟨T4.heap.size, 2, none⟩ = some (.int .u32 N.2.2.1) ∧ w'.cell? ⟨T4.heap.size, 3, none⟩ = some (.int .u32 N.2.2.2) ∧ w'.cell? ⟨T6.heap.size, 0, none⟩ = some (.int .u8 N.1) ∧ w'.cell? ⟨T6.heap.size, 1, none⟩ = some (.int .u8 N.2.1) ∧ w'.cell? ⟨T6.heap.size, 2, none⟩ = some (.int .u32 N.2.2.1) ∧ w'.cell? ⟨T6.heap.size, 3, none⟩ = some (.int .u32 N.2.2.2) ∧ w'.cell? ⟨p, 0, none⟩ = some (.int .u32 (cc.now : Int)) ∧ w'.cell? ⟨p, 1, none⟩ = some (.slice ar ll cr)) (go_keep) (first
              | (go_at_call 16; refine (theirs_any N _).mono ?_; rintro e Y1 ⟨rfl, hB⟩; replace HCUR := hide (HCUR.out.trans (hB.mono HCUR.out.size)); have ss := SS.out Y1 HCUR.out; clear hB)
              | (go_at_call 24; refine (H.now (H.below HU.out.dd HCUR.out)).mono ?_; rintro e Y2 ⟨rfl, m, hw⟩; have hB : Below _ _ Y2 := hw ▸ below_drewN9 _ m; replace HCUR := hide (HCUR.out.trans (hB.mono HCUR.out.size)); have ss := SS.out Y2 HCUR.out; clear hB hw)
              | (go_at_call 25; refine (CLEN.out _ HCUR.out).mono ?_; rintro e Y3 ⟨rfl, m, hw⟩; have hB : Below _ _ Y3 := hw ▸ below_drewN9 _ m; replace HCUR := hide (HCUR.out.trans (hB.mono HCUR.out.size)); have ss := SS.out Y3 HCUR.out; clear hB hw))
            all_goals go_wp2_with fail
            all_goals go_roundg g
            all_goals first
              | omega
              | exact ⟨k + 1, cc, _, vbb, by omega, by first | rfl | go_num, hide (HU.out.below H HCUR.out)⟩
        · have d2 : (r == 2) = false := by simp [h2]
          clear hr h1 h2
          have ss0 : _ ∧ _ ∧ _ ∧ _ ∧ _ := ⟨HXA.out.cell 1 _ rfl, HXA.out.cell 2 _ rfl, HXA.out.cell 3 _ rfl, HXA.out.cell 4 _ rfl, HXA.out.cell 5 _ rfl⟩
          go_wp2_with fail
          replace HU := hide (HU.out.below H (Below.refl wa.heap.size wa).drew)
          replace HXA := hide (HXA.out.belowI (Below.refl wa.heap.size wa).drew)
          have HNP : Hid (wr.heap.size ≠ p) := hide (by have := HFL.out.2; omega)
          clear k0
          go_region_held (fun w' => w'.cell? ⟨wr.heap.size, 1, none⟩ = some (.int .u8 a.2.1.1) ∧ w'.cell? ⟨wr.heap.size, 2, none⟩ = some (.int .u8 a.2.1.2.1) ∧ w'.cell? ⟨wr.heap.size, 3, none⟩ = some (.int .u32 a.2.1.2.2.1) ∧ w'.cell? ⟨wr.heap.size, 4, none⟩ = some (.int .u32 a.2.1.2.2.2) ∧ w'.cell? ⟨wr.heap.size, 5, none⟩ = some (.int .u32 a.2.2)) (go_keep) (first
            | (go_at_call 16; refine (theirs_any a.2.1 _).mono ?_; rintro e Z1 ⟨rfl, hB⟩; replace HU := hide (HU.out.below H hB); replace HXA := hide (HXA.out.belowI hB); have ss : _ ∧ _ ∧ _ ∧ _ ∧ _ := ⟨HXA.out.cell 1 _ rfl, HXA.out.cell 2 _ rfl, HXA.out.cell 3 _ rfl, HXA.out.cell 4 _ rfl, HXA.out.cell 5 _ rfl⟩; clear hB)
            | (go_at_call 18; refine (H.set a.2.1 a.2.2 HU.out.dd HOA.out.2.1 HOA.out.2.2.1 HOA.out.2.2.2).mono ?_; rintro e Z2 ⟨rfl, h5⟩; replace HXA := hide (HXA.out.keep (by obtain ⟨F', _, hk5, _⟩ := h5; exact hk5) (fun hf => by have := HFL.out.1 _ hf; omega)); obtain ⟨F5, hU5⟩ := HU.out.prog h5; replace HU := hide hU5; have ss : _ ∧ _ ∧ _ ∧ _ ∧ _ := ⟨HXA.out.cell 1 _ rfl, HXA.out.cell 2 _ rfl, HXA.out.cell 3 _ rfl, HXA.out.cell 4 _ rfl, HXA.out.cell 5 _ rfl⟩; clear h5 hU5)
            | (go_at_call 19; refine (rset9_any p vb c a.2.1 a.2.2 _ HU.out.rr HOA.out.2.1 HOA.out.2.2.1 HOA.out.2.2.2).mono ?_; rintro e Z3 ⟨rfl, h6⟩; replace HXA := hide (HXA.out.keep (by obtain ⟨_, _, hk6, _⟩ := h6; exact hk6) (fun e => HNP.out e)); obtain ⟨vbb, hU6⟩ := HU.out.ref H h6; replace HU := hide hU6; have ss : _ ∧ _ ∧ _ ∧ _ ∧ _ := ⟨HXA.out.cell 1 _ rfl, HXA.out.cell 2 _ rfl, HXA.out.cell 3 _ rfl, HXA.out.cell 4 _ rfl, HXA.out.cell 5 _ rfl⟩; clear h6 hU6))
          all_goals
            obtain ⟨cc, hcc⟩ : ∃ cc, cc = setD c a.2.1 a.2.2 := ⟨_, rfl⟩
            rw [← hcc] at HU
            generalize setA c a.2.1 a.2.2 = sA0 at *
            clear hcc ss
            clear ss0
            have k1 := HXA.out.cell 1 _ rfl
            have k2 := HXA.out.cell 2 _ rfl
            have k3 := HXA.out.cell 3 _ rfl
            have k4 := HXA.out.cell 4 _ rfl
            have k5 := HXA.out.cell 5 _ rfl
            go_wp2_with fail
            refine (theirs_any a.2.1 _).mono ?_
            rintro e T1 ⟨rfl, hB⟩
            replace HU := hide (HU.out.below H hB)
            replace HXA := hide (HXA.out.belowI hB)
            clear k1 k2 k3 k4 k5
            clear hB
            have HC := hide (H.unt a.2.1 HU.out.dd HOA.out.2.1)
            have HCR := hide (fun W (h : RCk W p vbb cc) => runtil_any p vbb cc a.2.1 W h)
            generalize cc.atOf a.2.1 = x1 at HC HCR
            generalize cc.has a.2.1 = b1 at HC HCR
            go_wp2_with fail
            refine HC.out.mono ?_
            rintro e T2 ⟨rfl, hB⟩
            replace HU := hide (HU.out.below H hB)
            replace HXA := hide (HXA.out.belowI hB)
            clear hB HC
            have k1 := HXA.out.cell 1 _ rfl
            have k2 := HXA.out.cell 2 _ rfl
            have k3 := HXA.out.cell 3 _ rfl
            have k4 := HXA.out.cell 4 _ rfl
            have k5 := HXA.out.cell 5 _ rfl
            go_wp2_with fail
            refine (HCR.out _ HU.out.rr).mono ?_
            rintro e T3 ⟨rfl, hB⟩
            replace HU := hide (HU.out.below H hB)
            replace HXA := hide (HXA.out.belowI hB)
            clear hB HCR
            clear k1 k2 k3 k4 k5
            have HC := hide (H.next HU.out.dd)
            have HCR := hide (fun W (h : RCk W p vbb cc) => rnext9_any p vbb cc W h)
            generalize cc.nextN = N at HC HCR
            generalize cc.nextT = x2 at HC HCR
            generalize cc.any = b2 at HC HCR
            go_wp2_with fail
            refine HC.out.mono ?_
            rintro e T4 ⟨rfl, hB⟩
            replace HU := hide (HU.out.below H hB)
            replace HXA := hide (HXA.out.belowI hB)
            have hXn := box_new T4 (nmA N) 47
            have hAn := alloc_below9 T4 (.cells (nmA N) 47)
            obtain ⟨T5, ht5⟩ : ∃ T5, T5 = T4.alloc (.cells (nmA N) 47) := ⟨_, rfl⟩
            rw [← ht5] at hXn hAn
            have hT5 := ht5.symm
            have HXN := hide hXn
            replace HU := hide (HU.out.below H hAn)
            clear hB HC hXn hAn ht5 HXA
            go_wp2_with fail
            refine (HCR.out _ HU.out.rr).mono ?_
            rintro e T6 ⟨rfl, hB⟩
            replace HU := hide (HU.out.below H hB)
            replace HXN := hide (HXN.out.belowI hB)
            have hXm := box_new T6 (nmA N) 34
            have hAm := alloc_below9 T6 (.cells (nmA N) 34)
            obtain ⟨T7, ht7⟩ : ∃ T7, T7 = T6.alloc (.cells (nmA N) 34) := ⟨_, rfl⟩
            rw [← ht7] at hXm hAm
            have hT7 := ht7.symm
            have HXM := hide hXm
            replace HU := hide (HU.out.below H hAm)
            replace HXN := hide (HXN.out.belowI hAm)
            clear hB HCR hXm hAm ht7 hT5
            go_wp2_with fail
            obtain ⟨ar, cr, hvr, _⟩ := HU.out.rr.src.shape
            have HVR := hide hvr
            obtain ⟨ll, hll⟩ : ∃ ll, ll = cc.l.length := ⟨_, rfl⟩
            have HLL := hide hll
            have SS : Hid (∀ Z, Below T7.heap.size T7 Z → (Z.cell? ⟨T4.heap.size, 0, none⟩ = some (.int .u8 N.1) ∧ Z.cell? ⟨T4.heap.size, 1, none⟩ = some (.int .u8 N.2.1) ∧ Z.cell? ⟨T4.heap.size, 2, none⟩ = some (.int .u32 N.2.2.1) ∧ Z.cell? ⟨T4.heap.size, 3, none⟩ = some (.int .u32 N.2.2.2) ∧ Z.cell? ⟨T6.heap.size, 0, none⟩ = some (.int .u8 N.1) ∧ Z.cell? ⟨T6.heap.size, 1, none⟩ = some (.int .u8 N.2.1) ∧ Z.cell? ⟨T6.heap.size, 2, none⟩ = some (.int .u32 N.2.2.1) ∧ Z.cell? ⟨T6.heap.size, 3, none⟩ = some (.int .u32 N.2.2.2) ∧ Z.cell? ⟨p, 0, none⟩ = some (.int .u32 (cc.now : Int)) ∧ Z.cell? ⟨p, 1, none⟩ = some (.slice ar ll cr))) := hide (fun Z hB => by
              have hb1 := HXN.out.belowI hB
              have hb2 := HXM.out.belowI hB
              have hr := (HU.out.rr.below hB).at
              rw [HVR.out, ← HLL.out] at hr
              exact ⟨hb1.cell 0 _ rfl, hb1.cell 1 _ rfl, hb1.cell 2 _ rfl, hb1.cell 3 _ rfl, hb2.cell 0 _ rfl, hb2.cell 1 _ rfl, hb2.cell 2 _ rfl, hb2.cell 3 _ rfl, hr.1, hr.2⟩)
            have ss0 := SS.out T7 (Below.refl _ _)
            have HCUR : Hid (Below T7.heap.size T7 T7.drew) := hide (Below.refl _ _).drew
            have hqn := fun W => neq_cname N N W
            have hqq : (!decide (N = N)) = false := by simp
            rw [hqq] at hqn
            have CLEN := hide (fun Z (hB : Below T7.heap.size T7 Z) => H.len (H.below HU.out.dd hB))
            rw [← hll] at CLEN
            clear hvr hll hqq hT7
            go_region_held (fun w' => w'.cell? ⟨T4.heap.size, 0, none⟩ = some (.int .u8 N.1) ∧ w'.cell? ⟨T4.heap.size, 1, none⟩ = some (.int .u8 N.2.1) ∧ w'.cell? ⟨T4.heap.size, 2, none⟩ = some (.int .u32 N.2.2.1) ∧ w'.cell? ⟨T4.heap.size, 3, none⟩ = some (.int .u32 N.2.2.2) ∧ w'.cell? ⟨T6.heap.size, 0, none⟩ = some (.int .u8 N.1) ∧ w'.cell? ⟨T6.heap.size, 1, none⟩ = some (.int .u8 N.2.1) ∧ w'.cell? ⟨T6.heap.size, 2, none⟩ = some (.int .u32 N.2.2.1) ∧ w'.cell? ⟨T6.heap.size, 3, none⟩ = some (.int .u32 N.2.2.2) ∧ w'.cell? ⟨p, 0, none⟩ = some (.int .u32 (cc.now : Int)) ∧ w'.cell? ⟨p, 1, none⟩ = some (.slice ar ll cr)) (go_keep) (first
              | (go_at_call 16; refine (theirs_any N _).mono ?_; rintro e Y1 ⟨rfl, hB⟩; replace HCUR := hide (HCUR.out.trans (hB.mono HCUR.out.size)); have ss := SS.out Y1 HCUR.out; clear hB)
              | (go_at_call 24; refine (H.now (H.below HU.out.dd HCUR.out)).mono ?_; rintro e Y2 ⟨rfl, m, hw⟩; have hB : Below _ _ Y2 := hw ▸ below_drewN9 _ m; replace HCUR := hide (HCUR.out.trans (hB.mono HCUR.out.size)); have ss := SS.out Y2 HCUR.out; clear hB hw)
              | (go_at_call 25; refine (CLEN.out _ HCUR.out).mono ?_; rintro e Y3 ⟨rfl, m, hw⟩; have hB : Below _ _ Y3 := hw ▸ below_drewN9 _ m; replace HCUR := hide (HCUR.out.trans (hB.mono HCUR.out.size)); have ss := SS.out Y3 HCUR.out; clear hB hw))
            all_goals go_wp2_with fail
            all_goals go_roundg g
            all_goals first
              | omega
              | exact ⟨k + 1, cc, _, vbb, by omega, by first | rfl | go_num, hide (HU.out.below H HCUR.out)⟩
end
end Go.Proofs.Ytgjdlclkibiffaa
