/-
  ClockNext: Next is what rings first, and never is it of the past. Over any clock that fulfils the bundle. Own work.
-/
import Derived.Test.YtgjdlclkibiffaaCkLaw
import Derived.BigQuiet
import Derived.Deep.RegionHeld
import Derived.Deep.LoopGhost
namespace Go.Proofs.Ytgjdlclkibiffaa
open Go.RowKit

section
variable {D : World → Nat → (Nat → Prop) → Ck → Prop}
theorem next_cases (c : Ck) (h : c.Ok) (hnow : c.now < 2147483647) : (c.l = [] ∧ c.any = false ∧ c.nextN = nilN ∧ c.nextT = 0 ∧ tickL c = []) ∨
    (∃ t rest, c.l = t :: rest ∧ c.any = true ∧ c.nextN = t.1 ∧ c.nextT = t.2 ∧ (c.now : Int) < t.2 ∧ t.2 ≤ 2147483647 ∧ nmOk t.1 ∧ ((t.2 = (c.now : Int) + 1 ∧ ∃ more, tickL c = t.1 :: more) ∨ (t.2 ≠ (c.now : Int) + 1 ∧ tickL c = []))) := by
  obtain ⟨now, l⟩ := c
  cases l with
  | nil => exact .inl ⟨rfl, rfl, rfl, rfl, by unfold tickL; split <;> rfl⟩
  | cons t rest =>
    have h1 := h.at' t List.mem_cons_self
    refine .inr ⟨t, rest, rfl, by simp [Ck.any], rfl, rfl, h1.1, h1.2, h.ok t List.mem_cons_self, ?_⟩
    unfold tickL
    rw [if_neg (by omega), List.takeWhile_cons]
    by_cases e : t.2 = ((⟨now, t :: rest⟩ : Ck).now : Int) + 1
    · refine .inl ⟨e, (rest.takeWhile (ringB ⟨now, t :: rest⟩)).map Prod.fst, ?_⟩
      rw [if_pos (by simp [ringB, e])]
      rfl
    · refine .inr ⟨e, ?_⟩
      rw [if_neg (by simp [ringB, e])]
      rfl
theorem tickA_zero {c : Ck} (h : c.now < 2147483647) : tickA c = 0 := by unfold tickA; rw [if_neg (by omega)]
set_option maxRecDepth 100000 in
set_option maxHeartbeats 6400000 in
theorem walkX9 (H : ClockDo D) (v : Value) (fs : List KaP) (w : World) (hL : RSrc kaE w v fs) (hok : ∀ f ∈ fs, kaOk f) :
    Calls Try.prog 5 #[v] w fun e w' => e = .returned (.bool true) ∧ Below w.heap.size w w' := by
  obtain ⟨ao, cap, rfl, hcap, hcm⟩ := hL.shape
  unfold maxLen at hcm
  have HL := hide hL
  have HOK : Hid (∀ f ∈ fs.take 150, kaOk f) := hide (fun f hf => hok f (List.mem_of_mem_take hf))
  clear hL hok
  go_enter Try.func5, Try.ntmps5
  go_wp2_with fail
  refine (H.new w).mono ?_
  rintro e W1 ⟨q, F, rfl, hD1, hF1, hB1⟩
  have HS : Hid (Since9 D w q newC W1 F) := hide ⟨hD1, hF1, hB1⟩
  have heq := fun W => eq_ptr9 W ⟨q, 0, none⟩
  clear hD1 hF1 hB1
  have CS := hide (short_any9 _ fs W1 w HL.out)
  go_wp2_with fail
  refine CS.out.mono ?_
  rintro e W1' ⟨v2, rfl, rfl, hL2⟩
  obtain ⟨ts, hts⟩ : ∃ ts, ts = fs.take 150 := ⟨_, rfl⟩
  rw [← hts] at hL2 HOK
  have htl : ts.length ≤ 150 := by rw [hts, List.length_take]; omega
  obtain ⟨a2, c2, hv2, _⟩ := hL2.shape
  subst hv2
  have HL2 := hide hL2
  have HS0 := HS
  clear hts hL2 CS HS
  go_wp2_with fail
  go_loopg [18] ts.length (fun g i wr => ∃ (k : Nat) (c : Ck) (F : Nat → Prop), k + g = ts.length ∧ i = .int .i64 k ∧ Hid (Since9 D w q c wr F) ∧ c.now ≤ k)
  case atStart => exact ⟨0, newC, F, by omega, rfl, HS0, Nat.le_refl _⟩
  case round =>
    obtain ⟨k, c, F, hk, rfl, HS, hnk⟩ := hrel
    clear HS0
    cases gk with
    | zero =>
      have hz : ¬ ((k : Int) < (ts.length : Int)) := by omega
      go_wp2_with fail
      refine (alive_by9 H _).mono ?_
      rintro e W9 ⟨rfl, hB⟩
      replace HS := hide (HS.out.below H hB)
      clear hB
      go_wp2_with fail
      go_ret
      exact ⟨rfl, HS.out.bb⟩
    | succ g =>
      have hz : (k : Int) < (ts.length : Int) := by omega
      have hkt : k < ts.length := by omega
      obtain ⟨_, b, off, hao, hb, hcl⟩ := (HL2.out.below HS.out.bb).at recKA.len hkt
      cases hao
      have r0 := hcl 0 _ rfl
      have r1 := hcl 1 _ rfl
      have r2 := hcl 2 _ rfl
      have r3 := hcl 3 _ rfl
      have r4 := hcl 4 _ rfl
      have r5 := hcl 5 _ rfl
      rw [Nat.add_zero] at r0
      have hoa := HOK.out ts[k] (List.getElem_mem _)
      generalize ts[k] = a at *
      have HOA := hide hoa
      have hXa := box_new wr (kaA a) 36
      have hAa := alloc_below9 wr (.cells (kaA a) 36)
      obtain ⟨wa, hwa⟩ : ∃ wa, wa = wr.alloc (.cells (kaA a) 36) := ⟨_, rfl⟩
      rw [← hwa] at hXa hAa
      have hWa := hwa.symm
      have HFL := hide (H.lt HS.out.dd)
      replace HS := hide (HS.out.below H hAa)
      have HXA := hide hXa
      have HWS : Hid (wr.heap.size < wa.heap.size) := hide hXa.lt
      clear hcl hb hoa hXa hAa hwa
      have hnow : c.now < 2147483647 := by omega
      have HN := hide (next_cases c (H.ok HS.out.dd) hnow)
      have HCN := hide (H.next HS.out.dd)
      rcases HN.out with ⟨hl, hany, hnn, hnt, htk⟩ | ⟨t, rest, hl, hany, hnn, hnt, hlt, hmx, hot, hring⟩
      · rw [hany, hnn, hnt] at HCN
        have HXA0 := HXA
        have HBA : Hid (Below wa.heap.size wa wa) := hide (Below.refl _ _)
        go_wp2_with fail
        refine HCN.out.mono ?_
        rintro e W2 ⟨rfl, hB2⟩
        have hXn := box_new W2 (nmA nilN) 47
        have hAn := alloc_below9 W2 (.cells (nmA nilN) 47)
        obtain ⟨W3, hw3⟩ : ∃ W3, W3 = W2.alloc (.cells (nmA nilN) 47) := ⟨_, rfl⟩
        rw [← hw3] at hXn hAn
        have hW3 := hw3.symm
        have hB23 := hB2.trans (hAn.mono hB2.size)
        replace HS := hide (HS.out.below H hB23)
        replace HBA := hide (HBA.out.trans (hB23.mono HBA.out.size))
        have HXN := hide hXn
        have HWN : Hid (wr.heap.size < W2.heap.size) := hide (Nat.lt_of_lt_of_le HWS.out hB2.size)
        have C := H.len HS.out.dd
        rw [hl] at C
        have HC := hide C
        clear C hB2 hXn hAn hw3 hB23 HCN r0 r1 r2 r3 r4 r5
        go_wp2_with fail
        refine HC.out.mono ?_
        rintro e W4 ⟨rfl, m4, hw4⟩
        have hB4 : Below W3.heap.size W3 W4 := hw4 ▸ below_drewN9 W3 m4
        replace HS := hide (HS.out.below H hB4)
        replace HBA := hide (HBA.out.trans (hB4.mono HBA.out.size))
        replace HXN := hide (HXN.out.belowI hB4)
        clear hw4 hB4 HC hW3
        have hak := HOA.out.1
        have hrem : a.1.tmod 4 = a.1 % 4 := Int.tmod_eq_emod_of_nonneg hak.1
        obtain ⟨r, hr⟩ : ∃ r, r = a.1 % 4 := ⟨_, rfl⟩
        rw [← hr] at hrem
        have k0 := (HXA0.out.belowI HBA.out).cell 0 _ rfl
        by_cases h1 : r = 1
        · subst h1
          clear hr
          have HC := hide (H.now HS.out.dd)
          go_wp2_with fail
          refine HC.out.mono ?_
          rintro e W6 ⟨rfl, m6, hw6⟩
          have hB6 : Below W4.heap.size W4 W6 := hw6 ▸ below_drewN9 W4 m6
          replace HS := hide (HS.out.below H hB6)
          replace HXN := hide (HXN.out.belowI hB6)
          have C := H.tick HS.out.dd
          rw [tickA_zero hnow, htk] at C
          have HC2 := hide C
          clear hw6 hB6 HC C k0
          go_wp2_with fail
          refine HC2.out.mono ?_
          rintro e W7 ⟨v7, rfl, h7, hL7, _⟩
          replace HXN := hide (HXN.out.keep (by obtain ⟨F', _, hk7, _⟩ := h7; exact hk7) (fun hf => by have := HFL.out _ hf; have := HWN.out; omega))
          obtain ⟨F7, hS7⟩ := HS.out.did h7
          replace HS := hide hS7
          obtain ⟨a7, c7, hv7, _⟩ := hL7.shape
          subst hv7
          have HNOW : Hid (∀ n, Calls Try.prog 24 #[.pointer (some ⟨q, 0, none⟩)] (W7.drewN n) fun e w' => e = .returned (.int .u32 ((c.now : Int) + 1)) ∧ ∃ m, w' = (W7.drewN n).drewN m) := hide (fun n => by
            have := H.now (H.below HS.out.dd (below_drewN9 W7 n))
            rw [tick_now hnow, show ((c.now + 1 : Nat) : Int) = (c.now : Int) + 1 by omega] at this
            exact this)
          have hwr : IntKind.u32.wrap ((c.now : Int) + 1) = (c.now : Int) + 1 := by rw [IntKind.wrap_u32]; omega
          have n0 := HXN.out.cell 0 _ rfl
          have n1 := HXN.out.cell 1 _ rfl
          have n2 := HXN.out.cell 2 _ rfl
          have n3 := HXN.out.cell 3 _ rfl
          clear hL7
          clear h7 hS7 HC2
          go_wp2_with fail
          go_quiet ((go_at_call 24; exact Calls.quiet_of (HNOW.out _)))
          go_wp2_with fail
          go_roundg g
          case measure => omega
          case rel => exact ⟨k + 1, tickD c, F7, by omega, by first | rfl | go_num, hide (HS.out.below H (below_drewN9 _ _)), by rw [tick_now hnow]; omega⟩
        · have d2 : (r != 1) = true := by simp [h1]
          clear hr h1
          go_wp2_with fail
          have SS : Hid (∀ Z, Below wa.heap.size wa Z → (Z.cell? ⟨wr.heap.size, 1, none⟩ = some (.int .u8 a.2.1.1) ∧ Z.cell? ⟨wr.heap.size, 2, none⟩ = some (.int .u8 a.2.1.2.1) ∧ Z.cell? ⟨wr.heap.size, 3, none⟩ = some (.int .u32 a.2.1.2.2.1) ∧ Z.cell? ⟨wr.heap.size, 4, none⟩ = some (.int .u32 a.2.1.2.2.2) ∧ Z.cell? ⟨wr.heap.size, 5, none⟩ = some (.int .u32 a.2.2))) := hide (fun Z hB => by
            have hb3 := HXA0.out.belowI hB
            exact ⟨hb3.cell 1 _ rfl, hb3.cell 2 _ rfl, hb3.cell 3 _ rfl, hb3.cell 4 _ rfl, hb3.cell 5 _ rfl⟩)
          have ss0 := SS.out W4 HBA.out
          replace HS := hide (HS.out.below H (Below.refl W4.heap.size W4).drew)
          replace HBA := hide (HBA.out.trans ((Below.refl W4.heap.size W4).drew.mono HBA.out.size))
          go_region_held (fun w' => w'.cell? ⟨wr.heap.size, 1, none⟩ = some (.int .u8 a.2.1.1) ∧ w'.cell? ⟨wr.heap.size, 2, none⟩ = some (.int .u8 a.2.1.2.1) ∧ w'.cell? ⟨wr.heap.size, 3, none⟩ = some (.int .u32 a.2.1.2.2.1) ∧ w'.cell? ⟨wr.heap.size, 4, none⟩ = some (.int .u32 a.2.1.2.2.2) ∧ w'.cell? ⟨wr.heap.size, 5, none⟩ = some (.int .u32 a.2.2)) (go_keep) (first
            | (go_at_call 16; refine (theirs_any a.2.1 _).mono ?_; rintro e Z1 ⟨rfl, hB⟩; replace HS := hide (HS.out.below H hB); replace HBA := hide (HBA.out.trans (hB.mono HBA.out.size)); have ss := SS.out Z1 HBA.out; clear hB)
            | (go_at_call 18; refine (H.set a.2.1 a.2.2 HS.out.dd HOA.out.2.1 HOA.out.2.2.1 HOA.out.2.2.2).mono ?_; rintro e Z2 ⟨rfl, h5⟩; have hx5 : Box Z2 wr.heap.size (kaA a) 36 := (by obtain ⟨F', _, hk5, _⟩ := h5; exact (HXA0.out.belowI HBA.out).keep hk5 (fun hf => by have := HFL.out _ hf; omega)); obtain ⟨F5, hS5⟩ := HS.out.did h5; replace HS := hide hS5; have ss : _ ∧ _ ∧ _ ∧ _ ∧ _ := ⟨hx5.cell 1 _ rfl, hx5.cell 2 _ rfl, hx5.cell 3 _ rfl, hx5.cell 4 _ rfl, hx5.cell 5 _ rfl⟩; clear h5 hS5 hx5))
          go_wp2_with fail
          go_roundg g
          case measure => omega
          case rel => exact ⟨k + 1, _, F5, by omega, by first | rfl | go_num, HS, by rw [set_now]; omega⟩
      · rcases hring with ⟨he, more, htk⟩ | ⟨he, htk⟩
        · have HE := hide he
          clear he
          rw [hany, hnn, hnt] at HCN
          have HXA0 := HXA
          have HBA : Hid (Below wa.heap.size wa wa) := hide (Below.refl _ _)
          go_wp2_with fail
          refine HCN.out.mono ?_
          rintro e W2 ⟨rfl, hB2⟩
          have hXn := box_new W2 (nmA t.1) 47
          have hAn := alloc_below9 W2 (.cells (nmA t.1) 47)
          obtain ⟨W3, hw3⟩ : ∃ W3, W3 = W2.alloc (.cells (nmA t.1) 47) := ⟨_, rfl⟩
          rw [← hw3] at hXn hAn
          have hW3 := hw3.symm
          have hB23 := hB2.trans (hAn.mono hB2.size)
          replace HS := hide (HS.out.below H hB23)
          replace HBA := hide (HBA.out.trans (hB23.mono HBA.out.size))
          have HXN := hide hXn
          have HWN : Hid (wr.heap.size < W2.heap.size) := hide (Nat.lt_of_lt_of_le HWS.out hB2.size)
          have C := H.len HS.out.dd
          rw [hl] at C
          have HC := hide C
          clear C hB2 hXn hAn hw3 hB23 HCN r0 r1 r2 r3 r4 r5
          go_wp2_with fail
          refine HC.out.mono ?_
          rintro e W4 ⟨rfl, m4, hw4⟩
          have hB4 : Below W3.heap.size W3 W4 := hw4 ▸ below_drewN9 W3 m4
          replace HS := hide (HS.out.below H hB4)
          replace HBA := hide (HBA.out.trans (hB4.mono HBA.out.size))
          replace HXN := hide (HXN.out.belowI hB4)
          clear hw4 hB4 HC hW3
          have hlen : ((t :: rest).length : Int) > 0 := by simp
          have d0 : decide (((t :: rest).length : Int) > 0) = true := decide_eq_true hlen
          generalize (t :: rest).length = ll at *
          have d1 : decide (t.2 ≤ (c.now : Int)) = false := decide_eq_false (by omega)
          have HC := hide (H.now HS.out.dd)
          go_wp2_with fail
          refine HC.out.mono ?_
          rintro e W5 ⟨rfl, m5, hw5⟩
          have hB5 : Below W4.heap.size W4 W5 := hw5 ▸ below_drewN9 W4 m5
          replace HS := hide (HS.out.below H hB5)
          replace HBA := hide (HBA.out.trans (hB5.mono HBA.out.size))
          replace HXN := hide (HXN.out.belowI hB5)
          clear hw5 hB5 HC
          have hak := HOA.out.1
          have hrem : a.1.tmod 4 = a.1 % 4 := Int.tmod_eq_emod_of_nonneg hak.1
          obtain ⟨r, hr⟩ : ∃ r, r = a.1 % 4 := ⟨_, rfl⟩
          rw [← hr] at hrem
          have k0 := (HXA0.out.belowI HBA.out).cell 0 _ rfl
          by_cases h1 : r = 1
          · subst h1
            clear hr
            have HC := hide (H.now HS.out.dd)
            go_wp2_with fail
            refine HC.out.mono ?_
            rintro e W6 ⟨rfl, m6, hw6⟩
            have hB6 : Below W5.heap.size W5 W6 := hw6 ▸ below_drewN9 W5 m6
            replace HS := hide (HS.out.below H hB6)
            replace HXN := hide (HXN.out.belowI hB6)
            have C := H.tick HS.out.dd
            rw [tickA_zero hnow, htk] at C
            have HC2 := hide C
            clear hw6 hB6 HC C k0
            go_wp2_with fail
            refine HC2.out.mono ?_
            rintro e W7 ⟨v7, rfl, h7, hL7, _⟩
            replace HXN := hide (HXN.out.keep (by obtain ⟨F', _, hk7, _⟩ := h7; exact hk7) (fun hf => by have := HFL.out _ hf; have := HWN.out; omega))
            obtain ⟨F7, hS7⟩ := HS.out.did h7
            replace HS := hide hS7
            obtain ⟨a7, c7, hv7, _⟩ := hL7.shape
            subst hv7
            have HNOW : Hid (∀ n, Calls Try.prog 24 #[.pointer (some ⟨q, 0, none⟩)] (W7.drewN n) fun e w' => e = .returned (.int .u32 ((c.now : Int) + 1)) ∧ ∃ m, w' = (W7.drewN n).drewN m) := hide (fun n => by
              have := H.now (H.below HS.out.dd (below_drewN9 W7 n))
              rw [tick_now hnow, show ((c.now + 1 : Nat) : Int) = (c.now : Int) + 1 by omega] at this
              exact this)
            have hwr : IntKind.u32.wrap ((c.now : Int) + 1) = (c.now : Int) + 1 := by rw [IntKind.wrap_u32]; omega
            have n0 := HXN.out.cell 0 _ rfl
            have n1 := HXN.out.cell 1 _ rfl
            have n2 := HXN.out.cell 2 _ rfl
            have n3 := HXN.out.cell 3 _ rfl
            obtain ⟨_, b7, o7, hao7, _, hc7⟩ := hL7.at recCN.len (i := 0) (by simp)
            cases hao7
            have s0 := hc7 0 _ rfl
            have s1 := hc7 1 _ rfl
            have s2 := hc7 2 _ rfl
            have s3 := hc7 3 _ rfl
            simp only [Nat.zero_mul, Nat.add_zero, List.getElem_cons_zero] at s0 s1 s2 s3
            have hq := fun W => neq_cname t.1 t.1 W
            have hqq : (!decide (t.1 = t.1)) = false := by simp
            rw [hqq] at hq
            have dl : decide (0 < (t.1 :: more).length) = true := by simp
            have hl7 : 0 < (t.1 :: more).length := by simp
            have hml : (t.1 :: more).length ≤ 9223372036854775807 := by obtain ⟨_, _, _, hx, hy, _⟩ := hL7; unfold maxLen at hy; omega
            generalize (t.1 :: more).length = l7 at *
            have de : (t.2 == (c.now : Int) + 1) = true := by simp [HE.out]
            clear hc7 hL7 hqq
            clear h7 hS7 HC2
            go_wp2_with fail
            go_quiet ((go_at_call 24; exact Calls.quiet_of (HNOW.out _)))
            go_wp2_with fail
            go_roundg g
            case measure => omega
            case rel => exact ⟨k + 1, tickD c, F7, by omega, by first | rfl | go_num, hide (HS.out.below H (below_drewN9 _ _)), by rw [tick_now hnow]; omega⟩
          · have d2 : (r != 1) = true := by simp [h1]
            clear hr h1
            go_wp2_with fail
            have SS : Hid (∀ Z, Below wa.heap.size wa Z → (Z.cell? ⟨wr.heap.size, 1, none⟩ = some (.int .u8 a.2.1.1) ∧ Z.cell? ⟨wr.heap.size, 2, none⟩ = some (.int .u8 a.2.1.2.1) ∧ Z.cell? ⟨wr.heap.size, 3, none⟩ = some (.int .u32 a.2.1.2.2.1) ∧ Z.cell? ⟨wr.heap.size, 4, none⟩ = some (.int .u32 a.2.1.2.2.2) ∧ Z.cell? ⟨wr.heap.size, 5, none⟩ = some (.int .u32 a.2.2))) := hide (fun Z hB => by
              have hb3 := HXA0.out.belowI hB
              exact ⟨hb3.cell 1 _ rfl, hb3.cell 2 _ rfl, hb3.cell 3 _ rfl, hb3.cell 4 _ rfl, hb3.cell 5 _ rfl⟩)
            have ss0 := SS.out W5 HBA.out
            replace HS := hide (HS.out.below H (Below.refl W5.heap.size W5).drew)
            replace HBA := hide (HBA.out.trans ((Below.refl W5.heap.size W5).drew.mono HBA.out.size))
            go_region_held (fun w' => w'.cell? ⟨wr.heap.size, 1, none⟩ = some (.int .u8 a.2.1.1) ∧ w'.cell? ⟨wr.heap.size, 2, none⟩ = some (.int .u8 a.2.1.2.1) ∧ w'.cell? ⟨wr.heap.size, 3, none⟩ = some (.int .u32 a.2.1.2.2.1) ∧ w'.cell? ⟨wr.heap.size, 4, none⟩ = some (.int .u32 a.2.1.2.2.2) ∧ w'.cell? ⟨wr.heap.size, 5, none⟩ = some (.int .u32 a.2.2)) (go_keep) (first
              | (go_at_call 16; refine (theirs_any a.2.1 _).mono ?_; rintro e Z1 ⟨rfl, hB⟩; replace HS := hide (HS.out.below H hB); replace HBA := hide (HBA.out.trans (hB.mono HBA.out.size)); have ss := SS.out Z1 HBA.out; clear hB)
              | (go_at_call 18; refine (H.set a.2.1 a.2.2 HS.out.dd HOA.out.2.1 HOA.out.2.2.1 HOA.out.2.2.2).mono ?_; rintro e Z2 ⟨rfl, h5⟩; have hx5 : Box Z2 wr.heap.size (kaA a) 36 := (by obtain ⟨F', _, hk5, _⟩ := h5; exact (HXA0.out.belowI HBA.out).keep hk5 (fun hf => by have := HFL.out _ hf; omega)); obtain ⟨F5, hS5⟩ := HS.out.did h5; replace HS := hide hS5; have ss : _ ∧ _ ∧ _ ∧ _ ∧ _ := ⟨hx5.cell 1 _ rfl, hx5.cell 2 _ rfl, hx5.cell 3 _ rfl, hx5.cell 4 _ rfl, hx5.cell 5 _ rfl⟩; clear h5 hS5 hx5))
            go_wp2_with fail
            go_roundg g
            case measure => omega
            case rel => exact ⟨k + 1, _, F5, by omega, by first | rfl | go_num, HS, by rw [set_now]; omega⟩
        · have HE := hide he
          clear he
          rw [hany, hnn, hnt] at HCN
          have HXA0 := HXA
          have HBA : Hid (Below wa.heap.size wa wa) := hide (Below.refl _ _)
          go_wp2_with fail
          refine HCN.out.mono ?_
          rintro e W2 ⟨rfl, hB2⟩
          have hXn := box_new W2 (nmA t.1) 47
          have hAn := alloc_below9 W2 (.cells (nmA t.1) 47)
          obtain ⟨W3, hw3⟩ : ∃ W3, W3 = W2.alloc (.cells (nmA t.1) 47) := ⟨_, rfl⟩
          rw [← hw3] at hXn hAn
          have hW3 := hw3.symm
          have hB23 := hB2.trans (hAn.mono hB2.size)
          replace HS := hide (HS.out.below H hB23)
          replace HBA := hide (HBA.out.trans (hB23.mono HBA.out.size))
          have HXN := hide hXn
          have HWN : Hid (wr.heap.size < W2.heap.size) := hide (Nat.lt_of_lt_of_le HWS.out hB2.size)
          have C := H.len HS.out.dd
          rw [hl] at C
          have HC := hide C
          clear C hB2 hXn hAn hw3 hB23 HCN r0 r1 r2 r3 r4 r5
          go_wp2_with fail
          refine HC.out.mono ?_
          rintro e W4 ⟨rfl, m4, hw4⟩
          have hB4 : Below W3.heap.size W3 W4 := hw4 ▸ below_drewN9 W3 m4
          replace HS := hide (HS.out.below H hB4)
          replace HBA := hide (HBA.out.trans (hB4.mono HBA.out.size))
          replace HXN := hide (HXN.out.belowI hB4)
          clear hw4 hB4 HC hW3
          have hlen : ((t :: rest).length : Int) > 0 := by simp
          have d0 : decide (((t :: rest).length : Int) > 0) = true := decide_eq_true hlen
          generalize (t :: rest).length = ll at *
          have d1 : decide (t.2 ≤ (c.now : Int)) = false := decide_eq_false (by omega)
          have HC := hide (H.now HS.out.dd)
          go_wp2_with fail
          refine HC.out.mono ?_
          rintro e W5 ⟨rfl, m5, hw5⟩
          have hB5 : Below W4.heap.size W4 W5 := hw5 ▸ below_drewN9 W4 m5
          replace HS := hide (HS.out.below H hB5)
          replace HBA := hide (HBA.out.trans (hB5.mono HBA.out.size))
          replace HXN := hide (HXN.out.belowI hB5)
          clear hw5 hB5 HC
          have hak := HOA.out.1
          have hrem : a.1.tmod 4 = a.1 % 4 := Int.tmod_eq_emod_of_nonneg hak.1
          obtain ⟨r, hr⟩ : ∃ r, r = a.1 % 4 := ⟨_, rfl⟩
          rw [← hr] at hrem
          have k0 := (HXA0.out.belowI HBA.out).cell 0 _ rfl
          by_cases h1 : r = 1
          · subst h1
            clear hr
            have HC := hide (H.now HS.out.dd)
            go_wp2_with fail
            refine HC.out.mono ?_
            rintro e W6 ⟨rfl, m6, hw6⟩
            have hB6 : Below W5.heap.size W5 W6 := hw6 ▸ below_drewN9 W5 m6
            replace HS := hide (HS.out.below H hB6)
            replace HXN := hide (HXN.out.belowI hB6)
            have C := H.tick HS.out.dd
            rw [tickA_zero hnow, htk] at C
            have HC2 := hide C
            clear hw6 hB6 HC C k0
            go_wp2_with fail
            refine HC2.out.mono ?_
            rintro e W7 ⟨v7, rfl, h7, hL7, _⟩
            replace HXN := hide (HXN.out.keep (by obtain ⟨F', _, hk7, _⟩ := h7; exact hk7) (fun hf => by have := HFL.out _ hf; have := HWN.out; omega))
            obtain ⟨F7, hS7⟩ := HS.out.did h7
            replace HS := hide hS7
            obtain ⟨a7, c7, hv7, _⟩ := hL7.shape
            subst hv7
            have HNOW : Hid (∀ n, Calls Try.prog 24 #[.pointer (some ⟨q, 0, none⟩)] (W7.drewN n) fun e w' => e = .returned (.int .u32 ((c.now : Int) + 1)) ∧ ∃ m, w' = (W7.drewN n).drewN m) := hide (fun n => by
              have := H.now (H.below HS.out.dd (below_drewN9 W7 n))
              rw [tick_now hnow, show ((c.now + 1 : Nat) : Int) = (c.now : Int) + 1 by omega] at this
              exact this)
            have hwr : IntKind.u32.wrap ((c.now : Int) + 1) = (c.now : Int) + 1 := by rw [IntKind.wrap_u32]; omega
            have n0 := HXN.out.cell 0 _ rfl
            have n1 := HXN.out.cell 1 _ rfl
            have n2 := HXN.out.cell 2 _ rfl
            have n3 := HXN.out.cell 3 _ rfl
            have de : (t.2 == (c.now : Int) + 1) = false := by simp [HE.out]
            clear hL7
            clear h7 hS7 HC2
            go_wp2_with fail
            go_quiet ((go_at_call 24; exact Calls.quiet_of (HNOW.out _)))
            go_wp2_with fail
            go_roundg g
            case measure => omega
            case rel => exact ⟨k + 1, tickD c, F7, by omega, by first | rfl | go_num, hide (HS.out.below H (below_drewN9 _ _)), by rw [tick_now hnow]; omega⟩
          · have d2 : (r != 1) = true := by simp [h1]
            clear hr h1
            go_wp2_with fail
            have SS : Hid (∀ Z, Below wa.heap.size wa Z → (Z.cell? ⟨wr.heap.size, 1, none⟩ = some (.int .u8 a.2.1.1) ∧ Z.cell? ⟨wr.heap.size, 2, none⟩ = some (.int .u8 a.2.1.2.1) ∧ Z.cell? ⟨wr.heap.size, 3, none⟩ = some (.int .u32 a.2.1.2.2.1) ∧ Z.cell? ⟨wr.heap.size, 4, none⟩ = some (.int .u32 a.2.1.2.2.2) ∧ Z.cell? ⟨wr.heap.size, 5, none⟩ = some (.int .u32 a.2.2))) := hide (fun Z hB => by
              have hb3 := HXA0.out.belowI hB
              exact ⟨hb3.cell 1 _ rfl, hb3.cell 2 _ rfl, hb3.cell 3 _ rfl, hb3.cell 4 _ rfl, hb3.cell 5 _ rfl⟩)
            have ss0 := SS.out W5 HBA.out
            replace HS := hide (HS.out.below H (Below.refl W5.heap.size W5).drew)
            replace HBA := hide (HBA.out.trans ((Below.refl W5.heap.size W5).drew.mono HBA.out.size))
            go_region_held (fun w' => w'.cell? ⟨wr.heap.size, 1, none⟩ = some (.int .u8 a.2.1.1) ∧ w'.cell? ⟨wr.heap.size, 2, none⟩ = some (.int .u8 a.2.1.2.1) ∧ w'.cell? ⟨wr.heap.size, 3, none⟩ = some (.int .u32 a.2.1.2.2.1) ∧ w'.cell? ⟨wr.heap.size, 4, none⟩ = some (.int .u32 a.2.1.2.2.2) ∧ w'.cell? ⟨wr.heap.size, 5, none⟩ = some (.int .u32 a.2.2)) (go_keep) (first
              | (go_at_call 16; refine (theirs_any a.2.1 _).mono ?_; rintro e Z1 ⟨rfl, hB⟩; replace HS := hide (HS.out.below H hB); replace HBA := hide (HBA.out.trans (hB.mono HBA.out.size)); have ss := SS.out Z1 HBA.out; clear hB)
              | (go_at_call 18; refine (H.set a.2.1 a.2.2 HS.out.dd HOA.out.2.1 HOA.out.2.2.1 HOA.out.2.2.2).mono ?_; rintro e Z2 ⟨rfl, h5⟩; have hx5 : Box Z2 wr.heap.size (kaA a) 36 := (by obtain ⟨F', _, hk5, _⟩ := h5; exact (HXA0.out.belowI HBA.out).keep hk5 (fun hf => by have := HFL.out _ hf; omega)); obtain ⟨F5, hS5⟩ := HS.out.did h5; replace HS := hide hS5; have ss : _ ∧ _ ∧ _ ∧ _ ∧ _ := ⟨hx5.cell 1 _ rfl, hx5.cell 2 _ rfl, hx5.cell 3 _ rfl, hx5.cell 4 _ rfl, hx5.cell 5 _ rfl⟩; clear h5 hS5 hx5))
            go_wp2_with fail
            go_roundg g
            case measure => omega
            case rel => exact ⟨k + 1, _, F5, by omega, by first | rfl | go_num, HS, by rw [set_now]; omega⟩
end
end Go.Proofs.Ytgjdlclkibiffaa
