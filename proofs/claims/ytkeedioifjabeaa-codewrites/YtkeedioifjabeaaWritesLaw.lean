/-
  Proved: whatever fields come, the program's writer and the reference's have written the same bytes behind them (a list that is cut to 200 fields; fields that are too long are passed by, as the law says). For every input of the form's own reach. Own work.
-/
import Derived.Test.YtkeedioifjabeaaFieldsOpen
import Derived.Test.YtkeedioifjabeaaAlive3
import Derived.Test.YtkeedioifjabeaaBulk
import Derived.Deep.RegionHeld
namespace Go.Proofs.Ytkeedioifjabeaa
open Go.ChangeShapes Go.WideShapes Go.ChangeAt Go.RowKit

theorem both_new (w1 : World) : Both (cwOf w1.heap.size) ((w1.alloc (.cells #[.slice none 0 0] 27)).alloc (.cells #[.slice none 0 0] 29)) (cwF w1.heap.size (.slice none 0 0)) (w1.heap.size + 1) (.slice none 0 0) [] := by
  have hb := boxes_two w1 #[.slice none 0 0] #[.slice none 0 0] 27 29
  refine ⟨⟨.slice none 0 0, ⟨hb.1, World.ownsRow_nil _ _ _ _⟩, fun _ => Iff.rfl⟩, ⟨hb.2, World.ownsRow_nil _ _ _ _⟩, fun k hk => ⟨?_, fun e => by cases e⟩⟩
  rcases hk with e | e
  · omega
  · cases e
namespace writes
set_option maxRecDepth 100000 in
set_option maxHeartbeats 3200000 in
theorem walkN (v : Value) (fs : List Fld) (W : World) (h : FLies W v fs) (hok : ∀ f ∈ fs, f.ok) (hR : ∀ f ∈ fs, f.s.size ≤ 140737488351232) :
    Calls Try.prog 3 #[v] W fun e w' => e = .returned (.bool true) ∧ Below W.heap.size W w' := by
  have CL := hide (flong_any v fs W h hok)
  obtain ⟨ao, cap, rfl, hcap, hmax⟩ := h.shape
  have CS := hide (fun w => short_any' ao fs.length cap w hcap (by unfold maxLen at hmax; omega))
  have HF := hide (h.take (Nat.min_le_left fs.length 200))
  have hm : (fs.take (min fs.length 200)) = fs.take 200 := by
    rw [Nat.min_comm]; exact (List.take_eq_take_min).symm
  rw [hm] at HF
  have HO : Hid (∀ f ∈ fs.take 200, f.ok) := hide (fun f hf => hok f (List.mem_of_mem_take hf))
  have HR : Hid (∀ f ∈ fs.take 200, f.s.size ≤ 140737488351232) := hide (fun f hf => hR f (List.mem_of_mem_take hf))
  have hlen : Hid ((fs.take 200).length = min fs.length 200) := hide (by simp [Nat.min_comm])
  have hml : min fs.length 200 ≤ 200 := Nat.min_le_right _ _
  clear h hok hR hm hmax hcap
  generalize min fs.length 200 = m at *
  generalize fs.take 200 = gs at *
  by_cases hT : 65536 < ((total gs : Nat) : Int)
  · have hd : decide (65536 < ((total gs : Nat) : Int)) = true := by simpa using hT
    rw [hd] at CL
    clear hd CS HF HO HR hlen hml hT
    go_enter Try.func3, Try.ntmps3
    go_wp2_with fail
    refine CL.out.mono ?_
    rintro e w1 ⟨rfl, hB1⟩
    have HB1 := hide hB1
    clear hB1 CL
    go_wp2_with fail
    refine (alive_any w1).mono ?_
    rintro e w2 ⟨rfl, hB2⟩
    have HB2 := hide hB2
    clear hB2
    go_wp2_with fail
    go_ret
    exact ⟨rfl, HB1.out.trans (HB2.out.mono HB1.out.size)⟩
  · have hd : decide (65536 < ((total gs : Nat) : Int)) = false := by simpa using hT
    rw [hd] at CL
    have HT : Hid (total gs ≤ 65536) := hide (by omega)
    have HRM := hide (fun k hk => room_at 140737488351232 (by decide) (by decide) gs (by rw [hlen.out]; exact hml) HO.out HT.out HR.out k hk)
    have HRE := hide (room_end 140737488351232 (by decide) gs (by rw [hlen.out]; exact hml) HO.out HT.out HR.out)
    clear hd hT HR HT
    go_enter Try.func3, Try.ntmps3
    go_wp2_with fail
    refine CL.out.mono ?_
    rintro e w1 ⟨rfl, hB1⟩
    have HB1 := hide hB1
    clear hB1 CL
    go_wp2_with fail
    have hA : Hid (Both (cwOf w1.heap.size) ((w1.alloc (.cells #[.slice none 0 0] 27)).alloc (.cells #[.slice none 0 0] 29)) (cwF w1.heap.size (.slice none 0 0)) (w1.heap.size + 1) (.slice none 0 0) []) := hide (both_new w1)
    have hB2 : Hid (Below W.heap.size W ((w1.alloc (.cells #[.slice none 0 0] 27)).alloc (.cells #[.slice none 0 0] 29))) := hide ((HB1.out.alloc HB1.out.size _).alloc (Nat.le_trans HB1.out.size (by simp)) _)
    have hs1 := hide HB1.out.size
    have hpn : Hid (W.heap.size ≤ w1.heap.size + 1) := hide (by have := HB1.out.size; omega)
    have hF0 : Hid (∀ k, cwF w1.heap.size (.slice none 0 0) k → W.heap.size ≤ k) := hide (fun k hk => by
      rcases hk with e | e
      · rw [e]; exact hs1.out
      · cases e)
    refine (CS.out _).mono ?_
    rintro e w2 ⟨rfl, hw⟩
    rw [hw]
    clear hw CS HB1
    generalize (w1.alloc (.cells #[.slice none 0 0] 27)).alloc (.cells #[.slice none 0 0] 29) = W0 at *
    generalize cwF w1.heap.size (.slice none 0 0) = F0 at *
    generalize w1.heap.size + 1 = p at *
    generalize w1.heap.size = pc at *
    go_wp2_with fail
    go_loopw [13] (fun i wr => ∃ (k : Nat) (F : Nat → Prop) (v' : Value), k ≤ gs.length ∧ i = .int .i64 k ∧ Hid (Both (cwOf pc) wr F p v' (allB (gs.take k))) ∧ Hid (Below W.heap.size W wr) ∧ Hid (∀ k, F k → W.heap.size ≤ k) ∧ Hid (∀ g, v'.ownBlock = some g → W.heap.size ≤ g)) (fun i _ => gs.length - (intOf i).toNat)
    case atStart => exact ⟨0, F0, .slice none 0 0, by omega, rfl, hA, hB2, hF0, hide (fun g hg => by cases hg)⟩
    case round =>
      obtain ⟨k, F, v', hk, rfl, HA, HB, HFF, HV⟩ := hrel
      have hlm := hlen.out
      by_cases hlt : k < gs.length
      · rcases HF.out with ⟨e, _⟩ | ⟨hne, b, off, cap', e, hb, hl, hm2, hc⟩
        · rw [e] at hlt; simp at hlt
        · cases e
          have c0 := (HB.out.cell (p := ⟨b, off + k * 4 + 0, none⟩) hb).trans (hc k hlt 0 (by decide))
          have c1 := (HB.out.cell (p := ⟨b, off + k * 4 + 1, none⟩) hb).trans (hc k hlt 1 (by decide))
          have c2 := (HB.out.cell (p := ⟨b, off + k * 4 + 2, none⟩) hb).trans (hc k hlt 2 (by decide))
          have c3 := (HB.out.cell (p := ⟨b, off + k * 4 + 3, none⟩) hb).trans (hc k hlt 3 (by decide))
          have HN := hide (allB_snoc gs k hlt)
          have hroom := hide (HRM.out k hlt)
          have hfo := hide (HO.out (gs.getD k fld0) (by simp [List.getD, hlt]))
          have CW1 := hide (fun w' (h' : Both (cwOf pc) w' F p v' (allB (gs.take k))) => write_any (cwOf pc) (gs.getD k fld0) hfo.out w' F p v' (allB (gs.take k)) h' hroom.out)
          generalize gs.getD k fld0 = f at *
          obtain ⟨kd, nn, st, mo⟩ := f
          simp only [fcells, List.getElem?_toArray, List.getElem?_cons_zero, List.getElem?_cons_succ, Nat.add_zero] at c0 c1 c2 c3
          simp only [fcells] at CW1
          have HA1 := hide (HA.out.alloc (.cells #[.int .u8 (kd : Nat), .int .u64 (nn : Nat), .string st, .int .i64 mo] 33))
          have hk200 : k ≤ 200 := by omega
          clear hc hl hm2 hne hfo hroom HF
          go_wp2_with fail
          refine (CW1.out _ HA1.out).mono ?_
          rintro e w3 ⟨rfl, F', v3, hA3, hK3, hF3, hV3⟩
          have HA3 := hide hA3
          rw [← HN.out] at HA3
          have HB3 := hide ((HB.out.alloc HB.out.size (.cells #[.int .u8 (kd : Nat), .int .u64 (nn : Nat), .string st, .int .i64 mo] 33)).trans (hK3.below (Nat.le_trans HB.out.size (by simp)) (fun k hk => by
            rcases hk with e | e | e
            · exact HFF.out k e
            · rw [e]; exact hpn.out
            · exact HV.out k e)))
          have HF3 : Hid (∀ k, F' k → W.heap.size ≤ k) := hide (fun k hk => (hF3 k hk).elim (HFF.out k) (fun h => Nat.le_trans (Nat.le_trans HB.out.size (by simp)) h))
          have HV3 : Hid (∀ g, v3.ownBlock = some g → W.heap.size ≤ g) := hide (fun g hg => (hV3 g hg).elim (HV.out g) (fun h => Nat.le_trans (Nat.le_trans HB.out.size (by simp)) h))
          clear hA3 hK3 hF3 hV3 CW1 HA1 c0 c1 c2 c3
          go_wp2_with fail
          go_roundw
          case rel => exact ⟨k + 1, F', v3, by omega, by go_num, HA3, HB3, HF3, HV3⟩
          case measure => simp [intOf]; omega
      · have HE : Hid (gs.take k = gs) := hide (List.take_of_length_le (by omega))
        rw [HE.out] at HA
        have hr := HRE.out
        obtain ⟨vc, hcw, _⟩ := HA.out.c
        have HCW := hide (hcw.below (Below.refl _ _).drew)
        have hcell := HA.out.r.box.cell 0 _ rfl
        have HRW := hide (Lies.of_own HA.out.r.own)
        obtain ⟨ar, cr, hvr⟩ := (Lies.of_own HA.out.r.own).shape
        have CBY := hide (fun w' (h' : CW w' pc vc (allB gs)) => cwbytes_any pc vc (allB gs) w' h' (by omega))
        have CSM := hide (fun w' (v1 v2 : Value) (h1 : Lies .u8 w' v1 (allB gs)) (h2 : Lies .u8 w' v2 (allB gs)) => same_any v1 v2 (allB gs) w' h1 h2)
        subst hvr
        have hlm2 : decide ((k : Int) < (m : Int)) = false := by simp; omega
        have hgm : k = m := by omega
        generalize (allB gs).length = N at *
        clear hcw HF HO HRM HE
        subst hgm
        have hplt := HA.out.r.box.lt
        go_wp2_with fail
        go_region_held (fun w' => w'.cell? ⟨p, 0, none⟩ = some (.slice ar N cr)) (go_keep) (first
          | (go_at_call 13; refine (CBY.out _ HCW.out).mono ?_; rintro e w5 ⟨v5, rfl, ho5, hB5⟩; have HL5 := hide (Lies.of_own ho5); have hc5 := (hB5.cell (p := ⟨p, 0, none⟩) hplt).trans hcell; have HR5 := hide ((HRW.out.below (Below.refl _ _).drew).below hB5); have HB5 := hide (HB.out.trans ((Below.refl _ wr).drew.trans (hB5.mono (Nat.le_refl _)) |>.mono HB.out.size)); have hplt5 := Nat.lt_of_lt_of_le hplt hB5.size; clear ho5 hB5)
          | (go_at_call 12; refine (CSM.out _ _ _ HL5.out HR5.out).mono ?_; rintro e w6 ⟨rfl, hw6⟩; subst hw6)
          | (go_at_call 9; refine (alive_any _).mono ?_; rintro e w7 ⟨rfl, hB7⟩; have hc7 := (hB7.cell (p := ⟨p, 0, none⟩) hplt5).trans hc5; have HB7 := hide (HB5.out.trans (hB7.mono HB5.out.size)); clear hB7))
        go_wp2_with fail
        go_ret
        exact ⟨rfl, HB7.out⟩
end writes
namespace writes
set_option maxRecDepth 100000 in
theorem lifted (os : Os) (started : os.Started) (H : Type) (enc : TypeId × Value → H) :
    ReturnsInHanded {} Try.checked os 3 .any (Rows.codeWritesSpec.pre6 enc Try.prog Try.f3 Rows.codeWritesRow.domain false) (Rows.codeWritesSpec.post enc Try.prog Try.f3 false true false false) := by
  refine returnsInHanded_of_change_sized (C := Try.checked) own started (by kernel_rfl) Try.func3
    (ChangeSpec.witness6 (enc := enc) (C := Try.checked) false ⟨#[], #[.slice none 0 0], []⟩ 8 (by kernel_rfl) (by kernel_rfl) (by kernel_rfl) (by kernel_rfl)) ?_
  intro W base args ds gs before hval0 hW hcnd hsz _
  have hval : ∀ (j : Nat) t v, Try.f3.params[j]? = some t → args[j]? = some v → Value.okWide Try.prog W .any base t v := hval0
  have hW' := hW
  obtain ⟨p, q, hA0, hV, rfl, hfz, hnd⟩ := hW
  have hA : DataW.TrodAll enc Try.prog W 0 (fun _ => true) true Try.f3.params.toList args.toList ds p := hA0
  have hsz2 : ∀ (j : Nat) (t : TypeId) (d : DataW H), Try.f3.params.toList[j]? = some t → ds[j]? = some d → ∀ n ∈ d.weights Try.prog t, n ≤ 140737488351232 := fun j t d ht hd n hn => by
    have h1 := List.all_eq_true.1 hsz n (DataW.weights_mem_each (j := j) (t := t) (d := d) (by rw [List.getElem?_append_left (List.getElem?_eq_some_iff.1 ht).1]; exact ht) (by rw [List.getElem?_append_left (List.getElem?_eq_some_iff.1 hd).1]; exact hd) n hn)
    have h2 : n ≤ reachBytes := by simpa using h1
    have h3 : reachBytes = 140737488351232 := rfl
    omega
  rw [Try.params3] at hA hval hsz2
  obtain ⟨v0, vs0, d0, ds0, p0, q0, hargs, rfl, rfl, h0, r0⟩ := trodAll_cons hA
  obtain ⟨rfl, rfl, rfl⟩ := trodAll_nil r0
  obtain rfl : args = #[v0] := by cases args; simp_all
  obtain ⟨rfl, rfl⟩ := trodVars_none hV
  obtain ⟨a0, len0, cap0, rfl⟩ := okWide_slice Try.underlying22 (hval 0 22 v0 rfl rfl)
  have k0 := h0
  have lt0 : ∀ x ∈ p0, x.block < W.heap.size := by obtain ⟨m, hm⟩ := k0; exact DataW.trod_lt m _ _ _ hm
  obtain ⟨fs0, lies0, by0, wt0⟩ := flies_of_trod h0
  have sz0 : ∀ f ∈ fs0, f.s.size ≤ 140737488351232 := fun f hf => hsz2 0 22 d0 rfl rfl _ (wt0 f hf)
  clear hA0 hval0
  refine (writes.walkN _ fs0 W lies0 by0 sz0).mono fun e W' ⟨he, bel⟩ => ?_
  subst he
  exact ⟨_, rfl, _, _, _, [], _, [], hW', trodAll_mk1 (shut_bool Try.underlying4 _), (trodAll_cons_mk (Below.trod laidOut (by kernel_rfl) (of_decide_eq_true (by kernel_rfl)) k0 bel lt0) trodAll_mk0), rfl, bel.frame _, fun h => by cases h⟩

theorem over : Rows.codeWritesRow.holds Try.pinned (OpenSpec.ofChange Rows.codeWritesSpec) :=
  OpenClaim.holds_of_wide 3 Try.f3 rfl rfl rfl rfl rfl rfl rfl ⟨rfl, rfl, rfl, rfl, rfl⟩ rfl rfl rfl rfl rfl (by kernel_rfl) Try.func3 (by kernel_rfl)
    (of_decide_eq_true (by kernel_rfl)) (by unfold Func.isWrapper; first | (rw [if_pos (by decide +kernel)]; kernel_rfl) | (rw [if_neg (by decide +kernel)]; exact ⟨rfl, rfl⟩))
    (fun os started H enc _ => lifted os started H enc)
end writes

/-- THE STATEMENT. -/
theorem codeWrites_holds : Rows.CodeWritesSaid := writes.over
#print axioms codeWrites_holds
end Go.Proofs.Ytkeedioifjabeaa
