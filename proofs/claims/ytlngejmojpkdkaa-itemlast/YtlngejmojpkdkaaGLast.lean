/-
  Proved: of items of unlike versions the newest is there at last, in whatever order they came: into two tables of the program the items of any versions are installed at any key, in the one's order and in the other's; at last both have the newest; a key that may not be is refused. For every input of the form's own reach (more than 50 versions are passed by, as the law says). Own work.
-/
import Derived.Test.YtlngejmojpkdkaaG20
import Derived.Test.YtlngejmojpkdkaaG19
import Derived.Deep.LoopGhost
import Derived.Deep.RegionHeld
import Derived.BigQuiet
import Derived.SizedLaws
import Derived.ChangeArms
namespace Go.Proofs.Ytlngejmojpkdkaa
section
open Go.RowKit Classical

theorem box_eightL {W : World} {q : Nat} {k : List Int} {t : TypeId} (h : Box W q (eightA k) t) : W.cell? ⟨q, 0, none⟩ = some (.int .u8 (at8 k 0)) ∧ W.cell? ⟨q, 1, none⟩ = some (.int .u8 (at8 k 1)) ∧ W.cell? ⟨q, 2, none⟩ = some (.int .u8 (at8 k 2)) ∧ W.cell? ⟨q, 3, none⟩ = some (.int .u8 (at8 k 3)) ∧ W.cell? ⟨q, 4, none⟩ = some (.int .u8 (at8 k 4)) ∧ W.cell? ⟨q, 5, none⟩ = some (.int .u8 (at8 k 5)) ∧ W.cell? ⟨q, 6, none⟩ = some (.int .u8 (at8 k 6)) ∧ W.cell? ⟨q, 7, none⟩ = some (.int .u8 (at8 k 7)) :=
  ⟨h.cell 0 _ rfl, h.cell 1 _ rfl, h.cell 2 _ rfl, h.cell 3 _ rfl, h.cell 4 _ rfl, h.cell 5 _ rfl, h.cell 6 _ rfl, h.cell 7 _ rfl⟩
theorem str_new13 (W : World) (c : Int) : (convert 52 9 (.slice (some ⟨W.heap.size, 0, none⟩) 1 1)).run Try.prog ((W.alloc (.cells #[.int .u8 c] 5)).drew) = .ok (.string (strOfNums [c])) ((W.alloc (.cells #[.int .u8 c] 5)).drew) := by
  refine Lies.convert (.inr ⟨by simp, W.heap.size, 0, 1, rfl, by simp [World.drew], by simp, by unfold maxLen; omega, fun t ht => ?_⟩)
  have h0 : t = 0 := by simpa using ht
  subst h0
  exact (box_new W #[.int .u8 c] 5).cell 0 _ rfl
section
variable {D : World → Nat → (Nat → Prop) → List WrP → Prop}
set_option maxRecDepth 100000 in
set_option maxHeartbeats 12800000 in
theorem walkL13 (H : TableDo D) (v : Value) (ns : List Nat) (k : List Int) (w : World) (hL : Lies .u8 w v (ns.map fun n : Nat => (n : Int))) (hns : ∀ n ∈ ns, n < 256) (hk : KeyOk k) :
    Calls Try.prog 6 #[v, .agg (eightA k)] w fun e w' => e = .returned (.bool true) ∧ Below w.heap.size w w' := by
  obtain ⟨ao, cap, rfl⟩ := hL.shape
  rw [List.length_map]
  have HL := hide hL
  have HNS := hide hns
  have HK := hide hk
  have HA := hide (fun w => alive_by13 H w)
  obtain ⟨N, hN⟩ : ∃ N, N = ns.length := ⟨_, rfl⟩
  have HN := hide hN
  rw [List.length_map, ← hN] at HL
  rw [← hN]
  have HWB := hide (alloc_below13 w (.cells (eightA k) 31))
  have HXK := hide (box_new w (eightA k) 31)
  clear hL hns hk hN
  by_cases hl : 50 < N
  · have d1 : decide ((N : Int) > 50) = true := decide_eq_true (by omega)
    have d2 : (50 : Int) < (N : Int) := by omega
    go_enter Try.func6, Try.ntmps6
    go_wp2_with fail
    refine (HA.out _).mono ?_
    rintro e w1 ⟨rfl, hB⟩
    have HB := hide (HWB.out.trans (hB.mono HWB.out.size))
    clear hB
    go_wp2_with fail
    go_ret
    exact ⟨rfl, HB.out⟩
  · have d1 : decide ((N : Int) > 50) = false := decide_eq_false (by omega)
    have d2 : ¬ (50 : Int) < (N : Int) := by omega
    go_enter Try.func6, Try.ntmps6
    go_wp2_with fail
    obtain ⟨wK, hwK⟩ : ∃ wK, wK = w.alloc (.cells (eightA k) 31) := ⟨_, rfl⟩
    rw [← hwK] at HWB HXK ⊢
    obtain ⟨bk, hbk⟩ : ∃ bk, bk = w.heap.size := ⟨_, rfl⟩
    rw [← hbk] at HXK ⊢
    have HBK := hide hbk
    clear hwK hbk
    refine (H.new wK).mono ?_
    rintro e w1 ⟨qa, F1, rfl, hD1, hF1, hB1⟩
    have HD1 := hide hD1
    have HF1 := hide hF1
    have HB1 := hide hB1
    clear hD1 hF1 hB1
    go_wp2_with fail
    refine (H.new w1).mono ?_
    rintro e w2 ⟨qb, F2, rfl, hD2, hF2, hB2⟩
    have HT : Hid (Two13 D wK qa qb F1 F2 [] [] w2) := hide ⟨H.below HD1.out hB2, hD2, HF1.out, fun j hj => Nat.le_trans HB1.out.size (hF2 j hj), fun j hf hg => by have h1 := H.lt HD1.out j hf; have h2 := hF2 j hg; omega, HB1.out.trans (hB2.mono HB1.out.size)⟩
    clear hD2 hF2 hB2 HD1 HF1 HB1
    have HX2 : Hid (∀ W, Below wK.heap.size wK W → Box W bk (eightA k) 31) := hide (fun W hB => HXK.out.belowI hB)
    have C0 : Hid (∀ W, Calls Try.prog 23 #[.int .u32 0, .string ⟨#[]⟩] W fun e w' => e = .returned (.agg (itA (oneI 0 []))) ∧ Below W.heap.size W w') := hide (fun W => one_any13 0 [] W)
    obtain ⟨I0, hI0⟩ : ∃ I0 : Value, I0 = .agg (itA (oneI 0 [])) := ⟨_, rfl⟩
    rw [← hI0] at C0
    have CI : Hid (∀ W q F t, D W q F t → Calls Try.prog 12 #[.pointer (some ⟨q, 0, none⟩), .agg (eightA k), I0] W fun e w' => e = .returned (.int .i64 (insA t k (oneI 0 []))) ∧ TDid D W w' q F (insD t k (oneI 0 []))) := hide (fun W q F t hD => by rw [hI0]; exact H.ins k (oneI 0 []) hD HK.out (one_ok 0 [] (by decide) (by decide)) (by decide))
    clear hI0
    obtain ⟨z0, z1, z2, z3, z4, z5, z6, z7⟩ := box_eightL (HX2.out w2 HT.out.B)
    go_wp2_with fail
    by_cases hm : (nameF k).2 = true
    · have hA0 := ins_none (j := oneI 0 []) hm (one_may 0 [] (by decide) (by decide))
      have CI1 := CI.out
      have HM := hide hm
      have CJ : Hid (∀ W q F, D W q F [] → Calls Try.prog 12 #[.pointer (some ⟨q, 0, none⟩), .agg (eightA k), I0] W fun e w' => e = .returned (.int .i64 0) ∧ TDid D W w' q F [⟨k, faI []⟩]) := hide (fun W q F hD => by have h := CI1 W q F [] hD; rw [hA0.1, hA0.2] at h; exact h)
      clear CI CI1 hA0 hm
      first | (go_region_held (fun W => W.cell? ⟨bk, 0, none⟩ = some (.int .u8 (at8 k 0)) ∧ W.cell? ⟨bk, 1, none⟩ = some (.int .u8 (at8 k 1)) ∧ W.cell? ⟨bk, 2, none⟩ = some (.int .u8 (at8 k 2)) ∧ W.cell? ⟨bk, 3, none⟩ = some (.int .u8 (at8 k 3)) ∧ W.cell? ⟨bk, 4, none⟩ = some (.int .u8 (at8 k 4)) ∧ W.cell? ⟨bk, 5, none⟩ = some (.int .u8 (at8 k 5)) ∧ W.cell? ⟨bk, 6, none⟩ = some (.int .u8 (at8 k 6)) ∧ W.cell? ⟨bk, 7, none⟩ = some (.int .u8 (at8 k 7))) (go_keep) (first
        | (go_at_call 23; refine (C0.out _).mono ?_; rintro e w3 ⟨rfl, hB3⟩; have HT3 := hide (HT.out.below H ((below_drew13 w2).trans hB3)); obtain ⟨y0, y1, y2, y3, y4, y5, y6, y7⟩ := box_eightL (HX2.out w3 HT3.out.B); clear hB3)
        | (go_at_call 12; refine (CJ.out _ _ _ HT3.out.a).mono ?_; rintro e w4 ⟨rfl, hd4⟩; obtain ⟨F4, hT4⟩ := HT3.out.did H hd4; have HT4 := hide hT4; obtain ⟨x0, x1, x2, x3, x4, x5, x6, x7⟩ := box_eightL (HX2.out w4 HT4.out.B); clear hd4 hT4))) | fail
      clear y0 y1 y2 y3 y4 y5 y6 y7 z0 z1 z2 z3 z4 z5 z6 z7 x0 x1 x2 x3 x4 x5 x6 x7 HT3 HT C0 CJ
      have CO : Hid (∀ (n : Nat) W, Calls Try.prog 23 #[.int .u32 (n : Int), .string (strOfNums [(n : Int)])] W fun e w' => e = .returned (.agg (itA (obI n))) ∧ Below W.heap.size W w') := hide (fun n W => one_any13 n [(n : Int)] W)
      have CI : Hid (∀ (n : Nat) W q F t, n < 256 → D W q F t → Calls Try.prog 12 #[.pointer (some ⟨q, 0, none⟩), .agg (eightA k), .agg (itA (obI n))] W fun e w' => e = .returned (.int .i64 (insA t k (obI n))) ∧ TDid D W w' q F (insD t k (obI n))) := hide (fun n W q F t hn hD => H.ins k (obI n) hD HK.out (obI_ok n hn) (show (1 : Nat) ≤ _ by decide))
      go_wp2_with fail
      go_loopg [7, 47] N (fun g tp ix wr => ∃ (j : Nat) (Fa Fb : Nat → Prop), j + g = N ∧ tp = .int .u32 ((topN (ns.take j) : Nat) : Int) ∧ ix = .int .i64 (j : Int) ∧ Hid (Two13 D wK qa qb Fa Fb [⟨k, faI (ns.take j)⟩] (fbT k (ns.reverse.take j)) wr))
      case atStart => exact ⟨0, F4, F2, by omega, rfl, rfl, HT4⟩
      case round =>
        obtain ⟨j, Fa, Fb, hj, rfl, rfl, HT⟩ := hrel
        cases gk with
        | zero =>
          obtain rfl : j = N := by omega
          have hz : ¬ ((j : Int) < (j : Int)) := by omega
          have HE : Hid (ns.take j = ns ∧ ns.reverse.take j = ns.reverse) := hide ⟨by rw [HN.out]; exact List.take_length, by rw [HN.out, ← List.length_reverse]; exact List.take_length⟩
          rw [HE.out.1, HE.out.2] at HT
          rw [HE.out.1]
          have CG : Hid (∀ W q F t, D W q F t → Calls Try.prog 17 #[.pointer (some ⟨q, 0, none⟩), .agg (eightA k)] W fun e w' => e = .returned (.tuple #[.agg (itA ((getT t k).getD zeroIt)), .bool (getT t k).isSome]) ∧ Below W.heap.size W w') := hide (fun W q F t hD => H.get k hD HK.out)
          have CGa : Hid (∀ W F, D W qa F [⟨k, faI ns⟩] → Calls Try.prog 17 #[.pointer (some ⟨qa, 0, none⟩), .agg (eightA k)] W fun e w' => e = .returned (.tuple #[.agg (itA (faI ns)), .bool true]) ∧ Below W.heap.size W w') := hide (fun W F hD => by have h := CG.out W qa F _ hD; rw [get_one] at h; exact h)
          have CGb := hide (fun W (hD : D W qb Fb (fbT k ns.reverse)) => CG.out W qb Fb _ hD)
          simp only [fb_get, topN_rev, List.reverse_eq_nil_iff] at CGb
          have HV := hide (faI_ver ns)
          have HFO : Hid (ItOk (faI ns)) := hide (get_ok13 (H.ok HT.out.a).2 (H.ok HT.out.a).1 (get_one k (faI ns)))
          have HXw := hide (HX2.out wr HT.out.B)
          clear CG
          go_wp2_with (first | (refine wp_load_box rfl _ rfl bk rfl HXw.out Try.underlying31 rfl infoKey13 ?_))
          refine (CGa.out wr _ HT.out.a).mono ?_
          rintro e w5 ⟨rfl, hB5⟩
          have HT5 := hide (HT.out.below H hB5)
          have HZ5 := hide (box_new w5 (itA zeroIt) 36)
          have HZB5 := hide (alloc_below13 w5 (.cells (itA zeroIt) 36))
          clear hB5 HXw HT CGa
          generalize hIA : faI ns = IA at *
          go_wp2_with (first | (refine wp_store_box rfl rfl _ _ rfl w5.heap.size rfl (cs' := itA IA) rfl HZ5.out rfl infoIt13 (itA_one13 _) ?_; intro w6 hb4 hk4; have HS6 := hide hb4; have hk6 := HZB5.out.trans (hk4.below HZB5.out.size (fun j hj => by omega)); have HT6 := hide (HT5.out.below H hk6); have HXw := hide (HX2.out w6 HT6.out.B); clear hb4 hk4 hk6) | (refine wp_load_box rfl _ rfl bk rfl HXw.out Try.underlying31 rfl infoKey13 ?_))
          have HLA := HS6.out.lt
          by_cases hn0 : ns = []
          · simp only [if_pos hn0, Option.getD_none, Option.isSome_none] at CGb
            have ht0 : topN ns = 0 := by rw [hn0]; rfl
            have hj0 : j = 0 := by rw [HN.out, hn0]; rfl
            subst hj0
            rw [ht0] at HV ⊢
            have hv : (IA.ver : Int) = 0 := by rw [HV.out]; rfl
            clear hn0 ht0 HV
            refine (CGb.out w6 HT6.out.b).mono ?_
            rintro e w7 ⟨rfl, hB7⟩
            have HT7 := hide (HT6.out.below H hB7)
            have HS7 := hide (HS6.out.belowI hB7)
            have HZ7 := hide (box_new w7 (itA zeroIt) 36)
            have HZB7 := hide (alloc_below13 w7 (.cells (itA zeroIt) 36))
            have HL7 := HS7.out.lt
            clear hB7 HT6 HS6 HLA CGb HXw
            go_wp2_with (first | ((with_reducible show wpList _ _ _ (⟨none, .store _ _ _, _, _, _, _⟩ :: _) _ _); refine wp_store_box rfl rfl _ _ rfl w7.heap.size rfl (cs' := itA zeroIt) rfl HZ7.out rfl infoIt13 (itA_one13 _) ?_; intro w8 hb4 hk4; have HS8 := hide hb4; have HA8 := hide ((HS7.out.belowI HZB7.out).keep hk4 (by omega)); have HT8 := hide (HT7.out.below H (HZB7.out.trans (hk4.below HZB7.out.size (fun j hj => by omega)))); have c1 : w8.cell? ⟨w5.heap.size, 0, none⟩ = some (.int .u32 0) := (by rw [← hv]; exact HA8.out.cell 0 _ rfl); have c2 : w8.cell? ⟨w7.heap.size, 0, none⟩ = some (.int .u32 ((zeroIt).ver : Int)) := HS8.out.cell 0 _ rfl; clear hb4 hk4))
            refine (HA.out w8).mono ?_
            rintro e w9 ⟨rfl, hB9⟩
            have HB9 := hide (HT8.out.B.trans (hB9.mono HT8.out.B.size))
            clear hB9
            go_wp2_with fail
            go_ret
            exact ⟨rfl, HWB.out.trans (HB9.out.mono HWB.out.size)⟩
          · simp only [if_neg hn0, Option.getD_some, Option.isSome_some] at CGb
            have hj0 : (0 : Int) < (j : Int) := by
              have : 0 < ns.length := List.length_pos_iff.2 hn0
              rw [← HN.out] at this
              omega
            have hj1 : decide ((j : Int) > 0) = true := decide_eq_true hj0
            obtain ⟨tp, htp⟩ : ∃ tp, tp = topN ns := ⟨_, rfl⟩
            have HTP := hide htp
            rw [← htp] at HV CGb ⊢
            have hv : (IA.ver : Int) = (tp : Int) := by rw [HV.out]
            clear hn0 htp
            refine (CGb.out w6 HT6.out.b).mono ?_
            rintro e w7 ⟨rfl, hB7⟩
            have HT7 := hide (HT6.out.below H hB7)
            have HS7 := hide (HS6.out.belowI hB7)
            have HZ7 := hide (box_new w7 (itA zeroIt) 36)
            have HZB7 := hide (alloc_below13 w7 (.cells (itA zeroIt) 36))
            have HL7 := HS7.out.lt
            clear hB7 HT6 HS6 HLA CGb HXw
            by_cases htp0 : tp = 0
            · subst htp0
              go_wp2_with (first | ((with_reducible show wpList _ _ _ (⟨none, .store _ _ _, _, _, _, _⟩ :: _) _ _); refine wp_store_box rfl rfl _ _ rfl w7.heap.size rfl (cs' := itA (obI 0)) rfl HZ7.out rfl infoIt13 (itA_one13 _) ?_; intro w8 hb4 hk4; have HS8 := hide hb4; have HA8 := hide ((HS7.out.belowI HZB7.out).keep hk4 (by omega)); have HT8 := hide (HT7.out.below H (HZB7.out.trans (hk4.below HZB7.out.size (fun j hj => by omega)))); have c1 : w8.cell? ⟨w5.heap.size, 0, none⟩ = some (.int .u32 0) := (by have h := HA8.out.cell 0 (.int .u32 (IA.ver : Int)) rfl; rw [hv] at h; exact h); have c2 : w8.cell? ⟨w7.heap.size, 0, none⟩ = some (.int .u32 0) := HS8.out.cell 0 _ rfl; clear hb4 hk4))
              refine (HA.out w8).mono ?_
              rintro e w9 ⟨rfl, hB9⟩
              have HB9 := hide (HT8.out.B.trans (hB9.mono HT8.out.B.size))
              clear hB9
              go_wp2_with fail
              go_ret
              exact ⟨rfl, HWB.out.trans (HB9.out.mono HWB.out.size)⟩
            · have HIE : Hid (IA = obI tp) := hide (by rw [← hIA]; unfold faI; rw [← HTP.out, if_neg htp0])
              have hne : decide ((tp : Int) = 0) = false := decide_eq_false (by omega)
              have hne2 : ((tp : Int) == 0) = false := by simpa using htp0
              have hq : ∀ W, (binOp .eql 36 (.agg (itA IA)) (.agg (itA (obI tp)))).run Try.prog W = .ok (.bool true) W := fun W => by
                have h3 := eql_it10 HFO.out (HIE.out ▸ HFO.out) W
                rw [decide_eq_true HIE.out] at h3
                exact h3
              go_wp2_with (first | ((with_reducible show wpList _ _ _ (⟨none, .store _ _ _, _, _, _, _⟩ :: _) _ _); refine wp_store_box rfl rfl _ _ rfl w7.heap.size rfl (cs' := itA (obI tp)) rfl HZ7.out rfl infoIt13 (itA_one13 _) ?_; intro w8 hb4 hk4; have HS8 := hide hb4; have HA8 := hide ((HS7.out.belowI HZB7.out).keep hk4 (by omega)); have HT8 := hide (HT7.out.below H (HZB7.out.trans (hk4.below HZB7.out.size (fun j hj => by omega)))); have c1 : w8.cell? ⟨w5.heap.size, 0, none⟩ = some (.int .u32 (tp : Int)) := (by have h := HA8.out.cell 0 (.int .u32 (IA.ver : Int)) rfl; rw [hv] at h; exact h); have c2 : w8.cell? ⟨w7.heap.size, 0, none⟩ = some (.int .u32 (tp : Int)) := HS8.out.cell 0 _ rfl; clear hb4 hk4) | (refine wp_load_box_g rfl _ rfl w5.heap.size rfl HA8.out Try.underlying36 rfl infoIt13 ?_) | (refine wp_load_box_g rfl _ rfl w7.heap.size rfl HS8.out Try.underlying36 rfl infoIt13 ?_))
              refine (HA.out w8).mono ?_
              rintro e w9 ⟨rfl, hB9⟩
              have HB9 := hide (HT8.out.B.trans (hB9.mono HT8.out.B.size))
              clear hB9
              go_wp2_with fail
              go_ret
              exact ⟨rfl, HWB.out.trans (HB9.out.mono HWB.out.size)⟩
        | succ g =>
          have hz : (j : Int) < (N : Int) := by omega
          have hjn : j < ns.length := by rw [← HN.out]; omega
          obtain ⟨m, hm⟩ : ∃ m, m = N - 1 - j := ⟨_, rfl⟩
          have hmn : m < ns.length := by rw [← HN.out]; omega
          have hmi : (N : Int) - 1 - (j : Int) = (m : Int) := by omega
          have hmN : (m : Int) < (N : Int) := by omega
          have HE1 := hide (List.take_succ_eq_append_getElem hjn)
          have hjr : j < ns.reverse.length := by simpa using hjn
          have HE2 : Hid (ns.reverse.take (j + 1) = ns.reverse.take j ++ [ns[m]]) := hide (by
            rw [List.take_succ_eq_append_getElem hjr, List.getElem_reverse]
            congr 3
            rw [hm, HN.out])
          have HC := Lies.below (HWB.out.trans (HT.out.B.mono HWB.out.size)) HL.out
          obtain ⟨b, off, e9, hcl⟩ : ∃ b off, ao = some ⟨b, off, none⟩ ∧ ∀ i (hi : i < ns.length), wr.cell? ⟨b, off + i, none⟩ = some (.int .u8 ((ns[i] : Nat) : Int)) := by
            rcases HC with ⟨e, _⟩ | ⟨_, b, off, c2, e, _, _, _, hc⟩
            · exfalso
              have h1 : (ns.map fun n : Nat => (n : Int)).length = 0 := by rw [e]; rfl
              rw [List.length_map] at h1
              omega
            · injection e with e1
              exact ⟨b, off, e1, fun i hi => by
                have h2 := hc i (by rw [List.length_map]; exact hi)
                rw [h2]
                simp [List.getD, hi]⟩
          subst e9
          have cx := hcl j hjn
          have cy : wr.cell? ⟨b, off + (N - 1 - j), none⟩ = some (.int .u8 ((ns[m] : Nat) : Int)) := by rw [← hm]; exact hcl m hmn
          have hx256 := HNS.out _ (List.getElem_mem hjn)
          have hy256 := HNS.out _ (List.getElem_mem hmn)
          generalize ns[j] = nx at *
          generalize ns[m] = ny at *
          clear hcl hjn hmn hjr HC hm hmi hmN
          obtain ⟨z0, z1, z2, z3, z4, z5, z6, z7⟩ := box_eightL (HX2.out wr HT.out.B)
          have hwx : IntKind.u32.wrap (nx : Int) = (nx : Int) := by rw [IntKind.wrap_u32]; omega
          have hwy : IntKind.u32.wrap (ny : Int) = (ny : Int) := by rw [IntKind.wrap_u32]; omega
          go_wp2_with fail
          go_region
          have HTd := hide (HT.out.below H (below_drew13 wr))
          have HCX : Hid (∀ W, Below wK.heap.size wK W → W.cell? ⟨b, off + j, none⟩ = some (.int .u8 (nx : Int))) := hide (fun W hB => by
            have hbb : b < wK.heap.size := by
              have h1 := HL.out
              rcases h1 with ⟨e, _⟩ | ⟨_, b', off', c2, e, hb', _, _, _⟩
              · exfalso
                have h2 : (ns.map fun n : Nat => (n : Int)).length = 0 := by rw [e]; rfl
                rw [List.length_map, ← HN.out] at h2
                omega
              · injection e with e1
                cases e1
                exact Nat.lt_of_lt_of_le hb' HWB.out.size
            have h2 := HT.out.B.cell (p := ⟨b, off + j, none⟩) hbb
            exact (hB.cell (p := ⟨b, off + j, none⟩) hbb).trans (h2.symm.trans cx))
          have cx' : wr.drew.cell? ⟨b, off + j, none⟩ = some (.int .u8 (nx : Int)) := cx
          have HL1 : Hid (Lies .u8 wr.drew (.slice (some ⟨b, off, none⟩) N cap) (ns.map fun n : Nat => (n : Int))) := hide (Lies.below (HWB.out.trans (HTd.out.B.mono HWB.out.size)) HL.out)
          clear z0 z1 z2 z3 z4 z5 z6 z7 cx cy HT hwx hwy
          generalize wr.drew = wd at *
          obtain ⟨z0, z1, z2, z3, z4, z5, z6, z7⟩ := box_eightL (HX2.out wd HTd.out.B)
          have hcv := str_new13 wd (nx : Int)
          go_wp2_with fail
          have HRB : Hid (∀ W, Below wK.heap.size wK W → W.cell? ⟨b, off + j, none⟩ = some (.int .u8 (nx : Int))) := HCX
          first | (go_region_held (fun W => W.cell? ⟨bk, 0, none⟩ = some (.int .u8 (at8 k 0)) ∧ W.cell? ⟨bk, 1, none⟩ = some (.int .u8 (at8 k 1)) ∧ W.cell? ⟨bk, 2, none⟩ = some (.int .u8 (at8 k 2)) ∧ W.cell? ⟨bk, 3, none⟩ = some (.int .u8 (at8 k 3)) ∧ W.cell? ⟨bk, 4, none⟩ = some (.int .u8 (at8 k 4)) ∧ W.cell? ⟨bk, 5, none⟩ = some (.int .u8 (at8 k 5)) ∧ W.cell? ⟨bk, 6, none⟩ = some (.int .u8 (at8 k 6)) ∧ W.cell? ⟨bk, 7, none⟩ = some (.int .u8 (at8 k 7)) ∧ W.cell? ⟨b, off + j, none⟩ = some (.int .u8 (nx : Int))) (go_keep) (first
            | (go_at_call 23; refine (CO.out nx _).mono ?_; rintro e w5 ⟨rfl, hB5⟩; have HT5 := hide (HTd.out.below H ((alloc_below13 wd _).trans (((below_drew13 _).mono (by simp)).trans (hB5.mono (by simp))))); obtain ⟨y0, y1, y2, y3, y4, y5, y6, y7⟩ := box_eightL (HX2.out w5 HT5.out.B); have cy' := HRB.out w5 HT5.out.B; clear hB5)
            | (go_at_call 12; refine (CI.out nx _ _ _ _ hx256 HT5.out.a).mono ?_; rintro e w6 ⟨rfl, hd6⟩; obtain ⟨F6, hT6⟩ := HT5.out.did H hd6; have HT6 := hide hT6; obtain ⟨u0, u1, u2, u3, u4, u5, u6, u7⟩ := box_eightL (HX2.out w6 HT6.out.B); have cu' := HRB.out w6 HT6.out.B; clear hd6 hT6))) | fail
          clear z0 z1 z2 z3 z4 z5 z6 z7 y0 y1 y2 y3 y4 y5 y6 y7 u0 u1 u2 u3 u4 u5 u6 u7 cx' cy' cu' hcv HTd HT5 HL1 HRB HCX
          rw [fa_ins HM.out _ hx256, ← HE1.out] at HT6
          obtain ⟨z0, z1, z2, z3, z4, z5, z6, z7⟩ := box_eightL (HX2.out w6 HT6.out.B)
          have hcv := str_new13 w6 (ny : Int)
          have hw8 : IntKind.u8.wrap (ny : Int) = (ny : Int) := by rw [IntKind.wrap_u8]; omega
          go_wp2_with fail
          first | (go_region_held (fun W => W.cell? ⟨bk, 0, none⟩ = some (.int .u8 (at8 k 0)) ∧ W.cell? ⟨bk, 1, none⟩ = some (.int .u8 (at8 k 1)) ∧ W.cell? ⟨bk, 2, none⟩ = some (.int .u8 (at8 k 2)) ∧ W.cell? ⟨bk, 3, none⟩ = some (.int .u8 (at8 k 3)) ∧ W.cell? ⟨bk, 4, none⟩ = some (.int .u8 (at8 k 4)) ∧ W.cell? ⟨bk, 5, none⟩ = some (.int .u8 (at8 k 5)) ∧ W.cell? ⟨bk, 6, none⟩ = some (.int .u8 (at8 k 6)) ∧ W.cell? ⟨bk, 7, none⟩ = some (.int .u8 (at8 k 7))) (go_keep) (first
            | (go_at_call 23; refine (CO.out ny _).mono ?_; rintro e w7 ⟨rfl, hB5⟩; have HT7 := hide (HT6.out.below H ((alloc_below13 w6 _).trans (((below_drew13 _).mono (by simp)).trans (hB5.mono (by simp))))); obtain ⟨y0, y1, y2, y3, y4, y5, y6, y7⟩ := box_eightL (HX2.out w7 HT7.out.B); clear hB5)
            | (go_at_call 12; refine (CI.out ny _ _ _ _ hy256 HT7.out.b).mono ?_; rintro e w8 ⟨rfl, hd6⟩; obtain ⟨F8, hT8⟩ := HT7.out.swap.did H hd6; have HT8 := hide hT8.swap; obtain ⟨u0, u1, u2, u3, u4, u5, u6, u7⟩ := box_eightL (HX2.out w8 HT8.out.B); clear hd6 hT8))) | fail
          clear z0 z1 z2 z3 z4 z5 z6 z7 y0 y1 y2 y3 y4 y5 y6 y7 u0 u1 u2 u3 u4 u5 u6 u7 hcv HT6 HT7 hw8
          rw [fb_ins HM.out _ hy256, ← HE2.out] at HT8
          have HTP : Hid (topN (ns.take (j + 1)) = max (topN (ns.take j)) nx) := hide (by rw [HE1.out, topN_app])
          generalize topN (ns.take j) = tp at *
          by_cases hmx : tp < nx
          · have HTQ : Hid (topN (ns.take (j + 1)) = nx) := hide (by rw [HTP.out]; omega)
            have e1 : max (tp : Int) (nx : Int) = (nx : Int) := by omega
            have e2 : (tp : Int) < (nx : Int) := by omega
            have e3 : ¬ (nx : Int) < (tp : Int) := by omega
            clear hmx
            go_wp2_with fail
            all_goals
              go_roundg g
              case measure => omega
              case rel => exact ⟨j + 1, F6, F8, by omega, by rw [HTQ.out], by first | rfl | go_num, HT8⟩
          · have HTQ : Hid (topN (ns.take (j + 1)) = tp) := hide (by rw [HTP.out]; omega)
            have e1 : max (tp : Int) (nx : Int) = (tp : Int) := by omega
            have e2 : ¬ (tp : Int) < (nx : Int) := by omega
            clear hmx
            go_wp2_with fail
            all_goals
              go_roundg g
              case measure => omega
              case rel => exact ⟨j + 1, F6, F8, by omega, by rw [HTQ.out], by first | rfl | go_num, HT8⟩
    · have hm : (nameF k).2 = false := by simpa using hm
      have hA0 := ins_arg (t := []) (j := oneI 0 []) hm
      have CI1 := CI.out
      have CJ : Hid (∀ W q F, D W q F [] → Calls Try.prog 12 #[.pointer (some ⟨q, 0, none⟩), .agg (eightA k), I0] W fun e w' => e = .returned (.int .i64 1) ∧ TDid D W w' q F []) := hide (fun W q F hD => by have h := CI1 W q F [] hD; rw [hA0.1, hA0.2] at h; exact h)
      clear CI CI1 hA0 hm
      first | (go_region_held (fun W => W.cell? ⟨bk, 0, none⟩ = some (.int .u8 (at8 k 0)) ∧ W.cell? ⟨bk, 1, none⟩ = some (.int .u8 (at8 k 1)) ∧ W.cell? ⟨bk, 2, none⟩ = some (.int .u8 (at8 k 2)) ∧ W.cell? ⟨bk, 3, none⟩ = some (.int .u8 (at8 k 3)) ∧ W.cell? ⟨bk, 4, none⟩ = some (.int .u8 (at8 k 4)) ∧ W.cell? ⟨bk, 5, none⟩ = some (.int .u8 (at8 k 5)) ∧ W.cell? ⟨bk, 6, none⟩ = some (.int .u8 (at8 k 6)) ∧ W.cell? ⟨bk, 7, none⟩ = some (.int .u8 (at8 k 7))) (go_keep) (first
        | (go_at_call 23; refine (C0.out _).mono ?_; rintro e w3 ⟨rfl, hB3⟩; have HT3 := hide (HT.out.below H ((below_drew13 w2).trans hB3)); obtain ⟨y0, y1, y2, y3, y4, y5, y6, y7⟩ := box_eightL (HX2.out w3 HT3.out.B); clear hB3)
        | (go_at_call 12; refine (CJ.out _ _ _ HT3.out.a).mono ?_; rintro e w4 ⟨rfl, hd4⟩; obtain ⟨F4, hT4⟩ := HT3.out.did H hd4; have HT4 := hide hT4; obtain ⟨x0, x1, x2, x3, x4, x5, x6, x7⟩ := box_eightL (HX2.out w4 HT4.out.B); clear hd4 hT4))) | fail
      have CLn : Hid (∀ W, D W qa F4 [] → Calls Try.prog 16 #[.pointer (some ⟨qa, 0, none⟩)] W fun e w' => e = .returned (.int .i64 0) ∧ Below W.heap.size W w') := hide (fun W hD => H.len hD)
      clear y0 y1 y2 y3 y4 y5 y6 y7 z0 z1 z2 z3 z4 z5 z6 z7 HT3 HT
      go_wp2_with fail
      first | (go_region_held (fun W => W.cell? ⟨bk, 0, none⟩ = some (.int .u8 (at8 k 0)) ∧ W.cell? ⟨bk, 1, none⟩ = some (.int .u8 (at8 k 1)) ∧ W.cell? ⟨bk, 2, none⟩ = some (.int .u8 (at8 k 2)) ∧ W.cell? ⟨bk, 3, none⟩ = some (.int .u8 (at8 k 3)) ∧ W.cell? ⟨bk, 4, none⟩ = some (.int .u8 (at8 k 4)) ∧ W.cell? ⟨bk, 5, none⟩ = some (.int .u8 (at8 k 5)) ∧ W.cell? ⟨bk, 6, none⟩ = some (.int .u8 (at8 k 6)) ∧ W.cell? ⟨bk, 7, none⟩ = some (.int .u8 (at8 k 7))) (go_keep) (first
        | (go_at_call 23; refine (C0.out _).mono ?_; rintro e w5 ⟨rfl, hB5⟩; have HT5 := hide (HT4.out.below H ((below_drew13 w4).trans hB5)); obtain ⟨y0, y1, y2, y3, y4, y5, y6, y7⟩ := box_eightL (HX2.out w5 HT5.out.B); clear hB5)
        | (go_at_call 12; refine (CJ.out _ _ _ HT5.out.b).mono ?_; rintro e w6 ⟨rfl, hd4⟩; obtain ⟨F6, hT6⟩ := HT5.out.swap.did H hd4; have HT6 := hide hT6.swap; obtain ⟨u0, u1, u2, u3, u4, u5, u6, u7⟩ := box_eightL (HX2.out w6 HT6.out.B); clear hd4 hT6)
        | (go_at_call 16; refine (CLn.out _ HT6.out.a).mono ?_; rintro e w7 ⟨rfl, hB7⟩; have HT7 := hide (HT6.out.below H hB7); obtain ⟨t0, t1, t2, t3, t4, t5, t6, t7⟩ := box_eightL (HX2.out w7 HT7.out.B); clear hB7)
        | (go_at_call 10; refine (HA.out _).mono ?_; rintro e w8 ⟨rfl, hB8⟩; have HT8 := hide (HT7.out.below H hB8); obtain ⟨s0, s1, s2, s3, s4, s5, s6, s7⟩ := box_eightL (HX2.out w8 HT8.out.B); clear hB8))) | fail
      go_wp2_with fail
      go_ret
      exact ⟨rfl, HWB.out.trans (HT8.out.B.mono HWB.out.size)⟩
end
end
section
open Go.RowKit Go.ChangeShapes Go.WideShapes Go.ChangeAt

theorem nats_of13 (xs : List Int) (h : ∀ c ∈ xs, 0 ≤ c ∧ c < 256) : xs = (xs.map Int.toNat).map (fun n : Nat => (n : Int)) ∧ ∀ n ∈ xs.map Int.toNat, n < 256 := by
  constructor
  · rw [List.map_map]
    conv => lhs; rw [← List.map_id xs]
    refine List.map_congr_left fun c hc => ?_
    have := h c hc
    simp only [Function.comp, id]
    omega
  · intro n hn
    obtain ⟨c, hc, rfl⟩ := List.mem_map.1 hn
    have := h c hc
    omega
theorem walkL13i {D : World → Nat → (Nat → Prop) → List WrP → Prop} (H : TableDo D) (v : Value) (xs : List Int) (k : List Int) (w : World) (hL : Lies .u8 w v xs) (hx : ∀ c ∈ xs, 0 ≤ c ∧ c < 256) (hk : KeyOk k) :
    Calls Try.prog 6 #[v, .agg (eightA k)] w fun e w' => e = .returned (.bool true) ∧ Below w.heap.size w w' := by
  obtain ⟨e, h⟩ := nats_of13 xs hx
  rw [e] at hL
  exact walkL13 H v _ k w hL h hk
namespace DLast
set_option maxRecDepth 100000 in
theorem lifted (os : Os) (started : os.Started) (H : Type) (enc : TypeId × Value → H) :
    ReturnsInHanded {} Try.checked os 6 .any (Rows.itemLastSpec.pre6 enc Try.prog Try.f6 Rows.itemLastRow.domain false) (Rows.itemLastSpec.post enc Try.prog Try.f6 false true false false) := by
  refine returnsInHanded_of_change_sized (C := Try.checked) own started (by kernel_rfl) Try.func6
    (ChangeSpec.witness6 (enc := enc) (C := Try.checked) false ⟨#[], #[.slice none 0 0, .agg #[.int .u8 0, .int .u8 0, .int .u8 0, .int .u8 0, .int .u8 0, .int .u8 0, .int .u8 0, .int .u8 0]], []⟩ 8 (by kernel_rfl) (by kernel_rfl) (by kernel_rfl) (by kernel_rfl)) ?_
  intro W base args ds gs before hval0 hW hcnd hsz _
  have hval : ∀ (j : Nat) t v, Try.f6.params[j]? = some t → args[j]? = some v → Value.okWide Try.prog W .any base t v := hval0
  have hW' := hW
  obtain ⟨p, q, hA0, hV, rfl, hfz, hnd⟩ := hW
  have hA : DataW.TrodAll enc Try.prog W 0 (fun _ => true) true Try.f6.params.toList args.toList ds p := hA0
  have hsz2 : ∀ (j : Nat) (t : TypeId) (d : DataW H), Try.f6.params.toList[j]? = some t → ds[j]? = some d → ∀ n ∈ d.weights Try.prog t, n ≤ 140737488351232 := fun j t d ht hd n hn => by
    have h1 := List.all_eq_true.1 hsz n (DataW.weights_mem_each (j := j) (t := t) (d := d) (by rw [List.getElem?_append_left (List.getElem?_eq_some_iff.1 ht).1]; exact ht) (by rw [List.getElem?_append_left (List.getElem?_eq_some_iff.1 hd).1]; exact hd) n hn)
    have h2 : n ≤ reachBytes := by simpa using h1
    have h3 : reachBytes = 140737488351232 := rfl
    omega
  rw [Try.params6] at hA hval hsz2
  obtain ⟨v0, vs0, d0, ds0, p0, q0, hargs, rfl, rfl, h0, r0⟩ := trodAll_cons hA
  obtain ⟨v1, vs1, d1, ds1, p1, q1, rfl, rfl, rfl, h1, r1⟩ := trodAll_cons r0
  obtain ⟨rfl, rfl, rfl⟩ := trodAll_nil r1
  obtain rfl : args = #[v0, v1] := by cases args; simp_all
  obtain ⟨rfl, rfl⟩ := trodVars_none hV
  obtain ⟨a0, len0, cap0, rfl⟩ := okWide_slice Try.underlying52 (hval 0 52 v0 rfl rfl)
  have k0 := h0
  have lt0 : ∀ x ∈ p0, x.block < W.heap.size := by obtain ⟨m, hm⟩ := k0; exact DataW.trod_lt m _ _ _ hm
  obtain ⟨xs0, lies0, by0⟩ := lies_of_trod h0
  have k1 := h1
  have lt1 : ∀ x ∈ p1, x.block < W.heap.size := by obtain ⟨m, hm⟩ := k1; exact DataW.trod_lt m _ _ _ hm
  obtain ⟨ky1, rfl, ok1⟩ := akey_of_trod (hval 1 31 v1 rfl rfl) h1
  clear hA0 hval0
  refine (walkL13i pt_do _ xs0 ky1 W lies0 by0 ok1).mono fun e W' ⟨he, bel⟩ => ?_
  subst he
  exact ⟨_, rfl, _, _, _, [], _, [], hW', trodAll_mk1 (shut_bool Try.underlying4 _), (trodAll_cons_mk (Below.trod laidOut (by kernel_rfl) (of_decide_eq_true (by kernel_rfl)) k0 bel lt0) (trodAll_cons_mk (Below.trod laidOut (by kernel_rfl) (of_decide_eq_true (by kernel_rfl)) k1 bel lt1) trodAll_mk0)), rfl, bel.frame _, fun h => by cases h⟩

theorem over : Rows.itemLastRow.holds Try.pinned (OpenSpec.ofChange Rows.itemLastSpec) :=
  OpenClaim.holds_of_wide 6 Try.f6 rfl rfl rfl rfl rfl rfl rfl ⟨rfl, rfl, rfl, rfl, rfl⟩ rfl rfl rfl rfl rfl (by kernel_rfl) Try.func6 (by kernel_rfl)
    (of_decide_eq_true (by kernel_rfl)) (by unfold Func.isWrapper; first | (rw [if_pos (by decide +kernel)]; kernel_rfl) | (rw [if_neg (by decide +kernel)]; exact ⟨rfl, rfl⟩))
    (fun os started H enc _ => lifted os started H enc)
end DLast

/-- THE STATEMENT. -/
theorem itemLast_holds : Rows.ItemLastSaid := DLast.over
#print axioms itemLast_holds
end
end Go.Proofs.Ytlngejmojpkdkaa
