/-
  The program's clock: Tick, Next. Own work.
-/
import Derived.Test.YtgjdlclkibiffaaPkTick
namespace Go.Proofs.Ytgjdlclkibiffaa
open Go.RowKit Go.Maps

theorem bnext_any (n : Nat) (h : n ≤ 2147483647) (w : World) :
    Calls Try.prog 27 #[.int .u32 (n : Int)] w fun e w' => e = .returned (.tuple #[.int .u32 (if 2147483647 ≤ n then (n : Int) else (n : Int) + 1), .int .i64 (if 2147483647 ≤ n then 17 else 0)]) ∧ w' = w := by
  by_cases hn : 2147483647 ≤ n
  · rw [if_pos hn, if_pos hn]
    obtain rfl : n = 2147483647 := by omega
    clear h hn
    go_enter Try.func27, Try.ntmps27
    go_wp2
    go_ret2
    exact ⟨rfl, rfl⟩
  · rw [if_neg hn, if_neg hn]
    have d1 : decide ((n : Int) ≥ 2147483647) = false := decide_eq_false (by omega)
    have hw : IntKind.u32.wrap ((n : Int) + 1) = (n : Int) + 1 := by rw [IntKind.wrap_u32]; omega
    clear hn
    go_enter Try.func27, Try.ntmps27
    go_wp2
    go_ret2
    exact ⟨rfl, rfl⟩
set_option maxRecDepth 100000 in
set_option maxHeartbeats 800000 in
theorem ktick_any (q b : Nat) (sv : Nat → Value) (c : Ck) (w : World) (h : PCk w q b sv c) :
    Calls Try.prog 11 #[.pointer (some ⟨q, 0, none⟩)] w fun e w' => ∃ v, e = .returned (.tuple #[v, .int .i64 (tickA c)]) ∧ KDid w w' q b sv (tickD c) ∧ RSrc nmE w' v (tickL c) ∧ ∀ g, v.ownBlock = some g → w.heap.size ≤ g := by
  have m0 := h.c0
  have z0 := h.s.box.frozen 0
  have C0 := hide (kgiven_any q b sv c w h)
  have C1 := hide (bnext_any c.now h.ok.now w)
  have H0 := hide h
  by_cases hn : 2147483647 ≤ c.now
  · rw [if_pos hn, if_pos hn] at C1
    have HA : Hid (tickA c = 17) := hide (by unfold tickA; rw [if_pos hn])
    have HD : Hid (tickD c = c) := hide (by unfold tickD; rw [if_pos hn])
    have HL : Hid (tickL c = []) := hide (by unfold tickL; rw [if_pos hn])
    rw [HA.out, HD.out, HL.out]
    generalize c.now = nw at *
    clear h hn
    go_enter Try.func11, Try.ntmps11
    go_wp2_with (first | (go_at_call 26; refine C0.out.mono ?_; rintro e w ⟨rfl, rfl⟩) | (go_at_call 27; refine C1.out.mono ?_; rintro e w ⟨rfl, rfl⟩))
    go_ret2
    exact ⟨_, rfl, KDid.of_below H0.out (Below.refl _ _), RSrc.nil _, fun g e => by cases e⟩
  · rw [if_neg hn, if_neg hn] at C1
    have HA : Hid (tickA c = 0) := hide (by unfold tickA; rw [if_neg hn])
    rw [HA.out]
    obtain ⟨hP1, hK1⟩ := h.s.time (c.now + 1)
    rw [Int.natCast_add, show ((1 : Nat) : Int) = 1 from rfl] at hP1 hK1
    have C2 := hide (kring_any q b sv c _ hP1 h.ok (by omega))
    have HK1 := hide hK1
    generalize c.now = nw at *
    clear h hn hP1 hK1
    go_enter Try.func11, Try.ntmps11
    go_wp2_with (first | (go_at_call 26; refine C0.out.mono ?_; rintro e w ⟨rfl, rfl⟩) | (go_at_call 27; refine C1.out.mono ?_; rintro e w ⟨rfl, rfl⟩) | (go_at_call 28; refine C2.out.mono ?_; rintro e w2 ⟨v, rfl, h2⟩; have H2 := hide h2; clear h2))
    go_ret2
    refine ⟨_, rfl, KDid.trans (HK1.out.mono (S' := usesC9 q b sv) (fun _ e => .inl e)) (fun _ e => .inl e) H2.out.1, H2.out.2.1, fun g hg => ?_⟩
    have := H2.out.2.2 g hg
    simpa using this
/-- Three results, the first of which lies in a variable. -/
theorem results_box39 {P : Program} {fn : Func} {q t1 t2 : Tmp} {t t0 : TypeId} {d : TypeDesc} (h : fn.results = #[.cell q t, .tmp t1, .tmp t2]) (tmps : Array Value) (w : World) (p : Nat) (hq : tmps.getD q undef = .pointer (some ⟨p, 0, none⟩)) {v1 v2 : Value} (h1 : tmps.getD t1 undef = v1) (h2 : tmps.getD t2 undef = v2) {cs : Array Value} (hb : Box w p cs t0)
    (hu : P.underlying t = some d) (hd : d.isRow = true) (hi : (P.info? t).map (·.size) = some cs.size) : (results fn tmps).run P w = .ok (.tuple #[.agg cs, v1, v2]) w := by
  subst h1
  subst h2
  have hr : w.rangeAt p 0 cs.toList := fun j v hv => by
    rw [Nat.zero_add]; exact hb.cell j v (by simpa using hv)
  have hl := run_loadVar_mid (P := P) w p 0 t cs.toList d hr hu hd (by simpa using hi)
  have hq' : tmps[q]?.getD undef = .pointer (some ⟨p, 0, none⟩) := by rw [← Array.getD_eq_getD_getElem?]; exact hq
  simp only [results, h]
  simp [hq', asAddr, hl]
theorem below_drew9 {wr w3 : World} (h : Below wr.drew.heap.size wr.drew w3) : Below wr.heap.size wr w3 := ⟨h.os, h.tape, h.output, h.size, h.block⟩
/-- What Next has behind some slots. -/
structure Nx (w : World) (fp : Nat) (wr : World) (q b : Nat) (sv : Nat → Value) (c : Ck) (k : Nat) : Prop where
  p : PCk wr q b sv c
  r : Box wr w.heap.size (nmA nilN) 47
  ef : fp = w.heap.size + 1
  f : Box wr fp (ptA (c.firstF k)) 80
  bb : Below w.heap.size w wr
theorem Nx.below {w wr w2 : World} {fp q b k : Nat} {sv : Nat → Value} {c : Ck} (h : Nx w fp wr q b sv c k) (hB : Below wr.heap.size wr w2) : Nx w fp w2 q b sv c k := ⟨h.p.below hB, h.r.belowI hB, h.ef, h.f.belowI hB, h.bb.trans (hB.mono h.bb.size)⟩
theorem Nx.same {w wr : World} {fp q b k k2 : Nat} {sv : Nat → Value} {c : Ck} (h : Nx w fp wr q b sv c k) (e : c.firstF k2 = c.firstF k) : Nx w fp wr q b sv c k2 := ⟨h.p, h.r, h.ef, by rw [e]; exact h.f, h.bb⟩
theorem Nx.put {w wr w2 : World} {fp q b k k2 : Nat} {sv : Nat → Value} {c : Ck} (h0 : PCk w q b sv c) (h : Nx w fp wr q b sv c k) (hf : Box w2 fp (ptA (c.firstF k2)) 80) (hk : KeepBut (fun j => j = fp) wr w2) : Nx w fp w2 q b sv c k2 :=
  ⟨h.p.keep hk (fun j hj e => by have := h0.lt j hj; have := h.ef; omega), h.r.keep hk (by have := h.ef; omega), h.ef, hf, h.bb.trans (hk.below h.bb.size (fun j e => by have := h.ef; omega))⟩
theorem first_skip {c : Ck} (h : c.Ok) {k : Nat} (he : (c.slot k).head? = none) : c.firstF (k + 1) = c.firstF k := by
  unfold Ck.firstF
  rw [first_step h k, he]
  cases c.firstO k <;> rfl
theorem first_new {c : Ck} (h : c.Ok) {k : Nat} {y : TmP} (he : (c.slot k).head? = some y) (hn : c.firstO k = none) : c.firstF (k + 1) = y := by
  unfold Ck.firstF
  rw [first_step h k, he, hn]
  rfl
theorem first_cmp {c : Ck} (h : c.Ok) {k : Nat} {y : TmP} (he : (c.slot k).head? = some y) (hn : c.firstO k ≠ none) : c.firstF (k + 1) = if aheadB y (c.firstF k) then y else c.firstF k := by
  unfold Ck.firstF
  rw [first_step h k, he]
  cases hf : c.firstO k with
  | none => exact absurd hf hn
  | some x =>
    simp only [Option.getD_some]
    split <;> rfl
theorem infoCN9 : (Try.prog.info? 47).map (·.size) = some (nmA nilN).size := infoCN
theorem next_any_pos {c : Ck} (h : c.Ok) : decide ((c.firstF 64).2 > 0) = c.any := by
  rw [first_all]
  unfold Ck.nextT Ck.any
  cases hl : c.l with
  | nil => rfl
  | cons t l =>
    have := (h.at' t (by rw [hl]; exact List.mem_cons_self)).1
    simp
    omega
set_option maxRecDepth 100000 in
set_option maxHeartbeats 3200000 in
theorem knext_any (q b : Nat) (sv : Nat → Value) (c : Ck) (w : World) (h : PCk w q b sv c) :
    Calls Try.prog 22 #[.pointer (some ⟨q, 0, none⟩)] w fun e w' => e = .returned (.tuple #[.agg (nmA c.nextN), .int .u32 c.nextT, .bool c.any]) ∧ Below w.heap.size w w' := by
  have hA := alloc_below9 w (.cells (nmA nilN) 47)
  have hR := box_new w (nmA nilN) 47
  obtain ⟨w1, hw1⟩ : ∃ w1, w1 = w.alloc (.cells (nmA nilN) 47) := ⟨_, rfl⟩
  have hs1 : w1.heap.size = w.heap.size + 1 := by rw [hw1]; simp
  rw [← hw1] at hA hR
  have C0 := hide (kgiven_any q b sv c w1 (h.below hA))
  have hA2 := alloc_below9 w1 (.cells (ptA (nilN, 0)) 80)
  have hF := box_new w1 (ptA (nilN, 0)) 80
  obtain ⟨w2, hw2⟩ : ∃ w2, w2 = w1.alloc (.cells (ptA (nilN, 0)) 80) := ⟨_, rfl⟩
  rw [← hw2] at hA2 hF
  have HN0 : Hid (Nx w w1.heap.size w2 q b sv c 0) := hide ⟨(h.below hA).below hA2, hR.belowI hA2, hs1, by rw [first_zero]; exact hF, hA.trans (hA2.mono hA.size)⟩
  have hW1 := hw1.symm
  have hW2 := hw2.symm
  have H0 := hide h
  have HS1 := hide hs1
  have HOK := hide h.ok
  have HFIN : Hid (c.firstF 64 = (c.nextN, c.nextT)) := hide (first_all c)
  have HANY : Hid (decide ((c.firstF 64).2 > 0) = c.any) := hide (next_any_pos h.ok)
  clear h hA hR hw1 hA2 hF hw2 hs1
  go_enter Try.func22, Try.ntmps22
  simp only [nilN] at hW1 hW2
  go_wp2_with (first | (go_at_call 26; refine C0.out.mono ?_; rintro e w1 ⟨rfl, rfl⟩))
  obtain ⟨fp, hfp⟩ : ∃ fp, fp = w1.heap.size := ⟨_, rfl⟩
  rw [← hfp] at HN0 ⊢
  clear hW1 hW2 C0 HS1 hfp
  go_loopg [12] 64 (fun g i wr => ∃ k : Nat, k + g = 64 ∧ i = .int .i64 k ∧ Hid (Nx w fp wr q b sv c k))
  case atStart => exact ⟨0, by omega, rfl, HN0⟩
  case round =>
    obtain ⟨k, hk, rfl, HN⟩ := hrel
    clear HN0
    obtain ⟨f0, f1, f2, f3, f4⟩ := HN.out.f.five9
    cases gk with
    | zero =>
      obtain rfl : k = 64 := by omega
      obtain ⟨a0, a1, a2, a3⟩ := HN.out.r.four
      have z0 := HN.out.r.frozen 0
      have z1 := HN.out.r.frozen 1
      have z2 := HN.out.r.frozen 2
      have z3 := HN.out.r.frozen 3
      have HR := hide HN.out.r
      have HBB := hide HN.out.bb
      have hfne : ¬ (fp = w.heap.size) := by have := HN.out.ef; omega
      have hcf : ∀ (W : World) (o : Nat) (v : Value), (W.setCell ⟨w.heap.size, o, none⟩ v).cell? ⟨fp, 0, none⟩ = W.cell? ⟨fp, 0, none⟩ := fun W o v => World.cell?_setCell_other _ _ _ _ (by simp)
      obtain ⟨F, hF⟩ : ∃ F, F = c.firstF 64 := ⟨_, rfl⟩
      rw [← hF] at f0 f1 f2 f3 f4 HFIN HANY
      clear hF HN
      go_wp2_with fail
      go_region
      all_goals
        have HB1 : Hid (Box ((((wr.setCell ⟨w.heap.size, 0, none⟩ (.int .u8 F.1.1)).setCell ⟨w.heap.size, 1, none⟩ (.int .u8 F.1.2.1)).setCell ⟨w.heap.size, 2, none⟩ (.int .u32 F.1.2.2.1)).setCell ⟨w.heap.size, 3, none⟩ (.int .u32 F.1.2.2.2)).drew w.heap.size (nmA F.1) 47) := hide ((((HR.out.set (i := 0) (v := .int .u8 F.1.1)).set (i := 1) (v := .int .u8 F.1.2.1)).set (i := 2) (v := .int .u32 F.1.2.2.1)).set (i := 3) (v := .int .u32 F.1.2.2.2))
        have HB2 : Hid (Below w.heap.size w ((((wr.setCell ⟨w.heap.size, 0, none⟩ (.int .u8 F.1.1)).setCell ⟨w.heap.size, 1, none⟩ (.int .u8 F.1.2.1)).setCell ⟨w.heap.size, 2, none⟩ (.int .u32 F.1.2.2.1)).setCell ⟨w.heap.size, 3, none⟩ (.int .u32 F.1.2.2.2)).drew) := hide (((((HBB.out.setCell (p := ⟨w.heap.size, 0, none⟩) (Nat.le_refl _) _).setCell (p := ⟨w.heap.size, 1, none⟩) (Nat.le_refl _) _).setCell (p := ⟨w.heap.size, 2, none⟩) (Nat.le_refl _) _).setCell (p := ⟨w.heap.size, 3, none⟩) (Nat.le_refl _) _).drew)
        go_wp2_with fail
        refine bodyPost_ret (v := .tuple #[.agg (nmA F.1), .int .u32 F.2, .bool (decide (0 < F.2))]) (results_box39 (v1 := .int .u32 F.2) (v2 := .bool (decide (0 < F.2))) Try.results22 _ _ w.heap.size rfl rfl rfl HB1.out Try.underlying47 rfl infoCN) rfl ⟨?_, HB2.out⟩
        have e1 := HFIN.out
        have e2 := HANY.out
        rw [← e2, e1]
    | succ g =>
      have hz : (k : Int) < 64 := by omega
      have hk64 : k < 64 := by omega
      obtain ⟨ao, cap, hvi, hcap⟩ := owns_shapeR (HN.out.p.s.own k hk64)
      have m2 := HN.out.p.cs hk64
      rw [hvi] at m2
      have hsrc := src_own (HN.out.p.s.own k hk64)
      rw [hvi] at hsrc
      have hfl := HN.out.f.lt
      obtain ⟨ln, hln⟩ : ∃ ln, ln = (c.slot k).length := ⟨_, rfl⟩
      have hl1 : ln ≤ 1024 := by rw [hln]; exact slot_len HOK.out k
      rw [← hln] at m2 hsrc
      obtain ⟨F, hF⟩ : ∃ F, F = c.firstF k := ⟨_, rfl⟩
      have HF := hide hF
      rw [← hF] at f0 f1 f2 f3 f4
      cases hs : c.slot k with
      | nil =>
        obtain rfl : ln = 0 := by rw [hln, hs]; rfl
        have HSK := hide (first_skip HOK.out (k := k) (by rw [hs]; rfl))
        clear hln hcap hvi hsrc hs hF
        go_wp2_with fail
        go_region
        go_wp2_with fail
        go_roundg g
        case measure => omega
        case rel => exact ⟨k + 1, by omega, by first | rfl | go_num, hide ((HN.out.below (below_drewN9 _ 1)).same HSK.out)⟩
      | cons y ys =>
        rw [hs] at hsrc
        obtain ⟨hx0, bs, off, rfl, hbs, hcl⟩ := hsrc.at recPT.len (i := 0) (by simp)
        simp only [List.getElem_cons_zero, Nat.zero_mul, Nat.add_zero] at hcl
        have r0 := hcl 0 _ rfl
        rw [Nat.add_zero] at r0
        have r1 := hcl 1 _ rfl
        have r2 := hcl 2 _ rfl
        have r3 := hcl 3 _ rfl
        have r4 := hcl 4 _ rfl
        have hl0 : 0 < ln := by rw [hx0]; simp
        have hl0I : decide ((ln : Int) > 0) = true := decide_eq_true (by omega)
        have HHD : Hid ((c.slot k).head? = some y) := hide (by rw [hs]; rfl)
        by_cases hno : c.firstO k = none
        · have hF0 : F.2 = 0 := by rw [hF]; exact (first_time HOK.out k).2 hno
          have HNEW := hide (first_new HOK.out HHD.out hno)
          have hF0b : (F.2 == 0) = true := by simp [hF0]
          clear hln hcap hvi hsrc hs hF hcl hx0 hno hF0
          go_wp2_with fail
          go_region
          have HN3 := hide (HN.out.below (below_drewN9 _ 1))
          go_wp2_with (refine wp_store_box rfl rfl _ _ rfl fp rfl rfl HN3.out.f rfl infoPT (ptA_one y) ?_; intro w5 hb5 hk5; have HB5 := hide hb5; have HK5 := hide hk5; clear hb5 hk5)
          go_roundg g
          case measure => omega
          case rel => exact ⟨k + 1, by omega, by first | rfl | go_num, hide (Nx.put H0.out HN3.out (by rw [HNEW.out]; exact HB5.out) HK5.out)⟩
        · have hF0 : ¬ F.2 = 0 := by rw [hF]; exact fun e => hno ((first_time HOK.out k).1 e)
          have hF0b : (F.2 == 0) = false := by simp [hF0]
          have HC := hide (ord_any y F)
          have HCMP : Hid (c.firstF (k + 1) = if aheadB y F then y else F) := hide (by rw [hF]; exact first_cmp HOK.out HHD.out hno)
          by_cases hlt : lexF (tmL y) (tmL F) < 0
          · have HNEW : Hid (c.firstF (k + 1) = y) := hide (by rw [HCMP.out, if_pos ((ahead_iff y F).2 hlt)])
            clear hln hcap hvi hsrc hs hF hcl hx0 hno hF0 HCMP
            generalize lexF (tmL y) (tmL F) = r at *
            go_wp2_with fail
            go_region_held (fun W => W.cell? ⟨bs, off, none⟩ = some (.int .u32 y.2) ∧ W.cell? ⟨bs, off + 1, none⟩ = some (.int .u8 y.1.1) ∧ W.cell? ⟨bs, off + 2, none⟩ = some (.int .u8 y.1.2.1) ∧ W.cell? ⟨bs, off + 3, none⟩ = some (.int .u32 y.1.2.2.1) ∧ W.cell? ⟨bs, off + 4, none⟩ = some (.int .u32 y.1.2.2.2) ∧ W.cell? ⟨fp, 0, none⟩ = some (.int .u32 F.2) ∧ W.cell? ⟨fp, 1, none⟩ = some (.int .u8 F.1.1) ∧ W.cell? ⟨fp, 2, none⟩ = some (.int .u8 F.1.2.1) ∧ W.cell? ⟨fp, 3, none⟩ = some (.int .u32 F.1.2.2.1) ∧ W.cell? ⟨fp, 4, none⟩ = some (.int .u32 F.1.2.2.2)) (go_keep) (first | (go_at_call 33; refine (HC.out _).mono ?_; rintro e' w3 ⟨rfl, hG⟩; have HG1 := hide (below_drew9 hG.below); have q0 := below_cell hG.below hbs r0; have q1 := below_cell hG.below hbs r1; have q2 := below_cell hG.below hbs r2; have q3 := below_cell hG.below hbs r3; have q4 := below_cell hG.below hbs r4; have p0 := below_cell hG.below hfl f0; have p1 := below_cell hG.below hfl f1; have p2 := below_cell hG.below hfl f2; have p3 := below_cell hG.below hfl f3; have p4 := below_cell hG.below hfl f4; clear hG))
            have HN3 := hide (HN.out.below HG1.out)
            go_wp2_with (refine wp_store_box rfl rfl _ _ rfl fp rfl rfl HN3.out.f rfl infoPT (ptA_one y) ?_; intro w5 hb5 hk5; have HB5 := hide hb5; have HK5 := hide hk5; clear hb5 hk5)
            go_roundg g
            case measure => omega
            case rel => exact ⟨k + 1, by omega, by first | rfl | go_num, hide (Nx.put H0.out HN3.out (by rw [HNEW.out]; exact HB5.out) HK5.out)⟩
          · have HOLD : Hid (c.firstF (k + 1) = c.firstF k) := hide (by rw [HCMP.out, ← HF.out, if_neg (by rw [ahead_iff]; exact hlt)])
            clear hln hcap hvi hsrc hs hF hcl hx0 hno hF0 HCMP
            generalize lexF (tmL y) (tmL F) = r at *
            go_wp2_with fail
            go_region_held (fun W => W.cell? ⟨bs, off, none⟩ = some (.int .u32 y.2) ∧ W.cell? ⟨bs, off + 1, none⟩ = some (.int .u8 y.1.1) ∧ W.cell? ⟨bs, off + 2, none⟩ = some (.int .u8 y.1.2.1) ∧ W.cell? ⟨bs, off + 3, none⟩ = some (.int .u32 y.1.2.2.1) ∧ W.cell? ⟨bs, off + 4, none⟩ = some (.int .u32 y.1.2.2.2) ∧ W.cell? ⟨fp, 0, none⟩ = some (.int .u32 F.2) ∧ W.cell? ⟨fp, 1, none⟩ = some (.int .u8 F.1.1) ∧ W.cell? ⟨fp, 2, none⟩ = some (.int .u8 F.1.2.1) ∧ W.cell? ⟨fp, 3, none⟩ = some (.int .u32 F.1.2.2.1) ∧ W.cell? ⟨fp, 4, none⟩ = some (.int .u32 F.1.2.2.2)) (go_keep) (first | (go_at_call 33; refine (HC.out _).mono ?_; rintro e' w3 ⟨rfl, hG⟩; have HG1 := hide (below_drew9 hG.below); have q0 := below_cell hG.below hbs r0; have q1 := below_cell hG.below hbs r1; have q2 := below_cell hG.below hbs r2; have q3 := below_cell hG.below hbs r3; have q4 := below_cell hG.below hbs r4; have p0 := below_cell hG.below hfl f0; have p1 := below_cell hG.below hfl f1; have p2 := below_cell hG.below hfl f2; have p3 := below_cell hG.below hfl f3; have p4 := below_cell hG.below hfl f4; clear hG))
            go_wp2_with fail
            go_roundg g
            case measure => omega
            case rel => exact ⟨k + 1, by omega, by first | rfl | go_num, hide ((HN.out.below HG1.out).same HOLD.out)⟩
end Go.Proofs.Ytgjdlclkibiffaa
