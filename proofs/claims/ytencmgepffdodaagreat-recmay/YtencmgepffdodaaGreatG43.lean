/-
  Own texts put together: E11One. Own work.
-/
import Derived.Test.YtencmgepffdodaaGreatG31
import Derived.Test.YtencmgepffdodaaGreatG26
namespace Go.Proofs.YtencmgepffdodaaGreat
section
open Go.RowKit Classical

theorem rec_ok_of {m : RecP} (hk : m.kind < 256) (h : ∀ g, g < 8 → rngR g m) : RecOk m := by
  have h0 : m.n ≤ 2147483647 := h 0 (by decide)
  have h1 : m.tx.1 < 256 ∧ m.tx.2.1 ≤ 2147483647 ∧ m.tx.2.2 ≤ 2147483647 := h 1 (by decide)
  have h2 : m.reg.1 ≤ 2147483647 ∧ m.reg.2 ≤ 2147483647 := h 2 (by decide)
  have h3 : m.mem ≤ 255 := h 3 (by decide)
  have h4 : m.wr.length ≤ 16 ∧ ∀ x ∈ m.wr, wrRng x := h 4 (by decide)
  have h5 : ∀ x ∈ m.mis, x ≤ 255 := h 5 (by decide)
  have h6 : m.key.length = 8 ∧ ∀ c ∈ m.key, 0 ≤ c ∧ c < 256 := h 6 (by decide)
  have h7 : itRng m.item := h 7 (by decide)
  exact ⟨hk, by omega, ⟨h1.1, by omega, by omega⟩, ⟨by omega, by omega⟩, by omega, fun x hx => ⟨⟨(h4.2 x hx).1.1, (h4.2 x hx).1.2⟩, it_ok_of (h4.2 x hx).2⟩, fun x hx => by have := h5 x hx; omega, ⟨h6.1, h6.2⟩, it_ok_of h7⟩
theorem zeroR_rng (k : Nat) {g : Nat} (hg : g < 8) : rngR g (zeroR k) := by
  refine byEight (P := fun g => rngR g (zeroR k)) hg ?_ ?_ ?_ ?_ ?_ ?_ ?_ ?_
  · show (0 : Nat) ≤ mxN; decide
  · show (0 : Nat) < 256 ∧ (0 : Nat) ≤ mxN ∧ (0 : Nat) ≤ mxN; decide
  · show (0 : Nat) ≤ mxN ∧ (0 : Nat) ≤ mxN; decide
  · show (0 : Nat) ≤ 255; decide
  · exact ⟨Nat.zero_le _, fun x hx => by cases hx⟩
  · exact fun x hx => by cases hx
  · show [(0 : Int), 0, 0, 0, 0, 0, 0, 0].length = 8 ∧ ∀ c ∈ [(0 : Int), 0, 0, 0, 0, 0, 0, 0], 0 ≤ c ∧ c < 256; decide
  · show itRng zeroIt
    exact ⟨by decide, ⟨by decide, by decide⟩, by decide, by decide, by decide, rfl, by decide⟩
theorem zeroR_okE (k : Nat) (hk : k < 256) : RecOk (zeroR k) := rec_ok_of hk (fun _ hg => zeroR_rng k hg)
theorem mayR_kept {m : RecP} (h : mayR m = true) : fieldsR m.kind ≠ [] ∧ keptR m = true := by
  unfold mayR at h
  simp only [Bool.and_eq_true] at h
  exact ⟨fun e => by rw [e] at h; simp at h, h.1.2⟩
theorem dec_okR {b : List Int} (hx : ∀ c ∈ b, 0 ≤ c ∧ c < 256) : RecOk (decRec b).1 := by
  by_cases h : (decRec b).2.1 = 0
  · obtain ⟨hm, _, hr⟩ := enc_decR hx h
    obtain ⟨hne, hk⟩ := mayR_kept hm
    have hkind : (decRec b).1.kind < 256 := by rcases fieldsR_kind hne with e | e | e | e | e | e | e <;> omega
    refine rec_ok_of hkind (fun g hg => ?_)
    by_cases hin : g ∈ fieldsR (decRec b).1.kind
    · exact hr g hin
    · unfold keptR at hk
      rw [List.all_eq_true] at hk
      have := hk g (List.mem_range.2 hg)
      rw [Bool.or_eq_true] at this
      rcases this with e | e
      · exact absurd (by simpa using e) hin
      · exact (eqR_rng hg ((zeroRB_eq hg _ 0).1 e)).2 (zeroR_rng 0 hg)
  · rw [(dec_faultR hx h).1]
    exact zeroR_okE 0 (by decide)
theorem allB_mis : ∀ (l : List Nat), AllB (repEnc (numC 255) l)
  | [] => fun c hc => by simp [repEnc] at hc
  | x :: l => by
    have e : repEnc (numC 255) (x :: l) = shortS x ++ repEnc (numC 255) l := by show (x :: l).flatMap (numC 255).enc = _; rw [List.flatMap_cons]; rfl
    rw [e]
    exact (allB_short _).app (allB_mis l)
theorem encR_bytes {m : RecP} (h : RecOk m) {f : Nat} (hf : f < 8) : AllB (encR f m) := by
  refine byEight (P := fun f => AllB (encR f m)) hf ?_ ?_ ?_ ?_ ?_ ?_ ?_ ?_
  · exact allB_short _
  · show AllB ([(m.tx.1 : Int)] ++ (shortS m.tx.2.1 ++ shortS m.tx.2.2))
    exact (allB_one h.tx.1).app ((allB_short _).app (allB_short _))
  · show AllB (shortS m.reg.1 ++ shortS m.reg.2)
    exact (allB_short _).app (allB_short _)
  · exact allB_short _
  · show AllB (shortS m.wr.length ++ repEnc wrC m.wr)
    exact (allB_short _).app (allB_ws h.wr)
  · exact allB_mis m.mis
  · exact h.key.b
  · exact allB_it h.item
theorem encRs_bytes {m : RecP} (h : RecOk m) : ∀ {fs : List Nat}, (∀ f ∈ fs, f < 8) → AllB (encRs fs m)
  | [], _ => fun c hc => by simp [encRs] at hc
  | f :: fs, hf => by
    have e : encRs (f :: fs) m = encR f m ++ encRs fs m := by simp [encRs]
    rw [e]
    exact (encR_bytes h (hf f List.mem_cons_self)).app (encRs_bytes h (fun g hg => hf g (List.mem_cons_of_mem _ hg)))
theorem enc_bytesR {m : RecP} (h : RecOk m) : ∀ c ∈ encRec m, 0 ≤ c ∧ c < 256 := by
  show AllB ([(m.kind : Int)] ++ encRs (fieldsR m.kind) m)
  exact (allB_one h.kind).app (encRs_bytes h (fieldsR_facts m.kind).2)
theorem dec_atR {b : List Int} (h : (decRec b).2.1 = 0) : (decRec b).2.2 = 0 := by
  unfold decRec at h ⊢
  simp only at h ⊢
  split
  · rfl
  · rename_i hc
    rw [if_neg hc] at h
    split
    · rename_i h3
      rw [if_pos h3] at h
      exact absurd h h3
    · split <;> rfl
theorem zeroRec (w : World) : (zeroValue 41).run Tryz.prog w = .ok (.agg (recA (zeroR 0) (.slice none 0 0) (.slice none 0 0))) w := by kernel_rfl
set_option maxRecDepth 100000 in
set_option maxHeartbeats 6400000 in
theorem walkO11 (H : RecDo) (v : Value) (b : List Int) (w : World) (hL : Lies .u8 w v b) (hx : ∀ c ∈ b, 0 ≤ c ∧ c < 256) :
    Calls Tryz.prog 7 #[v] w fun e w' => e = .returned (.bool true) ∧ Below w.heap.size w w' := by
  obtain ⟨ao, cap, rfl⟩ := hL.shape
  have HL := hide hL
  obtain ⟨n, hn⟩ : ∃ n, n = b.length := ⟨_, rfl⟩
  have HN := hide hn
  rw [← hn]
  by_cases hlong : 10000 < n
  · have d1 : decide ((n : Int) > 10000) = true := decide_eq_true (by omega)
    have HA := hide (fun w => alive_by11 H w)
    clear hL hn
    go_enter Tryz.func7, Tryz.ntmps7
    go_wp2_with (first | (go_at_call 9; refine (HA.out _).mono ?_; rintro e w1 ⟨rfl, hB⟩; have HB := hide hB; clear hB))
    go_ret
    exact ⟨rfl, HB.out⟩
  have d1 : decide ((n : Int) > 10000) = false := decide_eq_false (by omega)
  have C0 := H.dec (by omega) hx hL
  rw [← hn] at C0
  obtain ⟨mm, hmm⟩ : ∃ mm, mm = (decRec b).1 := ⟨_, rfl⟩
  obtain ⟨f0, hf0⟩ : ∃ f0, f0 = (decRec b).2.1 := ⟨_, rfl⟩
  obtain ⟨f1, hf1⟩ : ∃ f1, f1 = (decRec b).2.2 := ⟨_, rfl⟩
  rw [← hmm, ← hf0, ← hf1] at C0
  have HC0 := hide C0
  have HMO : Hid (RecOk mm) := hide (by rw [hmm]; exact dec_okR hx)
  have HMM := hide hmm
  have HF0 := hide hf0
  have HF1 := hide hf1
  have HXB := hide hx
  have hzm := zeroRec
  have HA := hide (fun w => alive_by11 H w)
  clear C0 hL hn hlong hmm hf0 hf1 hx
  go_enter Tryz.func7, Tryz.ntmps7
  go_wp2_with fail
  refine HC0.out.mono ?_
  rintro e w2 ⟨u, rfl, ⟨ao2, bo2, cap2, dap2, rfl, hM, hM2⟩, hB2⟩
  have HM := hide hM
  have HMM2 := hide hM2
  have HB2 := hide hB2
  have HZB : Hid (Below w2.heap.size w2 ((w2.alloc (.cells (recA (zeroR 0) (.slice none 0 0) (.slice none 0 0)) 41)).alloc (.cells #[.int .i64 0, .int .i64 0] 53))) := hide (((Below.refl _ _).alloc (Nat.le_refl _) _).alloc (by simp) _)
  have HZ1 : Hid (Box ((w2.alloc (.cells (recA (zeroR 0) (.slice none 0 0) (.slice none 0 0)) 41)).alloc (.cells #[.int .i64 0, .int .i64 0] 53)) w2.heap.size (recA (zeroR 0) (.slice none 0 0) (.slice none 0 0)) 41) := hide ((box_new w2 _ _).belowI (alloc_below10 _ _))
  have HZ2 : Hid (Box ((w2.alloc (.cells (recA (zeroR 0) (.slice none 0 0) (.slice none 0 0)) 41)).alloc (.cells #[.int .i64 0, .int .i64 0] 53)) (w2.heap.size + 1) #[.int .i64 0, .int .i64 0] 53) := hide (by have := box_new (w2.alloc (.cells (recA (zeroR 0) (.slice none 0 0) (.slice none 0 0)) 41)) #[.int .i64 0, .int .i64 0] 53; simpa using this)
  clear hM hM2 hB2
  obtain ⟨f1i, hf1i⟩ : ∃ f1i : Int, f1i = (f1 : Int) := ⟨_, rfl⟩
  rw [← hf1i]
  have HF1I := hide hf1i
  have hneq := fun W => neq_flt10 f0 f1i 0 0 W
  clear hf1i
  by_cases hf : f0 = 0
  · subst hf
    obtain rfl : f1i = 0 := by
      have := dec_atR (b := b) (by rw [← HF0.out])
      rw [← HF1.out] at this
      rw [HF1I.out, this]
      rfl
    have hbq : (!((0 : Int) == 0 && (0 : Int) == 0)) = false := by simp
    rw [hbq] at hneq
    have HED : Hid (mayR mm = true ∧ encRec mm = b) := hide (by have := enc_decR HXB.out (by rw [← HF0.out]); rw [← HMM.out] at this; exact ⟨this.1, this.2.1⟩)
    go_wp2_with (first | (refine wp_store_box rfl rfl _ _ rfl w2.heap.size rfl (cs' := recA mm (.slice ao2 mm.wr.length cap2) (.slice bo2 mm.mis.length dap2)) rfl HZ1.out rfl infoRec (rec_one _ _ _ _ _ _ _) ?_; intro w3 hb3 hk3; have HM3 := hide hb3; have HZ3 := hide (HZ2.out.keep hk3 (by omega)); have HA3 := hide (HZB.out.trans (hk3.below HZB.out.size (fun k hk => by omega))); clear hb3 hk3) | (refine wp_store_box rfl rfl _ _ rfl (w2.heap.size + 1) rfl (cs' := #[.int .i64 0, .int .i64 0]) rfl HZ3.out rfl infoFlt (flt_one2 _ _) ?_; intro w4 hb4 hk4; have HM4 := hide (HM3.out.keep hk4 (by omega)); have HF4 := hide hb4; have HA4 := hide (HA3.out.trans (hk4.below HA3.out.size (fun k hk => by omega))); have z0 := hb4.cell 0 _ rfl; have z1 := hb4.cell 1 _ rfl; clear hb4 hk4) | (refine wp_load_box rfl _ rfl w2.heap.size rfl HM4.out Tryz.underlying41 rfl infoRec ?_))
    have hM4 : RcLies w4 (.agg (recA mm (.slice ao2 mm.wr.length cap2) (.slice bo2 mm.mis.length dap2))) mm := ⟨ao2, bo2, cap2, dap2, rfl, HM.out.below HA4.out, HMM2.out.below HA4.out⟩
    have CE := H.enc HMO.out hM4
    rw [HED.out.1, HED.out.2] at CE
    simp only [if_true] at CE
    refine CE.mono ?_
    rintro e w5 ⟨u5, rfl, hL5, hB5⟩
    have HB5 := hide hB5
    have HM5 := hide (HM4.out.belowI hB5)
    have HS : Hid (Calls Tryz.prog 17 #[u5, .slice ao n cap] w5 fun e w' => e = .returned (.bool true) ∧ w' = w5) := hide (by
      have h0 : Lies .u8 w5 (.slice ao n cap) b := by
        have := HL.out.below (HB2.out.trans ((HA4.out.trans (hB5.mono HA4.out.size)).mono HB2.out.size))
        rw [← HN.out] at this
        exact this
      exact same_any u5 _ b w5 hL5 h0)
    have HMY : Hid (Calls Tryz.prog 10 #[.agg (recA mm (.slice ao2 mm.wr.length cap2) (.slice bo2 mm.mis.length dap2))] w5 fun e w' => e = .returned (.bool true) ∧ Below w5.heap.size w5 w') := hide (by
      have := H.may HMO.out (hM4.below hB5)
      rw [HED.out.1] at this
      exact this)
    obtain ⟨a5, c5, hu5⟩ := hL5.shape
    subst hu5
    have HBW := hide (HB2.out.trans ((HA4.out.trans (hB5.mono HA4.out.size)).mono HB2.out.size))
    clear CE hM4 hL5 hB5 z0 z1 HZ1 HZ2 HZB HC0 hneq hbq
    go_wp2_with (first | (go_at_call 17; refine HS.out.mono ?_; rintro e w5' ⟨rfl, hw⟩; subst hw) | (go_at_call 10; refine HMY.out.mono ?_; rintro e w6 ⟨rfl, hB6⟩; have HB6 := hide hB6; clear hB6) | (go_at_call 9; refine (HA.out _).mono ?_; rintro e w7 ⟨rfl, hB7⟩; have HB7 := hide hB7; clear hB7) | (refine wp_load_box_g rfl _ rfl w2.heap.size rfl HM5.out Tryz.underlying41 rfl infoRec ?_))
    go_ret
    exact ⟨rfl, HBW.out.trans ((HB6.out.trans (HB7.out.mono HB6.out.size)).mono HBW.out.size)⟩
  · have hbq : (!(f0 == 0 && f1i == 0)) = true := by simp [hf]
    rw [hbq] at hneq
    have HDF : Hid (mm = zeroR 0 ∧ f1 ≤ b.length) := hide (by have := dec_faultR HXB.out (by rw [← HF0.out]; exact hf); rw [← HMM.out, ← HF1.out] at this; exact this)
    have hf1a : 0 ≤ f1i := by rw [HF1I.out]; omega
    have hf1b : f1i ≤ (n : Int) := by rw [HF1I.out, HN.out]; have := HDF.out.2; omega
    have dg : decide (f1i ≥ 0) = true := decide_eq_true hf1a
    have dl : decide (f1i ≤ (n : Int)) = true := decide_eq_true hf1b
    go_wp2_with (first | (refine wp_store_box rfl rfl _ _ rfl w2.heap.size rfl (cs' := recA mm (.slice ao2 mm.wr.length cap2) (.slice bo2 mm.mis.length dap2)) rfl HZ1.out rfl infoRec (rec_one _ _ _ _ _ _ _) ?_; intro w3 hb3 hk3; have HM3 := hide hb3; have HZ3 := hide (HZ2.out.keep hk3 (by omega)); have HA3 := hide (HZB.out.trans (hk3.below HZB.out.size (fun k hk => by omega))); clear hb3 hk3) | (refine wp_store_box rfl rfl _ _ rfl (w2.heap.size + 1) rfl (cs' := #[.int .i64 f0, .int .i64 f1i]) rfl HZ3.out rfl infoFlt (flt_one2 _ _) ?_; intro w4 hb4 hk4; have HM4 := hide (HM3.out.keep hk4 (by omega)); have HF4 := hide hb4; have HA4 := hide (HA3.out.trans (hk4.below HA3.out.size (fun k hk => by omega))); have z0 := hb4.cell 0 _ rfl; have z1 := hb4.cell 1 _ rfl; clear hb4 hk4) | (refine wp_load_box rfl _ rfl w2.heap.size rfl HM4.out Tryz.underlying41 rfl infoRec ?_))
    have HSM : Hid (Calls Tryz.prog 13 #[.agg (recA mm (.slice ao2 mm.wr.length cap2) (.slice bo2 mm.mis.length dap2)), .agg (recA (zeroR 0) (.slice none 0 0) (.slice none 0 0))] w4 fun e w' => e = .returned (.bool true) ∧ Below w4.heap.size w4 w') := hide (by
      have := H.same HMO.out (zeroR_okE 0 (by decide)) (⟨ao2, bo2, cap2, dap2, rfl, HM.out.below HA4.out, HMM2.out.below HA4.out⟩ : RcLies w4 (.agg (recA mm (.slice ao2 mm.wr.length cap2) (.slice bo2 mm.mis.length dap2))) mm) (⟨none, none, 0, 0, rfl, RSrc.nil _, Lies.nil _ _⟩ : RcLies w4 (.agg (recA (zeroR 0) (.slice none 0 0) (.slice none 0 0))) (zeroR 0))
      rw [decide_eq_true HDF.out.1] at this
      exact this)
    refine HSM.out.mono ?_
    rintro e w5 ⟨rfl, hB5⟩
    obtain ⟨y0, y1⟩ : w5.cell? ⟨w2.heap.size + 1, 0, none⟩ = some (.int .i64 f0) ∧ w5.cell? ⟨w2.heap.size + 1, 1, none⟩ = some (.int .i64 f1i) := ⟨(HF4.out.belowI hB5).cell 0 _ rfl, (HF4.out.belowI hB5).cell 1 _ rfl⟩
    have HBW := hide (HB2.out.trans ((HA4.out.trans (hB5.mono HA4.out.size)).mono HB2.out.size))
    clear hB5 z0 z1 HZ1 HZ2 HZB HC0 hneq hbq HSM
    go_wp2_with (first | (go_at_call 9; refine (HA.out _).mono ?_; rintro e w7 ⟨rfl, hB7⟩; have HB7 := hide hB7; clear hB7))
    go_ret
    exact ⟨rfl, HBW.out.trans (HB7.out.mono HBW.out.size)⟩
end
end Go.Proofs.YtencmgepffdodaaGreat
