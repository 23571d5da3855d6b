/-
  Own texts put together: E10One. Own work.
-/
import Derived.Test.YtoppdelljjapoaaGreatG11
namespace Go.Proofs.YtoppdelljjapoaaGreat
section
open Go.RowKit Classical

theorem it_ok_of {i : ItP} (h : itRng i) : ItOk i := ⟨by have := h.1; show i.ver < 4294967296; have : i.ver ≤ 2147483647 := this; omega, h.2.1.2, ⟨by have : i.cf.e ≤ 2147483647 := h.2.2.1; omega, by have := h.2.2.2.1; omega, by have := h.2.2.2.2.1; omega, h.2.2.2.2.2.1, h.2.2.2.2.2.2⟩⟩
theorem msg_ok_of {m : MsgP} (hk : m.kind < 256) (h : ∀ g, g < 10 → rngF g m) : MsgOk m := by
  have h0 : m.tx.1 < 256 ∧ m.tx.2.1 ≤ 2147483647 ∧ m.tx.2.2 ≤ 2147483647 := h 0 (by decide)
  have h1 : m.time ≤ 2147483647 := h 1 (by decide)
  have h2 : m.reg.1 ≤ 2147483647 ∧ m.reg.2 ≤ 2147483647 := h 2 (by decide)
  have h3 : m.key.length = 8 ∧ ∀ c ∈ m.key, 0 ≤ c ∧ c < 256 := h 3 (by decide)
  have h4 : m.mode < 256 := h 4 (by decide)
  have h5 : m.no ≤ 2147483647 := h 5 (by decide)
  have h6 : m.why ≤ 17 := h 6 (by decide)
  have h7 : m.yes < 256 := h 7 (by decide)
  have h8 : itRng m.item := h 8 (by decide)
  have h9 : m.wr.length ≤ 16 ∧ ∀ x ∈ m.wr, wrRng x := h 9 (by decide)
  exact ⟨hk, ⟨h0.1, by omega, by omega⟩, by omega, ⟨by omega, by omega⟩, ⟨h3.1, h3.2⟩, h4, by omega, by omega, h7, it_ok_of h8, fun x hx => ⟨⟨(h9.2 x hx).1.1, (h9.2 x hx).1.2⟩, it_ok_of (h9.2 x hx).2⟩⟩
theorem zero_rng (k : Nat) {g : Nat} (hg : g < 10) : rngF g (zeroM k) := by
  refine ten (P := fun g => rngF g (zeroM k)) hg ?_ ?_ ?_ ?_ ?_ ?_ ?_ ?_ ?_ ?_
  · show (0 : Nat) < 256 ∧ (0 : Nat) ≤ mxN ∧ (0 : Nat) ≤ mxN; decide
  · show (0 : Nat) ≤ mxN; decide
  · show (0 : Nat) ≤ mxN ∧ (0 : Nat) ≤ mxN; decide
  · show [(0 : Int), 0, 0, 0, 0, 0, 0, 0].length = 8 ∧ ∀ c ∈ [(0 : Int), 0, 0, 0, 0, 0, 0, 0], 0 ≤ c ∧ c < 256; decide
  · show (0 : Nat) < 256; decide
  · show (0 : Nat) ≤ mxN; decide
  · show (0 : Nat) ≤ 17; decide
  · show (0 : Nat) < 256; decide
  · show itRng zeroIt
    exact ⟨by decide, ⟨by decide, by decide⟩, by decide, by decide, by decide, rfl, by decide⟩
  · exact ⟨Nat.zero_le _, fun x hx => by cases hx⟩
theorem zero_ok (k : Nat) (hk : k < 256) : MsgOk (zeroM k) := msg_ok_of hk (fun _ hg => zero_rng k hg)
theorem may_kept {m : MsgP} (h : mayM m = true) : fieldsN m.kind ≠ [] ∧ keptB m = true := by
  unfold mayM at h
  simp only [Bool.and_eq_true] at h
  exact ⟨fun e => by rw [e] at h; simp at h, h.1.2⟩
/-- What is decoded fits its types. -/
theorem dec_ok {b : List Int} (hx : ∀ c ∈ b, 0 ≤ c ∧ c < 256) : MsgOk (decM b).1 := by
  by_cases h : (decM b).2.1 = 0
  · obtain ⟨hm, _, hr⟩ := enc_dec hx h
    obtain ⟨hne, hk⟩ := may_kept hm
    have hkind : (decM b).1.kind < 256 := by rcases fields_kind hne with e | e | e | e | e | e | e | e | e | e | e <;> omega
    refine msg_ok_of hkind (fun g hg => ?_)
    by_cases hin : g ∈ fieldsN (decM b).1.kind
    · exact hr g hin
    · unfold keptB at hk
      rw [List.all_eq_true] at hk
      have := hk g (List.mem_range.2 hg)
      rw [Bool.or_eq_true] at this
      rcases this with e | e
      · exact absurd (by simpa using e) hin
      · exact (eqF_rng hg ((zeroB_eq hg _ 0).1 e)).2 (zero_rng 0 hg)
  · rw [(dec_fault hx h).1]
    exact zero_ok 0 (by decide)
/-- What is encoded is bytes. -/
def AllB (l : List Int) : Prop := ∀ c ∈ l, 0 ≤ c ∧ c < 256
theorem AllB.app {a b : List Int} (ha : AllB a) (hb : AllB b) : AllB (a ++ b) := fun c hc => (List.mem_append.1 hc).elim (ha c) (hb c)
theorem allB_short (n : Nat) : AllB (shortS n) := fun c hc => shortS_bytes n c hc
theorem allB_one {n : Nat} (h : n < 256) : AllB [(n : Int)] := fun c hc => by simp at hc; subst hc; omega
theorem allB_votes : ∀ {l : List Nat}, (∀ x ∈ l, x < 256) → AllB (repEnc byteN l)
  | [], _ => fun c hc => by simp [repEnc] at hc
  | x :: l, h => by
    have e : repEnc byteN (x :: l) = [(x : Int)] ++ repEnc byteN l := by simp [repEnc, byteN]
    rw [e]
    exact (allB_one (h x List.mem_cons_self)).app (allB_votes (fun y hy => h y (List.mem_cons_of_mem _ hy)))
theorem allB_it {i : ItP} (h : ItOk i) : AllB (itC.enc i) := by
  have e : itC.enc i = shortS i.ver ++ ((shortS i.val.length ++ i.val) ++ (shortS i.cf.e ++ (shortS i.cf.r ++ (shortS i.cf.w ++ repEnc byteN i.cf.vs)))) := rfl
  rw [e]
  exact (allB_short _).app (((allB_short _).app h.s).app ((allB_short _).app ((allB_short _).app ((allB_short _).app (allB_votes h.c.v)))))
theorem allB_ws : ∀ {l : List WrP}, (∀ x ∈ l, KeyOk x.key ∧ ItOk x.it) → AllB (repEnc wrC l)
  | [], _ => fun c hc => by simp [repEnc] at hc
  | x :: l, h => by
    have e : repEnc wrC (x :: l) = (x.key ++ itC.enc x.it) ++ repEnc wrC l := by show (x :: l).flatMap wrC.enc = _; rw [List.flatMap_cons]; rfl
    rw [e]
    have hx := h x List.mem_cons_self
    exact (AllB.app hx.1.b (allB_it hx.2)).app (allB_ws (fun y hy => h y (List.mem_cons_of_mem _ hy)))
theorem encF_bytes {m : MsgP} (h : MsgOk m) {f : Nat} (hf : f < 10) : AllB (encF f m) := by
  refine ten (P := fun f => AllB (encF f m)) hf ?_ ?_ ?_ ?_ ?_ ?_ ?_ ?_ ?_ ?_
  · show AllB ([(m.tx.1 : Int)] ++ (shortS m.tx.2.1 ++ shortS m.tx.2.2))
    exact (allB_one h.tx.1).app ((allB_short _).app (allB_short _))
  · exact allB_short _
  · show AllB (shortS m.reg.1 ++ shortS m.reg.2)
    exact (allB_short _).app (allB_short _)
  · exact h.key.b
  · exact allB_one h.mode
  · exact allB_short _
  · exact allB_short _
  · exact allB_one h.yes
  · exact allB_it h.item
  · show AllB (shortS m.wr.length ++ repEnc wrC m.wr)
    exact (allB_short _).app (allB_ws h.wr)
theorem encFs_bytes {m : MsgP} (h : MsgOk m) : ∀ {fs : List Nat}, (∀ f ∈ fs, f < 10) → AllB (encFs fs m)
  | [], _ => fun c hc => by simp [encFs] at hc
  | f :: fs, hf => by
    have e : encFs (f :: fs) m = encF f m ++ encFs fs m := by simp [encFs]
    rw [e]
    exact (encF_bytes h (hf f List.mem_cons_self)).app (encFs_bytes h (fun g hg => hf g (List.mem_cons_of_mem _ hg)))
theorem enc_bytes {m : MsgP} (h : MsgOk m) : ∀ c ∈ encM m, 0 ≤ c ∧ c < 256 := by
  show AllB ([(m.kind : Int)] ++ encFs (fieldsN m.kind) m)
  exact (allB_one h.kind).app (encFs_bytes h (fields_facts m.kind).2)
theorem dec_at {b : List Int} (h : (decM b).2.1 = 0) : (decM b).2.2 = 0 := by
  unfold decM at h ⊢
  simp only at h ⊢
  split
  · rfl
  · rename_i hc
    rw [if_neg hc] at h
    split
    · rename_i h3
      rw [if_pos h3] at h
      exact absurd h h3
    · split <;> rfl
theorem flt_one2 (a b : Int) : (#[.int .i64 a, .int .i64 b] : Array Value).all (·.oneCell') = true := by simp [Value.oneCell']
theorem neq_flt10 (a b c d : Int) (w : World) : (binOp .neq 53 (.agg #[.int .i64 a, .int .i64 b]) (.agg #[.int .i64 c, .int .i64 d])).run Tryz.prog w = .ok (.bool (!(a == c && b == d))) w := by
  rw [run_neq_struct, eq_flt10]; rfl
/-- A whole variable is loaded, behind a guard that lets it by. -/
theorem wp_load_box_g {ops : Array Oper} {rest : List Oper} {op : Oper} {a : Act} {w : World} {Q : Exit → Act → World → Prop} {t t0 : TypeId} {d : TypeDesc} (hgd : Region.wanted op (yielded ops a.tmps) = true) (x : Operand) (ho : op.op = .load t x)
    (p : Nat) (hx : a.eval x = .pointer (some ⟨p, 0, none⟩)) {cs : Array Value} (hb : Box w p cs t0) (hu : Tryz.prog.underlying t = some d) (hd : d.isRow = true) (hi : (Tryz.prog.info? t).map (·.size) = some cs.size)
    (h : wpList Tryz.prog ops Q rest (a.put op.dst (.agg cs)) w) : wpList Tryz.prog ops Q (op :: rest) a w := by
  have hr : w.rangeAt p 0 cs.toList := fun j v hv => by
    rw [Nat.zero_add]; exact hb.cell j v (by simpa using hv)
  exact wpList_wanted hgd fun _ hK => wp_load_mid t x ho p 0 hx cs.toList d hr hu hd (by simpa using hi) (hK _ _ (by simpa using h))
theorem zeroMsg (w : World) : (zeroValue 39).run Tryz.prog w = .ok (.agg (msgA (zeroM 0) (.slice none 0 0))) w := by kernel_rfl
set_option maxRecDepth 100000 in
set_option maxHeartbeats 6400000 in
theorem walkO10 (H : MsgDo) (v : Value) (b : List Int) (w : World) (hL : Lies .u8 w v b) (hx : ∀ c ∈ b, 0 ≤ c ∧ c < 256) :
    Calls Tryz.prog 8 #[v] w fun e w' => e = .returned (.bool true) ∧ Below w.heap.size w w' := by
  obtain ⟨ao, cap, rfl⟩ := hL.shape
  have HL := hide hL
  obtain ⟨n, hn⟩ : ∃ n, n = b.length := ⟨_, rfl⟩
  have HN := hide hn
  rw [← hn]
  by_cases hlong : 10000 < n
  · have d1 : decide ((n : Int) > 10000) = true := decide_eq_true (by omega)
    have HA := hide (fun w => alive_by10 H w)
    clear hL hn
    go_enter Tryz.func8, Tryz.ntmps8
    go_wp2_with (first | (go_at_call 10; refine (HA.out _).mono ?_; rintro e w1 ⟨rfl, hB⟩; have HB := hide hB; clear hB))
    go_ret
    exact ⟨rfl, HB.out⟩
  have d1 : decide ((n : Int) > 10000) = false := decide_eq_false (by omega)
  have C0 := H.dec (by omega) hx hL
  rw [← hn] at C0
  obtain ⟨mm, hmm⟩ : ∃ mm, mm = (decM b).1 := ⟨_, rfl⟩
  obtain ⟨f0, hf0⟩ : ∃ f0, f0 = (decM b).2.1 := ⟨_, rfl⟩
  obtain ⟨f1, hf1⟩ : ∃ f1, f1 = (decM b).2.2 := ⟨_, rfl⟩
  rw [← hmm, ← hf0, ← hf1] at C0
  have HC0 := hide C0
  have HMO : Hid (MsgOk mm) := hide (by rw [hmm]; exact dec_ok hx)
  have HMM := hide hmm
  have HF0 := hide hf0
  have HF1 := hide hf1
  have HXB := hide hx
  have hzm := zeroMsg
  have HA := hide (fun w => alive_by10 H w)
  clear C0 hL hn hlong hmm hf0 hf1 hx
  go_enter Tryz.func8, Tryz.ntmps8
  go_wp2_with fail
  refine HC0.out.mono ?_
  rintro e w2 ⟨u, rfl, ⟨ao2, cap2, rfl, hM⟩, hB2⟩
  have HM := hide hM
  have HB2 := hide hB2
  have HZB : Hid (Below w2.heap.size w2 ((w2.alloc (.cells (msgA (zeroM 0) (.slice none 0 0)) 39)).alloc (.cells #[.int .i64 0, .int .i64 0] 53))) := hide (((Below.refl _ _).alloc (Nat.le_refl _) _).alloc (by simp) _)
  have HZ1 : Hid (Box ((w2.alloc (.cells (msgA (zeroM 0) (.slice none 0 0)) 39)).alloc (.cells #[.int .i64 0, .int .i64 0] 53)) w2.heap.size (msgA (zeroM 0) (.slice none 0 0)) 39) := hide ((box_new w2 _ _).belowI (alloc_below10 _ _))
  have HZ2 : Hid (Box ((w2.alloc (.cells (msgA (zeroM 0) (.slice none 0 0)) 39)).alloc (.cells #[.int .i64 0, .int .i64 0] 53)) (w2.heap.size + 1) #[.int .i64 0, .int .i64 0] 53) := hide (by have := box_new (w2.alloc (.cells (msgA (zeroM 0) (.slice none 0 0)) 39)) #[.int .i64 0, .int .i64 0] 53; simpa using this)
  clear hM hB2
  obtain ⟨f1i, hf1i⟩ : ∃ f1i : Int, f1i = (f1 : Int) := ⟨_, rfl⟩
  rw [← hf1i]
  have HF1I := hide hf1i
  have hneq := fun W => neq_flt10 f0 f1i 0 0 W
  clear hf1i
  by_cases hf : f0 = 0
  · subst hf
    obtain rfl : f1i = 0 := by
      have := dec_at (b := b) (by rw [← HF0.out])
      rw [← HF1.out] at this
      rw [HF1I.out, this]
      rfl
    have hbq : (!((0 : Int) == 0 && (0 : Int) == 0)) = false := by simp
    rw [hbq] at hneq
    have HED : Hid (mayM mm = true ∧ encM mm = b) := hide (by have := enc_dec HXB.out (by rw [← HF0.out]); rw [← HMM.out] at this; exact ⟨this.1, this.2.1⟩)
    go_wp2_with (first | (refine wp_store_box rfl rfl _ _ rfl w2.heap.size rfl (cs' := msgA mm (.slice ao2 mm.wr.length cap2)) rfl HZ1.out rfl infoMsg (msg_one _ _ _ _) ?_; intro w3 hb3 hk3; have HM3 := hide hb3; have HZ3 := hide (HZ2.out.keep hk3 (by omega)); have HA3 := hide (HZB.out.trans (hk3.below HZB.out.size (fun k hk => by omega))); clear hb3 hk3) | (refine wp_store_box rfl rfl _ _ rfl (w2.heap.size + 1) rfl (cs' := #[.int .i64 0, .int .i64 0]) rfl HZ3.out rfl infoFlt (flt_one2 _ _) ?_; intro w4 hb4 hk4; have HM4 := hide (HM3.out.keep hk4 (by omega)); have HF4 := hide hb4; have HA4 := hide (HA3.out.trans (hk4.below HA3.out.size (fun k hk => by omega))); have z0 := hb4.cell 0 _ rfl; have z1 := hb4.cell 1 _ rfl; clear hb4 hk4) | (refine wp_load_box rfl _ rfl w2.heap.size rfl HM4.out Tryz.underlying39 rfl infoMsg ?_))
    have hM4 : MgLies w4 (.agg (msgA mm (.slice ao2 mm.wr.length cap2))) mm := ⟨ao2, cap2, rfl, HM.out.below HA4.out⟩
    have CE := H.enc HMO.out hM4
    rw [HED.out.1, HED.out.2] at CE
    simp only [if_true] at CE
    refine CE.mono ?_
    rintro e w5 ⟨u5, rfl, hL5, hB5⟩
    have HB5 := hide hB5
    have HM5 := hide (HM4.out.belowI hB5)
    have HS : Hid (Calls Tryz.prog 22 #[u5, .slice ao n cap] w5 fun e w' => e = .returned (.bool true) ∧ w' = w5) := hide (by
      have h0 : Lies .u8 w5 (.slice ao n cap) b := by
        have := HL.out.below (HB2.out.trans ((HA4.out.trans (hB5.mono HA4.out.size)).mono HB2.out.size))
        rw [← HN.out] at this
        exact this
      exact same_any u5 _ b w5 hL5 h0)
    have HMY : Hid (Calls Tryz.prog 11 #[.agg (msgA mm (.slice ao2 mm.wr.length cap2))] w5 fun e w' => e = .returned (.bool true) ∧ Below w5.heap.size w5 w') := hide (by
      have := H.may HMO.out (hM4.below hB5)
      rw [HED.out.1] at this
      exact this)
    obtain ⟨a5, c5, hu5⟩ := hL5.shape
    subst hu5
    have HBW := hide (HB2.out.trans ((HA4.out.trans (hB5.mono HA4.out.size)).mono HB2.out.size))
    clear CE hM4 hL5 hB5 z0 z1 HZ1 HZ2 HZB HC0 hneq hbq
    go_wp2_with (first | (go_at_call 22; refine HS.out.mono ?_; rintro e w5' ⟨rfl, hw⟩; subst hw) | (go_at_call 11; refine HMY.out.mono ?_; rintro e w6 ⟨rfl, hB6⟩; have HB6 := hide hB6; clear hB6) | (go_at_call 10; refine (HA.out _).mono ?_; rintro e w7 ⟨rfl, hB7⟩; have HB7 := hide hB7; clear hB7) | (refine wp_load_box_g rfl _ rfl w2.heap.size rfl HM5.out Tryz.underlying39 rfl infoMsg ?_))
    go_ret
    exact ⟨rfl, HBW.out.trans ((HB6.out.trans (HB7.out.mono HB6.out.size)).mono HBW.out.size)⟩
  · have hbq : (!(f0 == 0 && f1i == 0)) = true := by simp [hf]
    rw [hbq] at hneq
    have HDF : Hid (mm = zeroM 0 ∧ f1 ≤ b.length) := hide (by have := dec_fault HXB.out (by rw [← HF0.out]; exact hf); rw [← HMM.out, ← HF1.out] at this; exact this)
    have hf1a : 0 ≤ f1i := by rw [HF1I.out]; omega
    have hf1b : f1i ≤ (n : Int) := by rw [HF1I.out, HN.out]; have := HDF.out.2; omega
    have dg : decide (f1i ≥ 0) = true := decide_eq_true hf1a
    have dl : decide (f1i ≤ (n : Int)) = true := decide_eq_true hf1b
    go_wp2_with (first | (refine wp_store_box rfl rfl _ _ rfl w2.heap.size rfl (cs' := msgA mm (.slice ao2 mm.wr.length cap2)) rfl HZ1.out rfl infoMsg (msg_one _ _ _ _) ?_; intro w3 hb3 hk3; have HM3 := hide hb3; have HZ3 := hide (HZ2.out.keep hk3 (by omega)); have HA3 := hide (HZB.out.trans (hk3.below HZB.out.size (fun k hk => by omega))); clear hb3 hk3) | (refine wp_store_box rfl rfl _ _ rfl (w2.heap.size + 1) rfl (cs' := #[.int .i64 f0, .int .i64 f1i]) rfl HZ3.out rfl infoFlt (flt_one2 _ _) ?_; intro w4 hb4 hk4; have HM4 := hide (HM3.out.keep hk4 (by omega)); have HF4 := hide hb4; have HA4 := hide (HA3.out.trans (hk4.below HA3.out.size (fun k hk => by omega))); have z0 := hb4.cell 0 _ rfl; have z1 := hb4.cell 1 _ rfl; clear hb4 hk4) | (refine wp_load_box rfl _ rfl w2.heap.size rfl HM4.out Tryz.underlying39 rfl infoMsg ?_))
    have HSM : Hid (Calls Tryz.prog 18 #[.agg (msgA mm (.slice ao2 mm.wr.length cap2)), .agg (msgA (zeroM 0) (.slice none 0 0))] w4 fun e w' => e = .returned (.bool true) ∧ Below w4.heap.size w4 w') := hide (by
      have := H.same HMO.out (zero_ok 0 (by decide)) (⟨ao2, cap2, rfl, HM.out.below HA4.out⟩ : MgLies w4 (.agg (msgA mm (.slice ao2 mm.wr.length cap2))) mm) (⟨none, 0, rfl, RSrc.nil _⟩ : MgLies w4 (.agg (msgA (zeroM 0) (.slice none 0 0))) (zeroM 0))
      rw [decide_eq_true HDF.out.1] at this
      exact this)
    refine HSM.out.mono ?_
    rintro e w5 ⟨rfl, hB5⟩
    obtain ⟨y0, y1⟩ : w5.cell? ⟨w2.heap.size + 1, 0, none⟩ = some (.int .i64 f0) ∧ w5.cell? ⟨w2.heap.size + 1, 1, none⟩ = some (.int .i64 f1i) := ⟨(HF4.out.belowI hB5).cell 0 _ rfl, (HF4.out.belowI hB5).cell 1 _ rfl⟩
    have HBW := hide (HB2.out.trans ((HA4.out.trans (hB5.mono HA4.out.size)).mono HB2.out.size))
    clear hB5 z0 z1 HZ1 HZ2 HZB HC0 hneq hbq HSM
    go_wp2_with (first | (go_at_call 10; refine (HA.out _).mono ?_; rintro e w7 ⟨rfl, hB7⟩; have HB7 := hide hB7; clear hB7))
    go_ret
    exact ⟨rfl, HBW.out.trans (HB7.out.mono HBW.out.size)⟩
end
end Go.Proofs.YtoppdelljjapoaaGreat
