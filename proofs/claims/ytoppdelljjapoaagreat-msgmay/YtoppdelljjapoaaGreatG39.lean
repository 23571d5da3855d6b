/-
  Own texts put together: MpDec. Own work.
-/
import Derived.Test.YtoppdelljjapoaaGreatG38
namespace Go.Proofs.YtoppdelljjapoaaGreat
section
open Go.RowKit Classical

theorem results_cells2 {P : Program} {fn : Func} {q q2 : Tmp} {t t0 t2 t20 : TypeId} {d d2 : TypeDesc} (h : fn.results = #[.cell q t, .cell q2 t2]) (tmps : Array Value) (w : World) (p p2 : Nat) (hq : tmps.getD q undef = .pointer (some ⟨p, 0, none⟩)) (hq2 : tmps.getD q2 undef = .pointer (some ⟨p2, 0, none⟩)) {cs cs2 : Array Value} (hb : Box w p cs t0) (hb2 : Box w p2 cs2 t20)
    (hu : P.underlying t = some d) (hd : d.isRow = true) (hi : (P.info? t).map (·.size) = some cs.size) (hu2 : P.underlying t2 = some d2) (hd2 : d2.isRow = true) (hi2 : (P.info? t2).map (·.size) = some cs2.size) : (results fn tmps).run P w = .ok (.tuple #[.agg cs, .agg cs2]) w := by
  have hr : w.rangeAt p 0 cs.toList := fun j v hv => by
    rw [Nat.zero_add]; exact hb.cell j v (by simpa using hv)
  have hl := run_loadVar_mid (P := P) w p 0 t cs.toList d hr hu hd (by simpa using hi)
  have hr2 : w.rangeAt p2 0 cs2.toList := fun j v hv => by
    rw [Nat.zero_add]; exact hb2.cell j v (by simpa using hv)
  have hl2 := run_loadVar_mid (P := P) w p2 0 t2 cs2.toList d2 hr2 hu2 hd2 (by simpa using hi2)
  have hq' : tmps[q]?.getD undef = .pointer (some ⟨p, 0, none⟩) := by rw [← Array.getD_eq_getD_getElem?]; exact hq
  have hq2' : tmps[q2]?.getD undef = .pointer (some ⟨p2, 0, none⟩) := by rw [← Array.getD_eq_getD_getElem?]; exact hq2
  simp only [results, h]
  simp [hq', hq2', asAddr, hl, hl2]
theorem build_msg (k : Nat) (w : World) : (Instr.build 39 #[(0, .int .u8 (k : Int))]).run Tryz.prog w = .ok (.agg (msgA (zeroM k) (.slice none 0 0))) w := by kernel_rfl
theorem build_msg0 (w : World) : (Instr.build 39 #[]).run Tryz.prog w = .ok (.agg (msgA (zeroM 0) (.slice none 0 0))) w := by kernel_rfl
theorem decF_rs (n : Nat) (a b : MsgP) (r : RS) : (decF n a r).2 = (decF n b r).2 := by unfold decF; split <;> rfl
theorem decFs_snoc : ∀ (l : List Nat) (n : Nat) (a : MsgP) (r : RS), decFs (l ++ [n]) a r = decF n (decFs l a r).1 (decFs l a r).2
  | [], _, _, _ => rfl
  | f :: l, n, a, r => by
    rw [List.cons_append, decFs, decFs_snoc l n]
    rfl
theorem decFs_take (l : List Nat) (a : MsgP) (r : RS) {k : Nat} (hk : k < l.length) : decFs (l.take (k + 1)) a r = decF l[k] (decFs (l.take k) a r).1 (decFs (l.take k) a r).2 := by
  rw [List.take_succ_eq_append_getElem hk, decFs_snoc]
/-- What stands while the fields are read. -/
structure DecI (w wr : World) (lo hi hi2 q b7 pr bR : Nat) (F : Nat → List Value) (l : List Nat) (vc vb : Value) (b : List Int) (r : RS) (m : MsgP) (p : Value) : Prop where
  fa : FA lo hi q wr F
  le : hi ≤ hi2 ∧ hi2 ≤ wr.heap.size ∧ lo ≤ b7 ∧ b7 < hi2 ∧ q < lo ∧ pr < lo ∧ q ≠ pr ∧ bR + 1 < q ∧ bR + 1 < pr ∧ w.heap.size ≤ bR
  box : Box wr q (msgA m p) 39
  src : RSrc wrE wr p m.wr
  ps : ∀ g, p.ownBlock = some g → (g ≠ pr ∧ g ≠ q) ∧ bR + 1 < g
  arr : Box wr b7 (fA F) 93
  cnt : Lies .i64 wr vc (natsI l)
  cb : ∀ g, vc.ownBlock = some g → g ≠ pr ∧ g ≠ q
  cr : CR wr pr vb b r
  vq : ∀ g, vb.ownBlock = some g → g ≠ q ∧ bR + 1 < g
  rb : Box wr bR (msgA (zeroM 0) (.slice none 0 0)) 39
  fb : Box wr (bR + 1) #[.int .i64 0, .int .i64 0] 53
  bl : Below w.heap.size w wr
theorem DecI.step {w wr w' : World} {lo hi hi2 q b7 pr bR n : Nat} {F : Nat → List Value} {l : List Nat} {vc vb : Value} {b : List Int} {r : RS} {m : MsgP} {p : Value} (h : DecI w wr lo hi hi2 q b7 pr bR F l vc vb b r m p) (h2 : GotF wr w' q pr vb b r m p n) :
    ∃ m' p', DecI w w' lo hi hi2 q b7 pr bR F l vc vb b (decF n m r).2 m' p' ∧ m'.kind = m.kind ∧ ((decF n m r).2.why = 0 → m' = (decF n m r).1) := by
  obtain ⟨m', p', g1, g2, g3, g4, g5, g6, g7, g8⟩ := h2
  obtain ⟨l1, l2, l3, l4, l5, l6, l7, l8, l9, l10⟩ := h.le
  have hsz := g6.size
  refine ⟨m', p', ⟨h.fa.keep g6 (fun k e => by omega), ⟨l1, by omega, l3, l4, l5, l6, l7, l8, l9, l10⟩, g1, g2, fun g hg => ⟨g3 g hg, ?_⟩, h.arr.keep g6 (fun e => by omega), lies_keep h.cnt g6 (fun g hg e => by have := h.cb g hg; omega), h.cb, g5, h.vq, h.rb.keep g6 (fun e => by omega), h.fb.keep g6 (fun e => by omega), h.bl.trans (g6.below h.bl.size (fun k e => by omega))⟩, g7, g8⟩
  rcases g4 with e | e
  · rw [e] at hg
    exact (h.ps g hg).2
  · have := e g hg
    omega
theorem DecI.below {w wr w' : World} {lo hi hi2 q b7 pr bR : Nat} {F : Nat → List Value} {l : List Nat} {vc vb : Value} {b : List Int} {r : RS} {m : MsgP} {p : Value} (h : DecI w wr lo hi hi2 q b7 pr bR F l vc vb b r m p) (hB : Below wr.heap.size wr w') : DecI w w' lo hi hi2 q b7 pr bR F l vc vb b r m p := by
  obtain ⟨l1, l2, l3, l4, l5, l6, l7, l8, l9, l10⟩ := h.le
  have hsz := hB.size
  exact ⟨h.fa.below hB, ⟨l1, by omega, l3, l4, l5, l6, l7, l8, l9, l10⟩, h.box.belowI hB, h.src.below hB, h.ps, h.arr.belowI hB, h.cnt.below hB, h.cb, h.cr.below hB, h.vq, h.rb.belowI hB, h.fb.belowI hB, h.bl.trans (hB.mono h.bl.size)⟩
/-- What stands behind the fields. -/
structure DecE (w W : World) (q bR : Nat) (m : MsgP) (p : Value) : Prop where
  le : bR + 1 < q ∧ w.heap.size ≤ bR
  box : Box W q (msgA m p) 39
  src : RSrc wrE W p m.wr
  ps : ∀ g, p.ownBlock = some g → bR + 1 < g
  rb : Box W bR (msgA (zeroM 0) (.slice none 0 0)) 39
  fb : Box W (bR + 1) #[.int .i64 0, .int .i64 0] 53
  bl : Below w.heap.size w W
theorem DecE.below {w W W' : World} {q bR : Nat} {m : MsgP} {p : Value} (h : DecE w W q bR m p) (hB : Below W.heap.size W W') : DecE w W' q bR m p := ⟨h.le, h.box.belowI hB, h.src.below hB, h.ps, h.rb.belowI hB, h.fb.belowI hB, h.bl.trans (hB.mono h.bl.size)⟩
theorem DecI.ended {w wr w' : World} {lo hi hi2 q b7 pr bR : Nat} {F : Nat → List Value} {l : List Nat} {vc vb : Value} {b : List Int} {r : RS} {m : MsgP} {p : Value} (h : DecI w wr lo hi hi2 q b7 pr bR F l vc vb b r m p) (hk : KeepBut (fun k => k = pr) wr w') : DecE w w' q bR m p := by
  obtain ⟨l1, l2, l3, l4, l5, l6, l7, l8, l9, l10⟩ := h.le
  exact ⟨⟨l8, l10⟩, h.box.keep hk (fun e => by omega), h.src.keep hk (fun g hg e => (h.ps g hg).1.1 e), fun g hg => (h.ps g hg).2, h.rb.keep hk (fun e => by omega), h.fb.keep hk (fun e => by omega), h.bl.trans (hk.below h.bl.size (fun k e => by omega))⟩
def decT (m : MsgP) (r1 : RS) (l : List Nat) : MsgP × Int × Nat :=
  if (endS (decFs l m r1).2).why ≠ 0 then (zeroM 0, (endS (decFs l m r1).2).why, (endS (decFs l m r1).2).fat) else if mayM (decFs l m r1).1 then ((decFs l m r1).1, 0, 0) else (zeroM 0, 3, 0)
theorem dec_first {b : List Int} (h : fieldsN (byteN.dec ⟨b, 0, 0, 0⟩).1 = []) (hw : (byteN.dec ⟨b, 0, 0, 0⟩).2.why = 0) : decM b = (zeroM 0, 3, 0) := by
  unfold decM
  exact if_pos ⟨h, hw⟩
theorem dec_then {b : List Int} (h : ¬ (fieldsN (byteN.dec ⟨b, 0, 0, 0⟩).1 = [] ∧ (byteN.dec ⟨b, 0, 0, 0⟩).2.why = 0)) : decM b = decT (zeroM (byteN.dec ⟨b, 0, 0, 0⟩).1) (byteN.dec ⟨b, 0, 0, 0⟩).2 (fieldsN (byteN.dec ⟨b, 0, 0, 0⟩).1) := by
  unfold decM
  exact if_neg h
/-- What was read with no fault fits its types. -/
theorem decFs_ok {r1 : RS} {kind : Nat} (hk : kind < 256) (hx : ∀ c ∈ r1.bs, 0 ≤ c ∧ c < 256) (hw : (decFs (fieldsN kind) (zeroM kind) r1).2.why = 0) : MsgOk (decFs (fieldsN kind) (zeroM kind) r1).1 := by
  have hff := fields_facts kind
  have h0 : r1.why = 0 := by
    by_cases h : r1.why = 0
    · exact h
    · rw [decFs_stays _ hff.2 _ _ h] at hw
      exact absurd hw h
  obtain ⟨_, gd⟩ := decFs_one _ hff.1 hff.2 (zeroM kind) r1 h0 hx
  refine msg_ok_of (by rw [decFs_kind]; exact hk) (fun g hg => ?_)
  by_cases hin : g ∈ fieldsN kind
  · exact gd hw g hin
  · exact (eqF_rng hg (decFs_other hg _ hff.2 hin (zeroM kind) r1)).2 (zero_rng kind hg)
theorem msg_oneA (m : MsgP) (ao : Option Addr) (n c : Nat) : (msgA m (.slice ao n c)).all (·.oneCell') = true := msg_one m ao n c
/-- Both results: a message of zeros, a fault. -/
def SD14 (w0 : World) (bR b10 : Nat) (x y : Int) (listed : Array Bool) (W : World) : Prop := KeepBut (fun k => k = bR ∨ k = bR + 1) w0 W ∧ Box W bR (msgA (zeroM 0) (.slice none 0 0)) 39 ∧ Box W b10 #[.int .i64 x, .int .i64 y] 53 ∧ (listed.getD 3 true = false → Box W (bR + 1) #[.int .i64 0, .int .i64 0] 53) ∧ (listed.getD 3 true = true → Box W (bR + 1) #[.int .i64 x, .int .i64 y] 53)
theorem y_storeBox {P : Program} {ρ : Operand → Value} {w : World} {dst : Option Tmp} {ty : TypeId} {pos : String} {aft : Array Edge} {gd : Option (Nat × Bool)} (t : TypeId) (x y : Operand) {p : Nat} {cs cs' : Array Value} {t0 : TypeId} (hx : ρ x = .pointer (some ⟨p, 0, none⟩)) (hy : ρ y = .agg cs') (hb : Box w p cs t0) (hsz : cs.size = cs'.size) (hi : (P.info? t).map (·.size) = some cs'.size) (h1 : cs'.all (·.oneCell') = true) :
    (execOp ρ ⟨dst, .store t x y, ty, pos, aft, gd⟩).run P w = .ok .skip (w.setRow p cs') := by
  have hr := run_storeVar_row (P := P) w p t0 t cs cs' hb hi hsz h1
  unfold execOp
  simp only [hx, hy, Instr.storeAt, Instr.sureAddr, Sem.run_bind, Sem.run_pure, Result.andThen_ok, hr]
set_option maxRecDepth 100000 in
set_option maxHeartbeats 3200000 in
theorem pdec_any {w : World} {v : Value} {b : List Int} (hlen : b.length ≤ 1000000) (hx : ∀ c ∈ b, 0 ≤ c ∧ c < 256) (hL : Lies .u8 w v b) : Calls Tryz.prog 23 #[v] w fun e w' => ∃ u, e = .returned (.tuple #[u, .agg #[.int .i64 (decM b).2.1, .int .i64 ((decM b).2.2 : Int)]]) ∧ MgLies w' u (decM b).1 ∧ Below w.heap.size w w' := by
  obtain ⟨vo, vcap, rfl⟩ := hL.shape
  -- the results' variables
  have hA := ((Below.refl w.heap.size w).alloc (Nat.le_refl _) (.cells (msgA (zeroM 0) (.slice none 0 0)) 39)).alloc (by simp) (.cells #[.int .i64 0, .int .i64 0] 53)
  have hR : Box ((w.alloc (.cells (msgA (zeroM 0) (.slice none 0 0)) 39)).alloc (.cells #[.int .i64 0, .int .i64 0] 53)) w.heap.size (msgA (zeroM 0) (.slice none 0 0)) 39 := (box_new w _ _).belowI (alloc_below10 _ _)
  have hFB : Box ((w.alloc (.cells (msgA (zeroM 0) (.slice none 0 0)) 39)).alloc (.cells #[.int .i64 0, .int .i64 0] 53)) (w.heap.size + 1) #[.int .i64 0, .int .i64 0] 53 := by
    have := box_new (w.alloc (.cells (msgA (zeroM 0) (.slice none 0 0)) 39)) #[.int .i64 0, .int .i64 0] 53
    rw [World.size_alloc] at this
    exact this
  have HAL := hide hA
  have HRB := hide hR
  have HFB := hide hFB
  have HL0 := hide (hL.below hA)
  have HX := hide hx
  obtain ⟨KB, hKB⟩ : ∃ n, n = (byteN.dec ⟨b, 0, 0, 0⟩).1 := ⟨_, rfl⟩
  obtain ⟨r1, hr1⟩ : ∃ r, r = (byteN.dec ⟨b, 0, 0, 0⟩).2 := ⟨_, rfl⟩
  have hK256 : KB < 256 := by rw [hKB]; exact (byteN_int (r := ⟨b, 0, 0, 0⟩) hx).2
  have HB1 : Hid (∀ c ∈ r1.bs, 0 ≤ c ∧ c < 256) := hide (by rw [hr1]; exact (byteS_rng (r := ⟨b, 0, 0, 0⟩) hx).2)
  have HKB := hide hKB
  have HR1 := hide hr1
  obtain ⟨D, hD⟩ : ∃ D, D = decM b := ⟨_, rfl⟩
  rw [← hD]
  have HD := hide hD
  clear hA hR hFB hL hx hKB hr1 hD
  go_enter Tryz.func23, Tryz.ntmps23
  go_wp2_with fail
  refine (new_any _ b _ HL0.out HX.out (by omega)).mono ?_
  rintro e w1 ⟨pr, vb, rfl, hcr, hpr, hvb, hB1⟩
  have hszA : ((w.alloc (.cells (msgA (zeroM 0) (.slice none 0 0)) 39)).alloc (.cells #[.int .i64 0, .int .i64 0] 53)).heap.size = w.heap.size + 2 := by simp
  rw [hszA] at hpr hvb
  have HR1b := hide (HRB.out.belowI hB1)
  have HF1b := hide (HFB.out.belowI hB1)
  have HA1 := hide (HAL.out.trans (hB1.mono HAL.out.size))
  have HCR := hide hcr
  have HVB := hide hvb
  have hs1 := hcr.box.lt
  clear hcr hvb hB1 hszA HAL HRB HFB HL0
  go_wp2_with fail
  refine (getByte10 pr vb b ⟨b, 0, 0, 0⟩ w1 HCR.out).mono ?_
  rintro e w2 ⟨rfl, hc2, hk2⟩
  rw [← HKB.out]
  rw [← HR1.out] at hc2
  have HC2 := hide hc2
  have HR2 := hide (HR1b.out.keep hk2 (by omega))
  have HF2 := hide (HF1b.out.keep hk2 (by omega))
  have HA2 : Hid (Below w.heap.size w w2) := hide (HA1.out.trans (hk2.below HA1.out.size (fun k e => by omega)))
  have hs2 := hk2.size
  have HVL : Hid (∀ g, vb.ownBlock = some g → g < w2.heap.size) := hide (fun g hg => owns_lt hc2.own hg)
  clear hc2 hk2 HR1b HF1b HA1 HCR
  have hbm := build_msg KB
  have HZ := hide (box_new w2 (msgA (zeroM 0) (.slice none 0 0)) 39)
  have HBA := hide (alloc_below10 w2 (.cells (msgA (zeroM 0) (.slice none 0 0)) 39))
  go_wp2_with (refine wp_store_box rfl rfl _ _ rfl w2.heap.size rfl (cs' := msgA (zeroM KB) (.slice none 0 0)) rfl HZ.out rfl infoMsg (msg_oneA _ _ _ _) ?_; intro w3 hb3 hk3; have HX3 := hide hb3; have x0 := hb3.cell 0 _ rfl; have HB3 : Hid (Below w2.heap.size w2 w3) := hide (HBA.out.trans (hk3.below HBA.out.size (fun k e => by omega))); clear hb3 hk3)
  have HC3 := hide (HC2.out.below HB3.out)
  have HR3 := hide (HR2.out.belowI HB3.out)
  have HF3 := hide (HF2.out.belowI HB3.out)
  have HA3 := hide (HA2.out.trans (HB3.out.mono HA2.out.size))
  have hq3 := HX3.out.lt
  have hs3 := HB3.out.size
  clear HZ HBA HC2 HR2 HF2 HA2 hbm HB3
  refine (fieldsOf_new KB w3).mono ?_
  rintro e w4 ⟨vc, rfl, hL4, hn4, hB4⟩
  obtain ⟨l, hl⟩ : ∃ l, l = fieldsN KB := ⟨_, rfl⟩
  have hln : (natsI l).length = l.length := by unfold natsI; rw [List.length_map]
  obtain ⟨av, cv, rfl⟩ := hL4.shape
  rw [← hl, hln] at hL4 hn4 ⊢
  have HL4 := hide hL4
  have HN4 := hide hn4
  have HC4 := hide (HC3.out.below hB4)
  have HR4 := hide (HR3.out.belowI hB4)
  have HF4 := hide (HF3.out.belowI hB4)
  have HX4 := hide (HX3.out.belowI hB4)
  have HA4 := hide (HA3.out.trans (hB4.mono HA3.out.size))
  have HLL := hide hl
  have hs4 := hB4.size
  obtain ⟨N, hN⟩ : ∃ N, N = l.length := ⟨_, rfl⟩
  rw [← hN]
  rw [← hN] at HL4 HN4
  have HN := hide hN
  have hN10 : N ≤ 10 := by
    rw [hN, hl]
    by_cases h0 : fieldsN KB = []
    · rw [h0]; decide
    · rcases fields_kind h0 with e | e | e | e | e | e | e | e | e | e | e <;> rw [e] <;> decide
  obtain ⟨q, hq⟩ : ∃ q, w2.heap.size = q := ⟨_, rfl⟩
  rw [hq] at HX4 hs2 hq3
  have HQ := hide hq
  clear hL4 hn4 hB4 hl hln hN HC3 HR3 HF3 HX3 HA3 x0
  by_cases hl0 : l = []
  · have hN0 : N = 0 := by rw [HN.out, hl0]; rfl
    by_cases hw : r1.why = 0
    · have HE : Hid (D = (zeroM 0, 3, 0)) := hide (by rw [HD.out]; exact dec_first (by rw [← HKB.out, ← HLL.out]; exact hl0) (by rw [← HR1.out]; exact hw))
      have hfl := fld_why
      have hbz := build_msg0
      clear hl0 HN
      subst hN0
      go_wp2_with fail
      refine (fault_any pr vb b r1 w4 HC4.out).mono ?_
      rintro e w5 ⟨rfl, hB5⟩
      rw [hw]
      have HR5 := hide (HR4.out.belowI hB5)
      have HF5 := hide (HF4.out.belowI hB5)
      have HA5 := hide (HA4.out.trans (hB5.mono HA4.out.size))
      clear hB5 hw HR4 HF4 HA4 HC4
      go_wp2_with (first
        | (refine wp_store_box rfl rfl _ _ rfl w.heap.size rfl (cs' := msgA (zeroM 0) (.slice none 0 0)) rfl HR5.out rfl infoMsg (msg_oneA _ _ _ _) ?_; intro w6 hb6 hk6; have HR6 := hide hb6; have HF6 := hide (HF5.out.keep hk6 (by omega)); have HA6 := hide (HA5.out.trans (hk6.below HA5.out.size (fun k e => by omega))); clear hb6 hk6)
        | (refine wp_store_box rfl rfl _ _ rfl (w.heap.size + 1) rfl (cs' := #[.int .i64 3, .int .i64 0]) rfl HF6.out rfl infoFlt (flt_one2 _ _) ?_; intro w7 hb7 hk7; have HR7 := hide (HR6.out.keep hk7 (by omega)); have HF7 := hide hb7; have HA7 := hide (HA6.out.trans (hk7.below HA6.out.size (fun k e => by omega))); clear hb7 hk7))
      refine bodyPost_ret (v := .tuple #[.agg (msgA (zeroM 0) (.slice none 0 0)), .agg #[.int .i64 3, .int .i64 0]]) (results_cells2 Tryz.results23 _ _ w.heap.size (w.heap.size + 1) rfl rfl HR7.out HF7.out Tryz.underlying39 rfl infoMsg Tryz.underlying53 rfl infoFlt) rfl ⟨.agg (msgA (zeroM 0) (.slice none 0 0)), by rw [HE.out]; rfl, ?_, HA7.out⟩
      rw [HE.out]
      exact ⟨none, 0, rfl, RSrc.nil _⟩
    · have HE : Hid (D = decT (zeroM KB) r1 l) := hide (by
        have h := dec_then (b := b) (fun hh => hw (by rw [HR1.out]; exact hh.2))
        rw [← HKB.out, ← HR1.out, ← HLL.out] at h
        rw [HD.out, h])
      have hfl := fld_why
      have hN1 : ((N : Int) == 0) = true := by rw [hN0]; rfl
      have hwb : (r1.why == 0) = false := by simp [hw]
      clear hl0 hN0 hw
      go_wp2_with fail
      refine (fault_any pr vb b r1 w4 HC4.out).mono ?_
      rintro e w5 ⟨rfl, hB5⟩
      have HR5 := hide (HR4.out.belowI hB5)
      have HF5 := hide (HF4.out.belowI hB5)
      have HX5 := hide (HX4.out.belowI hB5)
      have HC5 := hide (HC4.out.below hB5)
      have HL5 := hide (HL4.out.below hB5)
      have HA5 := hide (HA4.out.trans (hB5.mono HA4.out.size))
      have hs5 := hB5.size
      clear hB5 HR4 HF4 HA4 HC4 HX4 HL4
      go_wp2_with fail
      clear hN1 hwb
      refine (fieldsIn_any q w5).mono ?_
      rintro e w6 ⟨F, rfl, hFA, hB6⟩
      have HFL : Hid (∀ n, n < 10 → (F n).length = 4) := hide (fun n hn => (hFA.f n hn).len)
      have hl40 : (fE F).length = 40 := fE_len HFL.out
      have HFO : Hid ((fA F).all (·.oneCell') = true) := hide (by
        rw [Array.all_eq_true_iff_forall_mem]
        intro u hu
        have hu : u ∈ fE F := by simpa [fA] using hu
        simp only [fE, List.mem_append] at hu
        rcases hu with h | h | h | h | h | h | h | h | h | h
        · exact (hFA.f 0 (by decide)).one u h
        · exact (hFA.f 1 (by decide)).one u h
        · exact (hFA.f 2 (by decide)).one u h
        · exact (hFA.f 3 (by decide)).one u h
        · exact (hFA.f 4 (by decide)).one u h
        · exact (hFA.f 5 (by decide)).one u h
        · exact (hFA.f 6 (by decide)).one u h
        · exact (hFA.f 7 (by decide)).one u h
        · exact (hFA.f 8 (by decide)).one u h
        · exact (hFA.f 9 (by decide)).one u h)
      have HIF : Hid ((Tryz.prog.info? 93).map (·.size) = some (fA F).size) := hide (by show _ = some (fE F).length; rw [hl40]; exact infoFlds)
      have HSF : Hid ((Array.replicate 40 Value.nilFunc).size = (fA F).size) := hide (by show _ = (fE F).length; rw [hl40]; simp)
      have HZ := hide (box_new w6 (Array.replicate 40 .nilFunc) 93)
      have HBA := hide (alloc_below10 w6 (.cells (Array.replicate 40 .nilFunc) 93))
      have HI6 : Hid (∀ W, Below w6.heap.size w6 W → Box W w6.heap.size (fA F) 93 → DecI w W w5.heap.size w6.heap.size W.heap.size q w6.heap.size pr w.heap.size F l (.slice av N cv) vb b r1 (zeroM KB) (.slice none 0 0)) := hide (fun W hB hbx => by
        have hT := hB6.trans (hB.mono hB6.size)
        have h6 := hB6.size
        have hW := hB.size
        have hbl := hbx.lt
        have hq2 := HQ.out
        refine ⟨hFA.below hB, ⟨hW, Nat.le_refl _, h6, hbl, by omega, by omega, by omega, by omega, by omega, Nat.le_refl _⟩, HX5.out.belowI hT, RSrc.nil _, (fun g hg => by cases hg), hbx, HL5.out.below hT, fun g hg => ?_, HC5.out.below hT, fun g hg => ?_, HR5.out.belowI hT, HF5.out.belowI hT, HA5.out.trans (hT.mono HA5.out.size)⟩
        · have := HN4.out g hg
          exact ⟨by omega, by omega⟩
        · have := HVB.out g hg
          have := HVL.out g hg
          exact ⟨by omega, by omega⟩)
      clear hFA hl40 hB6 HX5 HL5 HC5 HR5 HF5 HA5
      go_wp2_with (refine wp_store_box rfl rfl _ _ rfl w6.heap.size rfl (cs' := fA F) rfl HZ.out HSF.out HIF.out HFO.out ?_; intro w7 hb7 hk7; have HI : Hid (DecI w w7 w5.heap.size w6.heap.size w7.heap.size q w6.heap.size pr w.heap.size F l (.slice av N cv) vb b r1 (zeroM KB) (.slice none 0 0)) := hide (HI6.out w7 (HBA.out.trans (hk7.below HBA.out.size (fun k e => by omega))) hb7); clear hb7 hk7)
      generalize w5.heap.size = lo at *
      generalize w7.heap.size = hi2 at *
      generalize w6.heap.size = hi at *
      clear HI6 HZ HBA HIF HSF HFO HN4 HVB HVL HQ hs1 hs2 hs3 hs4 hs5 hq3 hpr
      go_loopg [33] N (fun g i wr => ∃ (k : Nat) (m : MsgP) (p : Value) (r : RS), k + g = N ∧ i = .int .i64 k ∧ Hid (r = (decFs (l.take k) (zeroM KB) r1).2) ∧ Hid (r.why = 0 → m = (decFs (l.take k) (zeroM KB) r1).1) ∧ Hid (DecI w wr lo hi hi2 q hi pr w.heap.size F l (.slice av N cv) vb b r m p))
      case atStart => exact ⟨0, zeroM KB, .slice none 0 0, r1, by omega, rfl, hide rfl, hide (fun _ => rfl), HI⟩
      case round =>
        clear HI
        obtain ⟨k, m, p, r, hk, rfl, HRK, HMK, HI⟩ := hrel
        cases gk with
        | zero =>
          obtain rfl : k = N := by omega
          have hz : ¬ ((k : Int) < (k : Int)) := by omega
          have HTK : Hid (l.take k = l) := hide (by rw [HN.out]; exact List.take_length)
          rw [HTK.out] at HRK HMK
          clear HTK
          go_wp2_with fail
          refine (end_any pr vb b r wr HI.out.cr).mono ?_
          rintro e w8 ⟨rfl, _, hk8⟩
          have HE8 := hide (HI.out.ended hk8)
          clear hk8 HI
          obtain ⟨y, hy⟩ : ∃ y, y = (endS r).why := ⟨_, rfl⟩
          obtain ⟨z, hzz⟩ : ∃ z, z = (((endS r).fat : Nat) : Int) := ⟨_, rfl⟩
          rw [← hy, ← hzz]
          have HY := hide hy
          have HZZ := hide hzz
          clear hy hzz
          have hB9 := alloc_below10 w8 (.cells #[.int .i64 y, .int .i64 z] 53)
          have hb9 := box_new w8 #[.int .i64 y, .int .i64 z] 53
          have HB9 := hide hB9
          have HT9 := hide hb9
          have HE9 := hide (HE8.out.below hB9)
          have t0 := hb9.cell 0 _ rfl
          clear hB9 hb9 HE8
          by_cases hw : y = 0
          · have hyb : (y != 0) = false := by rw [hw]; rfl
            have HR0 : Hid (r.why = 0) := hide (by
              have e := HY.out
              rw [hw] at e
              exact (end_zero e.symm).1)
            have HME : Hid (m = (decFs l (zeroM KB) r1).1) := hide (HMK.out HR0.out)
            have HOKM : Hid (MsgOk m) := hide (by
              have h0 := HR0.out
              rw [HRK.out] at h0
              rw [HME.out, HLL.out]
              rw [HLL.out] at h0
              exact decFs_ok hK256 HB1.out h0)
            have HDD : Hid (D = if mayM m then (m, 0, 0) else (zeroM 0, 3, 0)) := hide (by
              rw [HE.out]
              unfold decT
              rw [← HRK.out, if_neg (by rw [← HY.out, hw]; simp), ← HME.out])
            obtain ⟨ao, c, hps, _, _⟩ := HE9.out.src.shape
            subst hps
            clear hw HMK HRK HME HR0 HT9
            obtain ⟨w9, hw9⟩ : ∃ w9, w9 = w8.alloc (.cells #[.int .i64 y, .int .i64 z] 53) := ⟨_, rfl⟩
            rw [← hw9] at HE9 t0
            have hW9 := hw9.symm
            have CM := hide (pmay_any HOKM.out (v := .agg (msgA m (.slice ao m.wr.length c))) (w := w9) ⟨ao, c, rfl, HE9.out.src⟩)
            clear hw9 HB9
            go_wp2_with (refine wp_load_box rfl _ rfl q rfl HE9.out.box Tryz.underlying39 rfl infoMsg ?_)
            refine CM.out.mono ?_
            rintro e w10 ⟨rfl, hB10⟩
            have HE10 := hide (HE9.out.below hB10)
            clear hB10 HE9 CM t0 hW9
            cases hmay : mayM m with
            | false =>
              have HDE : Hid (D = (zeroM 0, 3, 0)) := hide (by rw [HDD.out, hmay]; rfl)
              have hbz := build_msg0
              clear hmay
              go_wp2_with (first
                | (refine wp_store_box rfl rfl _ _ rfl w.heap.size rfl (cs' := msgA (zeroM 0) (.slice none 0 0)) rfl HE10.out.rb rfl infoMsg (msg_oneA _ _ _ _) ?_; intro w11 hb11 hk11; have HR11 := hide hb11; have HF11 := hide (HE10.out.fb.keep hk11 (by omega)); have HA11 := hide (HE10.out.bl.trans (hk11.below HE10.out.bl.size (fun k e => by omega))); clear hb11 hk11)
                | (refine wp_store_box rfl rfl _ _ rfl (w.heap.size + 1) rfl (cs' := #[.int .i64 3, .int .i64 0]) rfl HF11.out rfl infoFlt (flt_one2 _ _) ?_; intro w12 hb12 hk12; have HR12 := hide (HR11.out.keep hk12 (by omega)); have HF12 := hide hb12; have HA12 := hide (HA11.out.trans (hk12.below HA11.out.size (fun k e => by omega))); clear hb12 hk12))
              refine bodyPost_ret (v := .tuple #[.agg (msgA (zeroM 0) (.slice none 0 0)), .agg #[.int .i64 3, .int .i64 0]]) (results_cells2 Tryz.results23 _ _ w.heap.size (w.heap.size + 1) rfl rfl HR12.out HF12.out Tryz.underlying39 rfl infoMsg Tryz.underlying53 rfl infoFlt) rfl ⟨.agg (msgA (zeroM 0) (.slice none 0 0)), by rw [HDE.out]; rfl, ?_, HA12.out⟩
              rw [HDE.out]
              exact ⟨none, 0, rfl, RSrc.nil _⟩
            | true =>
              have HDE : Hid (D = (m, 0, 0)) := hide (by rw [HDD.out, hmay]; rfl)
              clear hmay
              go_wp2_with (first
                | (refine wp_load_box rfl _ rfl q rfl HE10.out.box Tryz.underlying39 rfl infoMsg ?_)
                | (refine wp_store_box rfl rfl _ _ rfl w.heap.size rfl (cs' := msgA m (.slice ao m.wr.length c)) rfl HE10.out.rb rfl infoMsg (msg_oneA _ _ _ _) ?_; intro w11 hb11 hk11; have HR11 := hide hb11; have HS11 := hide (HE10.out.src.keep hk11 (fun g hg e => by have := HE10.out.ps g hg; omega)); have HF11 := hide (HE10.out.fb.keep hk11 (by omega)); have HA11 := hide (HE10.out.bl.trans (hk11.below HE10.out.bl.size (fun k e => by omega))); clear hb11 hk11)
                | (refine wp_store_box rfl rfl _ _ rfl (w.heap.size + 1) rfl (cs' := #[.int .i64 0, .int .i64 0]) rfl HF11.out rfl infoFlt (flt_one2 _ _) ?_; intro w12 hb12 hk12; have HR12 := hide (HR11.out.keep hk12 (by omega)); have HS12 := hide (HS11.out.keep hk12 (fun g hg e => by have := HE10.out.ps g hg; omega)); have HF12 := hide hb12; have HA12 := hide (HA11.out.trans (hk12.below HA11.out.size (fun k e => by omega))); clear hb12 hk12))
              refine bodyPost_ret (v := .tuple #[.agg (msgA m (.slice ao m.wr.length c)), .agg #[.int .i64 0, .int .i64 0]]) (results_cells2 Tryz.results23 _ _ w.heap.size (w.heap.size + 1) rfl rfl HR12.out HF12.out Tryz.underlying39 rfl infoMsg Tryz.underlying53 rfl infoFlt) rfl ⟨.agg (msgA m (.slice ao m.wr.length c)), by rw [HDE.out]; rfl, ?_, HA12.out⟩
              rw [HDE.out]
              exact ⟨ao, c, rfl, HS12.out⟩
          · have hyb : (y != 0) = true := by simp [hw]
            have HDE : Hid (D = (zeroM 0, (endS r).why, (endS r).fat)) := hide (by
              rw [HE.out]
              unfold decT
              rw [← HRK.out, if_pos (by rw [← HY.out]; exact hw)])
            obtain ⟨b10, hb10⟩ : ∃ b10, b10 = w8.heap.size := ⟨_, rfl⟩
            have HN10 : Hid (w.heap.size + 1 < b10) := hide (by
              have := HE9.out.fb.lt
              have h2 := HE9.out.box.lt
              have h3 := HE9.out.le
              have hsz9 : (w8.alloc (.cells #[.int .i64 y, .int .i64 z] 53)).heap.size = w8.heap.size + 1 := by simp
              omega)
            rw [← hb10] at HT9 t0
            obtain ⟨w9, hw9⟩ : ∃ w9, w9 = w8.alloc (.cells #[.int .i64 y, .int .i64 z] 53) := ⟨_, rfl⟩
            rw [← hw9] at HE9 t0 HT9
            have hW9 := hw9.symm
            have hW10 := hb10.symm
            clear hw HMK HRK hw9 HB9 hb10
            go_wp2_with fail
            refine wp_region_vals3 (by kernel_rfl) [(some 49, .agg (msgA (zeroM 0) (.slice none 0 0))), (some 50, .agg #[.int .i64 y, .int .i64 z]), (none, undef), (none, undef)] [(49, .agg (msgA (zeroM 0) (.slice none 0 0))), (50, .agg #[.int .i64 y, .int .i64 z])] (SD14 w9 w.heap.size b10 y z) (by kernel_rfl) rfl rfl ⟨(KeepBut.refl _ _).drew, HE9.out.rb.belowI (Below.refl _ _).drew, HT9.out.belowI (Below.refl _ _).drew, fun _ => HE9.out.fb.belowI (Below.refl _ _).drew, fun h => by cases h⟩ ?_ ?_
            · intro i o hi listed A W hsz hN hS hold hdeps
              have hlt : i < 4 := (Array.getElem?_eq_some_iff.1 hi).1
              have hc : i = 0 ∨ i = 1 ∨ i = 2 ∨ i = 3 := by omega
              clear hlt
              have hnx : ∀ j, j ≠ 3 → SD14 w9 w.heap.size b10 y z (listed.setIfInBounds j true) W := fun j hj => by
                unfold SD14 at *
                rw [listed_ne hj]
                exact hS
              rcases hc with rfl | rfl | rfl | rfl
              · obtain rfl := Option.some.inj hi
                exact o_pure hi rfl rfl rfl (y_build _ (build_msg0 W)) (hnx 0 (by decide))
              · obtain rfl := Option.some.inj hi
                have s10 : A.tmps.getD 10 undef = .pointer (some ⟨b10, 0, none⟩) := hold 10 (by kernel_rfl)
                exact o_pure hi rfl rfl rfl (y_load _ _ s10 hS.2.2.1 Tryz.underlying53 rfl infoFlt) (hnx 1 (by decide))
              · obtain rfl := Option.some.inj hi
                have s2 : A.tmps.getD 2 undef = .pointer (some ⟨w.heap.size, 0, none⟩) := hold 2 (by kernel_rfl)
                have s49 : A.tmps.getD 49 undef = .agg (msgA (zeroM 0) (.slice none 0 0)) := slot_of hdeps 0 rfl (by kernel_rfl)
                have hb := setRow_box (cs' := msgA (zeroM 0) (.slice none 0 0)) hS.2.1
                refine o_store hi rfl rfl (y_storeBox _ _ _ s2 s49 hS.2.1 rfl infoMsg (msg_oneA _ _ _ _)) ?_
                unfold SD14
                rw [listed_ne (by decide)]
                exact ⟨hS.1.trans (hb.2.mono (S' := fun k => k = w.heap.size ∨ k = w.heap.size + 1) (fun k e => .inl e)) (fun _ _ e => e), hb.1, hS.2.2.1.keep hb.2 (by have := HN10.out; omega), fun e => (hS.2.2.2.1 e).keep hb.2 (by omega), fun e => (hS.2.2.2.2 e).keep hb.2 (by omega)⟩
              · obtain rfl := Option.some.inj hi
                have s3 : A.tmps.getD 3 undef = .pointer (some ⟨w.heap.size + 1, 0, none⟩) := hold 3 (by kernel_rfl)
                have s50 : A.tmps.getD 50 undef = .agg #[.int .i64 y, .int .i64 z] := slot_of hdeps 1 rfl (by kernel_rfl)
                have hbx := hS.2.2.2.1 hN.un
                have hb := setRow_box (cs' := #[.int .i64 y, .int .i64 z]) hbx
                exact o_store hi rfl rfl (y_storeBox _ _ _ s3 s50 hbx rfl infoFlt (flt_one2 _ _)) ⟨hS.1.trans (hb.2.mono (S' := fun k => k = w.heap.size ∨ k = w.heap.size + 1) (fun k e => .inr e)) (fun _ _ e => e), hS.2.1.keep hb.2 (by omega), hS.2.2.1.keep hb.2 (by have := HN10.out; omega), fun h6 => (by rw [listed_at] at h6; cases h6), fun _ => hb.1⟩
            · intro listed w11 hall hS11
              have HR11 := hide hS11.2.1
              have HF11 := hide (hS11.2.2.2.2 (hall 3 (by decide)))
              have HA11 : Hid (Below w.heap.size w w11) := hide (HE9.out.bl.trans (hS11.1.below HE9.out.bl.size (fun k e => by omega)))
              simp only [putAll, Act.put, List.setIfInBounds_toArray, List.set_cons_succ, List.set_cons_zero]
              clear hS11 hall HE9 HT9
              go_wp2_with fail
              refine bodyPost_ret (v := .tuple #[.agg (msgA (zeroM 0) (.slice none 0 0)), .agg #[.int .i64 y, .int .i64 z]]) (results_cells2 Tryz.results23 _ _ w.heap.size (w.heap.size + 1) rfl rfl HR11.out HF11.out Tryz.underlying39 rfl infoMsg Tryz.underlying53 rfl infoFlt) rfl ⟨.agg (msgA (zeroM 0) (.slice none 0 0)), by rw [HDE.out, HY.out, HZZ.out], ?_, HA11.out⟩
              rw [HDE.out]
              exact ⟨none, 0, rfl, RSrc.nil _⟩
        | succ g =>
          have hz : (k : Int) < (N : Int) := by omega
          have hz0 : (0 : Int) ≤ (k : Int) := by omega
          have hkl : k < l.length := by rw [← HN.out]; omega
          have hnf : l[k] ∈ fieldsN KB := by rw [← HLL.out]; exact List.getElem_mem hkl
          have hn10 : l[k] < 10 := (fields_facts KB).2 _ hnf
          have hlie := HI.out.cnt
          rcases hlie with ⟨he, _⟩ | ⟨_, b8, o8, c8, e8, _, _, _, hc8⟩
          · unfold natsI at he
            have : l = [] := List.map_eq_nil_iff.1 he
            rw [this] at hkl
            exact absurd hkl (Nat.not_lt_zero _)
          · cases e8
            have hcell := hc8 k (by unfold natsI; rw [List.length_map]; exact hkl)
            rw [nats_get l hkl] at hcell
            obtain ⟨n, hn⟩ : ∃ n, n = l[k] := ⟨_, rfl⟩
            have HTK := hide (decFs_take l (zeroM KB) r1 hkl)
            rw [← hn] at hcell hn10 HTK
            obtain ⟨f, cap, e1, he, hC⟩ := HI.out.fa.get_any (n := n) HI.out.box HI.out.src (fun g hg => (HI.out.ps g hg).1) HI.out.cr HI.out.le.2.2.2.2.2.1 HI.out.le.2.2.2.2.2.2.1 (fun e => (HI.out.vq q e).1 rfl) hn10
            have hfc : wr.cell? ⟨hi, n * 4 + 3, none⟩ = some (.func (.func f) #[] cap) := HI.out.arr.cell _ _ (by rw [fa_cell HFL.out hn10 (by decide)]; exact e1)
            have hn0 : (0 : Int) ≤ (n : Int) := by omega
            have hnt : (n : Int) < 10 := by omega
            have HC := hide hC
            have HN10 := hide hn10
            unfold FnOk at he
            clear hC e1 hn hc8 hnf hkl
            go_wp2_with fail
            refine HC.out.mono ?_
            rintro e w8 ⟨rfl, h8⟩
            obtain ⟨m8, p8, hI8, _, hv8⟩ := HI.out.step h8
            have HI8 := hide hI8
            have HR8 : Hid ((decF n m r).2 = (decFs (l.take (k + 1)) (zeroM KB) r1).2) := hide (by rw [HTK.out, decF_rs n m (decFs (l.take k) (zeroM KB) r1).1, HRK.out])
            have HV8 : Hid ((decF n m r).2.why = 0 → m8 = (decFs (l.take (k + 1)) (zeroM KB) r1).1) := hide (fun e => by
              have h0 : r.why = 0 := by
                by_cases h : r.why = 0
                · exact h
                · rw [decF_stays HN10.out m h] at e
                  exact absurd e h
              rw [hv8 e, HTK.out, HMK.out h0, HRK.out])
            clear h8 hI8 hv8 HI HC he hfc hcell
            go_wp2_with fail
            go_roundg g
            case measure => omega
            case rel => exact ⟨k + 1, m8, p8, _, by omega, by first | rfl | go_num, HR8, HV8, HI8⟩
  · have HE : Hid (D = decT (zeroM KB) r1 l) := hide (by
      have h := dec_then (b := b) (fun hh => hl0 (by rw [HLL.out, HKB.out]; exact hh.1))
      rw [← HKB.out, ← HR1.out, ← HLL.out] at h
      rw [HD.out, h])
    have hN1 : ((N : Int) == 0) = false := by
      have : N ≠ 0 := fun e => hl0 (List.eq_nil_of_length_eq_zero (by rw [← HN.out]; exact e))
      simp
      omega
    have HR5 := HR4
    have HF5 := HF4
    have HX5 := HX4
    have HC5 := HC4
    have HL5 := HL4
    have HA5 := HA4
    have hs5 := Nat.le_refl w4.heap.size
    obtain ⟨w5, hw5⟩ : ∃ w5, w5 = w4 := ⟨_, rfl⟩
    rw [← hw5]
    rw [← hw5] at HR5 HF5 HX5 HC5 HL5 HA5
    have hs5 : w4.heap.size ≤ w5.heap.size := by rw [hw5]; exact Nat.le_refl _
    clear hl0 HR4 HF4 HX4 HC4 HL4 HA4 hw5
    go_wp2_with fail
    clear hN1
    refine (fieldsIn_any q w5).mono ?_
    rintro e w6 ⟨F, rfl, hFA, hB6⟩
    have HFL : Hid (∀ n, n < 10 → (F n).length = 4) := hide (fun n hn => (hFA.f n hn).len)
    have hl40 : (fE F).length = 40 := fE_len HFL.out
    have HFO : Hid ((fA F).all (·.oneCell') = true) := hide (by
      rw [Array.all_eq_true_iff_forall_mem]
      intro u hu
      have hu : u ∈ fE F := by simpa [fA] using hu
      simp only [fE, List.mem_append] at hu
      rcases hu with h | h | h | h | h | h | h | h | h | h
      · exact (hFA.f 0 (by decide)).one u h
      · exact (hFA.f 1 (by decide)).one u h
      · exact (hFA.f 2 (by decide)).one u h
      · exact (hFA.f 3 (by decide)).one u h
      · exact (hFA.f 4 (by decide)).one u h
      · exact (hFA.f 5 (by decide)).one u h
      · exact (hFA.f 6 (by decide)).one u h
      · exact (hFA.f 7 (by decide)).one u h
      · exact (hFA.f 8 (by decide)).one u h
      · exact (hFA.f 9 (by decide)).one u h)
    have HIF : Hid ((Tryz.prog.info? 93).map (·.size) = some (fA F).size) := hide (by show _ = some (fE F).length; rw [hl40]; exact infoFlds)
    have HSF : Hid ((Array.replicate 40 Value.nilFunc).size = (fA F).size) := hide (by show _ = (fE F).length; rw [hl40]; simp)
    have HZ := hide (box_new w6 (Array.replicate 40 .nilFunc) 93)
    have HBA := hide (alloc_below10 w6 (.cells (Array.replicate 40 .nilFunc) 93))
    have HI6 : Hid (∀ W, Below w6.heap.size w6 W → Box W w6.heap.size (fA F) 93 → DecI w W w5.heap.size w6.heap.size W.heap.size q w6.heap.size pr w.heap.size F l (.slice av N cv) vb b r1 (zeroM KB) (.slice none 0 0)) := hide (fun W hB hbx => by
      have hT := hB6.trans (hB.mono hB6.size)
      have h6 := hB6.size
      have hW := hB.size
      have hbl := hbx.lt
      have hq2 := HQ.out
      refine ⟨hFA.below hB, ⟨hW, Nat.le_refl _, h6, hbl, by omega, by omega, by omega, by omega, by omega, Nat.le_refl _⟩, HX5.out.belowI hT, RSrc.nil _, (fun g hg => by cases hg), hbx, HL5.out.below hT, fun g hg => ?_, HC5.out.below hT, fun g hg => ?_, HR5.out.belowI hT, HF5.out.belowI hT, HA5.out.trans (hT.mono HA5.out.size)⟩
      · have := HN4.out g hg
        exact ⟨by omega, by omega⟩
      · have := HVB.out g hg
        have := HVL.out g hg
        exact ⟨by omega, by omega⟩)
    clear hFA hl40 hB6 HX5 HL5 HC5 HR5 HF5 HA5
    go_wp2_with (refine wp_store_box rfl rfl _ _ rfl w6.heap.size rfl (cs' := fA F) rfl HZ.out HSF.out HIF.out HFO.out ?_; intro w7 hb7 hk7; have HI : Hid (DecI w w7 w5.heap.size w6.heap.size w7.heap.size q w6.heap.size pr w.heap.size F l (.slice av N cv) vb b r1 (zeroM KB) (.slice none 0 0)) := hide (HI6.out w7 (HBA.out.trans (hk7.below HBA.out.size (fun k e => by omega))) hb7); clear hb7 hk7)
    generalize w5.heap.size = lo at *
    generalize w7.heap.size = hi2 at *
    generalize w6.heap.size = hi at *
    clear HI6 HZ HBA HIF HSF HFO HN4 HVB HVL HQ hs1 hs2 hs3 hs4 hs5 hq3 hpr
    go_loopg [33] N (fun g i wr => ∃ (k : Nat) (m : MsgP) (p : Value) (r : RS), k + g = N ∧ i = .int .i64 k ∧ Hid (r = (decFs (l.take k) (zeroM KB) r1).2) ∧ Hid (r.why = 0 → m = (decFs (l.take k) (zeroM KB) r1).1) ∧ Hid (DecI w wr lo hi hi2 q hi pr w.heap.size F l (.slice av N cv) vb b r m p))
    case atStart => exact ⟨0, zeroM KB, .slice none 0 0, r1, by omega, rfl, hide rfl, hide (fun _ => rfl), HI⟩
    case round =>
      clear HI
      obtain ⟨k, m, p, r, hk, rfl, HRK, HMK, HI⟩ := hrel
      cases gk with
      | zero =>
        obtain rfl : k = N := by omega
        have hz : ¬ ((k : Int) < (k : Int)) := by omega
        have HTK : Hid (l.take k = l) := hide (by rw [HN.out]; exact List.take_length)
        rw [HTK.out] at HRK HMK
        clear HTK
        go_wp2_with fail
        refine (end_any pr vb b r wr HI.out.cr).mono ?_
        rintro e w8 ⟨rfl, _, hk8⟩
        have HE8 := hide (HI.out.ended hk8)
        clear hk8 HI
        obtain ⟨y, hy⟩ : ∃ y, y = (endS r).why := ⟨_, rfl⟩
        obtain ⟨z, hzz⟩ : ∃ z, z = (((endS r).fat : Nat) : Int) := ⟨_, rfl⟩
        rw [← hy, ← hzz]
        have HY := hide hy
        have HZZ := hide hzz
        clear hy hzz
        have hB9 := alloc_below10 w8 (.cells #[.int .i64 y, .int .i64 z] 53)
        have hb9 := box_new w8 #[.int .i64 y, .int .i64 z] 53
        have HB9 := hide hB9
        have HT9 := hide hb9
        have HE9 := hide (HE8.out.below hB9)
        have t0 := hb9.cell 0 _ rfl
        clear hB9 hb9 HE8
        by_cases hw : y = 0
        · have hyb : (y != 0) = false := by rw [hw]; rfl
          have HR0 : Hid (r.why = 0) := hide (by
            have e := HY.out
            rw [hw] at e
            exact (end_zero e.symm).1)
          have HME : Hid (m = (decFs l (zeroM KB) r1).1) := hide (HMK.out HR0.out)
          have HOKM : Hid (MsgOk m) := hide (by
            have h0 := HR0.out
            rw [HRK.out] at h0
            rw [HME.out, HLL.out]
            rw [HLL.out] at h0
            exact decFs_ok hK256 HB1.out h0)
          have HDD : Hid (D = if mayM m then (m, 0, 0) else (zeroM 0, 3, 0)) := hide (by
            rw [HE.out]
            unfold decT
            rw [← HRK.out, if_neg (by rw [← HY.out, hw]; simp), ← HME.out])
          obtain ⟨ao, c, hps, _, _⟩ := HE9.out.src.shape
          subst hps
          clear hw HMK HRK HME HR0 HT9
          obtain ⟨w9, hw9⟩ : ∃ w9, w9 = w8.alloc (.cells #[.int .i64 y, .int .i64 z] 53) := ⟨_, rfl⟩
          rw [← hw9] at HE9 t0
          have hW9 := hw9.symm
          have CM := hide (pmay_any HOKM.out (v := .agg (msgA m (.slice ao m.wr.length c))) (w := w9) ⟨ao, c, rfl, HE9.out.src⟩)
          clear hw9 HB9
          go_wp2_with (refine wp_load_box rfl _ rfl q rfl HE9.out.box Tryz.underlying39 rfl infoMsg ?_)
          refine CM.out.mono ?_
          rintro e w10 ⟨rfl, hB10⟩
          have HE10 := hide (HE9.out.below hB10)
          clear hB10 HE9 CM t0 hW9
          cases hmay : mayM m with
          | false =>
            have HDE : Hid (D = (zeroM 0, 3, 0)) := hide (by rw [HDD.out, hmay]; rfl)
            have hbz := build_msg0
            clear hmay
            go_wp2_with (first
              | (refine wp_store_box rfl rfl _ _ rfl w.heap.size rfl (cs' := msgA (zeroM 0) (.slice none 0 0)) rfl HE10.out.rb rfl infoMsg (msg_oneA _ _ _ _) ?_; intro w11 hb11 hk11; have HR11 := hide hb11; have HF11 := hide (HE10.out.fb.keep hk11 (by omega)); have HA11 := hide (HE10.out.bl.trans (hk11.below HE10.out.bl.size (fun k e => by omega))); clear hb11 hk11)
              | (refine wp_store_box rfl rfl _ _ rfl (w.heap.size + 1) rfl (cs' := #[.int .i64 3, .int .i64 0]) rfl HF11.out rfl infoFlt (flt_one2 _ _) ?_; intro w12 hb12 hk12; have HR12 := hide (HR11.out.keep hk12 (by omega)); have HF12 := hide hb12; have HA12 := hide (HA11.out.trans (hk12.below HA11.out.size (fun k e => by omega))); clear hb12 hk12))
            refine bodyPost_ret (v := .tuple #[.agg (msgA (zeroM 0) (.slice none 0 0)), .agg #[.int .i64 3, .int .i64 0]]) (results_cells2 Tryz.results23 _ _ w.heap.size (w.heap.size + 1) rfl rfl HR12.out HF12.out Tryz.underlying39 rfl infoMsg Tryz.underlying53 rfl infoFlt) rfl ⟨.agg (msgA (zeroM 0) (.slice none 0 0)), by rw [HDE.out]; rfl, ?_, HA12.out⟩
            rw [HDE.out]
            exact ⟨none, 0, rfl, RSrc.nil _⟩
          | true =>
            have HDE : Hid (D = (m, 0, 0)) := hide (by rw [HDD.out, hmay]; rfl)
            clear hmay
            go_wp2_with (first
              | (refine wp_load_box rfl _ rfl q rfl HE10.out.box Tryz.underlying39 rfl infoMsg ?_)
              | (refine wp_store_box rfl rfl _ _ rfl w.heap.size rfl (cs' := msgA m (.slice ao m.wr.length c)) rfl HE10.out.rb rfl infoMsg (msg_oneA _ _ _ _) ?_; intro w11 hb11 hk11; have HR11 := hide hb11; have HS11 := hide (HE10.out.src.keep hk11 (fun g hg e => by have := HE10.out.ps g hg; omega)); have HF11 := hide (HE10.out.fb.keep hk11 (by omega)); have HA11 := hide (HE10.out.bl.trans (hk11.below HE10.out.bl.size (fun k e => by omega))); clear hb11 hk11)
              | (refine wp_store_box rfl rfl _ _ rfl (w.heap.size + 1) rfl (cs' := #[.int .i64 0, .int .i64 0]) rfl HF11.out rfl infoFlt (flt_one2 _ _) ?_; intro w12 hb12 hk12; have HR12 := hide (HR11.out.keep hk12 (by omega)); have HS12 := hide (HS11.out.keep hk12 (fun g hg e => by have := HE10.out.ps g hg; omega)); have HF12 := hide hb12; have HA12 := hide (HA11.out.trans (hk12.below HA11.out.size (fun k e => by omega))); clear hb12 hk12))
            refine bodyPost_ret (v := .tuple #[.agg (msgA m (.slice ao m.wr.length c)), .agg #[.int .i64 0, .int .i64 0]]) (results_cells2 Tryz.results23 _ _ w.heap.size (w.heap.size + 1) rfl rfl HR12.out HF12.out Tryz.underlying39 rfl infoMsg Tryz.underlying53 rfl infoFlt) rfl ⟨.agg (msgA m (.slice ao m.wr.length c)), by rw [HDE.out]; rfl, ?_, HA12.out⟩
            rw [HDE.out]
            exact ⟨ao, c, rfl, HS12.out⟩
        · have hyb : (y != 0) = true := by simp [hw]
          have HDE : Hid (D = (zeroM 0, (endS r).why, (endS r).fat)) := hide (by
            rw [HE.out]
            unfold decT
            rw [← HRK.out, if_pos (by rw [← HY.out]; exact hw)])
          obtain ⟨b10, hb10⟩ : ∃ b10, b10 = w8.heap.size := ⟨_, rfl⟩
          have HN10 : Hid (w.heap.size + 1 < b10) := hide (by
            have := HE9.out.fb.lt
            have h2 := HE9.out.box.lt
            have h3 := HE9.out.le
            have hsz9 : (w8.alloc (.cells #[.int .i64 y, .int .i64 z] 53)).heap.size = w8.heap.size + 1 := by simp
            omega)
          rw [← hb10] at HT9 t0
          obtain ⟨w9, hw9⟩ : ∃ w9, w9 = w8.alloc (.cells #[.int .i64 y, .int .i64 z] 53) := ⟨_, rfl⟩
          rw [← hw9] at HE9 t0 HT9
          have hW9 := hw9.symm
          have hW10 := hb10.symm
          clear hw HMK HRK hw9 HB9 hb10
          go_wp2_with fail
          refine wp_region_vals3 (by kernel_rfl) [(some 49, .agg (msgA (zeroM 0) (.slice none 0 0))), (some 50, .agg #[.int .i64 y, .int .i64 z]), (none, undef), (none, undef)] [(49, .agg (msgA (zeroM 0) (.slice none 0 0))), (50, .agg #[.int .i64 y, .int .i64 z])] (SD14 w9 w.heap.size b10 y z) (by kernel_rfl) rfl rfl ⟨(KeepBut.refl _ _).drew, HE9.out.rb.belowI (Below.refl _ _).drew, HT9.out.belowI (Below.refl _ _).drew, fun _ => HE9.out.fb.belowI (Below.refl _ _).drew, fun h => by cases h⟩ ?_ ?_
          · intro i o hi listed A W hsz hN hS hold hdeps
            have hlt : i < 4 := (Array.getElem?_eq_some_iff.1 hi).1
            have hc : i = 0 ∨ i = 1 ∨ i = 2 ∨ i = 3 := by omega
            clear hlt
            have hnx : ∀ j, j ≠ 3 → SD14 w9 w.heap.size b10 y z (listed.setIfInBounds j true) W := fun j hj => by
              unfold SD14 at *
              rw [listed_ne hj]
              exact hS
            rcases hc with rfl | rfl | rfl | rfl
            · obtain rfl := Option.some.inj hi
              exact o_pure hi rfl rfl rfl (y_build _ (build_msg0 W)) (hnx 0 (by decide))
            · obtain rfl := Option.some.inj hi
              have s10 : A.tmps.getD 10 undef = .pointer (some ⟨b10, 0, none⟩) := hold 10 (by kernel_rfl)
              exact o_pure hi rfl rfl rfl (y_load _ _ s10 hS.2.2.1 Tryz.underlying53 rfl infoFlt) (hnx 1 (by decide))
            · obtain rfl := Option.some.inj hi
              have s2 : A.tmps.getD 2 undef = .pointer (some ⟨w.heap.size, 0, none⟩) := hold 2 (by kernel_rfl)
              have s49 : A.tmps.getD 49 undef = .agg (msgA (zeroM 0) (.slice none 0 0)) := slot_of hdeps 0 rfl (by kernel_rfl)
              have hb := setRow_box (cs' := msgA (zeroM 0) (.slice none 0 0)) hS.2.1
              refine o_store hi rfl rfl (y_storeBox _ _ _ s2 s49 hS.2.1 rfl infoMsg (msg_oneA _ _ _ _)) ?_
              unfold SD14
              rw [listed_ne (by decide)]
              exact ⟨hS.1.trans (hb.2.mono (S' := fun k => k = w.heap.size ∨ k = w.heap.size + 1) (fun k e => .inl e)) (fun _ _ e => e), hb.1, hS.2.2.1.keep hb.2 (by have := HN10.out; omega), fun e => (hS.2.2.2.1 e).keep hb.2 (by omega), fun e => (hS.2.2.2.2 e).keep hb.2 (by omega)⟩
            · obtain rfl := Option.some.inj hi
              have s3 : A.tmps.getD 3 undef = .pointer (some ⟨w.heap.size + 1, 0, none⟩) := hold 3 (by kernel_rfl)
              have s50 : A.tmps.getD 50 undef = .agg #[.int .i64 y, .int .i64 z] := slot_of hdeps 1 rfl (by kernel_rfl)
              have hbx := hS.2.2.2.1 hN.un
              have hb := setRow_box (cs' := #[.int .i64 y, .int .i64 z]) hbx
              exact o_store hi rfl rfl (y_storeBox _ _ _ s3 s50 hbx rfl infoFlt (flt_one2 _ _)) ⟨hS.1.trans (hb.2.mono (S' := fun k => k = w.heap.size ∨ k = w.heap.size + 1) (fun k e => .inr e)) (fun _ _ e => e), hS.2.1.keep hb.2 (by omega), hS.2.2.1.keep hb.2 (by have := HN10.out; omega), fun h6 => (by rw [listed_at] at h6; cases h6), fun _ => hb.1⟩
          · intro listed w11 hall hS11
            have HR11 := hide hS11.2.1
            have HF11 := hide (hS11.2.2.2.2 (hall 3 (by decide)))
            have HA11 : Hid (Below w.heap.size w w11) := hide (HE9.out.bl.trans (hS11.1.below HE9.out.bl.size (fun k e => by omega)))
            simp only [putAll, Act.put, List.setIfInBounds_toArray, List.set_cons_succ, List.set_cons_zero]
            clear hS11 hall HE9 HT9
            go_wp2_with fail
            refine bodyPost_ret (v := .tuple #[.agg (msgA (zeroM 0) (.slice none 0 0)), .agg #[.int .i64 y, .int .i64 z]]) (results_cells2 Tryz.results23 _ _ w.heap.size (w.heap.size + 1) rfl rfl HR11.out HF11.out Tryz.underlying39 rfl infoMsg Tryz.underlying53 rfl infoFlt) rfl ⟨.agg (msgA (zeroM 0) (.slice none 0 0)), by rw [HDE.out, HY.out, HZZ.out], ?_, HA11.out⟩
            rw [HDE.out]
            exact ⟨none, 0, rfl, RSrc.nil _⟩
      | succ g =>
        have hz : (k : Int) < (N : Int) := by omega
        have hz0 : (0 : Int) ≤ (k : Int) := by omega
        have hkl : k < l.length := by rw [← HN.out]; omega
        have hnf : l[k] ∈ fieldsN KB := by rw [← HLL.out]; exact List.getElem_mem hkl
        have hn10 : l[k] < 10 := (fields_facts KB).2 _ hnf
        have hlie := HI.out.cnt
        rcases hlie with ⟨he, _⟩ | ⟨_, b8, o8, c8, e8, _, _, _, hc8⟩
        · unfold natsI at he
          have : l = [] := List.map_eq_nil_iff.1 he
          rw [this] at hkl
          exact absurd hkl (Nat.not_lt_zero _)
        · cases e8
          have hcell := hc8 k (by unfold natsI; rw [List.length_map]; exact hkl)
          rw [nats_get l hkl] at hcell
          obtain ⟨n, hn⟩ : ∃ n, n = l[k] := ⟨_, rfl⟩
          have HTK := hide (decFs_take l (zeroM KB) r1 hkl)
          rw [← hn] at hcell hn10 HTK
          obtain ⟨f, cap, e1, he, hC⟩ := HI.out.fa.get_any (n := n) HI.out.box HI.out.src (fun g hg => (HI.out.ps g hg).1) HI.out.cr HI.out.le.2.2.2.2.2.1 HI.out.le.2.2.2.2.2.2.1 (fun e => (HI.out.vq q e).1 rfl) hn10
          have hfc : wr.cell? ⟨hi, n * 4 + 3, none⟩ = some (.func (.func f) #[] cap) := HI.out.arr.cell _ _ (by rw [fa_cell HFL.out hn10 (by decide)]; exact e1)
          have hn0 : (0 : Int) ≤ (n : Int) := by omega
          have hnt : (n : Int) < 10 := by omega
          have HC := hide hC
          have HN10 := hide hn10
          unfold FnOk at he
          clear hC e1 hn hc8 hnf hkl
          go_wp2_with fail
          refine HC.out.mono ?_
          rintro e w8 ⟨rfl, h8⟩
          obtain ⟨m8, p8, hI8, _, hv8⟩ := HI.out.step h8
          have HI8 := hide hI8
          have HR8 : Hid ((decF n m r).2 = (decFs (l.take (k + 1)) (zeroM KB) r1).2) := hide (by rw [HTK.out, decF_rs n m (decFs (l.take k) (zeroM KB) r1).1, HRK.out])
          have HV8 : Hid ((decF n m r).2.why = 0 → m8 = (decFs (l.take (k + 1)) (zeroM KB) r1).1) := hide (fun e => by
            have h0 : r.why = 0 := by
              by_cases h : r.why = 0
              · exact h
              · rw [decF_stays HN10.out m h] at e
                exact absurd e h
            rw [hv8 e, HTK.out, HMK.out h0, HRK.out])
          clear h8 hI8 hv8 HI HC he hfc hcell
          go_wp2_with fail
          go_roundg g
          case measure => omega
          case rel => exact ⟨k + 1, m8, p8, _, by omega, by first | rfl | go_num, HR8, HV8, HI8⟩
end
end Go.Proofs.YtoppdelljjapoaaGreat
