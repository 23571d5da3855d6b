/-
  Own texts put together: RpDec. Own work.
-/
import Derived.Test.YtlegliimgjmphaaGreatG35
import Derived.Test.YtlegliimgjmphaaGreatG09
namespace Go.Proofs.YtlegliimgjmphaaGreat
section
open Go.RowKit Go.Shelf Classical
attribute [local go_sem] Oper.semAt_some
theorem Calm.cell {B b i : Nat} {A A' : World} {v : Value} (h : Calm B A A') (hc : A.cell? ⟨b, i, none⟩ = some v) : A'.cell? ⟨b, i, none⟩ = some v := by
 have hS : b < A.heap.size ∧ ¬ (B ≤ b ∧ ∃ o : Obj, A.heap[b]? = some o ∧ o.isCells = false) := by
  cases ho : A.heap[b]? with
  | none => simp [World.cell?, ho] at hc
  | some o =>
   refine ⟨(Array.getElem?_eq_some_iff.1 ho).1, fun ⟨_, o2, h1, h2⟩ => ?_⟩
   cases h1
   cases o <;> first | (simp [World.cell?, ho] at hc; done) | exact Bool.noConfusion h2
 exact (World.cell?_of_block (a := ⟨b, i, none⟩) (h.block b hS.1 hS.2)).trans hc
theorem Calm.src {α : Type} {enc : α → List Value} {B : Nat} {A A' : World} {v : Value} {xs : List α} (h : Calm B A A') (hs : RSrc enc A v xs) : RSrc enc A' v xs := by
 obtain ⟨ao, c, rfl, h1, h2, h3, h4⟩ := hs
 refine ⟨ao, c, rfl, h1, h2, h3, fun hne => ?_⟩
 obtain ⟨b, off, rfl, hb, hc⟩ := h4 hne
 exact ⟨b, off, rfl, Nat.lt_of_lt_of_le hb h.size, fun j u hj => h.cell (hc j u hj)⟩
theorem Calm.lies {B : Nat} {k : IntKind} {A A' : World} {v : Value} {xs : List Int} (h : Calm B A A') (hs : Lies k A v xs) : Lies k A' v xs := by
 rcases hs with hs | ⟨hx, b, off, cap, rfl, hb, hl, hm, hc⟩
 ·exact .inl hs
 ·exact .inr ⟨hx, b, off, cap, rfl, Nat.lt_of_lt_of_le hb h.size, hl, hm, fun t ht => h.cell (hc t ht)⟩
theorem Calm.cr {B p : Nat} {A A' : World} {vb : Value} {all : List Int} {r : RS} (h : Calm B A A') (hr : CR A p vb all r) : CR A' p vb all r := ⟨h.box hr.box, h.own hr.own, hr.byte, hr.le, hr.bs, hr.room⟩
theorem results_cells2 {P : Program} {fn : Func} {q q2 : Tmp} {t t0 t2 t20 : TypeId} {d d2 : TypeDesc} (h : fn.results = #[.cell q t, .cell q2 t2]) (tmps : Array Value) (w : World) (p p2 : Nat) (hq : tmps.getD q undef = .pointer (some ⟨p, 0, none⟩)) (hq2 : tmps.getD q2 undef = .pointer (some ⟨p2, 0, none⟩)) {cs cs2 : Array Value} (hb : Box w p cs t0) (hb2 : Box w p2 cs2 t20)
  (hu : P.underlying t = some d) (hd : d.isRow = true) (hi : (P.info? t).map (·.size) = some cs.size) (hu2 : P.underlying t2 = some d2) (hd2 : d2.isRow = true) (hi2 : (P.info? t2).map (·.size) = some cs2.size) : (results fn tmps).run P w = .ok (.tuple #[.agg cs, .agg cs2]) w := by
 have hr : w.rangeAt p 0 cs.toList := fun j v hv => by
  rw [Nat.zero_add]; exact hb.cell j v (by simpa using hv)
 have hl := run_loadVar_mid (P := P) w p 0 t cs.toList d hr hu hd (by simpa using hi)
 have hr2 : w.rangeAt p2 0 cs2.toList := fun j v hv => by
  rw [Nat.zero_add]; exact hb2.cell j v (by simpa using hv)
 have hl2 := run_loadVar_mid (P := P) w p2 0 t2 cs2.toList d2 hr2 hu2 hd2 (by simpa using hi2)
 have hq' : tmps[q]?.getD undef = .pointer (some ⟨p, 0, none⟩) := by rw [← Array.getD_eq_getD_getElem?]; exact hq
 have hq2' : tmps[q2]?.getD undef = .pointer (some ⟨p2, 0, none⟩) := by rw [← Array.getD_eq_getD_getElem?]; exact hq2
 simp only [results, h]
 simp [hq', hq2', asAddr, hl, hl2]
theorem build_rec (k : Nat) (w : World) : (Instr.build 87 #[(0, .int .u8 (k : Int))]).run Tryz.prog w = .ok (.agg (recA (zeroR k) (.slice none 0 0) (.slice none 0 0))) w := by kernel_rfl
theorem build_rec0 (w : World) : (Instr.build 87 #[]).run Tryz.prog w = .ok (.agg (recA (zeroR 0) (.slice none 0 0) (.slice none 0 0))) w := by kernel_rfl
theorem decRs_snoc (l : List Nat) (n : Nat) (a : RecP) (r : RS) : decRs (l ++ [n]) a r = decR n (decRs l a r).1 (decRs l a r).2 := by rw [decRs_app]; rfl
theorem getByte11 (p : Nat) (vb : Value) (all : List Int) (r : RS) (w : World) (h : CR w p vb all r) :
  Calls Tryz.prog 91 #[.pointer (some ⟨p, 0, none⟩)] w fun e w' => e = .returned (.int .u8 (((byteS r).1.toNat : Nat) : Int)) ∧ CR w' p vb all (byteS r).2 ∧ KeepBut (fun k => k = p) w w' := by
 have hb : (((byteS r).1.toNat : Nat) : Int) = (byteS r).1 := (byteN_int h.byte').1
 rw [hb]
 exact crbyte_any p vb all r w h
structure DecI11 (w A : World) (q bP br pr : Nat) (vb : Value) (b : List Int) (r : RS) (m : RecP) (p u : Value) : Prop where
 box : Box A q (recA m p u) 87
 bp : Box A bP #[.pointer (some ⟨pr, 0, none⟩)] 149
 b1 : Box A br #[.pointer (some ⟨q, 0, none⟩)] 133
 src : RSrc wrE A p m.wr
 lie : Lies .u64 A u (misI m.mis)
 ps : ∀ g, p.ownBlock = some g → (g ≠ pr ∧ g ≠ q) ∧ w.heap.size + 1 < g
 us : ∀ g, u.ownBlock = some g → (g ≠ pr ∧ g ≠ q) ∧ w.heap.size + 1 < g
 cr : CR A pr vb b r
 vq : ∀ g, vb.ownBlock = some g → g ≠ q
 rb : Box A w.heap.size (recA (zeroR 0) (.slice none 0 0) (.slice none 0 0)) 87
 fb : Box A (w.heap.size + 1) #[.int .i64 0, .int .i64 0] 118
 bl : Below w.heap.size w A
 len : m.wr.length ≤ 16
structure Places (w : World) (q bP br pr B : Nat) : Prop where
 fq : w.heap.size + 1 < q ∧ q < B
 fp : w.heap.size + 1 < bP ∧ bP < B
 fb : w.heap.size + 1 < br ∧ br < B
 fr : w.heap.size + 1 < pr ∧ pr < B
 ne : q ≠ pr ∧ bP ≠ pr ∧ br ≠ pr ∧ bP ≠ q ∧ br ≠ q
theorem DecI11.calm {w A A' : World} {B q bP br pr : Nat} {vb : Value} {b : List Int} {r : RS} {m : RecP} {p u : Value} (h : DecI11 w A q bP br pr vb b r m p u) (hc : Calm B A A') (hB : w.heap.size ≤ B) : DecI11 w A' q bP br pr vb b r m p u :=
 ⟨hc.box h.box, hc.box h.bp, hc.box h.b1, hc.src h.src, hc.lies h.lie, h.ps, h.us, hc.cr h.cr, h.vq, hc.box h.rb, hc.box h.fb, h.bl.trans (hc.below hB h.bl.size), h.len⟩
theorem DecI11.step {w A A' : World} {B q bP br pr n : Nat} {vb : Value} {b : List Int} {r : RS} {m m' : RecP} {p u p' u' : Value} (h : DecI11 w A q bP br pr vb b r m p u) (hP : Places w q bP br pr B) (hA : B ≤ A.heap.size) (h2 : GotR A A' q pr vb b r m p u n m' p' u') : DecI11 w A' q bP br pr vb b (decR n m r).2 m' p' u' := by
 obtain ⟨n1, n2, n3, n4, n5⟩ := hP.ne
 have h1 := hP.fq
 have h3 := hP.fr
 refine ⟨h2.box, h.bp.keep h2.keep (by omega), h.b1.keep h2.keep (by omega), h2.src, h2.lie, fun g hg => ?_, fun g hg => ?_, h2.cr, h.vq, h.rb.keep h2.keep (by omega), h.fb.keep h2.keep (by omega), h.bl.trans (h2.keep.below h.bl.size (fun k e => by omega)), h2.len⟩
 ·rcases h2.pp with e | e
  ·rw [e] at hg
   exact h.ps g hg
  ·have := e g hg
   omega
 ·rcases h2.uu with e | e
  ·rw [e] at hg
   exact h.us g hg
  ·have := e g hg
   omega
structure DecE11 (w W : World) (q : Nat) (m : RecP) (p u : Value) : Prop where
 le : w.heap.size + 1 < q
 box : Box W q (recA m p u) 87
 src : RSrc wrE W p m.wr
 lie : Lies .u64 W u (misI m.mis)
 ps : ∀ g, p.ownBlock = some g → w.heap.size + 1 < g
 us : ∀ g, u.ownBlock = some g → w.heap.size + 1 < g
 rb : Box W w.heap.size (recA (zeroR 0) (.slice none 0 0) (.slice none 0 0)) 87
 fb : Box W (w.heap.size + 1) #[.int .i64 0, .int .i64 0] 118
 bl : Below w.heap.size w W
theorem DecE11.below {w W W' : World} {q : Nat} {m : RecP} {p u : Value} (h : DecE11 w W q m p u) (hB : Below W.heap.size W W') : DecE11 w W' q m p u := ⟨h.le, h.box.belowI hB, h.src.below hB, h.lie.below hB, h.ps, h.us, h.rb.belowI hB, h.fb.belowI hB, h.bl.trans (hB.mono h.bl.size)⟩
theorem DecI11.ended {w A A' : World} {B q bP br pr : Nat} {vb : Value} {b : List Int} {r : RS} {m : RecP} {p u : Value} (h : DecI11 w A q bP br pr vb b r m p u) (hP : Places w q bP br pr B) (hk : KeepBut (fun k => k = pr) A A') : DecE11 w A' q m p u := by
 have h1 := hP.fq
 have h3 := hP.fr
 have h4 := hP.ne
 exact ⟨h1.1, h.box.keep hk (by omega), h.src.keep hk (fun g hg e => (h.ps g hg).1.1 e), lies_keepR h.lie hk (fun g hg e => (h.us g hg).1.1 e), fun g hg => (h.ps g hg).2, fun g hg => (h.us g hg).2, h.rb.keep hk (by omega), h.fb.keep hk (by omega), h.bl.trans (hk.below h.bl.size (fun k e => by omega))⟩
def decT11 (kind : Nat) (r1 : RS) : RecP × Int × Nat :=
 if (endS (decRs (fieldsR kind) (zeroR kind) r1).2).why ≠ 0 then (zeroR 0, (endS (decRs (fieldsR kind) (zeroR kind) r1).2).why, (endS (decRs (fieldsR kind) (zeroR kind) r1).2).fat) else if mayR (decRs (fieldsR kind) (zeroR kind) r1).1 then ((decRs (fieldsR kind) (zeroR kind) r1).1, 0, 0) else (zeroR 0, 3, 0)
theorem dec_first11 {b : List Int} (h : fieldsR (byteS ⟨b, 0, 0, 0⟩).1.toNat = []) (hw : (byteS ⟨b, 0, 0, 0⟩).2.why = 0) : decRec b = (zeroR 0, 3, 0) := by
 unfold decRec
 exact if_pos ⟨h, hw⟩
theorem dec_then11 {b : List Int} (h : ¬ (fieldsR (byteS ⟨b, 0, 0, 0⟩).1.toNat = [] ∧ (byteS ⟨b, 0, 0, 0⟩).2.why = 0)) : decRec b = decT11 (byteS ⟨b, 0, 0, 0⟩).1.toNat (byteS ⟨b, 0, 0, 0⟩).2 := by
 unfold decRec
 exact if_neg h
theorem decRs_ok {r1 : RS} {kind : Nat} (hk : kind < 256) (hx : ∀ c ∈ r1.bs, 0 ≤ c ∧ c < 256) (hw : (decRs (fieldsR kind) (zeroR kind) r1).2.why = 0) : RecOk (decRs (fieldsR kind) (zeroR kind) r1).1 := by
 have hff := fieldsR_facts kind
 have h0 : r1.why = 0 := by
  by_cases h : r1.why = 0
  ·exact h
  ·rw [decRs_stays _ hff.2 _ _ h] at hw
   exact absurd hw h
 obtain ⟨_, gd⟩ := decRs_one _ hff.1 hff.2 (zeroR kind) r1 h0 hx
 refine rec_ok_of (by rw [decRs_kind]; exact hk) (fun g hg => ?_)
 by_cases hin : g ∈ fieldsR kind
 ·exact gd hw g hin
 ·exact (eqR_rng hg (decRs_other hg _ hff.2 hin (zeroR kind) r1)).2 (zeroR_rng kind hg)
def SD12 (w0 : World) (bR b10 : Nat) (x y : Int) (listed : Array Bool) (W : World) : Prop := KeepBut (fun k => k = bR ∨ k = bR + 1) w0 W ∧ Box W bR (recA (zeroR 0) (.slice none 0 0) (.slice none 0 0)) 87 ∧ Box W b10 #[.int .i64 x, .int .i64 y] 118 ∧ (listed.getD 3 true = false → Box W (bR + 1) #[.int .i64 0, .int .i64 0] 118) ∧ (listed.getD 3 true = true → Box W (bR + 1) #[.int .i64 x, .int .i64 y] 118)
theorem y_storeBox {P : Program} {ρ : Operand → Value} {w : World} {dst : Option Tmp} {ty : TypeId} {pos : String} {aft : Array Edge} {gd : Option (Nat × Bool)} (t : TypeId) (x y : Operand) {p : Nat} {cs cs' : Array Value} {t0 : TypeId} (hx : ρ x = .pointer (some ⟨p, 0, none⟩)) (hy : ρ y = .agg cs') (hb : Box w p cs t0) (hsz : cs.size = cs'.size) (hi : (P.info? t).map (·.size) = some cs'.size) (h1 : cs'.all (·.oneCell') = true) :
  (execOp ρ ⟨dst, .store t x y, ty, pos, aft, gd⟩).run P w = .ok .skip (w.setRow p cs') := by
 have hr := run_storeVar_row (P := P) w p t0 t cs cs' hb hi hsz h1
 unfold execOp
 simp only [hx, hy, Instr.storeAt, Instr.sureAddr, Sem.run_bind, Sem.run_pure, Result.andThen_ok, hr]
set_option maxRecDepth 100000 in
set_option maxHeartbeats 3200000 in
theorem pdec12_any {w : World} {v : Value} {b : List Int} (hlen : b.length ≤ 1000000) (hx : ∀ c ∈ b, 0 ≤ c ∧ c < 256) (hL : Lies .u8 w v b) : Calls Tryz.prog 72 #[v] w fun e w' => ∃ u, e = .returned (.tuple #[u, .agg #[.int .i64 (decRec b).2.1, .int .i64 ((decRec b).2.2 : Int)]]) ∧ RcNew w.heap.size w' u (decRec b).1 ∧ Below w.heap.size w w' := by
 obtain ⟨vo, vcap, rfl⟩ := hL.shape
 have hA := ((Below.refl w.heap.size w).alloc (Nat.le_refl _) (.cells (recA (zeroR 0) (.slice none 0 0) (.slice none 0 0)) 87)).alloc (by simp) (.cells #[.int .i64 0, .int .i64 0] 118)
 have hR : Box ((w.alloc (.cells (recA (zeroR 0) (.slice none 0 0) (.slice none 0 0)) 87)).alloc (.cells #[.int .i64 0, .int .i64 0] 118)) w.heap.size (recA (zeroR 0) (.slice none 0 0) (.slice none 0 0)) 87 := (box_new w _ _).belowI (alloc_below10 _ _)
 have hFB : Box ((w.alloc (.cells (recA (zeroR 0) (.slice none 0 0) (.slice none 0 0)) 87)).alloc (.cells #[.int .i64 0, .int .i64 0] 118)) (w.heap.size + 1) #[.int .i64 0, .int .i64 0] 118 := by
  have := box_new (w.alloc (.cells (recA (zeroR 0) (.slice none 0 0) (.slice none 0 0)) 87)) #[.int .i64 0, .int .i64 0] 118
  rw [World.size_alloc] at this
  exact this
 have HAL := hide hA
 have HRB := hide hR
 have HFB := hide hFB
 have HL0 := hide (hL.below hA)
 have HX := hide hx
 obtain ⟨KB, hKB⟩ : ∃ n, n = (byteS ⟨b, 0, 0, 0⟩).1.toNat := ⟨_, rfl⟩
 obtain ⟨r1, hr1⟩ : ∃ r, r = (byteS ⟨b, 0, 0, 0⟩).2 := ⟨_, rfl⟩
 have hK256 : KB < 256 := by rw [hKB]; exact (byteN_int (r := ⟨b, 0, 0, 0⟩) hx).2
 have HB1 : Hid (∀ c ∈ r1.bs, 0 ≤ c ∧ c < 256) := hide (by rw [hr1]; exact (byteS_rng (r := ⟨b, 0, 0, 0⟩) hx).2)
 have HKB := hide hKB
 have HR1 := hide hr1
 obtain ⟨D, hD⟩ : ∃ D, D = decRec b := ⟨_, rfl⟩
 rw [← hD]
 have HD := hide hD
 clear hA hR hFB hL hx hKB hr1 hD
 refine callsIn_wide.1 (callsIn_of_wp_marks (n := 0) Tryz.func72 rfl trivial (wpIn_wide.2 ?_) rfl)
 simp only [Tryz.ntmps72, List.size_toArray, List.length_cons, List.length_nil, Nat.reduceAdd, Nat.reduceSub, Array.replicate_succ, Array.replicate_zero, List.push_toArray, List.append_toArray, List.nil_append, List.cons_append]
 go_wp2_with fail
 refine (new_any _ b _ HL0.out HX.out (by omega)).mono ?_
 rintro e w1 ⟨pr, vb, rfl, hcr, hpr, hvb, hB1⟩
 have hszA : ((w.alloc (.cells (recA (zeroR 0) (.slice none 0 0) (.slice none 0 0)) 87)).alloc (.cells #[.int .i64 0, .int .i64 0] 118)).heap.size = w.heap.size + 2 := by simp
 rw [hszA] at hpr hvb
 have hb0 : Box (w1.alloc (.cells #[.pointer (some ⟨pr, 0, none⟩)] 149)) w1.heap.size #[.pointer (some ⟨pr, 0, none⟩)] 149 := box_new w1 _ _
 have hB0 : Below w1.heap.size w1 (w1.alloc (.cells #[.pointer (some ⟨pr, 0, none⟩)] 149)) := alloc_below10 w1 _
 obtain ⟨v1, hv1⟩ : ∃ v1, v1 = w1.alloc (.cells #[.pointer (some ⟨pr, 0, none⟩)] 149) := ⟨_, rfl⟩
 rw [← hv1] at hb0 hB0
 obtain ⟨bP, hbP⟩ : ∃ bP, bP = w1.heap.size := ⟨_, rfl⟩
 rw [← hbP] at hb0
 have hpP : pr < bP := by rw [hbP]; exact hcr.box.lt
 have hPl : w.heap.size + 1 < bP := by omega
 have hs1 : bP < v1.heap.size := hb0.lt
 have hB1' := hB1.trans (hB0.mono hB1.size)
 have HR1b := hide (HRB.out.belowI hB1')
 have HF1b := hide (HFB.out.belowI hB1')
 have HA1 := hide (HAL.out.trans (hB1'.mono HAL.out.size))
 have HCR := hide (hcr.below hB0)
 have HBP := hide hb0
 have z0 := hb0.cell 0 _ rfl
 have hV1 := hv1.symm
 have hbP2 := hbP.symm
 clear hcr hvb hB1 hB1' hB0 hb0 hszA HAL HRB HFB HL0 hv1 hbP
 go_wp2_with fail
 refine (getByte11 pr vb b ⟨b, 0, 0, 0⟩ v1 HCR.out).mono ?_
 rintro e w2 ⟨rfl, hc2, hk2⟩
 rw [← HKB.out]
 rw [← HR1.out] at hc2
 have HC2 := hide hc2
 have HR2 := hide (HR1b.out.keep hk2 (by omega))
 have HF2 := hide (HF1b.out.keep hk2 (by omega))
 have HBP2 := hide (HBP.out.keep hk2 (by omega))
 have HA2 : Hid (Below w.heap.size w w2) := hide (HA1.out.trans (hk2.below HA1.out.size (fun k e => by omega)))
 have hs2 := hk2.size
 have HVL : Hid (∀ g, vb.ownBlock = some g → g < w2.heap.size) := hide (fun g hg => owns_lt hc2.own hg)
 clear hc2 hk2 HR1b HF1b HA1 HCR HBP z0 hV1
 have hbm := build_rec KB
 have HZ := hide (box_new w2 (recA (zeroR 0) (.slice none 0 0) (.slice none 0 0)) 87)
 have HBA := hide (alloc_below10 w2 (.cells (recA (zeroR 0) (.slice none 0 0) (.slice none 0 0)) 87))
 go_wp2_with (refine wp_store_box rfl rfl _ _ rfl w2.heap.size rfl (cs' := recA (zeroR KB) (.slice none 0 0) (.slice none 0 0)) rfl HZ.out rfl infoRec (rec_one _ _ _ _ _ _ _) ?_; intro w3 hb3 hk3; have HX3 := hide hb3; have x0 := hb3.cell 0 _ rfl; have HB3 : Hid (Below w2.heap.size w2 w3) := hide (HBA.out.trans (hk3.below HBA.out.size (fun k e => by omega))); clear hb3 hk3)
 have HC3 := hide (HC2.out.below HB3.out)
 have HR3 := hide (HR2.out.belowI HB3.out)
 have HF3 := hide (HF2.out.belowI HB3.out)
 have HBP3 := hide (HBP2.out.belowI HB3.out)
 have z3 := HBP3.out.cell 0 _ rfl
 have HA3 := hide (HA2.out.trans (HB3.out.mono HA2.out.size))
 have hq3 := HX3.out.lt
 have hs3 := HB3.out.size
 obtain ⟨q, hq⟩ : ∃ q, w2.heap.size = q := ⟨_, rfl⟩
 rw [hq] at HX3 hs2 hq3 HVL ⊢
 clear HZ HBA HC2 HR2 HF2 HBP2 HA2 hbm HB3
 refine (kindMay_any KB w3).mono ?_
 rintro e w4 ⟨rfl, rfl⟩
 cases hkb : kindB KB with
 | false =>
  have HKE : Hid (fieldsR KB = []) := hide (by
   have := kindB_fields KB
   rw [hkb] at this
   cases hf : fieldsR KB with
   | nil => rfl
   | cons a l => rw [hf] at this; cases this)
  clear hkb
  by_cases hw : r1.why = 0
  ·have HE : Hid (D = (zeroR 0, 3, 0)) := hide (by rw [HD.out]; exact dec_first11 (by rw [← HKB.out]; exact HKE.out) (by rw [← HR1.out]; exact hw))
   have hfl := fld_why
   have hbz := build_rec0
   go_wp2_with fail
   refine (fault_any pr vb b r1 w4 HC3.out).mono ?_
   rintro e w5 ⟨rfl, hB5⟩
   rw [hw]
   have HR5 := hide (HR3.out.belowI hB5)
   have HF5 := hide (HF3.out.belowI hB5)
   have HA5 := hide (HA3.out.trans (hB5.mono HA3.out.size))
   clear hB5 hw HR3 HF3 HA3 HC3 HX3 x0 z3 HBP3
   go_wp2_with (first
    | (refine wp_store_box rfl rfl _ _ rfl w.heap.size rfl (cs' := recA (zeroR 0) (.slice none 0 0) (.slice none 0 0)) rfl HR5.out rfl infoRec (rec_one _ _ _ _ _ _ _) ?_; intro w6 hb6 hk6; have HR6 := hide hb6; have HF6 := hide (HF5.out.keep hk6 (by omega)); have HA6 := hide (HA5.out.trans (hk6.below HA5.out.size (fun k e => by omega))); clear hb6 hk6)
    | (refine wp_store_box rfl rfl _ _ rfl (w.heap.size + 1) rfl (cs' := #[.int .i64 3, .int .i64 0]) rfl HF6.out rfl infoFlt (flt_one2 _ _) ?_; intro w7 hb7 hk7; have HR7 := hide (HR6.out.keep hk7 (by omega)); have HF7 := hide hb7; have HA7 := hide (HA6.out.trans (hk7.below HA6.out.size (fun k e => by omega))); clear hb7 hk7))
   refine ⟨_, results_cells2 Tryz.results72 _ _ w.heap.size (w.heap.size + 1) rfl rfl HR7.out HF7.out Tryz.underlying87 rfl infoRec Tryz.underlying118 rfl infoFlt, .agg (recA (zeroR 0) (.slice none 0 0) (.slice none 0 0)), by rw [HE.out]; rfl, ?_, HA7.out⟩
   rw [HE.out]
   exact ⟨none, none, 0, 0, rfl, RSrc.nil _, Lies.nil _ _, (fun _ h => by cases h), (fun _ h => by cases h)⟩
  ·have HE : Hid (D = decT11 KB r1) := hide (by
    have h := dec_then11 (b := b) (fun hh => hw (by rw [HR1.out]; exact hh.2))
    rw [← HKB.out, ← HR1.out] at h
    rw [HD.out, h])
   have hfl := fld_why
   have hwb : (r1.why == 0) = false := by simp [hw]
   clear hw
   go_wp2_with fail
   refine (fault_any pr vb b r1 w4 HC3.out).mono ?_
   rintro e w5 ⟨rfl, hB5⟩
   have HR5 := hide (HR3.out.belowI hB5)
   have HF5 := hide (HF3.out.belowI hB5)
   have HX5 := hide (HX3.out.belowI hB5)
   have HC5 := hide (HC3.out.below hB5)
   have HP5 := hide (HBP3.out.belowI hB5)
   have HA5 := hide (HA3.out.trans (hB5.mono HA3.out.size))
   have hs5 := hB5.size
   clear hB5 HR3 HF3 HA3 HC3 HX3 HBP3 x0 z3
   go_wp2_with fail
   clear hwb
   refine (fieldsIn11_any q w5).mono ?_
   rintro e w6 ⟨rfl, hw6⟩
   have hA6 := alloc_below10 w5 (.cells #[.pointer (some ⟨q, 0, none⟩)] 133)
   have hb6 := box_new w5 #[.pointer (some ⟨q, 0, none⟩)] 133
   have hz6 : w6.heap.size = w5.heap.size + 1 := by rw [hw6]; simp
   rw [← hw6] at hA6 hb6
   obtain ⟨br, hbr⟩ : ∃ br, br = w5.heap.size := ⟨_, rfl⟩
   rw [← hbr] at hb6 ⊢
   have HPL : Hid (Places w q bP br pr w6.heap.size) := hide ⟨by omega, by omega, by omega, by omega, by omega⟩
   have HI0 : Hid (DecI11 w w6 q bP br pr vb b r1 (zeroR KB) (.slice none 0 0) (.slice none 0 0)) := hide ⟨HX5.out.belowI hA6, HP5.out.belowI hA6, hb6, RSrc.nil _, Lies.nil _ _, (fun g hg => by cases hg), (fun g hg => by cases hg), HC5.out.below hA6, (fun g hg => by have := HVL.out g hg; omega), HR5.out.belowI hA6, HF5.out.belowI hA6, HA5.out.trans (hA6.mono HA5.out.size), Nat.zero_le _⟩
   have hlq : q < w6.heap.size := by omega
   have hle : w.heap.size ≤ w6.heap.size := by omega
   clear hA6 hb6 hw6 HR5 HF5 HX5 HC5 HP5 HA5 hbr hs5 hs3 hs2 hs1 hq3 HVL hq hbP2 hpr hpP hz6
   go_wp2_with fail
   refine wpIn_wide.1 (wpIn_range11 (n := 0) (N := 8) (V := VF KB q) (Pre := fun A => Box A br #[.pointer (some ⟨q, 0, none⟩)] 133) rfl en_iter
    (fun W _ hB => iter_gives q br KB W (HI0.out.b1.belowI hB) ((hB.cell (p := ⟨q, 0, none⟩) hlq).trans (HI0.out.box.cell 0 _ rfl)) (Nat.lt_of_lt_of_le hlq hB.size))
    (fun k H A vs ⟨fs, e, _⟩ => by rw [e]; rfl) (fun k H A A' vs ⟨fs, e, hf⟩ hc => ⟨fs, e, hf.calm hc⟩)
    (fun k A => ∃ m p u r, DecI11 w A q bP br pr vb b r m p u ∧ r = (decRs (upTo KB k) (zeroR KB) r1).2 ∧ (r.why = 0 → m = (decRs (upTo KB k) (zeroR KB) r1).1) ∧ (k ≤ 5 → u = .slice none 0 0 ∧ m.mis = []))
    (fun A => False)
    (fun k A A' ⟨m, p, u, r, h, h2⟩ hc => ⟨m, p, u, r, h.calm hc hle, h2⟩)
    (fun A A' h hc => h)
    (fun k A ⟨m, p, u, r, h, h2⟩ => h.b1) ⟨zeroR KB, .slice none 0 0, .slice none 0 0, r1, HI0.out, rfl, fun _ => rfl, fun _ => ⟨rfl, rfl⟩⟩
    (fun vs a' A => ∃ bf f0 f1 f2 f3 c0 c1 c2 c3 bb, vs = #[.agg #[.func f0 #[] c0, .func f1 #[] c1, .func f2 #[] c2, .func f3 #[] c3], .bool bb] ∧ Box A bf #[.func f0 #[] c0, .func f1 #[] c1, .func f2 #[] c2, .func f3 #[] c3] 137 ∧ a' = { tmps := #[.slice vo b.length vcap, undef, .pointer (some ⟨w.heap.size, 0, none⟩), .pointer (some ⟨w.heap.size + 1, 0, none⟩), .pointer (some ⟨bP, 0, none⟩), .pointer (some ⟨q, 0, none⟩), .pointer (some ⟨bf, 0, none⟩), .bool bb, undef, .slice vo b.length vcap, .pointer (some ⟨pr, 0, none⟩), .pointer (some ⟨pr, 0, none⟩), .int .u8 (KB : Int), .agg (recA (zeroR KB) (.slice none 0 0) (.slice none 0 0)), .pointer (some ⟨q, 0, none⟩), .int .u8 (KB : Int), .bool false, .bool true, .bool true, .pointer (some ⟨pr, 0, none⟩), .agg #[.int .i64 r1.why, .int .i64 (r1.fat : Int)], .int .i64 r1.why, .bool false, .bool false, undef, undef, .func (.func 108) #[] #[.pointer (some ⟨br, 0, none⟩)], .agg #[.func f0 #[] c0, .func f1 #[] c1, .func f2 #[] c2, .func f3 #[] c3], .bool bb, undef, undef, undef, undef, undef, undef, undef, undef, undef, undef, undef, undef, undef, undef, undef, undef, undef, undef, undef], defers := [] })
    (fun vs a' A A' ⟨bf, f0, f1, f2, f3, c0, c1, c2, c3, bb, e, hb, ha⟩ hc => ⟨bf, f0, f1, f2, f3, c0, c1, c2, c3, bb, e, hc.box hb, ha⟩) ?assign ?body ?done ?stop)
   case assign =>
    rintro l k vs A K ⟨fs, rfl, hf⟩ hK
    obtain ⟨f0, f1, f2, f3, c0, c1, c2, c3, rfl⟩ := hf.fns
    have HZ := hide (box_new A #[.nilFunc, .nilFunc, .nilFunc, .nilFunc] 137)
    have HBA := hide (alloc_below10 A (.cells #[.nilFunc, .nilFunc, .nilFunc, .nilFunc] 137))
    have HIF := hide infoFld
    clear hf
    generalize (fieldsR KB).contains k = cb at *
    gi_wp2_with (refine wpIn_store_boxR rfl rfl _ _ rfl A.heap.size rfl (cs' := #[.func f0 #[] c0, .func f1 #[] c1, .func f2 #[] c2, .func f3 #[] c3]) rfl HZ.out rfl HIF.out (fld_one _ _ _ _ _ _ _ _) ?_; intro w7 hb7 hk7; have HB7 := hide hb7; have HK7 : Hid (Below A.heap.size A w7) := hide (HBA.out.trans (hk7.below HBA.out.size (fun k e => by omega))); clear hb7 hk7)
    exact hK _ _ HK7.out ⟨A.heap.size, f0, f1, f2, f3, c0, c1, c2, c3, _, rfl, HB7.out, rfl⟩
   case body =>
    rintro l k vs a' A hk hsz ⟨m, p, u, r, hI, hR, hM, h5⟩ ⟨fs, e1, hf⟩ ⟨bf, f0, f1, f2, f3, c0, c1, c2, c3, bb, rfl, hb, rfl⟩
    obtain ⟨rfl, rfl⟩ := vf_inj e1
    have HIK := hide hI
    have HRK := hide hR
    have HMK := hide hM
    have H5K := hide h5
    have z2 := hb.cell 3 _ rfl
    have zp := hI.bp.cell 0 _ rfl
    cases hc : (fieldsR KB).contains k with
    | true =>
     obtain ⟨f, cap, e2, he, hC⟩ := hf.get_any hI.box hI.src hI.lie (fun g hg => (hI.ps g hg).1) (fun g hg => (hI.us g hg).1) hI.cr (by have := HPL.out.fr; omega) (by have := HPL.out.fq; omega) HPL.out.ne.1 (fun e => hI.vq q e rfl) hI.len (fun e => h5 (by omega)) hk
     cases e2
     have HUP : Hid (upTo KB (k + 1) = upTo KB k ++ [k]) := hide (by rw [upTo_succ, if_pos hc])
     have HC := hide hC
     unfold FnOk at he
     clear hC hc hf hI hR hM h5
     gi_wp2_with fail
     refine ⟨trivial, rfl, (CallsIn.inRound l (callsIn_wide.2 HC.out)).mono ?_⟩
     rintro e w8 ⟨rfl, m8, p8, u8, h8⟩
     have HI8 := hide (HIK.out.step HPL.out (by omega) h8)
     have HK8 : Hid (KeepBut (fun b => b < w6.heap.size ∨ w6.heap.size + 5 ≤ b) A w8) := hide (h8.keep.mono (fun b e => by
      have := HPL.out.fq
      have := HPL.out.fr
      exact .inl (by omega)))
     have HR8 : Hid ((decR k m r).2 = (decRs (upTo KB (k + 1)) (zeroR KB) r1).2) := hide (by
      rw [HUP.out, decRs_snoc, ← HRK.out]
      by_cases h : r.why = 0
      ·rw [← HMK.out h]
      ·rw [decR_stays hk m h, decR_stays hk _ h])
     have HV8 : Hid ((decR k m r).2.why = 0 → m8 = (decRs (upTo KB (k + 1)) (zeroR KB) r1).1) := hide (fun e => by
      have h0 : r.why = 0 := by
       by_cases h : r.why = 0
       ·exact h
       ·rw [decR_stays hk m h] at e
        exact absurd e h
      rw [h8.val e, HUP.out, decRs_snoc, ← HMK.out h0, ← HRK.out])
     have HU8 : Hid (k + 1 ≤ 5 → u8 = .slice none 0 0 ∧ m8.mis = []) := hide (fun e => by
      have h1 := h8.mis (by omega)
      have h2 := H5K.out (by omega)
      exact ⟨h1.1.trans h2.1, h1.2.trans h2.2⟩)
     clear h8 HC he HIK z2 hb zp
     gi_wp2_with fail
     exact ⟨HK8.out, m8, p8, u8, _, HI8.out, HR8.out, HV8.out, HU8.out⟩
    | false =>
     have HUP : Hid (upTo KB (k + 1) = upTo KB k) := hide (by rw [upTo_succ, if_neg (by rw [hc]; simp), List.append_nil])
     clear hc hf hI hR hM h5 z2 zp hb
     gi_wp2_with fail
     refine ⟨KeepBut.refl _ _, m, p, u, r, HIK.out, ?_, ?_, fun e => H5K.out (by omega)⟩
     ·rw [HUP.out]; exact HRK.out
     ·rw [HUP.out]; exact HMK.out
   case done =>
    rintro DD W hD ⟨m, p, u, r, hI, hR, hM, _⟩ hK
    rw [upTo_all] at hR hM
    have hDD : w.heap.size + 1 < DD := by have := HPL.out.fq; omega
    have HIK := hide hI
    have HRK := hide hR
    have HMK := hide hM
    have HK := hide hK
    have hKl : DD < W.heap.size := (Array.getElem?_eq_some_iff.1 hK).1
    have zp := hI.bp.cell 0 _ rfl
    clear hI hR hM hK
    go_wp2_with fail
    refine (end_any pr vb b r W HIK.out.cr).mono ?_
    rintro e w8 ⟨rfl, _, hk8⟩
    have HE8 := hide (HIK.out.ended HPL.out hk8)
    have HK8 : Hid (w8.heap[DD]? = some (.deferred (some []))) := hide ((hk8.block DD hKl (by have := HPL.out.fr; omega)).trans HK.out)
    clear hk8 HIK zp HK hKl
    obtain ⟨y, hy⟩ : ∃ y, y = (endS r).why := ⟨_, rfl⟩
    obtain ⟨z, hzz⟩ : ∃ z, z = (((endS r).fat : Nat) : Int) := ⟨_, rfl⟩
    rw [← hy, ← hzz]
    have HY := hide hy
    have HZZ := hide hzz
    clear hy hzz
    have HZ9 := hide (box_new w8 #[.int .i64 0, .int .i64 0] 118)
    have HBA9 := hide (alloc_below10 w8 (.cells #[.int .i64 0, .int .i64 0] 118))
    obtain ⟨b10, hb10⟩ : ∃ b10, b10 = w8.heap.size := ⟨_, rfl⟩
    have HN10 : Hid (w.heap.size + 1 < b10) := hide (by
     have h2 := HE8.out.box.lt
     have h3 := HE8.out.le
     omega)
    by_cases hw : y = 0
    ·have hyb : (y != 0) = false := by rw [hw]; rfl
     have HR0 : Hid (r.why = 0) := hide (by
      have e := HY.out
      rw [hw] at e
      exact (end_zero e.symm).1)
     have HME : Hid (m = (decRs (fieldsR KB) (zeroR KB) r1).1) := hide (HMK.out HR0.out)
     have HOKM : Hid (RecOk m) := hide (by
      have h0 := HR0.out
      rw [HRK.out] at h0
      rw [HME.out]
      exact decRs_ok hK256 HB1.out h0)
     have HDD : Hid (D = if mayR m then (m, 0, 0) else (zeroR 0, 3, 0)) := hide (by
      rw [HE.out]
      unfold decT11
      rw [← HRK.out, if_neg (by rw [← HY.out, hw]; simp), ← HME.out])
     clear hw HMK HRK HME HR0
     go_wp2_with (first | (refine wp_store_box rfl rfl _ _ rfl w8.heap.size rfl (cs' := #[.int .i64 y, .int .i64 z]) rfl HZ9.out rfl infoFlt (flt_one2 _ _) ?_; intro w9 hb9 hk9; have hB9 : Below w8.heap.size w8 w9 := HBA9.out.trans (hk9.below HBA9.out.size (fun k e => by omega)); have HE9 := hide (HE8.out.below hB9); have HK9 : Hid (w9.heap[DD]? = some (.deferred (some []))) := hide ((hB9.block DD (Array.getElem?_eq_some_iff.1 HK8.out).1).trans HK8.out); have t0 := hb9.cell 0 _ rfl; clear hb9 hk9 hB9) | (refine wp_load_box rfl _ rfl q rfl HE9.out.box Tryz.underlying87 rfl infoRec ?_))
     obtain ⟨ao, c, hps, _, _⟩ := HE9.out.src.shape
     obtain ⟨bo, d, hpu⟩ := HE9.out.lie.shape
     rw [misI_len] at hpu
     subst hps
     subst hpu
     refine (pmay11_any HOKM.out (v := .agg (recA m (.slice ao m.wr.length c) (.slice bo m.mis.length d))) (w := w9) ⟨ao, bo, c, d, rfl, HE9.out.src, HE9.out.lie⟩).mono ?_
     rintro e w10 ⟨rfl, hB10⟩
     have HE10 := hide (HE9.out.below hB10)
     have HK10 : Hid (w10.heap[DD]? = some (.deferred (some []))) := hide ((hB10.block DD (Array.getElem?_eq_some_iff.1 HK9.out).1).trans HK9.out)
     clear hB10 HE9 t0 HZ9 HBA9 HE8 HK8 HK9
     cases hmay : mayR m with
     | false =>
      have HDE : Hid (D = (zeroR 0, 3, 0)) := hide (by rw [HDD.out, hmay]; rfl)
      have hbz := build_rec0
      clear hmay
      go_wp2_with (first
       | (refine wp_store_box rfl rfl _ _ rfl w.heap.size rfl (cs' := recA (zeroR 0) (.slice none 0 0) (.slice none 0 0)) rfl HE10.out.rb rfl infoRec (rec_one _ _ _ _ _ _ _) ?_; intro w11 hb11 hk11; have HR11 := hide hb11; have HF11 := hide (HE10.out.fb.keep hk11 (by omega)); have HA11 := hide (HE10.out.bl.trans (hk11.below HE10.out.bl.size (fun k e => by omega))); have HK11 := hide (hk11.block DD (Array.getElem?_eq_some_iff.1 HK10.out).1 (by omega)); clear hb11 hk11)
       | (refine wp_store_box rfl rfl _ _ rfl (w.heap.size + 1) rfl (cs' := #[.int .i64 3, .int .i64 0]) rfl HF11.out rfl infoFlt (flt_one2 _ _) ?_; intro w12 hb12 hk12; have HR12 := hide (HR11.out.keep hk12 (by omega)); have HF12 := hide hb12; have HA12 := hide (HA11.out.trans (hk12.below HA11.out.size (fun k e => by omega))); have HK12 : Hid (w12.heap[DD]? = some (.deferred (some []))) := hide ((hk12.block DD (Array.getElem?_eq_some_iff.1 (HK11.out.trans HK10.out)).1 (by omega)).trans (HK11.out.trans HK10.out)); clear hb12 hk12))
      refine ⟨by simp, .inl ⟨_, _, rfl, run_takeDeferred HK12.out, ?_⟩⟩
      have hcm := Calm.putObj (B := w.heap.size) HK12.out rfl (by omega) (.deferred none)
      refine ⟨_, results_cells2 Tryz.results72 _ _ w.heap.size (w.heap.size + 1) rfl rfl (hcm.box HR12.out) (hcm.box HF12.out) Tryz.underlying87 rfl infoRec Tryz.underlying118 rfl infoFlt, .agg (recA (zeroR 0) (.slice none 0 0) (.slice none 0 0)), by rw [HDE.out]; rfl, ?_, HA12.out.trans (hcm.below (Nat.le_refl _) HA12.out.size)⟩
      rw [HDE.out]
      exact ⟨none, none, 0, 0, rfl, RSrc.nil _, Lies.nil _ _, (fun _ h => by cases h), (fun _ h => by cases h)⟩
     | true =>
      have HDE : Hid (D = (m, 0, 0)) := hide (by rw [HDD.out, hmay]; rfl)
      clear hmay
      go_wp2_with (first
       | (refine wp_load_box rfl _ rfl q rfl HE10.out.box Tryz.underlying87 rfl infoRec ?_)
       | (refine wp_store_box rfl rfl _ _ rfl w.heap.size rfl (cs' := recA m (.slice ao m.wr.length c) (.slice bo m.mis.length d)) rfl HE10.out.rb rfl infoRec (rec_one _ _ _ _ _ _ _) ?_; intro w11 hb11 hk11; have HR11 := hide hb11; have HS11 := hide (HE10.out.src.keep hk11 (fun g hg e => by have := HE10.out.ps g hg; omega)); have HL11 := hide (lies_keepR HE10.out.lie hk11 (fun g hg e => by have := HE10.out.us g hg; omega)); have HF11 := hide (HE10.out.fb.keep hk11 (by omega)); have HA11 := hide (HE10.out.bl.trans (hk11.below HE10.out.bl.size (fun k e => by omega))); have HK11 := hide (hk11.block DD (Array.getElem?_eq_some_iff.1 HK10.out).1 (by omega)); clear hb11 hk11)
       | (refine wp_store_box rfl rfl _ _ rfl (w.heap.size + 1) rfl (cs' := #[.int .i64 0, .int .i64 0]) rfl HF11.out rfl infoFlt (flt_one2 _ _) ?_; intro w12 hb12 hk12; have HR12 := hide (HR11.out.keep hk12 (by omega)); have HS12 := hide (HS11.out.keep hk12 (fun g hg e => by have := HE10.out.ps g hg; omega)); have HL12 := hide (lies_keepR HL11.out hk12 (fun g hg e => by have := HE10.out.us g hg; omega)); have HF12 := hide hb12; have HA12 := hide (HA11.out.trans (hk12.below HA11.out.size (fun k e => by omega))); have HK12 : Hid (w12.heap[DD]? = some (.deferred (some []))) := hide ((hk12.block DD (Array.getElem?_eq_some_iff.1 (HK11.out.trans HK10.out)).1 (by omega)).trans (HK11.out.trans HK10.out)); clear hb12 hk12))
      refine ⟨by simp, .inl ⟨_, _, rfl, run_takeDeferred HK12.out, ?_⟩⟩
      have hcm := Calm.putObj (B := w.heap.size) HK12.out rfl (by omega) (.deferred none)
      refine ⟨_, results_cells2 Tryz.results72 _ _ w.heap.size (w.heap.size + 1) rfl rfl (hcm.box HR12.out) (hcm.box HF12.out) Tryz.underlying87 rfl infoRec Tryz.underlying118 rfl infoFlt, .agg (recA m (.slice ao m.wr.length c) (.slice bo m.mis.length d)), by rw [HDE.out]; rfl, ?_, HA12.out.trans (hcm.below (Nat.le_refl _) HA12.out.size)⟩
      rw [HDE.out]
      exact ⟨ao, bo, c, d, rfl, hcm.src HS12.out, hcm.lies HL12.out, (fun g hg => by have := HE10.out.ps g hg; omega), (fun g hg => by have := HE10.out.us g hg; omega)⟩
    ·have hyb : (y != 0) = true := by simp [hw]
     have HDE : Hid (D = (zeroR 0, (endS r).why, (endS r).fat)) := hide (by
      rw [HE.out]
      unfold decT11
      rw [← HRK.out, if_pos (by rw [← HY.out]; exact hw)])
     clear hw HMK HRK
     go_wp2_with (refine wp_store_box rfl rfl _ _ rfl w8.heap.size rfl (cs' := #[.int .i64 y, .int .i64 z]) rfl HZ9.out rfl infoFlt (flt_one2 _ _) ?_; intro w9 hb9 hk9; have hB9 : Below w8.heap.size w8 w9 := HBA9.out.trans (hk9.below HBA9.out.size (fun k e => by omega)); have HE9 := hide (HE8.out.below hB9); have HK9 : Hid (w9.heap[DD]? = some (.deferred (some []))) := hide ((hB9.block DD (Array.getElem?_eq_some_iff.1 HK8.out).1).trans HK8.out); have HT9 := hide hb9; have t0 := hb9.cell 0 _ rfl; clear hb9 hk9 hB9)
     rw [← hb10] at HT9
     refine wp_region_vals3 (by kernel_rfl) [(some 39, .agg (recA (zeroR 0) (.slice none 0 0) (.slice none 0 0))), (some 40, .agg #[.int .i64 y, .int .i64 z]), (none, undef), (none, undef)] [(39, .agg (recA (zeroR 0) (.slice none 0 0) (.slice none 0 0))), (40, .agg #[.int .i64 y, .int .i64 z])] (SD12 w9 w.heap.size b10 y z) (by kernel_rfl) rfl rfl ⟨(KeepBut.refl _ _).drew, HE9.out.rb.belowI (Below.refl _ _).drew, HT9.out.belowI (Below.refl _ _).drew, fun _ => HE9.out.fb.belowI (Below.refl _ _).drew, fun h => by cases h⟩ ?_ ?_
     ·intro i o hi listed A W hsz hN hS hold hdeps
      have hlt : i < 4 := (Array.getElem?_eq_some_iff.1 hi).1
      have hc : i = 0 ∨ i = 1 ∨ i = 2 ∨ i = 3 := by omega
      clear hlt
      have hnx : ∀ j, j ≠ 3 → SD12 w9 w.heap.size b10 y z (listed.setIfInBounds j true) W := fun j hj => by
       unfold SD12 at *
       rw [listed_ne hj]
       exact hS
      rcases hc with rfl | rfl | rfl | rfl
      ·obtain rfl := Option.some.inj hi
       exact o_pure hi rfl rfl rfl (y_build _ (build_rec0 W)) (hnx 0 (by decide))
      ·obtain rfl := Option.some.inj hi
       have s8 : A.tmps.getD 8 undef = .pointer (some ⟨b10, 0, none⟩) := (hold 8 (by kernel_rfl)).trans (by rw [hb10]; rfl)
       exact o_pure hi rfl rfl rfl (y_load _ _ s8 hS.2.2.1 Tryz.underlying118 rfl infoFlt) (hnx 1 (by decide))
      ·obtain rfl := Option.some.inj hi
       have s2 : A.tmps.getD 2 undef = .pointer (some ⟨w.heap.size, 0, none⟩) := hold 2 (by kernel_rfl)
       have s39 : A.tmps.getD 39 undef = .agg (recA (zeroR 0) (.slice none 0 0) (.slice none 0 0)) := slot_of hdeps 0 rfl (by kernel_rfl)
       have hb := setRow_box (cs' := recA (zeroR 0) (.slice none 0 0) (.slice none 0 0)) hS.2.1
       refine o_store hi rfl rfl (y_storeBox _ _ _ s2 s39 hS.2.1 rfl infoRec (rec_one _ _ _ _ _ _ _)) ?_
       unfold SD12
       rw [listed_ne (by decide)]
       exact ⟨hS.1.trans (hb.2.mono (S' := fun k => k = w.heap.size ∨ k = w.heap.size + 1) (fun k e => .inl e)) (fun _ _ e => e), hb.1, hS.2.2.1.keep hb.2 (by have := HN10.out; omega), fun e => (hS.2.2.2.1 e).keep hb.2 (by omega), fun e => (hS.2.2.2.2 e).keep hb.2 (by omega)⟩
      ·obtain rfl := Option.some.inj hi
       have s3 : A.tmps.getD 3 undef = .pointer (some ⟨w.heap.size + 1, 0, none⟩) := hold 3 (by kernel_rfl)
       have s40 : A.tmps.getD 40 undef = .agg #[.int .i64 y, .int .i64 z] := slot_of hdeps 1 rfl (by kernel_rfl)
       have hbx := hS.2.2.2.1 hN.un
       have hb := setRow_box (cs' := #[.int .i64 y, .int .i64 z]) hbx
       exact o_store hi rfl rfl (y_storeBox _ _ _ s3 s40 hbx rfl infoFlt (flt_one2 _ _)) ⟨hS.1.trans (hb.2.mono (S' := fun k => k = w.heap.size ∨ k = w.heap.size + 1) (fun k e => .inr e)) (fun _ _ e => e), hS.2.1.keep hb.2 (by omega), hS.2.2.1.keep hb.2 (by have := HN10.out; omega), fun h6 => (by rw [listed_at] at h6; cases h6), fun _ => hb.1⟩
     ·intro listed w11 hall hS11
      have HR11 := hide hS11.2.1
      have HF11 := hide (hS11.2.2.2.2 (hall 3 (by decide)))
      have HA11 : Hid (Below w.heap.size w w11) := hide (HE9.out.bl.trans (hS11.1.below HE9.out.bl.size (fun k e => by omega)))
      have HK11 : Hid (w11.heap[DD]? = some (.deferred (some []))) := hide ((hS11.1.block DD (Array.getElem?_eq_some_iff.1 HK9.out).1 (by omega)).trans HK9.out)
      simp only [putAll, Act.put, List.setIfInBounds_toArray, List.set_cons_succ, List.set_cons_zero]
      clear hS11 hall HE9 HT9 t0
      go_wp2_with fail
      refine ⟨by simp, .inl ⟨_, _, rfl, run_takeDeferred HK11.out, ?_⟩⟩
      have hcm := Calm.putObj (B := w.heap.size) HK11.out rfl (by omega) (.deferred none)
      refine ⟨_, results_cells2 Tryz.results72 _ _ w.heap.size (w.heap.size + 1) rfl rfl (hcm.box HR11.out) (hcm.box HF11.out) Tryz.underlying87 rfl infoRec Tryz.underlying118 rfl infoFlt, .agg (recA (zeroR 0) (.slice none 0 0) (.slice none 0 0)), by rw [HDE.out, HY.out, HZZ.out], ?_, HA11.out.trans (hcm.below (Nat.le_refl _) HA11.out.size)⟩
      rw [HDE.out]
      exact ⟨none, none, 0, 0, rfl, RSrc.nil _, Lies.nil _ _, (fun _ h => by cases h), (fun _ h => by cases h)⟩
   case stop =>
    rintro _ _ _ h
    exact h.elim
 | true =>
  have HE : Hid (D = decT11 KB r1) := hide (by
   have h := dec_then11 (b := b) (fun hh => by
    have := kindB_fields KB
    rw [hkb, HKB.out, hh.1] at this
    cases this)
   rw [← HKB.out, ← HR1.out] at h
   rw [HD.out, h])
  obtain ⟨w5, hw5⟩ : ∃ w5, w5 = w4 := ⟨_, rfl⟩
  rw [← hw5]
  rw [← hw5] at HR3 HF3 HX3 HC3 HBP3 HA3 x0 z3
  have HR5 := HR3
  have HF5 := HF3
  have HX5 := HX3
  have HC5 := HC3
  have HP5 := HBP3
  have HA5 := HA3
  have hs5 : w4.heap.size ≤ w5.heap.size := by rw [hw5]; exact Nat.le_refl _
  clear hkb HR3 HF3 HX3 HC3 HBP3 HA3 hw5 x0 z3
  go_wp2_with fail
  refine (fieldsIn11_any q w5).mono ?_
  rintro e w6 ⟨rfl, hw6⟩
  have hA6 := alloc_below10 w5 (.cells #[.pointer (some ⟨q, 0, none⟩)] 133)
  have hb6 := box_new w5 #[.pointer (some ⟨q, 0, none⟩)] 133
  have hz6 : w6.heap.size = w5.heap.size + 1 := by rw [hw6]; simp
  rw [← hw6] at hA6 hb6
  obtain ⟨br, hbr⟩ : ∃ br, br = w5.heap.size := ⟨_, rfl⟩
  rw [← hbr] at hb6 ⊢
  have HPL : Hid (Places w q bP br pr w6.heap.size) := hide ⟨by omega, by omega, by omega, by omega, by omega⟩
  have HI0 : Hid (DecI11 w w6 q bP br pr vb b r1 (zeroR KB) (.slice none 0 0) (.slice none 0 0)) := hide ⟨HX5.out.belowI hA6, HP5.out.belowI hA6, hb6, RSrc.nil _, Lies.nil _ _, (fun g hg => by cases hg), (fun g hg => by cases hg), HC5.out.below hA6, (fun g hg => by have := HVL.out g hg; omega), HR5.out.belowI hA6, HF5.out.belowI hA6, HA5.out.trans (hA6.mono HA5.out.size), Nat.zero_le _⟩
  have hlq : q < w6.heap.size := by omega
  have hle : w.heap.size ≤ w6.heap.size := by omega
  clear hA6 hb6 hw6 HR5 HF5 HX5 HC5 HP5 HA5 hbr hs5 hs3 hs2 hs1 hq3 HVL hq hbP2 hpr hpP hz6
  go_wp2_with fail
  refine wpIn_wide.1 (wpIn_range11 (n := 0) (N := 8) (V := VF KB q) (Pre := fun A => Box A br #[.pointer (some ⟨q, 0, none⟩)] 133) rfl en_iter
   (fun W _ hB => iter_gives q br KB W (HI0.out.b1.belowI hB) ((hB.cell (p := ⟨q, 0, none⟩) hlq).trans (HI0.out.box.cell 0 _ rfl)) (Nat.lt_of_lt_of_le hlq hB.size))
   (fun k H A vs ⟨fs, e, _⟩ => by rw [e]; rfl) (fun k H A A' vs ⟨fs, e, hf⟩ hc => ⟨fs, e, hf.calm hc⟩)
   (fun k A => ∃ m p u r, DecI11 w A q bP br pr vb b r m p u ∧ r = (decRs (upTo KB k) (zeroR KB) r1).2 ∧ (r.why = 0 → m = (decRs (upTo KB k) (zeroR KB) r1).1) ∧ (k ≤ 5 → u = .slice none 0 0 ∧ m.mis = []))
   (fun A => False)
   (fun k A A' ⟨m, p, u, r, h, h2⟩ hc => ⟨m, p, u, r, h.calm hc hle, h2⟩)
   (fun A A' h hc => h)
   (fun k A ⟨m, p, u, r, h, h2⟩ => h.b1) ⟨zeroR KB, .slice none 0 0, .slice none 0 0, r1, HI0.out, rfl, fun _ => rfl, fun _ => ⟨rfl, rfl⟩⟩
   (fun vs a' A => ∃ bf f0 f1 f2 f3 c0 c1 c2 c3 bb, vs = #[.agg #[.func f0 #[] c0, .func f1 #[] c1, .func f2 #[] c2, .func f3 #[] c3], .bool bb] ∧ Box A bf #[.func f0 #[] c0, .func f1 #[] c1, .func f2 #[] c2, .func f3 #[] c3] 137 ∧ a' = { tmps := #[.slice vo b.length vcap, undef, .pointer (some ⟨w.heap.size, 0, none⟩), .pointer (some ⟨w.heap.size + 1, 0, none⟩), .pointer (some ⟨bP, 0, none⟩), .pointer (some ⟨q, 0, none⟩), .pointer (some ⟨bf, 0, none⟩), .bool bb, undef, .slice vo b.length vcap, .pointer (some ⟨pr, 0, none⟩), .pointer (some ⟨pr, 0, none⟩), .int .u8 (KB : Int), .agg (recA (zeroR KB) (.slice none 0 0) (.slice none 0 0)), .pointer (some ⟨q, 0, none⟩), .int .u8 (KB : Int), .bool true, .bool false, .bool false, undef, undef, undef, undef, .bool false, undef, undef, .func (.func 108) #[] #[.pointer (some ⟨br, 0, none⟩)], .agg #[.func f0 #[] c0, .func f1 #[] c1, .func f2 #[] c2, .func f3 #[] c3], .bool bb, undef, undef, undef, undef, undef, undef, undef, undef, undef, undef, undef, undef, undef, undef, undef, undef, undef, undef, undef], defers := [] })
   (fun vs a' A A' ⟨bf, f0, f1, f2, f3, c0, c1, c2, c3, bb, e, hb, ha⟩ hc => ⟨bf, f0, f1, f2, f3, c0, c1, c2, c3, bb, e, hc.box hb, ha⟩) ?assign ?body ?done ?stop)
  case assign =>
   rintro l k vs A K ⟨fs, rfl, hf⟩ hK
   obtain ⟨f0, f1, f2, f3, c0, c1, c2, c3, rfl⟩ := hf.fns
   have HZ := hide (box_new A #[.nilFunc, .nilFunc, .nilFunc, .nilFunc] 137)
   have HBA := hide (alloc_below10 A (.cells #[.nilFunc, .nilFunc, .nilFunc, .nilFunc] 137))
   have HIF := hide infoFld
   clear hf
   generalize (fieldsR KB).contains k = cb at *
   gi_wp2_with (refine wpIn_store_boxR rfl rfl _ _ rfl A.heap.size rfl (cs' := #[.func f0 #[] c0, .func f1 #[] c1, .func f2 #[] c2, .func f3 #[] c3]) rfl HZ.out rfl HIF.out (fld_one _ _ _ _ _ _ _ _) ?_; intro w7 hb7 hk7; have HB7 := hide hb7; have HK7 : Hid (Below A.heap.size A w7) := hide (HBA.out.trans (hk7.below HBA.out.size (fun k e => by omega))); clear hb7 hk7)
   exact hK _ _ HK7.out ⟨A.heap.size, f0, f1, f2, f3, c0, c1, c2, c3, _, rfl, HB7.out, rfl⟩
  case body =>
   rintro l k vs a' A hk hsz ⟨m, p, u, r, hI, hR, hM, h5⟩ ⟨fs, e1, hf⟩ ⟨bf, f0, f1, f2, f3, c0, c1, c2, c3, bb, rfl, hb, rfl⟩
   obtain ⟨rfl, rfl⟩ := vf_inj e1
   have HIK := hide hI
   have HRK := hide hR
   have HMK := hide hM
   have H5K := hide h5
   have z2 := hb.cell 3 _ rfl
   have zp := hI.bp.cell 0 _ rfl
   cases hc : (fieldsR KB).contains k with
   | true =>
    obtain ⟨f, cap, e2, he, hC⟩ := hf.get_any hI.box hI.src hI.lie (fun g hg => (hI.ps g hg).1) (fun g hg => (hI.us g hg).1) hI.cr (by have := HPL.out.fr; omega) (by have := HPL.out.fq; omega) HPL.out.ne.1 (fun e => hI.vq q e rfl) hI.len (fun e => h5 (by omega)) hk
    cases e2
    have HUP : Hid (upTo KB (k + 1) = upTo KB k ++ [k]) := hide (by rw [upTo_succ, if_pos hc])
    have HC := hide hC
    unfold FnOk at he
    clear hC hc hf hI hR hM h5
    gi_wp2_with fail
    refine ⟨trivial, rfl, (CallsIn.inRound l (callsIn_wide.2 HC.out)).mono ?_⟩
    rintro e w8 ⟨rfl, m8, p8, u8, h8⟩
    have HI8 := hide (HIK.out.step HPL.out (by omega) h8)
    have HK8 : Hid (KeepBut (fun b => b < w6.heap.size ∨ w6.heap.size + 5 ≤ b) A w8) := hide (h8.keep.mono (fun b e => by
     have := HPL.out.fq
     have := HPL.out.fr
     exact .inl (by omega)))
    have HR8 : Hid ((decR k m r).2 = (decRs (upTo KB (k + 1)) (zeroR KB) r1).2) := hide (by
     rw [HUP.out, decRs_snoc, ← HRK.out]
     by_cases h : r.why = 0
     ·rw [← HMK.out h]
     ·rw [decR_stays hk m h, decR_stays hk _ h])
    have HV8 : Hid ((decR k m r).2.why = 0 → m8 = (decRs (upTo KB (k + 1)) (zeroR KB) r1).1) := hide (fun e => by
     have h0 : r.why = 0 := by
      by_cases h : r.why = 0
      ·exact h
      ·rw [decR_stays hk m h] at e
       exact absurd e h
     rw [h8.val e, HUP.out, decRs_snoc, ← HMK.out h0, ← HRK.out])
    have HU8 : Hid (k + 1 ≤ 5 → u8 = .slice none 0 0 ∧ m8.mis = []) := hide (fun e => by
     have h1 := h8.mis (by omega)
     have h2 := H5K.out (by omega)
     exact ⟨h1.1.trans h2.1, h1.2.trans h2.2⟩)
    clear h8 HC he HIK z2 hb zp
    gi_wp2_with fail
    exact ⟨HK8.out, m8, p8, u8, _, HI8.out, HR8.out, HV8.out, HU8.out⟩
   | false =>
    have HUP : Hid (upTo KB (k + 1) = upTo KB k) := hide (by rw [upTo_succ, if_neg (by rw [hc]; simp), List.append_nil])
    clear hc hf hI hR hM h5 z2 zp hb
    gi_wp2_with fail
    refine ⟨KeepBut.refl _ _, m, p, u, r, HIK.out, ?_, ?_, fun e => H5K.out (by omega)⟩
    ·rw [HUP.out]; exact HRK.out
    ·rw [HUP.out]; exact HMK.out
  case done =>
   rintro DD W hD ⟨m, p, u, r, hI, hR, hM, _⟩ hK
   rw [upTo_all] at hR hM
   have hDD : w.heap.size + 1 < DD := by have := HPL.out.fq; omega
   have HIK := hide hI
   have HRK := hide hR
   have HMK := hide hM
   have HK := hide hK
   have hKl : DD < W.heap.size := (Array.getElem?_eq_some_iff.1 hK).1
   have zp := hI.bp.cell 0 _ rfl
   clear hI hR hM hK
   go_wp2_with fail
   refine (end_any pr vb b r W HIK.out.cr).mono ?_
   rintro e w8 ⟨rfl, _, hk8⟩
   have HE8 := hide (HIK.out.ended HPL.out hk8)
   have HK8 : Hid (w8.heap[DD]? = some (.deferred (some []))) := hide ((hk8.block DD hKl (by have := HPL.out.fr; omega)).trans HK.out)
   clear hk8 HIK zp HK hKl
   obtain ⟨y, hy⟩ : ∃ y, y = (endS r).why := ⟨_, rfl⟩
   obtain ⟨z, hzz⟩ : ∃ z, z = (((endS r).fat : Nat) : Int) := ⟨_, rfl⟩
   rw [← hy, ← hzz]
   have HY := hide hy
   have HZZ := hide hzz
   clear hy hzz
   have HZ9 := hide (box_new w8 #[.int .i64 0, .int .i64 0] 118)
   have HBA9 := hide (alloc_below10 w8 (.cells #[.int .i64 0, .int .i64 0] 118))
   obtain ⟨b10, hb10⟩ : ∃ b10, b10 = w8.heap.size := ⟨_, rfl⟩
   have HN10 : Hid (w.heap.size + 1 < b10) := hide (by
    have h2 := HE8.out.box.lt
    have h3 := HE8.out.le
    omega)
   by_cases hw : y = 0
   ·have hyb : (y != 0) = false := by rw [hw]; rfl
    have HR0 : Hid (r.why = 0) := hide (by
     have e := HY.out
     rw [hw] at e
     exact (end_zero e.symm).1)
    have HME : Hid (m = (decRs (fieldsR KB) (zeroR KB) r1).1) := hide (HMK.out HR0.out)
    have HOKM : Hid (RecOk m) := hide (by
     have h0 := HR0.out
     rw [HRK.out] at h0
     rw [HME.out]
     exact decRs_ok hK256 HB1.out h0)
    have HDD : Hid (D = if mayR m then (m, 0, 0) else (zeroR 0, 3, 0)) := hide (by
     rw [HE.out]
     unfold decT11
     rw [← HRK.out, if_neg (by rw [← HY.out, hw]; simp), ← HME.out])
    clear hw HMK HRK HME HR0
    go_wp2_with (first | (refine wp_store_box rfl rfl _ _ rfl w8.heap.size rfl (cs' := #[.int .i64 y, .int .i64 z]) rfl HZ9.out rfl infoFlt (flt_one2 _ _) ?_; intro w9 hb9 hk9; have hB9 : Below w8.heap.size w8 w9 := HBA9.out.trans (hk9.below HBA9.out.size (fun k e => by omega)); have HE9 := hide (HE8.out.below hB9); have HK9 : Hid (w9.heap[DD]? = some (.deferred (some []))) := hide ((hB9.block DD (Array.getElem?_eq_some_iff.1 HK8.out).1).trans HK8.out); have t0 := hb9.cell 0 _ rfl; clear hb9 hk9 hB9) | (refine wp_load_box rfl _ rfl q rfl HE9.out.box Tryz.underlying87 rfl infoRec ?_))
    obtain ⟨ao, c, hps, _, _⟩ := HE9.out.src.shape
    obtain ⟨bo, d, hpu⟩ := HE9.out.lie.shape
    rw [misI_len] at hpu
    subst hps
    subst hpu
    refine (pmay11_any HOKM.out (v := .agg (recA m (.slice ao m.wr.length c) (.slice bo m.mis.length d))) (w := w9) ⟨ao, bo, c, d, rfl, HE9.out.src, HE9.out.lie⟩).mono ?_
    rintro e w10 ⟨rfl, hB10⟩
    have HE10 := hide (HE9.out.below hB10)
    have HK10 : Hid (w10.heap[DD]? = some (.deferred (some []))) := hide ((hB10.block DD (Array.getElem?_eq_some_iff.1 HK9.out).1).trans HK9.out)
    clear hB10 HE9 t0 HZ9 HBA9 HE8 HK8 HK9
    cases hmay : mayR m with
    | false =>
     have HDE : Hid (D = (zeroR 0, 3, 0)) := hide (by rw [HDD.out, hmay]; rfl)
     have hbz := build_rec0
     clear hmay
     go_wp2_with (first
      | (refine wp_store_box rfl rfl _ _ rfl w.heap.size rfl (cs' := recA (zeroR 0) (.slice none 0 0) (.slice none 0 0)) rfl HE10.out.rb rfl infoRec (rec_one _ _ _ _ _ _ _) ?_; intro w11 hb11 hk11; have HR11 := hide hb11; have HF11 := hide (HE10.out.fb.keep hk11 (by omega)); have HA11 := hide (HE10.out.bl.trans (hk11.below HE10.out.bl.size (fun k e => by omega))); have HK11 := hide (hk11.block DD (Array.getElem?_eq_some_iff.1 HK10.out).1 (by omega)); clear hb11 hk11)
      | (refine wp_store_box rfl rfl _ _ rfl (w.heap.size + 1) rfl (cs' := #[.int .i64 3, .int .i64 0]) rfl HF11.out rfl infoFlt (flt_one2 _ _) ?_; intro w12 hb12 hk12; have HR12 := hide (HR11.out.keep hk12 (by omega)); have HF12 := hide hb12; have HA12 := hide (HA11.out.trans (hk12.below HA11.out.size (fun k e => by omega))); have HK12 : Hid (w12.heap[DD]? = some (.deferred (some []))) := hide ((hk12.block DD (Array.getElem?_eq_some_iff.1 (HK11.out.trans HK10.out)).1 (by omega)).trans (HK11.out.trans HK10.out)); clear hb12 hk12))
     refine ⟨by simp, .inl ⟨_, _, rfl, run_takeDeferred HK12.out, ?_⟩⟩
     have hcm := Calm.putObj (B := w.heap.size) HK12.out rfl (by omega) (.deferred none)
     refine ⟨_, results_cells2 Tryz.results72 _ _ w.heap.size (w.heap.size + 1) rfl rfl (hcm.box HR12.out) (hcm.box HF12.out) Tryz.underlying87 rfl infoRec Tryz.underlying118 rfl infoFlt, .agg (recA (zeroR 0) (.slice none 0 0) (.slice none 0 0)), by rw [HDE.out]; rfl, ?_, HA12.out.trans (hcm.below (Nat.le_refl _) HA12.out.size)⟩
     rw [HDE.out]
     exact ⟨none, none, 0, 0, rfl, RSrc.nil _, Lies.nil _ _, (fun _ h => by cases h), (fun _ h => by cases h)⟩
    | true =>
     have HDE : Hid (D = (m, 0, 0)) := hide (by rw [HDD.out, hmay]; rfl)
     clear hmay
     go_wp2_with (first
      | (refine wp_load_box rfl _ rfl q rfl HE10.out.box Tryz.underlying87 rfl infoRec ?_)
      | (refine wp_store_box rfl rfl _ _ rfl w.heap.size rfl (cs' := recA m (.slice ao m.wr.length c) (.slice bo m.mis.length d)) rfl HE10.out.rb rfl infoRec (rec_one _ _ _ _ _ _ _) ?_; intro w11 hb11 hk11; have HR11 := hide hb11; have HS11 := hide (HE10.out.src.keep hk11 (fun g hg e => by have := HE10.out.ps g hg; omega)); have HL11 := hide (lies_keepR HE10.out.lie hk11 (fun g hg e => by have := HE10.out.us g hg; omega)); have HF11 := hide (HE10.out.fb.keep hk11 (by omega)); have HA11 := hide (HE10.out.bl.trans (hk11.below HE10.out.bl.size (fun k e => by omega))); have HK11 := hide (hk11.block DD (Array.getElem?_eq_some_iff.1 HK10.out).1 (by omega)); clear hb11 hk11)
      | (refine wp_store_box rfl rfl _ _ rfl (w.heap.size + 1) rfl (cs' := #[.int .i64 0, .int .i64 0]) rfl HF11.out rfl infoFlt (flt_one2 _ _) ?_; intro w12 hb12 hk12; have HR12 := hide (HR11.out.keep hk12 (by omega)); have HS12 := hide (HS11.out.keep hk12 (fun g hg e => by have := HE10.out.ps g hg; omega)); have HL12 := hide (lies_keepR HL11.out hk12 (fun g hg e => by have := HE10.out.us g hg; omega)); have HF12 := hide hb12; have HA12 := hide (HA11.out.trans (hk12.below HA11.out.size (fun k e => by omega))); have HK12 : Hid (w12.heap[DD]? = some (.deferred (some []))) := hide ((hk12.block DD (Array.getElem?_eq_some_iff.1 (HK11.out.trans HK10.out)).1 (by omega)).trans (HK11.out.trans HK10.out)); clear hb12 hk12))
     refine ⟨by simp, .inl ⟨_, _, rfl, run_takeDeferred HK12.out, ?_⟩⟩
     have hcm := Calm.putObj (B := w.heap.size) HK12.out rfl (by omega) (.deferred none)
     refine ⟨_, results_cells2 Tryz.results72 _ _ w.heap.size (w.heap.size + 1) rfl rfl (hcm.box HR12.out) (hcm.box HF12.out) Tryz.underlying87 rfl infoRec Tryz.underlying118 rfl infoFlt, .agg (recA m (.slice ao m.wr.length c) (.slice bo m.mis.length d)), by rw [HDE.out]; rfl, ?_, HA12.out.trans (hcm.below (Nat.le_refl _) HA12.out.size)⟩
     rw [HDE.out]
     exact ⟨ao, bo, c, d, rfl, hcm.src HS12.out, hcm.lies HL12.out, (fun g hg => by have := HE10.out.ps g hg; omega), (fun g hg => by have := HE10.out.us g hg; omega)⟩
   ·have hyb : (y != 0) = true := by simp [hw]
    have HDE : Hid (D = (zeroR 0, (endS r).why, (endS r).fat)) := hide (by
     rw [HE.out]
     unfold decT11
     rw [← HRK.out, if_pos (by rw [← HY.out]; exact hw)])
    clear hw HMK HRK
    go_wp2_with (refine wp_store_box rfl rfl _ _ rfl w8.heap.size rfl (cs' := #[.int .i64 y, .int .i64 z]) rfl HZ9.out rfl infoFlt (flt_one2 _ _) ?_; intro w9 hb9 hk9; have hB9 : Below w8.heap.size w8 w9 := HBA9.out.trans (hk9.below HBA9.out.size (fun k e => by omega)); have HE9 := hide (HE8.out.below hB9); have HK9 : Hid (w9.heap[DD]? = some (.deferred (some []))) := hide ((hB9.block DD (Array.getElem?_eq_some_iff.1 HK8.out).1).trans HK8.out); have HT9 := hide hb9; have t0 := hb9.cell 0 _ rfl; clear hb9 hk9 hB9)
    rw [← hb10] at HT9
    refine wp_region_vals3 (by kernel_rfl) [(some 39, .agg (recA (zeroR 0) (.slice none 0 0) (.slice none 0 0))), (some 40, .agg #[.int .i64 y, .int .i64 z]), (none, undef), (none, undef)] [(39, .agg (recA (zeroR 0) (.slice none 0 0) (.slice none 0 0))), (40, .agg #[.int .i64 y, .int .i64 z])] (SD12 w9 w.heap.size b10 y z) (by kernel_rfl) rfl rfl ⟨(KeepBut.refl _ _).drew, HE9.out.rb.belowI (Below.refl _ _).drew, HT9.out.belowI (Below.refl _ _).drew, fun _ => HE9.out.fb.belowI (Below.refl _ _).drew, fun h => by cases h⟩ ?_ ?_
    ·intro i o hi listed A W hsz hN hS hold hdeps
     have hlt : i < 4 := (Array.getElem?_eq_some_iff.1 hi).1
     have hc : i = 0 ∨ i = 1 ∨ i = 2 ∨ i = 3 := by omega
     clear hlt
     have hnx : ∀ j, j ≠ 3 → SD12 w9 w.heap.size b10 y z (listed.setIfInBounds j true) W := fun j hj => by
      unfold SD12 at *
      rw [listed_ne hj]
      exact hS
     rcases hc with rfl | rfl | rfl | rfl
     ·obtain rfl := Option.some.inj hi
      exact o_pure hi rfl rfl rfl (y_build _ (build_rec0 W)) (hnx 0 (by decide))
     ·obtain rfl := Option.some.inj hi
      have s8 : A.tmps.getD 8 undef = .pointer (some ⟨b10, 0, none⟩) := (hold 8 (by kernel_rfl)).trans (by rw [hb10]; rfl)
      exact o_pure hi rfl rfl rfl (y_load _ _ s8 hS.2.2.1 Tryz.underlying118 rfl infoFlt) (hnx 1 (by decide))
     ·obtain rfl := Option.some.inj hi
      have s2 : A.tmps.getD 2 undef = .pointer (some ⟨w.heap.size, 0, none⟩) := hold 2 (by kernel_rfl)
      have s39 : A.tmps.getD 39 undef = .agg (recA (zeroR 0) (.slice none 0 0) (.slice none 0 0)) := slot_of hdeps 0 rfl (by kernel_rfl)
      have hb := setRow_box (cs' := recA (zeroR 0) (.slice none 0 0) (.slice none 0 0)) hS.2.1
      refine o_store hi rfl rfl (y_storeBox _ _ _ s2 s39 hS.2.1 rfl infoRec (rec_one _ _ _ _ _ _ _)) ?_
      unfold SD12
      rw [listed_ne (by decide)]
      exact ⟨hS.1.trans (hb.2.mono (S' := fun k => k = w.heap.size ∨ k = w.heap.size + 1) (fun k e => .inl e)) (fun _ _ e => e), hb.1, hS.2.2.1.keep hb.2 (by have := HN10.out; omega), fun e => (hS.2.2.2.1 e).keep hb.2 (by omega), fun e => (hS.2.2.2.2 e).keep hb.2 (by omega)⟩
     ·obtain rfl := Option.some.inj hi
      have s3 : A.tmps.getD 3 undef = .pointer (some ⟨w.heap.size + 1, 0, none⟩) := hold 3 (by kernel_rfl)
      have s40 : A.tmps.getD 40 undef = .agg #[.int .i64 y, .int .i64 z] := slot_of hdeps 1 rfl (by kernel_rfl)
      have hbx := hS.2.2.2.1 hN.un
      have hb := setRow_box (cs' := #[.int .i64 y, .int .i64 z]) hbx
      exact o_store hi rfl rfl (y_storeBox _ _ _ s3 s40 hbx rfl infoFlt (flt_one2 _ _)) ⟨hS.1.trans (hb.2.mono (S' := fun k => k = w.heap.size ∨ k = w.heap.size + 1) (fun k e => .inr e)) (fun _ _ e => e), hS.2.1.keep hb.2 (by omega), hS.2.2.1.keep hb.2 (by have := HN10.out; omega), fun h6 => (by rw [listed_at] at h6; cases h6), fun _ => hb.1⟩
    ·intro listed w11 hall hS11
     have HR11 := hide hS11.2.1
     have HF11 := hide (hS11.2.2.2.2 (hall 3 (by decide)))
     have HA11 : Hid (Below w.heap.size w w11) := hide (HE9.out.bl.trans (hS11.1.below HE9.out.bl.size (fun k e => by omega)))
     have HK11 : Hid (w11.heap[DD]? = some (.deferred (some []))) := hide ((hS11.1.block DD (Array.getElem?_eq_some_iff.1 HK9.out).1 (by omega)).trans HK9.out)
     simp only [putAll, Act.put, List.setIfInBounds_toArray, List.set_cons_succ, List.set_cons_zero]
     clear hS11 hall HE9 HT9 t0
     go_wp2_with fail
     refine ⟨by simp, .inl ⟨_, _, rfl, run_takeDeferred HK11.out, ?_⟩⟩
     have hcm := Calm.putObj (B := w.heap.size) HK11.out rfl (by omega) (.deferred none)
     refine ⟨_, results_cells2 Tryz.results72 _ _ w.heap.size (w.heap.size + 1) rfl rfl (hcm.box HR11.out) (hcm.box HF11.out) Tryz.underlying87 rfl infoRec Tryz.underlying118 rfl infoFlt, .agg (recA (zeroR 0) (.slice none 0 0) (.slice none 0 0)), by rw [HDE.out, HY.out, HZZ.out], ?_, HA11.out.trans (hcm.below (Nat.le_refl _) HA11.out.size)⟩
     rw [HDE.out]
     exact ⟨none, none, 0, 0, rfl, RSrc.nil _, Lies.nil _ _, (fun _ h => by cases h), (fun _ h => by cases h)⟩
  case stop =>
   rintro _ _ _ h
   exact h.elim
end
end Go.Proofs.YtlegliimgjmphaaGreat
