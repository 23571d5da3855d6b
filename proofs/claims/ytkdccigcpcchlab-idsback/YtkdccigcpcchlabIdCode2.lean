/-
  The program's GetTx, GetStamp, GetReg. Own work.
-/
import Derived.Test.YtkdccigcpcchlabIdCode
namespace Go.Proofs.Ytkdccigcpcchlab
open Go.RowKit

theorem num_rng (m : Nat) (r : RS) (hx : ∀ c ∈ r.bs, 0 ≤ c ∧ c < 256) : ∃ n : Nat, (numS m r).1 = (n : Int) ∧ n ≤ m := by
  by_cases h0 : r.why ≠ 0
  · rw [num_stays h0]; exact ⟨0, rfl, Nat.zero_le _⟩
  · obtain ⟨n, h1, _⟩ := num_one m r (Classical.not_not.1 h0) hx
    refine ⟨n, h1, ?_⟩
    unfold numS at h1
    rw [if_neg h0] at h1
    split at h1
    · have : (n : Int) = 0 := h1.symm
      omega
    · split at h1
      · have : (n : Int) = 0 := h1.symm
        omega
      · rename_i h2
        have : (longS r.bs).1 = (n : Int) := h1
        omega
/-- The greatest count. -/
abbrev mxC : Nat := 2147483647
theorem getnum_any (p : Nat) (vb : Value) (all : List Int) (r : RS) (w : World) (h : CR w p vb all r) :
    Calls Try.prog 32 #[.pointer (some ⟨p, 0, none⟩)] w fun e w' => e = .returned (.int .u32 (numS mxC r).1) ∧ CR w' p vb all (numS mxC r).2 ∧ KeepBut (fun k => k = p) w w' := by
  have C := hide (crnum_any p vb all r w h mxC)
  obtain ⟨n, h1, h2⟩ := num_rng mxC r h.byte'
  have hcv : IntKind.u32.wrap (numS mxC r).1 = (numS mxC r).1 := by rw [h1, IntKind.wrap_u32]; simp only [mxC] at h2; omega
  generalize (numS mxC r).1 = x at *
  generalize (numS mxC r).2 = r2 at *
  clear h h1 h2
  go_enter Try.func32, Try.ntmps32
  go_wp2_with (go_at_call 45; refine C.out.mono ?_; rintro e w1 ⟨rfl, h1, hk⟩; have H1 := hide h1; have HK := hide hk; clear h1 hk)
  go_ret
  exact ⟨rfl, H1.out, HK.out⟩
def txR (r : RS) : RS := (numS mxC (numS mxC (byteS r).2).2).2
def txVal (r : RS) : TxP := if (txR r).why ≠ 0 then (0, 0, 0) else ((byteS r).1, (numS mxC (byteS r).2).1, (numS mxC (numS mxC (byteS r).2).2).1)
def regR (r : RS) : RS := (numS mxC (numS mxC r).2).2
def regVal (r : RS) : Int × Int := if (regR r).why ≠ 0 then (0, 0) else ((numS mxC r).1, (numS mxC (numS mxC r).2).1)
def stR (r : RS) : RS := txR (numS mxC r).2
def stVal (r : RS) : StP := if (stR r).why ≠ 0 then (0, 0, 0, 0) else ((numS mxC r).1, txVal (numS mxC r).2)
theorem KeepBut.one {p : Nat} {w w1 w2 : World} (h : KeepBut (fun k => k = p) w w1) (h' : KeepBut (fun k => k = p) w1 w2) : KeepBut (fun k => k = p) w w2 := h.trans h' (fun _ _ h => h)
theorem KeepBut.oneB {p : Nat} {w w1 w2 : World} (h : KeepBut (fun k => k = p) w w1) (h' : Below w1.heap.size w1 w2) : KeepBut (fun k => k = p) w w2 := h.trans (KeepBut.of_below (fun k => k = p) h') (fun _ _ h => h)
set_option maxRecDepth 100000 in
set_option maxHeartbeats 1600000 in
theorem gettx_any (p : Nat) (vb : Value) (all : List Int) (r : RS) (w : World) (h : CR w p vb all r) :
    Calls Try.prog 33 #[.pointer (some ⟨p, 0, none⟩)] w fun e w' => e = .returned (.agg #[.int .u8 (txVal r).1, .int .u32 (txVal r).2.1, .int .u32 (txVal r).2.2]) ∧ CR w' p vb all (txR r) ∧ KeepBut (fun k => k = p) w w' := by
  have hB0 := (Below.refl w.heap.size w).alloc (Nat.le_refl _) (.cells #[.int .u8 0, .int .u32 0, .int .u32 0] 24)
  have HR0 := hide (box_new w #[.int .u8 0, .int .u32 0, .int .u32 0] 24)
  have hp := h.box.lt
  have HK0 : Hid (KeepBut (fun k => k = p) w (w.alloc (.cells #[.int .u8 0, .int .u32 0, .int .u32 0] 24))) := hide (KeepBut.of_below _ hB0)
  have HC0 := hide (h.below hB0)
  have HI := hide infoUtx
  have HV : Hid (txVal r = if (txR r).why ≠ 0 then (0, 0, 0) else ((byteS r).1, (numS mxC (byteS r).2).1, (numS mxC (numS mxC (byteS r).2).2).1)) := hide rfl
  have HRR : Hid (txR r = (numS mxC (numS mxC (byteS r).2).2).2) := hide rfl
  have HVB : Hid (∀ g, vb.ownBlock = some g → g ≠ w.heap.size) := hide (fun g hg e => Nat.lt_irrefl _ (e ▸ owns_lt h.own hg))
  clear h hB0
  go_enter Try.func33, Try.ntmps33
  go_wp2_with fail
  refine (crbyte_any p vb all _ _ HC0.out).mono ?_
  rintro e w1 ⟨rfl, hc, hk⟩
  have HC1 := hide hc
  have HK1 := hide (HK0.out.one hk)
  have HR1 := hide (HR0.out.keep hk (by omega))
  clear hc hk HC0 HK0 HR0
  go_wp2_with fail
  refine (getnum_any p vb all _ _ HC1.out).mono ?_
  rintro e w2 ⟨rfl, hc, hk⟩
  have HC2 := hide hc
  have HK2 := hide (HK1.out.one hk)
  have HR2 := hide (HR1.out.keep hk (by omega))
  clear hc hk HC1 HK1 HR1
  go_wp2_with fail
  refine (getnum_any p vb all _ _ HC2.out).mono ?_
  rintro e w3 ⟨rfl, hc, hk⟩
  have HC3 := hide hc
  have HK3 := hide (HK2.out.one hk)
  have HR3 := hide (HR2.out.keep hk (by omega))
  clear hc hk HC2 HK2 HR2
  rw [← HRR.out] at HC3
  obtain ⟨x0, hx0⟩ : ∃ x, x = (byteS r).1 := ⟨_, rfl⟩
  rw [← hx0]
  have HX0 := hide hx0
  clear hx0
  obtain ⟨x1, hx1⟩ : ∃ x, x = (numS mxC ((byteS r).2)).1 := ⟨_, rfl⟩
  rw [← hx1]
  have HX1 := hide hx1
  clear hx1
  obtain ⟨x2, hx2⟩ : ∃ x, x = (numS mxC ((numS mxC ((byteS r).2)).2)).1 := ⟨_, rfl⟩
  rw [← hx2]
  have HX2 := hide hx2
  clear hx2
  have hbT := (Below.refl w3.heap.size w3).alloc (Nat.le_refl _) (.cells #[.int .u8 x0, .int .u32 x1, .int .u32 x2] 24)
  have HCT := hide (HC3.out.below hbT)
  have HKT := hide (HK3.out.oneB hbT)
  have HRT := hide (HR3.out.belowI hbT)
  have CU := hide (unless_tx p vb all _ x0 x1 x2 _ HCT.out)
  clear hbT
  go_wp2_with fail
  refine CU.out.mono ?_
  rintro e w8 ⟨rfl, hB8⟩
  have HC8 := hide (HCT.out.below hB8)
  have HK8 := hide (HKT.out.oneB hB8)
  have HR8 := hide (HRT.out.belowI hB8)
  clear hB8 CU HCT HKT HRT
  by_cases hw : (txR r).why ≠ 0
  · rw [if_pos hw]
    have HF : Hid (txVal r = (0, 0, 0)) := hide (by rw [HV.out, if_pos hw])
    go_wp2_with (refine wp_store_box (cs' := #[.int .u8 0, .int .u32 0, .int .u32 0]) rfl rfl _ _ rfl _ rfl rfl HR8.out rfl HI.out (by simp [Value.oneCell']) ?_; intro w9 hb9 hk9; have HB9 := hide hb9; have HK9 := hide hk9; clear hb9 hk9)
    refine bodyPost_ret (v := .agg #[.int .u8 0, .int .u32 0, .int .u32 0]) (results_box Try.results33 _ _ w.heap.size rfl HB9.out Try.underlying24 rfl HI.out) rfl ⟨by rw [HF.out], ?_, ?_⟩
    · exact HC8.out.keep HK9.out (by omega) (fun g hg e => HVB.out g hg e)
    · refine ⟨HK9.out.os.trans HK8.out.os, HK9.out.tape.trans HK8.out.tape, HK9.out.output.trans HK8.out.output, Nat.le_trans HK8.out.size HK9.out.size, fun k hk hS => ?_⟩
      exact (HK9.out.block k (Nat.lt_of_lt_of_le hk HK8.out.size) (by omega)).trans (HK8.out.block k hk hS)
  · rw [if_neg hw]
    have HF : Hid (txVal r = (x0, x1, x2)) := hide (by rw [HV.out, if_neg hw, HX0.out, HX1.out, HX2.out])
    go_wp2_with (refine wp_store_box (cs' := #[.int .u8 x0, .int .u32 x1, .int .u32 x2]) rfl rfl _ _ rfl _ rfl rfl HR8.out rfl HI.out (by simp [Value.oneCell']) ?_; intro w9 hb9 hk9; have HB9 := hide hb9; have HK9 := hide hk9; clear hb9 hk9)
    refine bodyPost_ret (v := .agg #[.int .u8 x0, .int .u32 x1, .int .u32 x2]) (results_box Try.results33 _ _ w.heap.size rfl HB9.out Try.underlying24 rfl HI.out) rfl ⟨by rw [HF.out], ?_, ?_⟩
    · exact HC8.out.keep HK9.out (by omega) (fun g hg e => HVB.out g hg e)
    · refine ⟨HK9.out.os.trans HK8.out.os, HK9.out.tape.trans HK8.out.tape, HK9.out.output.trans HK8.out.output, Nat.le_trans HK8.out.size HK9.out.size, fun k hk hS => ?_⟩
      exact (HK9.out.block k (Nat.lt_of_lt_of_le hk HK8.out.size) (by omega)).trans (HK8.out.block k hk hS)
set_option maxRecDepth 100000 in
set_option maxHeartbeats 1600000 in
theorem getreg_any (p : Nat) (vb : Value) (all : List Int) (r : RS) (w : World) (h : CR w p vb all r) :
    Calls Try.prog 16 #[.pointer (some ⟨p, 0, none⟩)] w fun e w' => e = .returned (.agg #[.int .u32 (regVal r).1, .int .u32 (regVal r).2]) ∧ CR w' p vb all (regR r) ∧ KeepBut (fun k => k = p) w w' := by
  have hB0 := (Below.refl w.heap.size w).alloc (Nat.le_refl _) (.cells #[.int .u32 0, .int .u32 0] 37)
  have HR0 := hide (box_new w #[.int .u32 0, .int .u32 0] 37)
  have hp := h.box.lt
  have HK0 : Hid (KeepBut (fun k => k = p) w (w.alloc (.cells #[.int .u32 0, .int .u32 0] 37))) := hide (KeepBut.of_below _ hB0)
  have HC0 := hide (h.below hB0)
  have HI := hide infoUreg
  have HV : Hid (regVal r = if (regR r).why ≠ 0 then (0, 0) else ((numS mxC r).1, (numS mxC (numS mxC r).2).1)) := hide rfl
  have HRR : Hid (regR r = (numS mxC (numS mxC r).2).2) := hide rfl
  have HVB : Hid (∀ g, vb.ownBlock = some g → g ≠ w.heap.size) := hide (fun g hg e => Nat.lt_irrefl _ (e ▸ owns_lt h.own hg))
  clear h hB0
  go_enter Try.func16, Try.ntmps16
  go_wp2_with fail
  refine (getnum_any p vb all _ _ HC0.out).mono ?_
  rintro e w1 ⟨rfl, hc, hk⟩
  have HC1 := hide hc
  have HK1 := hide (HK0.out.one hk)
  have HR1 := hide (HR0.out.keep hk (by omega))
  clear hc hk HC0 HK0 HR0
  go_wp2_with fail
  refine (getnum_any p vb all _ _ HC1.out).mono ?_
  rintro e w2 ⟨rfl, hc, hk⟩
  have HC2 := hide hc
  have HK2 := hide (HK1.out.one hk)
  have HR2 := hide (HR1.out.keep hk (by omega))
  clear hc hk HC1 HK1 HR1
  rw [← HRR.out] at HC2
  obtain ⟨x0, hx0⟩ : ∃ x, x = (numS mxC r).1 := ⟨_, rfl⟩
  rw [← hx0]
  have HX0 := hide hx0
  clear hx0
  obtain ⟨x1, hx1⟩ : ∃ x, x = (numS mxC ((numS mxC r).2)).1 := ⟨_, rfl⟩
  rw [← hx1]
  have HX1 := hide hx1
  clear hx1
  have hbT := (Below.refl w2.heap.size w2).alloc (Nat.le_refl _) (.cells #[.int .u32 x0, .int .u32 x1] 37)
  have HCT := hide (HC2.out.below hbT)
  have HKT := hide (HK2.out.oneB hbT)
  have HRT := hide (HR2.out.belowI hbT)
  have CU := hide (unless_reg p vb all _ x0 x1 _ HCT.out)
  clear hbT
  go_wp2_with fail
  refine CU.out.mono ?_
  rintro e w8 ⟨rfl, hB8⟩
  have HC8 := hide (HCT.out.below hB8)
  have HK8 := hide (HKT.out.oneB hB8)
  have HR8 := hide (HRT.out.belowI hB8)
  clear hB8 CU HCT HKT HRT
  by_cases hw : (regR r).why ≠ 0
  · rw [if_pos hw]
    have HF : Hid (regVal r = (0, 0)) := hide (by rw [HV.out, if_pos hw])
    go_wp2_with (refine wp_store_box (cs' := #[.int .u32 0, .int .u32 0]) rfl rfl _ _ rfl _ rfl rfl HR8.out rfl HI.out (by simp [Value.oneCell']) ?_; intro w9 hb9 hk9; have HB9 := hide hb9; have HK9 := hide hk9; clear hb9 hk9)
    refine bodyPost_ret (v := .agg #[.int .u32 0, .int .u32 0]) (results_box Try.results16 _ _ w.heap.size rfl HB9.out Try.underlying37 rfl HI.out) rfl ⟨by rw [HF.out], ?_, ?_⟩
    · exact HC8.out.keep HK9.out (by omega) (fun g hg e => HVB.out g hg e)
    · refine ⟨HK9.out.os.trans HK8.out.os, HK9.out.tape.trans HK8.out.tape, HK9.out.output.trans HK8.out.output, Nat.le_trans HK8.out.size HK9.out.size, fun k hk hS => ?_⟩
      exact (HK9.out.block k (Nat.lt_of_lt_of_le hk HK8.out.size) (by omega)).trans (HK8.out.block k hk hS)
  · rw [if_neg hw]
    have HF : Hid (regVal r = (x0, x1)) := hide (by rw [HV.out, if_neg hw, HX0.out, HX1.out])
    go_wp2_with (refine wp_store_box (cs' := #[.int .u32 x0, .int .u32 x1]) rfl rfl _ _ rfl _ rfl rfl HR8.out rfl HI.out (by simp [Value.oneCell']) ?_; intro w9 hb9 hk9; have HB9 := hide hb9; have HK9 := hide hk9; clear hb9 hk9)
    refine bodyPost_ret (v := .agg #[.int .u32 x0, .int .u32 x1]) (results_box Try.results16 _ _ w.heap.size rfl HB9.out Try.underlying37 rfl HI.out) rfl ⟨by rw [HF.out], ?_, ?_⟩
    · exact HC8.out.keep HK9.out (by omega) (fun g hg e => HVB.out g hg e)
    · refine ⟨HK9.out.os.trans HK8.out.os, HK9.out.tape.trans HK8.out.tape, HK9.out.output.trans HK8.out.output, Nat.le_trans HK8.out.size HK9.out.size, fun k hk hS => ?_⟩
      exact (HK9.out.block k (Nat.lt_of_lt_of_le hk HK8.out.size) (by omega)).trans (HK8.out.block k hk hS)
set_option maxRecDepth 100000 in
set_option maxHeartbeats 1600000 in
theorem getst_any (p : Nat) (vb : Value) (all : List Int) (r : RS) (w : World) (h : CR w p vb all r) :
    Calls Try.prog 15 #[.pointer (some ⟨p, 0, none⟩)] w fun e w' => e = .returned (.agg #[.int .u32 (stVal r).1, .int .u8 (stVal r).2.1, .int .u32 (stVal r).2.2.1, .int .u32 (stVal r).2.2.2]) ∧ CR w' p vb all (stR r) ∧ KeepBut (fun k => k = p) w w' := by
  have hB0 := (Below.refl w.heap.size w).alloc (Nat.le_refl _) (.cells #[.int .u32 0, .int .u8 0, .int .u32 0, .int .u32 0] 26)
  have HR0 := hide (box_new w #[.int .u32 0, .int .u8 0, .int .u32 0, .int .u32 0] 26)
  have hp := h.box.lt
  have HK0 : Hid (KeepBut (fun k => k = p) w (w.alloc (.cells #[.int .u32 0, .int .u8 0, .int .u32 0, .int .u32 0] 26))) := hide (KeepBut.of_below _ hB0)
  have HC0 := hide (h.below hB0)
  have HI := hide infoUstamp
  have HV : Hid (stVal r = if (stR r).why ≠ 0 then (0, 0, 0, 0) else ((numS mxC r).1, txVal (numS mxC r).2)) := hide rfl
  have HRR : Hid (stR r = txR (numS mxC r).2) := hide rfl
  have HVB : Hid (∀ g, vb.ownBlock = some g → g ≠ w.heap.size) := hide (fun g hg e => Nat.lt_irrefl _ (e ▸ owns_lt h.own hg))
  clear h hB0
  go_enter Try.func15, Try.ntmps15
  go_wp2_with fail
  refine (getnum_any p vb all _ _ HC0.out).mono ?_
  rintro e w1 ⟨rfl, hc, hk⟩
  have HC1 := hide hc
  have HK1 := hide (HK0.out.one hk)
  have HR1 := hide (HR0.out.keep hk (by omega))
  clear hc hk HC0 HK0 HR0
  go_wp2_with fail
  refine (gettx_any p vb all _ _ HC1.out).mono ?_
  rintro e w2 ⟨rfl, hc, hk⟩
  have HC2 := hide hc
  have HK2 := hide (HK1.out.one hk)
  have HR2 := hide (HR1.out.keep hk (by omega))
  clear hc hk HC1 HK1 HR1
  rw [← HRR.out] at HC2
  obtain ⟨x0, hx0⟩ : ∃ x, x = (numS mxC r).1 := ⟨_, rfl⟩
  rw [← hx0]
  have HX0 := hide hx0
  clear hx0
  obtain ⟨x1, hx1⟩ : ∃ x, x = (txVal ((numS mxC r).2)).1 := ⟨_, rfl⟩
  rw [← hx1]
  have HX1 := hide hx1
  clear hx1
  obtain ⟨x2, hx2⟩ : ∃ x, x = (txVal ((numS mxC r).2)).2.1 := ⟨_, rfl⟩
  rw [← hx2]
  have HX2 := hide hx2
  clear hx2
  obtain ⟨x3, hx3⟩ : ∃ x, x = (txVal ((numS mxC r).2)).2.2 := ⟨_, rfl⟩
  rw [← hx3]
  have HX3 := hide hx3
  clear hx3
  have hbT := (Below.refl w2.heap.size w2).alloc (Nat.le_refl _) (.cells #[.int .u32 x0, .int .u8 x1, .int .u32 x2, .int .u32 x3] 26)
  have HCT := hide (HC2.out.below hbT)
  have HKT := hide (HK2.out.oneB hbT)
  have HRT := hide (HR2.out.belowI hbT)
  have CU := hide (unless_stamp p vb all _ x0 x1 x2 x3 _ HCT.out)
  clear hbT
  go_wp2_with fail
  refine CU.out.mono ?_
  rintro e w8 ⟨rfl, hB8⟩
  have HC8 := hide (HCT.out.below hB8)
  have HK8 := hide (HKT.out.oneB hB8)
  have HR8 := hide (HRT.out.belowI hB8)
  clear hB8 CU HCT HKT HRT
  by_cases hw : (stR r).why ≠ 0
  · rw [if_pos hw]
    have HF : Hid (stVal r = (0, 0, 0, 0)) := hide (by rw [HV.out, if_pos hw])
    go_wp2_with (refine wp_store_box (cs' := #[.int .u32 0, .int .u8 0, .int .u32 0, .int .u32 0]) rfl rfl _ _ rfl _ rfl rfl HR8.out rfl HI.out (by simp [Value.oneCell']) ?_; intro w9 hb9 hk9; have HB9 := hide hb9; have HK9 := hide hk9; clear hb9 hk9)
    refine bodyPost_ret (v := .agg #[.int .u32 0, .int .u8 0, .int .u32 0, .int .u32 0]) (results_box Try.results15 _ _ w.heap.size rfl HB9.out Try.underlying26 rfl HI.out) rfl ⟨by rw [HF.out], ?_, ?_⟩
    · exact HC8.out.keep HK9.out (by omega) (fun g hg e => HVB.out g hg e)
    · refine ⟨HK9.out.os.trans HK8.out.os, HK9.out.tape.trans HK8.out.tape, HK9.out.output.trans HK8.out.output, Nat.le_trans HK8.out.size HK9.out.size, fun k hk hS => ?_⟩
      exact (HK9.out.block k (Nat.lt_of_lt_of_le hk HK8.out.size) (by omega)).trans (HK8.out.block k hk hS)
  · rw [if_neg hw]
    have HF : Hid (stVal r = (x0, x1, x2, x3)) := hide (by rw [HV.out, if_neg hw, HX0.out, HX1.out, HX2.out, HX3.out])
    go_wp2_with (refine wp_store_box (cs' := #[.int .u32 x0, .int .u8 x1, .int .u32 x2, .int .u32 x3]) rfl rfl _ _ rfl _ rfl rfl HR8.out rfl HI.out (by simp [Value.oneCell']) ?_; intro w9 hb9 hk9; have HB9 := hide hb9; have HK9 := hide hk9; clear hb9 hk9)
    refine bodyPost_ret (v := .agg #[.int .u32 x0, .int .u8 x1, .int .u32 x2, .int .u32 x3]) (results_box Try.results15 _ _ w.heap.size rfl HB9.out Try.underlying26 rfl HI.out) rfl ⟨by rw [HF.out], ?_, ?_⟩
    · exact HC8.out.keep HK9.out (by omega) (fun g hg e => HVB.out g hg e)
    · refine ⟨HK9.out.os.trans HK8.out.os, HK9.out.tape.trans HK8.out.tape, HK9.out.output.trans HK8.out.output, Nat.le_trans HK8.out.size HK9.out.size, fun k hk hS => ?_⟩
      exact (HK9.out.block k (Nat.lt_of_lt_of_le hk HK8.out.size) (by omega)).trans (HK8.out.block k hk hS)
end Go.Proofs.Ytkdccigcpcchlab
