/-
  Own texts put together: MpGet, MpGw, MpMore, IdCmp, IdCmp3, MpEq. Own work.
-/
import Derived.Test.YtencmgepffdodaaGreatG25
import Derived.Test.YtencmgepffdodaaGreatG26
import Derived.Test.YtencmgepffdodaaGreatG13
import Derived.Test.YtencmgepffdodaaGreatG09
import Derived.Test.YtencmgepffdodaaGreatG11
import Derived.Test.YtencmgepffdodaaGreatG23
import Derived.Lib.BytesEntry
import Derived.Deep.RegionHeldLaw
import Derived.Deep.QuietTactic
import Derived.BigQuiet
import Derived.Sort.Grow
import Derived.Shelf.Abstract
namespace Go.Proofs.YtencmgepffdodaaGreat
section
open Go.RowKit Classical

/-! What is read of bytes stays of bytes. -/
theorem go_bytes {r : RS} {k : Nat} (h : ∀ c ∈ r.bs, 0 ≤ c ∧ c < 256) : ∀ c ∈ (r.go k).bs, 0 ≤ c ∧ c < 256 := fun c hc => h c (List.mem_of_mem_drop hc)
theorem num_bytes (m : Nat) {r : RS} (h : ∀ c ∈ r.bs, 0 ≤ c ∧ c < 256) : ∀ c ∈ (numS m r).2.bs, 0 ≤ c ∧ c < 256 := by
  unfold numS
  split
  · exact h
  · split
    · exact h
    · split
      · exact h
      · exact go_bytes h
theorem byteS_rng {r : RS} (h : ∀ c ∈ r.bs, 0 ≤ c ∧ c < 256) : (0 ≤ (byteS r).1 ∧ (byteS r).1 < 256) ∧ ∀ c ∈ (byteS r).2.bs, 0 ≤ c ∧ c < 256 := by
  unfold byteS
  split
  · exact ⟨⟨Int.le_refl 0, by show (0 : Int) < 256; decide⟩, h⟩
  · split
    · exact ⟨⟨Int.le_refl 0, by show (0 : Int) < 256; decide⟩, h⟩
    · rename_i hne
      refine ⟨?_, go_bytes h⟩
      cases hb : r.bs with
      | nil => exact absurd hb hne
      | cons c l => exact h c (by rw [hb]; exact List.mem_cons_self)
theorem byteN_int {r : RS} (h : ∀ c ∈ r.bs, 0 ≤ c ∧ c < 256) : ((byteN.dec r).1 : Int) = (byteS r).1 ∧ (byteN.dec r).1 < 256 := by
  have := (byteS_rng h).1
  constructor
  · show (((byteS r).1.toNat : Nat) : Int) = _
    omega
  · show (byteS r).1.toNat < 256
    omega
def rsK (r : RS) : Nat → RS
  | 0 => r
  | k + 1 => (byteS (rsK r k)).2
theorem rsK_bytes {r : RS} (h : ∀ c ∈ r.bs, 0 ≤ c ∧ c < 256) : ∀ k, ∀ c ∈ (rsK r k).bs, 0 ≤ c ∧ c < 256
  | 0 => h
  | k + 1 => (byteS_rng (rsK_bytes h k)).2
theorem rep8 (r : RS) : repDec byteN 8 r = ([(byteS (rsK r 0)).1.toNat, (byteS (rsK r 1)).1.toNat, (byteS (rsK r 2)).1.toNat, (byteS (rsK r 3)).1.toNat, (byteS (rsK r 4)).1.toNat, (byteS (rsK r 5)).1.toNat, (byteS (rsK r 6)).1.toNat, (byteS (rsK r 7)).1.toNat], rsK r 8) := by simp only [repDec, rsK, byteN]
def cfGot (r : RS) : Cf := if (cfC.dec r).2.why ≠ 0 then zeroCf else (cfC.dec r).1
set_option maxRecDepth 100000 in
theorem cgetCf_any (p : Nat) (vb : Value) (all : List Int) (r : RS) (w : World) (h : CR w p vb all r) :
    Calls Tryz.prog 157 #[.pointer (some ⟨p, 0, none⟩)] w fun e w' => e = .returned (.agg (cfE (cfGot r)).toArray) ∧ CR w' p vb all (cfC.dec r).2 ∧ (cfGot r).Ok ∧ KeepBut (fun k => k = p) w w' := by
  obtain ⟨x0, e0, b0⟩ := num_rng mxN r h.byte'
  have hb1 : ∀ c ∈ (numS mxN r).2.bs, 0 ≤ c ∧ c < 256 := num_bytes mxN h.byte'
  obtain ⟨x1, e1, b1⟩ := num_rng 255 (numS mxN r).2 hb1
  have hb2 : ∀ c ∈ (numS 255 (numS mxN r).2).2.bs, 0 ≤ c ∧ c < 256 := num_bytes 255 hb1
  obtain ⟨x2, e2, b2⟩ := num_rng 255 (numS 255 (numS mxN r).2).2 hb2
  have hb3 : ∀ c ∈ (numS 255 (numS 255 (numS mxN r).2).2).2.bs, 0 ≤ c ∧ c < 256 := num_bytes 255 hb2
  obtain ⟨r3, hr3⟩ : ∃ r3, r3 = (numS 255 (numS 255 (numS mxN r).2).2).2 := ⟨_, rfl⟩
  rw [← hr3] at hb3
  have hvb : ∀ k, (byteS (rsK r3 k)).1.toNat < 256 := fun k => (byteN_int (rsK_bytes hb3 k)).2
  have hvi : ∀ k, (((byteS (rsK r3 k)).1.toNat : Nat) : Int) = (byteS (rsK r3 k)).1 := fun k => (byteN_int (rsK_bytes hb3 k)).1
  have hd : cfC.dec r = (⟨x0, x1, x2, (repDec byteN 8 r3).1⟩, rsK r3 8) := by
    show ((⟨(numS mxN r).1.toNat, (numS 255 (numS mxN r).2).1.toNat, (numS 255 (numS 255 (numS mxN r).2).2).1.toNat, (repDec byteN 8 (numS 255 (numS 255 (numS mxN r).2).2).2).1⟩ : Cf), (repDec byteN 8 (numS 255 (numS 255 (numS mxN r).2).2).2).2) = _
    rw [← hr3, e0, e1, e2, rep8]
    rfl
  have hbm : ∀ x ∈ (repDec byteN 8 r3).1, x < 256 := fun x hx => by
    rw [rep8] at hx
    simp at hx
    rcases hx with rfl | rfl | rfl | rfl | rfl | rfl | rfl | rfl <;> exact hvb _
  have C := get_gen p vb all r (numS mxN r).2 (numS 255 (numS mxN r).2).2 r3 x0 x1 x2 (repDec byteN 8 r3).1 (rsK r3) w h (Prod.ext e0 rfl) (Prod.ext e1 rfl) (Prod.ext e2 hr3.symm) rfl (fun k hk => by
      rw [rep8]
      have hc : k = 0 ∨ k = 1 ∨ k = 2 ∨ k = 3 ∨ k = 4 ∨ k = 5 ∨ k = 6 ∨ k = 7 := by omega
      rcases hc with rfl | rfl | rfl | rfl | rfl | rfl | rfl | rfl <;> exact Prod.ext (hvi _).symm rfl) (by have : x0 ≤ 2147483647 := b0; omega) (by omega) (by omega) (rep_len byteN 8 r3) hbm
  have hok : (⟨x0, x1, x2, (repDec byteN 8 r3).1⟩ : Cf).Ok := ⟨by have : x0 ≤ 2147483647 := b0; show x0 < 4294967296; omega, by show x1 < 256; omega, by show x2 < 256; omega, rep_len byteN 8 r3, hbm⟩
  have hg : cfGot r = if (rsK r3 8).why ≠ 0 then zeroCv else (⟨x0, x1, x2, (repDec byteN 8 r3).1⟩ : Cf) := by
    unfold cfGot
    rw [hd]
    rfl
  have hgo : (cfGot r).Ok := by
    rw [hg]
    split
    · exact zeroC_ok
    · exact hok
  refine C.mono ?_
  rintro e w' ⟨rfl, h1, h2⟩
  refine ⟨by rw [← cf_arr hgo, hg], by rw [hd]; exact h1, hgo, h2⟩
def itGot (r : RS) : ItP := if (itC.dec r).2.why ≠ 0 then zeroIt else (itC.dec r).1
theorem it_oneA (i : ItP) : (itA i).all (·.oneCell') = true := by
  simp [Value.oneCell']
theorem itC_eq (r : RS) : itC.dec r = (⟨((numC mxN).dec r).1, (textS 64 ((numC mxN).dec r).2).1, (cfC.dec (textS 64 ((numC mxN).dec r).2).2).1⟩, (cfC.dec (textS 64 ((numC mxN).dec r).2).2).2) := by
  simp only [itC, isoC, pairC, textC, show ((64 : Nat) : Int) = 64 from rfl]
set_option maxRecDepth 100000 in
set_option maxHeartbeats 3200000 in
theorem getItem_any (p : Nat) (vb : Value) (all : List Int) (r : RS) (w : World) (h : CR w p vb all r) :
    Calls Tryz.prog 84 #[.pointer (some ⟨p, 0, none⟩)] w fun e w' => e = .returned (.agg (itA (itGot r))) ∧ CR w' p vb all (itC.dec r).2 ∧ KeepBut (fun k => k = p) w w' := by
  have hB0 := alloc_below10 w (.cells (itA zeroIt) 35)
  have HR0 := hide (box_new w (itA zeroIt) 35)
  have hp := h.box.lt
  have HK0 : Hid (KeepBut (fun k => k = p) w (w.alloc (.cells (itA zeroIt) 35))) := hide (KeepBut.of_below _ hB0)
  have HC0 := hide (h.below hB0)
  have HVB : Hid (∀ g, vb.ownBlock = some g → g < w.heap.size) := hide (fun g hg => owns_lt h.own hg)
  have HV : Hid (itGot r = if (itC.dec r).2.why ≠ 0 then zeroIt else (itC.dec r).1) := hide rfl
  have HD := hide (itC_eq r)
  obtain ⟨x0, hx0⟩ : ∃ x, x = ((numC mxN).dec r).1 := ⟨_, rfl⟩
  obtain ⟨r1, hr1⟩ : ∃ x, x = ((numC mxN).dec r).2 := ⟨_, rfl⟩
  obtain ⟨x1, hx1⟩ : ∃ x, x = (textS 64 r1).1 := ⟨_, rfl⟩
  obtain ⟨r2, hr2⟩ : ∃ x, x = (textS 64 r1).2 := ⟨_, rfl⟩
  obtain ⟨x2, hx2⟩ : ∃ x, x = cfGot r2 := ⟨_, rfl⟩
  obtain ⟨r3, hr3⟩ : ∃ x, x = (cfC.dec r2).2 := ⟨_, rfl⟩
  have HX2 := hide hx2
  have HR3 := hide hr3
  have HE : Hid (itC.dec r = (⟨x0, x1, (cfC.dec r2).1⟩, r3)) := hide (by rw [HD.out, hx0, hx1, hr3, hr2, hr1])
  have C0 := hide (getCount_any p vb all r _ HC0.out)
  rw [← hx0, ← hr1] at C0
  have C1 := hide (fun W (hW : CR W p vb all r1) => crtext_any p vb all r1 W hW 64 (by decide) (by decide))
  rw [← hx1, ← hr2] at C1
  have C2 := hide (fun W (hW : CR W p vb all r2) => cgetCf_any p vb all r2 W hW)
  rw [← hx2, ← hr3] at C2
  rw [HE.out] at HV ⊢
  clear h hB0 hx0 hr1 hx1 hr2 hx2 hr3 HD HC0
  go_enter Tryz.func84, Tryz.ntmps84
  go_wp2_with fail
  refine C0.out.mono ?_
  rintro e w1 ⟨rfl, hc, hk⟩
  have HC1 := hide hc
  have HK1 := hide (HK0.out.one hk)
  have HR1 := hide (HR0.out.keep hk (by omega))
  clear hc hk HK0 HR0 C0
  go_wp2_with fail
  refine (C1.out w1 HC1.out).mono ?_
  rintro e w2 ⟨rfl, hc, hk⟩
  have HC2 := hide hc
  have HK2 := hide (HK1.out.one hk)
  have HR2 := hide (HR1.out.keep hk (by omega))
  clear hc hk HK1 HR1 HC1 C1
  go_wp2_with fail
  refine (C2.out w2 HC2.out).mono ?_
  rintro e w3 ⟨rfl, hc, hcok, hk⟩
  have HC3 := hide hc
  have HK3 := hide (HK2.out.one hk)
  have HR3b := hide (HR2.out.keep hk (by omega))
  clear hc hk HK2 HR2 HC2 C2 hcok
  -- the item's own variable
  have HZ := hide (box_new w3 (itA zeroIt) 35)
  have HBA := hide (alloc_below10 w3 (.cells (itA zeroIt) 35))
  go_wp2_with (first
    | (refine wp_store_box rfl rfl _ _ rfl w3.heap.size rfl (cs' := itA ⟨x0, x1, x2⟩) rfl HZ.out rfl infoItem (it_oneA _) ?_; intro w4 hb4 hk4; have HX4 := hide hb4; have HB4 : Hid (Below w3.heap.size w3 w4) := hide (HBA.out.trans (hk4.below HBA.out.size (fun k e => by omega))); clear hb4 hk4))
  have HC4 := hide (HC3.out.below HB4.out)
  have HK4 := hide (HK3.out.oneB HB4.out)
  have HR4 := hide (HR3b.out.belowI HB4.out)
  have h34 := HB4.out.size
  have hr34 := HR3b.out.lt
  clear HZ HBA HC3 HK3 HR3b HB4
  refine (fault_any p vb all r3 w4 HC4.out).mono ?_
  rintro e w5 ⟨rfl, hB5⟩
  have HC5 := hide (HC4.out.below hB5)
  have HK5 := hide (HK4.out.oneB hB5)
  have HR5 := hide (HR4.out.belowI hB5)
  have HX5 := hide (HX4.out.belowI hB5)
  clear hB5 HC4 HK4 HR4 HX4
  by_cases hw : r3.why = 0
  · have HF : Hid (itGot r = ⟨x0, x1, x2⟩) := hide (by
      rw [HV.out, if_neg (by rw [hw]; simp), HX2.out]
      unfold cfGot
      rw [← HR3.out, if_neg (by rw [hw]; simp)])
    have hwb : (r3.why != 0) = false := by rw [hw]; rfl
    have hfl := fld_why
    clear hw
    go_wp2_with (first
      | (refine wp_load_box rfl _ rfl _ rfl HX5.out Tryz.underlying35 rfl infoItem ?_)
      | (refine wp_store_box rfl rfl _ _ rfl w.heap.size rfl (cs' := itA ⟨x0, x1, x2⟩) rfl HR5.out rfl infoItem (it_oneA _) ?_; intro w6 hb6 hk6; have HX6 := hide hb6; have HK6 := hide hk6; clear hb6 hk6))
    refine bodyPost_ret (v := .agg (itA ⟨x0, x1, x2⟩)) (results_box Tryz.results84 _ _ w.heap.size rfl HX6.out Tryz.underlying35 rfl infoItem) rfl ⟨by rw [HF.out], ?_, ?_⟩
    · exact HC5.out.keep HK6.out (by omega) (fun g hg e => by have := HVB.out g hg; omega)
    · exact HK5.out.trans HK6.out (fun k hk hS => by omega)
  · have HF : Hid (itGot r = zeroIt) := hide (by rw [HV.out, if_pos hw])
    have hwb : (r3.why != 0) = true := by simp [hw]
    have hfl := fld_why
    clear hw
    go_wp2_with (first
      | (refine wp_store_box rfl rfl _ _ rfl w.heap.size rfl (cs' := itA zeroIt) rfl HR5.out rfl infoItem (it_oneA _) ?_; intro w6 hb6 hk6; have HX6 := hide hb6; have HK6 := hide hk6; clear hb6 hk6))
    refine bodyPost_ret (v := .agg (itA zeroIt)) (results_box Tryz.results84 _ _ w.heap.size rfl HX6.out Tryz.underlying35 rfl infoItem) rfl ⟨by rw [HF.out], ?_, ?_⟩
    · exact HC5.out.keep HK6.out (by omega) (fun g hg e => by have := HVB.out g hg; omega)
    · exact HK5.out.trans HK6.out (fun k hk hS => by omega)
end
section
open Go.RowKit Classical

theorem rep_snoc {α : Type} (A : Codec α) : ∀ (k : Nat) (r : RS), repDec A (k + 1) r = ((repDec A k r).1 ++ [(A.dec (repDec A k r).2).1], (A.dec (repDec A k r).2).2)
  | 0, r => by simp [repDec]
  | k + 1, r => by
    rw [repDec, rep_snoc A k]
    simp [repDec]
theorem kept_grown10 {w w' : World} {v : Value} (h : w.grownBy w' v.ownBlock) : KeepBut (fun g => v.ownBlock = some g) w w' := by
  obtain ⟨a1, a2, a3, a4, a5⟩ := h
  exact ⟨a1, a2, a3, a4, fun k hk hn => a5 k hk (fun e => hn e.symm)⟩
theorem it_got_ok {r : RS} (h : ∀ c ∈ r.bs, 0 ≤ c ∧ c < 256) : ItOk (itGot r) := by
  unfold itGot
  split
  · exact ⟨by decide, (fun c hc => by cases hc), zeroC_ok⟩
  · rename_i hw
    have hw := Decidable.not_not.1 hw
    by_cases h0 : r.why = 0
    · exact it_ok_of ((itC_good.one r h0 h).2 hw)
    · rw [itC_good.stays r h0] at hw
      exact absurd hw h0
theorem key_got_ok {r : RS} (h : ∀ c ∈ r.bs, 0 ≤ c ∧ c < 256) : KeyOk (keyS r).1 := by
  refine ⟨keyS_length r, ?_⟩
  unfold keyS
  split
  · intro c hc; obtain ⟨_, rfl⟩ := List.mem_replicate.1 hc; exact ⟨by decide, by decide⟩
  · split
    · intro c hc; obtain ⟨_, rfl⟩ := List.mem_replicate.1 hc; exact ⟨by decide, by decide⟩
    · intro c hc; exact h c (List.mem_of_mem_take hc)
/-- What the loop has got behind k writes. -/
structure GwI (w wr : World) (p : Nat) (vb : Value) (all : List Int) (r1 : RS) (k : Nat) (vl : Value) (l : List WrP) : Prop where
  cr : CR wr p vb all (repDec wrC k r1).2
  own : wr.ownsRow w.heap.size 61 21 vl l.length (flat wrE l)
  keep : KeepBut (fun j => j = p) w wr
  len : l.length = k
  val : (repDec wrC k r1).2.why = 0 → l = (repDec wrC k r1).1
  ok : ∀ x ∈ l, KeyOk x.key ∧ ItOk x.it
theorem owns_ge {w : World} {base e size n : Nat} {v : Value} {xs : List Value} (h : w.ownsRow base e size v n xs) {g : Nat} (hg : v.ownBlock = some g) : base ≤ g := (h.lt g hg).1
theorem iso_pair_dec {α β γ : Type} (A : Codec α) (B : Codec β) (f : α × β → γ) (g : γ → α × β) (r : RS) : (isoC (pairC A B) f g).dec r = (f ((A.dec r).1, (B.dec (A.dec r).2).1), (B.dec (A.dec r).2).2) := rfl
theorem wrC_eq (r : RS) : wrC.dec r = (⟨(keyS r).1, (itC.dec (keyS r).2).1⟩, (itC.dec (keyS r).2).2) := iso_pair_dec keyC itC _ _ r
theorem keyS_bytes {r : RS} (h : ∀ c ∈ r.bs, 0 ≤ c ∧ c < 256) : ∀ c ∈ (keyS r).2.bs, 0 ≤ c ∧ c < 256 := by
  unfold keyS
  split
  · exact h
  · split
    · exact h
    · exact go_bytes h
set_option maxRecDepth 100000 in
set_option maxHeartbeats 800000 in
theorem getWrites_any (p : Nat) (vb : Value) (all : List Int) (r : RS) (w : World) (h : CR w p vb all r) :
    Calls Tryz.prog 133 #[.pointer (some ⟨p, 0, none⟩)] w fun e w' => ∃ v ws, e = .returned v ∧ RSrc wrE w' v ws ∧ (∀ g, v.ownBlock = some g → w.heap.size ≤ g) ∧ ((wsC.dec r).2.why = 0 → ws = (wsC.dec r).1) ∧ (∀ x ∈ ws, KeyOk x.key ∧ ItOk x.it) ∧ CR w' p vb all (wsC.dec r).2 ∧ KeepBut (fun k => k = p) w w' ∧ ws.length ≤ 16 := by
  obtain ⟨n, hn, hn16⟩ := num_rng 16 r h.byte'
  have C0 := crnum_any p vb all r w h 16
  rw [hn] at C0
  have hp := h.box.lt
  have HVB : Hid (∀ g, vb.ownBlock = some g → g < w.heap.size) := hide (fun g hg => owns_lt h.own hg)
  obtain ⟨r1, hr1⟩ : ∃ r1, r1 = (numS 16 r).2 := ⟨_, rfl⟩
  rw [← hr1] at C0
  have C0 := hide C0
  have HD : Hid (wsC.dec r = repDec wrC n r1) := hide (by
    show repDec wrC (numS 16 r).1.toNat (numS 16 r).2 = _
    rw [hn, ← hr1]
    rfl)
  rw [HD.out]
  clear h hn hr1
  go_enter Tryz.func133, Tryz.ntmps133
  go_wp2_with fail
  refine C0.out.mono ?_
  rintro e w1 ⟨rfl, hc, hk⟩
  have HC1 := hide hc
  have HK1 := hide hk
  clear hc hk C0
  go_wp2_with fail
  go_loopg [3, 6] n (fun g l i wr => ∃ (k : Nat) (vl : Value) (ws : List WrP), k + g = n ∧ l = vl ∧ i = .int .u64 k ∧ Hid (GwI w wr p vb all r1 k vl ws))
  case atStart =>
    refine ⟨0, _, [], by omega, rfl, rfl, hide ⟨HC1.out, ?_, HK1.out, rfl, fun _ => rfl, fun x hx => by cases hx⟩⟩
    exact ⟨rfl, .inl ⟨rfl, rfl⟩⟩
  case round =>
    clear HC1 HK1
    obtain ⟨k, vl, ws, hk, rfl, rfl, HG⟩ := hrel
    cases gk with
    | zero =>
      obtain rfl : k = n := by omega
      have hz : ¬ ((k : Int) < (k : Int)) := by omega
      go_wp2_with fail
      refine (fault_any p vb all _ wr HG.out.cr).mono ?_
      rintro e w5 ⟨rfl, hB5⟩
      have HB5 := hide hB5
      have hfl := fld_why
      clear hB5
      obtain ⟨wy, hwy⟩ : ∃ wy, wy = (repDec wrC k r1).2.why := ⟨_, rfl⟩
      rw [← hwy]
      have HWY := hide hwy
      clear hwy
      by_cases hw : wy = 0
      · subst hw
        go_wp2_with fail
        go_ret
        refine ⟨_, ws, rfl, (RSrc.of_own HG.out.own).below HB5.out, fun g hg => owns_ge HG.out.own hg, fun _ => HG.out.val HWY.out.symm, HG.out.ok, HG.out.cr.below HB5.out, HG.out.keep.oneB HB5.out, by rw [HG.out.len]; omega⟩
      · have hwb : (wy != 0) = true := by simp [hw]
        have HW := hide hw
        clear hw
        go_wp2_with fail
        go_ret
        refine ⟨_, [], rfl, RSrc.nil _, (fun g hg => by cases hg), fun e => absurd e (by rw [← HWY.out]; exact HW.out), (fun x hx => by cases hx), HG.out.cr.below HB5.out, HG.out.keep.oneB HB5.out, by simp⟩
    | succ g =>
      have hz : (k : Int) < (n : Int) := by omega
      have HLEN := hide HG.out.len
      have hl16 : ws.length + 1 ≤ 1000000 := by rw [HLEN.out]; omega
      have hbyte := HG.out.cr.byte'
      obtain ⟨rk, hrk⟩ : ∃ rk, rk = (repDec wrC k r1).2 := ⟨_, rfl⟩
      have HRK := hide hrk
      have HC := HG.out.cr
      rw [← hrk] at HC hbyte
      have HC := hide HC
      have HKO := hide (key_got_ok hbyte)
      have HIO := hide (it_got_ok (keyS_bytes hbyte))
      obtain ⟨kk, hkk⟩ : ∃ kk, kk = (keyS rk).1 := ⟨_, rfl⟩
      obtain ⟨rj, hrj⟩ : ∃ rj, rj = (keyS rk).2 := ⟨_, rfl⟩
      obtain ⟨ii, hii⟩ : ∃ ii, ii = itGot rj := ⟨_, rfl⟩
      have CK := crkey_any p vb all rk wr HC.out
      rw [← hkk, ← hrj, ← eightE_map (by rw [hkk]; exact keyS_length rk)] at CK
      have CK := hide CK
      have CI := fun W (hW : CR W p vb all rj) => getItem_any p vb all rj W hW
      rw [← hii] at CI
      have CI := hide CI
      rw [← hkk] at HKO
      rw [← hrj, ← hii] at HIO
      have HDK : Hid ((repDec wrC (k + 1) r1).2 = (itC.dec rj).2) := hide (by rw [rep_snoc]; simp only; rw [← hrk, wrC_eq, ← hrj])
      have HVK : Hid ((itC.dec rj).2.why = 0 → ws = (repDec wrC k r1).1 → ws ++ [⟨kk, ii⟩] = (repDec wrC (k + 1) r1).1) := hide (fun e0 e => by
        rw [rep_snoc]
        simp only
        rw [← hrk, wrC_eq, ← hrj, ← hkk, e, hii]
        unfold itGot
        rw [if_neg (by rw [e0]; simp)])
      have HST : Hid ((itC.dec rj).2.why = 0 → rk.why = 0) := hide (fun e => by
        by_cases h0 : rk.why = 0
        · exact h0
        · have hs := wrC_good.stays rk h0
          rw [wrC_eq, ← hrj] at hs
          simp only at hs
          rw [hs] at e
          exact absurd e h0)
      have HO := hide HG.out.own
      obtain ⟨av, cv, hvl, _⟩ := owns_shapeR HO.out
      subst hvl
      have HOG : Hid (∀ g, (Value.slice av ws.length cv).ownBlock = some g → w.heap.size ≤ g) := hide (fun g hg => owns_ge HO.out hg)
      clear hrk hkk hrj hii hbyte HC
      go_wp2_with fail
      refine CK.out.mono ?_
      rintro e w4 ⟨rfl, hc4, hk4⟩
      have HC4 := hide hc4
      have HK4 := hide (HG.out.keep.one hk4)
      have HO4 := hide (owns_keep HO.out hk4 (fun g hg e => by have := HOG.out g hg; omega))
      clear hc4 hk4 CK
      go_wp2_with fail
      refine (CI.out w4 HC4.out).mono ?_
      rintro e w5 ⟨rfl, hc5, hk5⟩
      have HC5 := hide hc5
      have HK5 := hide (HK4.out.one hk5)
      have HO5 := hide (owns_keep HO4.out hk5 (fun g hg e => by have := HOG.out g hg; omega))
      clear hc5 hk5 CI HC4 HK4 HO4
      have hSN := src_new (enc := wrE) w5 ⟨kk, ii⟩ #[.int .u8 (at8 kk 0), .int .u8 (at8 kk 1), .int .u8 (at8 kk 2), .int .u8 (at8 kk 3), .int .u8 (at8 kk 4), .int .u8 (at8 kk 5), .int .u8 (at8 kk 6), .int .u8 (at8 kk 7), .int .u32 (ii.ver : Int), .string (strOfNums ii.val), .int .u32 (ii.cf.e : Int), .int .u8 (ii.cf.r : Int), .int .u8 (ii.cf.w : Int), .int .u8 (atN ii.cf.vs 0), .int .u8 (atN ii.cf.vs 1), .int .u8 (atN ii.cf.vs 2), .int .u8 (atN ii.cf.vs 3), .int .u8 (atN ii.cf.vs 4), .int .u8 (atN ii.cf.vs 5), .int .u8 (atN ii.cf.vs 6), .int .u8 (atN ii.cf.vs 7)] rfl 61
      have hBA := alloc_below10 w5 (.cells #[.int .u8 (at8 kk 0), .int .u8 (at8 kk 1), .int .u8 (at8 kk 2), .int .u8 (at8 kk 3), .int .u8 (at8 kk 4), .int .u8 (at8 kk 5), .int .u8 (at8 kk 6), .int .u8 (at8 kk 7), .int .u32 (ii.ver : Int), .string (strOfNums ii.val), .int .u32 (ii.cf.e : Int), .int .u8 (ii.cf.r : Int), .int .u8 (ii.cf.w : Int), .int .u8 (atN ii.cf.vs 0), .int .u8 (atN ii.cf.vs 1), .int .u8 (atN ii.cf.vs 2), .int .u8 (atN ii.cf.vs 3), .int .u8 (atN ii.cf.vs 4), .int .u8 (atN ii.cf.vs 5), .int .u8 (atN ii.cf.vs 6), .int .u8 (atN ii.cf.vs 7)] 61)
      obtain ⟨w6, hw6⟩ : ∃ w6, w6 = w5.alloc (.cells #[.int .u8 (at8 kk 0), .int .u8 (at8 kk 1), .int .u8 (at8 kk 2), .int .u8 (at8 kk 3), .int .u8 (at8 kk 4), .int .u8 (at8 kk 5), .int .u8 (at8 kk 6), .int .u8 (at8 kk 7), .int .u32 (ii.ver : Int), .string (strOfNums ii.val), .int .u32 (ii.cf.e : Int), .int .u8 (ii.cf.r : Int), .int .u8 (ii.cf.w : Int), .int .u8 (atN ii.cf.vs 0), .int .u8 (atN ii.cf.vs 1), .int .u8 (atN ii.cf.vs 2), .int .u8 (atN ii.cf.vs 3), .int .u8 (atN ii.cf.vs 4), .int .u8 (atN ii.cf.vs 5), .int .u8 (atN ii.cf.vs 6), .int .u8 (atN ii.cf.vs 7)] 61) := ⟨_, rfl⟩
      rw [← hw6] at hSN hBA
      have HSN := hide hSN
      have HBA := hide hBA
      have hW6 := hw6.symm
      have HO6 := hide (owns_keep HO5.out (KeepBut.of_below (fun _ => False) hBA) (fun _ _ h => h))
      clear hSN hBA hw6
      have hk1 : IntKind.u64.wrap ((k : Int) + 1) = (k : Int) + 1 := by rw [IntKind.wrap_u64]; omega
      go_wp2_with (at_builtin; refine wp_recs recWR w6 rfl _ _ rfl w.heap.size (.slice av ws.length cv) _ ws [⟨kk, ii⟩] rfl HO6.out rfl HSN.out (fun y hy => by simp at hy; subst hy; exact wr_one _) hl16 (Nat.le_trans HK5.out.size HBA.out.size) ?_; intro v7 w7 ho7 hg7 hb7; have HO7 := hide ho7; have HG7 := hide (kept_grown10 hg7); clear ho7 hg7 hb7)
      go_roundg g
      case measure => omega
      case rel =>
        have hK7 : KeepBut (fun j => j = p) w w7 := (HK5.out.oneB HBA.out).trans HG7.out (fun j hj e => by have := HOG.out j e; omega)
        have hL7 : (ws ++ [(⟨kk, ii⟩ : WrP)]).length = k + 1 := by rw [List.length_append, HLEN.out]; rfl
        have hG : GwI w w7 p vb all r1 (k + 1) v7 (ws ++ [⟨kk, ii⟩]) := by
          refine ⟨?_, HO7.out, hK7, hL7, fun e => ?_, fun x hx => ?_⟩
          · rw [HDK.out]
            exact (HC5.out.below HBA.out).keep HG7.out (fun e => by have := HOG.out p e; omega) (fun g hg e => by have := HOG.out g e; have := HVB.out g hg; omega)
          · rw [HDK.out] at e
            have e2 := HST.out e
            rw [HRK.out] at e2
            exact HVK.out e (HG.out.val e2)
          · rcases List.mem_append.1 hx with hx | hx
            · exact HG.out.ok x hx
            · simp at hx
              subst hx
              exact ⟨HKO.out, HIO.out⟩
        exact ⟨k + 1, v7, ws ++ [⟨kk, ii⟩], by omega, rfl, by go_num, hide hG⟩
end
section
open Go.RowKit

/-- New blocks and draws, nothing else. -/
def Grown (w w' : World) : Prop := ∃ q os, w' = Sort.grow (w.drewN q) os
theorem Grown.refl (w : World) : Grown w w := ⟨0, #[], by rw [Sort.grow_empty]; rfl⟩
theorem Grown.alloc {w w' : World} (h : Grown w w') (o : Obj) : Grown w (w'.alloc o) := by
  obtain ⟨q, os, rfl⟩ := h
  exact ⟨q, os ++ #[o], by rw [Sort.alloc_eq_grow, Sort.grow_grow]⟩
theorem Grown.drew {w w' : World} (h : Grown w w') : Grown w w'.drew := by
  obtain ⟨q, os, rfl⟩ := h
  exact ⟨q + 1, os, rfl⟩
theorem Grown.trans {a b c : World} (h : Grown a b) (h' : Grown b c) : Grown a c := by
  obtain ⟨q, os, rfl⟩ := h
  obtain ⟨q', os', rfl⟩ := h'
  refine ⟨q + q', os ++ os', ?_⟩
  simp only [Sort.grow, World.drewN, Array.append_assoc, Nat.add_assoc]
theorem Grown.below {w w' : World} (h : Grown w w') : Below w.heap.size w w' := by
  obtain ⟨q, os, rfl⟩ := h
  refine ⟨rfl, rfl, rfl, by simp [Sort.grow, World.drewN], fun k hk => ?_⟩
  simp only [Sort.grow, World.drewN]
  rw [Array.getElem?_append_left hk]

end
section
open Go.RowKit

theorem load_bytes (w : World) (b off : Nat) (xs : List Int) (hc : ∀ t, t < xs.length → w.cell? ⟨b, off + t, none⟩ = some (.int .u8 (xs.getD t 0))) :
    (Extern.Bytes.loadBytes ⟨b, off, none⟩ xs.length .empty).run Tryz.prog w = .ok ⟨(Lib.bytesOf xs).toArray⟩ w := by
  have hl := Lib.run_loadBytesX (P := Tryz.prog) w xs ⟨b, off, none⟩ .empty (fun j x hj => by
    have hjl : j < xs.length := (List.getElem?_eq_some_iff.1 hj).1
    have e : (⟨b, off, none⟩ : Addr).add j = ⟨b, off + j, none⟩ := by unfold Addr.add; split <;> simp_all
    rw [e, hc j (by omega), List.getD_eq_getElem?_getD, hj]
    rfl)
  rw [hl]
  congr 1
  apply ByteArray.ext
  show (#[] : Array UInt8) ++ (Lib.bytesOf xs).toArray = (Lib.bytesOf xs).toArray
  simp
theorem run_compareSlice (w : World) (b1 o1 c1 b2 o2 c2 : Nat) (xs ys : List Int) (h1 : ∀ t, t < xs.length → w.cell? ⟨b1, o1 + t, none⟩ = some (.int .u8 (xs.getD t 0))) (h2 : ∀ t, t < ys.length → w.cell? ⟨b2, o2 + t, none⟩ = some (.int .u8 (ys.getD t 0))) :
    (Extern.BytealgCompare.compare #[.slice (some ⟨b1, o1, none⟩) xs.length c1, .slice (some ⟨b2, o2, none⟩) ys.length c2]).run Tryz.prog w = .ok (.int .i64 (Lib.compareBytes (Lib.bytesOf xs) (Lib.bytesOf ys))) w := by
  have l1 := load_bytes w b1 o1 xs h1
  have l2 := load_bytes w b2 o2 ys h2
  change Sem.run Tryz.prog (do pure (goInt (Extern.BytealgCompare.cmp (← Extern.Bytes.bytesOf (.slice (some ⟨b1, o1, none⟩) xs.length c1)) (← Extern.Bytes.bytesOf (.slice (some ⟨b2, o2, none⟩) ys.length c2))))) w = _
  simp only [Extern.Bytes.bytesOf, Sem.run_bind, Sem.run_pure, l1, l2, Result.andThen]
  rw [Lib.cmp_eq]
  rfl
set_option maxRecDepth 100000 in
theorem bcompare_any (w : World) (b1 o1 c1 b2 o2 c2 : Nat) (xs ys : List Int) (h1 : ∀ t, t < xs.length → w.cell? ⟨b1, o1 + t, none⟩ = some (.int .u8 (xs.getD t 0))) (h2 : ∀ t, t < ys.length → w.cell? ⟨b2, o2 + t, none⟩ = some (.int .u8 (ys.getD t 0)))
    (hl : xs.length = ys.length) (hx : ∀ c ∈ xs, 0 ≤ c ∧ c < 256) (hy : ∀ c ∈ ys, 0 ≤ c ∧ c < 256) :
    Calls Tryz.prog 175 #[.slice (some ⟨b1, o1, none⟩) xs.length c1, .slice (some ⟨b2, o2, none⟩) ys.length c2] w fun e w' => e = .returned (.int .i64 (lexF xs ys)) ∧ w' = w := by
  have hr := run_compareSlice w b1 o1 c1 b2 o2 c2 xs ys h1 h2
  rw [compare_lex xs ys hl hx hy] at hr
  generalize lexF xs ys = r at *
  generalize xs.length = n1 at *
  generalize ys.length = n2 at *
  clear h1 h2 hx hy hl
  go_enter Tryz.func175, Tryz.ntmps175
  go_wp2
  rw [run_callFunc_extern Tryz.func182 (by kernel_rfl) (by kernel_rfl) (by kernel_rfl) (e := Extern.BytealgCompare.compare) (by kernel_rfl), hr]
  simp only [Result.andThen]
  rw [Oper.upon_value]
  go_wp2
  go_ret
  exact ⟨rfl, rfl⟩
set_option maxRecDepth 100000 in
set_option maxHeartbeats 1600000 in
theorem keys_any (a b : List Int) (w : World) (ha : a.length = 8) (hb : b.length = 8) (hx : ∀ c ∈ a, 0 ≤ c ∧ c < 256) (hy : ∀ c ∈ b, 0 ≤ c ∧ c < 256) : Calls Tryz.prog 166 #[.agg (cells8 a), .agg (cells8 b)] w fun e w' => e = .returned (.int .i64 (lexF a b)) ∧ Below w.heap.size w w' := by
  have hA : Box ((w.alloc (.cells (cells8 a) 31)).alloc (.cells (cells8 b) 31)) w.heap.size (cells8 a) 31 := (box_new w _ _).belowI ((Below.refl _ _).alloc (Nat.le_refl _) _)
  have hB : Box ((w.alloc (.cells (cells8 a) 31)).alloc (.cells (cells8 b) 31)) (w.heap.size + 1) (cells8 b) 31 := by
    have := box_new (w.alloc (.cells (cells8 a) 31)) (cells8 b) 31
    rw [World.size_alloc] at this
    exact this
  have hc1 : ∀ n t, t < a.length → (((w.alloc (.cells (cells8 a) 31)).alloc (.cells (cells8 b) 31)).drewN n).cell? ⟨w.heap.size, 0 + t, none⟩ = some (.int .u8 (a.getD t 0)) := fun n t ht => by
    rw [Nat.zero_add]; exact hA.cell t _ (by simp [cells8, List.getD, ht])
  have hc2 : ∀ n t, t < b.length → (((w.alloc (.cells (cells8 a) 31)).alloc (.cells (cells8 b) 31)).drewN n).cell? ⟨w.heap.size + 1, 0 + t, none⟩ = some (.int .u8 (b.getD t 0)) := fun n t ht => by
    rw [Nat.zero_add]; exact hB.cell t _ (by simp [cells8, List.getD, ht])
  have HC : Hid (∀ n, Calls Tryz.prog 175 #[.slice (some ⟨w.heap.size, 0, none⟩) 8 8, .slice (some ⟨w.heap.size + 1, 0, none⟩) 8 8] (((w.alloc (.cells (cells8 a) 31)).alloc (.cells (cells8 b) 31)).drewN n) fun e w' => e = .returned (.int .i64 (lexF a b)) ∧ w' = (((w.alloc (.cells (cells8 a) 31)).alloc (.cells (cells8 b) 31)).drewN n)) := hide (fun n => by
    have h := bcompare_any _ w.heap.size 0 8 (w.heap.size + 1) 0 8 a b (hc1 n) (hc2 n) (by omega) hx hy
    rw [ha, hb] at h
    exact h)
  clear hA hB hc1 hc2 hx hy
  generalize lexF a b = r at *
  generalize cells8 a = ca at *
  generalize cells8 b = cb at *
  go_enter Tryz.func166, Tryz.ntmps166
  go_wp2
  go_quiet ((go_at_call 175; exact Calls.quiet_of_same (HC.out _)))
  go_wp2
  go_ret
  exact ⟨rfl, below_drewN (((Below.refl _ _).alloc (Nat.le_refl _) _).alloc (by simp) _)⟩
end
section
open Go.RowKit Classical

set_option maxRecDepth 100000 in
set_option maxHeartbeats 3200000 in
theorem equalWs_any (v1 v2 : Value) (la lb : List WrP) (w : World) (h1 : RSrc wrE w v1 la) (h2 : RSrc wrE w v2 lb) (ha : ∀ x ∈ la, KeyOk x.key ∧ ItOk x.it) (hb : ∀ x ∈ lb, KeyOk x.key ∧ ItOk x.it) :
    Calls Tryz.prog 29 #[v1, v2] w fun e w' => e = .returned (.bool (decide (la = lb))) ∧ Below w.heap.size w w' := by
  obtain ⟨a1, c1, rfl, hc1, hm1⟩ := h1.shape
  obtain ⟨a2, c2, rfl, hc2, hm2⟩ := h2.shape
  unfold maxLen at hm1 hm2
  have H1 := hide h1
  have H2 := hide h2
  have HA := hide ha
  have HB := hide hb
  obtain ⟨R, hR⟩ : ∃ R, R = decide (la = lb) := ⟨_, rfl⟩
  rw [← hR]
  have HR := hide hR
  obtain ⟨L1, hL1⟩ : ∃ L1, L1 = la.length := ⟨_, rfl⟩
  obtain ⟨L2, hL2⟩ : ∃ L2, L2 = lb.length := ⟨_, rfl⟩
  rw [← hL1, ← hL2]
  rw [← hL1] at hc1
  rw [← hL2] at hc2
  have HL1 := hide hL1
  have HL2 := hide hL2
  clear h1 h2 ha hb hR hL1 hL2
  by_cases hl : L1 = L2
  · subst hl
    have hne : ((L1 : Int) != (L1 : Int)) = false := by simp
    have hcm : (L1 : Int) ≤ 9223372036854775807 := by omega
    go_enter Tryz.func29, Tryz.ntmps29
    go_wp2_with fail
    go_loopg [13] L1 (fun g i wr => ∃ k : Nat, k + g = L1 ∧ i = .int .i64 k ∧ Hid (Below w.heap.size w wr) ∧ Hid (la.take k = lb.take k))
    case atStart => exact ⟨0, by omega, rfl, hide (Below.refl _ _), hide rfl⟩
    case round =>
      obtain ⟨k, hk, rfl, HBW, HT⟩ := hrel
      cases gk with
      | zero =>
        obtain rfl : k = L1 := by omega
        have hz : ¬ ((k : Int) < (k : Int)) := by omega
        have HE : Hid (R = true) := hide (by
          have := HT.out
          rw [HL1.out, List.take_length, ← HL1.out, HL2.out, List.take_length] at this
          rw [HR.out, decide_eq_true this])
        go_wp2_with fail
        go_ret
        exact ⟨by rw [HE.out]; rfl, HBW.out⟩
      | succ g =>
        have hz : (k : Int) < (L1 : Int) := by omega
        have hk1 : k < la.length := by rw [← HL1.out]; omega
        have hk2 : k < lb.length := by rw [← HL2.out]; omega
        have hkl : k < L1 := by omega
        have hS1 : RSrc wrE wr (.slice a1 L1 c1) la := by have := H1.out.below HBW.out; rw [← HL1.out] at this; exact this
        have hS2 : RSrc wrE wr (.slice a2 L1 c2) lb := by have := H2.out.below HBW.out; rw [← HL2.out] at this; exact this
        obtain ⟨b1, o1, rfl, hr1⟩ := hS1.range hk1
        obtain ⟨b2, o2, rfl, hr2⟩ := hS2.range hk2
        obtain ⟨x, hx⟩ : ∃ x, x = la[k] := ⟨_, rfl⟩
        obtain ⟨y, hy⟩ : ∃ y, y = lb[k] := ⟨_, rfl⟩
        rw [← hx] at hr1
        rw [← hy] at hr2
        have HR1 := hide hr1
        have HR2 := hide hr2
        have HXO : Hid (KeyOk x.key ∧ ItOk x.it) := hide (by rw [hx]; exact HA.out _ (List.getElem_mem hk1))
        have HYO : Hid (KeyOk y.key ∧ ItOk y.it) := hide (by rw [hy]; exact HB.out _ (List.getElem_mem hk2))
        have HXY : Hid (x = la[k] ∧ y = lb[k]) := hide ⟨hx, hy⟩
        have hbl : b1 < wr.heap.size := by obtain ⟨_, _, _, e, hb, _⟩ := hS1.at recWR.len hk1; cases e; exact hb
        have hbl2 : b2 < wr.heap.size := by obtain ⟨_, _, _, e, hb, _⟩ := hS2.at recWR.len hk2; cases e; exact hb
        clear hS1 hS2 hr1 hr2 hx hy
        by_cases hxy : x = y
        · have HN : Hid (∀ W, (binOp .neq 61 (.agg (wrA x)) (.agg (wrA y))).run Tryz.prog W = .ok (.bool false) W) := hide (fun W => by rw [neq_wr10 HXO.out HYO.out, decide_eq_true hxy]; rfl)
          have HT2 : Hid (la.take (k + 1) = lb.take (k + 1)) := hide (by rw [List.take_succ_eq_append_getElem hk1, List.take_succ_eq_append_getElem hk2, HT.out, ← HXY.out.1, ← HXY.out.2, hxy])
          go_wp2_with fail
          refine wp_region_vals (by kernel_rfl) [(16, .slice (some ⟨b1, o1, none⟩) L1 c1), (17, .int .i64 (k : Int)), (18, .pointer (some ⟨b1, o1 + k * 21, none⟩)), (19, .agg (wrA x)), (20, .slice (some ⟨b2, o2, none⟩) L1 c2), (21, .int .i64 (k : Int)), (22, .pointer (some ⟨b2, o2 + k * 21, none⟩)), (23, .agg (wrA y)), (24, .bool false)] (by kernel_rfl) rfl ?_ ?_
          · intro i o hi A w1 hB hold hdeps
            have hlt : i < 9 := (Array.getElem?_eq_some_iff.1 hi).1
            have hc : i = 0 ∨ i = 1 ∨ i = 2 ∨ i = 3 ∨ i = 4 ∨ i = 5 ∨ i = 6 ∨ i = 7 ∨ i = 8 := by omega
            clear hlt
            rcases hc with rfl | rfl | rfl | rfl | rfl | rfl | rfl | rfl | rfl
            · obtain rfl := Option.some.inj hi
              have s0 : A.tmps.getD 0 undef = .slice (some ⟨b1, o1, none⟩) L1 c1 := hold 0 (by kernel_rfl)
              exact r_pure hi rfl rfl (y_move _ s0)
            · obtain rfl := Option.some.inj hi
              have s5 : A.tmps.getD 5 undef = .int .i64 (k : Int) := hold 5 (by kernel_rfl)
              exact r_pure hi rfl rfl (y_move _ s5)
            · obtain rfl := Option.some.inj hi
              have s16 : A.tmps.getD 16 undef = .slice (some ⟨b1, o1, none⟩) L1 c1 := dep_of hdeps 0 (by kernel_rfl)
              have s17 : A.tmps.getD 17 undef = .int .i64 (k : Int) := dep_of hdeps 1 (by kernel_rfl)
              exact r_pure hi rfl rfl (y_idxW _ _ s16 s17 hkl)
            · obtain rfl := Option.some.inj hi
              have s18 : A.tmps.getD 18 undef = .pointer (some ⟨b1, o1 + k * 21, none⟩) := dep_of hdeps 2 (by kernel_rfl)
              exact r_pure hi rfl rfl (y_loadMid _ _ s18 (range_below HR1.out hbl hB) Tryz.underlying61 rfl infoWrite)
            · obtain rfl := Option.some.inj hi
              have s1 : A.tmps.getD 1 undef = .slice (some ⟨b2, o2, none⟩) L1 c2 := hold 1 (by kernel_rfl)
              exact r_pure hi rfl rfl (y_move _ s1)
            · obtain rfl := Option.some.inj hi
              have s5 : A.tmps.getD 5 undef = .int .i64 (k : Int) := hold 5 (by kernel_rfl)
              exact r_pure hi rfl rfl (y_move _ s5)
            · obtain rfl := Option.some.inj hi
              have s20 : A.tmps.getD 20 undef = .slice (some ⟨b2, o2, none⟩) L1 c2 := dep_of hdeps 4 (by kernel_rfl)
              have s21 : A.tmps.getD 21 undef = .int .i64 (k : Int) := dep_of hdeps 5 (by kernel_rfl)
              exact r_pure hi rfl rfl (y_idxW _ _ s20 s21 hkl)
            · obtain rfl := Option.some.inj hi
              have s22 : A.tmps.getD 22 undef = .pointer (some ⟨b2, o2 + k * 21, none⟩) := dep_of hdeps 6 (by kernel_rfl)
              exact r_pure hi rfl rfl (y_loadMid _ _ s22 (range_below HR2.out hbl2 hB) Tryz.underlying61 rfl infoWrite)
            · obtain rfl := Option.some.inj hi
              have s19 : A.tmps.getD 19 undef = .agg (wrA x) := dep_of hdeps 3 (by kernel_rfl)
              have s23 : A.tmps.getD 23 undef = .agg (wrA y) := dep_of hdeps 7 (by kernel_rfl)
              exact r_pure hi rfl rfl (y_bin _ _ _ _ _ s19 s23 (HN.out w1) (by kernel_rfl))
          · intro w8 hB8
            simp only [putAll, Act.put, List.setIfInBounds_toArray, List.set_cons_succ, List.set_cons_zero]
            have HB8 := hide hB8
            clear hB8
            go_wp2_with fail
            go_roundg g
            case measure => omega
            case rel => exact ⟨k + 1, by omega, by first | rfl | go_num, hide (HBW.out.trans (HB8.out.mono HBW.out.size)), HT2⟩
        · have HN : Hid (∀ W, (binOp .neq 61 (.agg (wrA x)) (.agg (wrA y))).run Tryz.prog W = .ok (.bool true) W) := hide (fun W => by rw [neq_wr10 HXO.out HYO.out, decide_eq_false hxy]; rfl)
          have HE : Hid (R = false) := hide (by
            rw [HR.out]
            refine decide_eq_false (fun e => hxy ?_)
            rw [HXY.out.1, HXY.out.2]
            simp only [e])
          go_wp2_with fail
          refine wp_region_vals (by kernel_rfl) [(16, .slice (some ⟨b1, o1, none⟩) L1 c1), (17, .int .i64 (k : Int)), (18, .pointer (some ⟨b1, o1 + k * 21, none⟩)), (19, .agg (wrA x)), (20, .slice (some ⟨b2, o2, none⟩) L1 c2), (21, .int .i64 (k : Int)), (22, .pointer (some ⟨b2, o2 + k * 21, none⟩)), (23, .agg (wrA y)), (24, .bool true)] (by kernel_rfl) rfl ?_ ?_
          · intro i o hi A w1 hB hold hdeps
            have hlt : i < 9 := (Array.getElem?_eq_some_iff.1 hi).1
            have hc : i = 0 ∨ i = 1 ∨ i = 2 ∨ i = 3 ∨ i = 4 ∨ i = 5 ∨ i = 6 ∨ i = 7 ∨ i = 8 := by omega
            clear hlt
            rcases hc with rfl | rfl | rfl | rfl | rfl | rfl | rfl | rfl | rfl
            · obtain rfl := Option.some.inj hi
              have s0 : A.tmps.getD 0 undef = .slice (some ⟨b1, o1, none⟩) L1 c1 := hold 0 (by kernel_rfl)
              exact r_pure hi rfl rfl (y_move _ s0)
            · obtain rfl := Option.some.inj hi
              have s5 : A.tmps.getD 5 undef = .int .i64 (k : Int) := hold 5 (by kernel_rfl)
              exact r_pure hi rfl rfl (y_move _ s5)
            · obtain rfl := Option.some.inj hi
              have s16 : A.tmps.getD 16 undef = .slice (some ⟨b1, o1, none⟩) L1 c1 := dep_of hdeps 0 (by kernel_rfl)
              have s17 : A.tmps.getD 17 undef = .int .i64 (k : Int) := dep_of hdeps 1 (by kernel_rfl)
              exact r_pure hi rfl rfl (y_idxW _ _ s16 s17 hkl)
            · obtain rfl := Option.some.inj hi
              have s18 : A.tmps.getD 18 undef = .pointer (some ⟨b1, o1 + k * 21, none⟩) := dep_of hdeps 2 (by kernel_rfl)
              exact r_pure hi rfl rfl (y_loadMid _ _ s18 (range_below HR1.out hbl hB) Tryz.underlying61 rfl infoWrite)
            · obtain rfl := Option.some.inj hi
              have s1 : A.tmps.getD 1 undef = .slice (some ⟨b2, o2, none⟩) L1 c2 := hold 1 (by kernel_rfl)
              exact r_pure hi rfl rfl (y_move _ s1)
            · obtain rfl := Option.some.inj hi
              have s5 : A.tmps.getD 5 undef = .int .i64 (k : Int) := hold 5 (by kernel_rfl)
              exact r_pure hi rfl rfl (y_move _ s5)
            · obtain rfl := Option.some.inj hi
              have s20 : A.tmps.getD 20 undef = .slice (some ⟨b2, o2, none⟩) L1 c2 := dep_of hdeps 4 (by kernel_rfl)
              have s21 : A.tmps.getD 21 undef = .int .i64 (k : Int) := dep_of hdeps 5 (by kernel_rfl)
              exact r_pure hi rfl rfl (y_idxW _ _ s20 s21 hkl)
            · obtain rfl := Option.some.inj hi
              have s22 : A.tmps.getD 22 undef = .pointer (some ⟨b2, o2 + k * 21, none⟩) := dep_of hdeps 6 (by kernel_rfl)
              exact r_pure hi rfl rfl (y_loadMid _ _ s22 (range_below HR2.out hbl2 hB) Tryz.underlying61 rfl infoWrite)
            · obtain rfl := Option.some.inj hi
              have s19 : A.tmps.getD 19 undef = .agg (wrA x) := dep_of hdeps 3 (by kernel_rfl)
              have s23 : A.tmps.getD 23 undef = .agg (wrA y) := dep_of hdeps 7 (by kernel_rfl)
              exact r_pure hi rfl rfl (y_bin _ _ _ _ _ s19 s23 (HN.out w1) (by kernel_rfl))
          · intro w8 hB8
            simp only [putAll, Act.put, List.setIfInBounds_toArray, List.set_cons_succ, List.set_cons_zero]
            have HB8 := hide hB8
            clear hB8
            go_wp2_with fail
            go_ret
            exact ⟨by rw [HE.out]; rfl, HBW.out.trans (HB8.out.mono HBW.out.size)⟩
  · have hne : ((L1 : Int) != (L2 : Int)) = true := by simp; omega
    have HE : Hid (R = false) := hide (by rw [HR.out]; exact decide_eq_false (fun e => hl (by rw [HL1.out, HL2.out, e])))
    go_enter Tryz.func29, Tryz.ntmps29
    go_wp2_with fail
    go_ret
    exact ⟨by rw [HE.out]; rfl, Below.refl _ _⟩
end
end Go.Proofs.YtencmgepffdodaaGreat
