/-
  Own texts put together: MpGw, MpMore, IdCmp, IdCmp3, MpEq, MpWm, RcR1. Own work.
-/
import Derived.Test.YtlegliimgjmphaaGreatG25
import Derived.Test.YtlegliimgjmphaaGreatG15
import Derived.Test.YtlegliimgjmphaaGreatG05
import Derived.Test.YtlegliimgjmphaaGreatG16
import Derived.Test.YtlegliimgjmphaaGreatG07
import Derived.Test.YtlegliimgjmphaaGreatG09
import Derived.Test.YtlegliimgjmphaaGreatG24
import Derived.Lib.BytesEntry
import Derived.Deep.RegionHeldLaw
import Derived.Deep.QuietTactic
import Derived.BigQuiet
import Derived.Sort.Grow
import Derived.Shelf.Abstract
namespace Go.Proofs.YtlegliimgjmphaaGreat
section
open Go.RowKit Classical
theorem rep_snoc {α : Type} (A : Codec α) : ∀ (k : Nat) (r : RS), repDec A (k + 1) r = ((repDec A k r).1 ++ [(A.dec (repDec A k r).2).1], (A.dec (repDec A k r).2).2)
 | 0, r => by simp [repDec]
 | k + 1, r => by
  rw [repDec, rep_snoc A k]
  simp [repDec]
theorem kept_grown10 {w w' : World} {v : Value} (h : w.grownBy w' v.ownBlock) : KeepBut (fun g => v.ownBlock = some g) w w' := by
 obtain ⟨a1, a2, a3, a4, a5⟩ := h
 exact ⟨a1, a2, a3, a4, fun k hk hn => a5 k hk (fun e => hn e.symm)⟩
theorem it_got_ok {r : RS} (h : ∀ c ∈ r.bs, 0 ≤ c ∧ c < 256) : ItOk (itGot r) := by
 unfold itGot
 split
 ·exact ⟨by decide, (fun c hc => by cases hc), zeroC_ok⟩
 ·rename_i hw
  have hw := Decidable.not_not.1 hw
  by_cases h0 : r.why = 0
  ·exact it_ok_of ((itC_good.one r h0 h).2 hw)
  ·rw [itC_good.stays r h0] at hw
   exact absurd hw h0
theorem key_got_ok {r : RS} (h : ∀ c ∈ r.bs, 0 ≤ c ∧ c < 256) : KeyOk (keyS r).1 := by
 refine ⟨keyS_length r, ?_⟩
 unfold keyS
 split
 ·intro c hc; obtain ⟨_, rfl⟩ := List.mem_replicate.1 hc; exact ⟨by decide, by decide⟩
 ·split
  ·intro c hc; obtain ⟨_, rfl⟩ := List.mem_replicate.1 hc; exact ⟨by decide, by decide⟩
  ·intro c hc; exact h c (List.mem_of_mem_take hc)
structure GwI (w wr : World) (p : Nat) (vb : Value) (all : List Int) (r1 : RS) (k : Nat) (vl : Value) (l : List WrP) : Prop where
 cr : CR wr p vb all (repDec wrC k r1).2
 own : wr.ownsRow w.heap.size 91 21 vl l.length (flat wrE l)
 keep : KeepBut (fun j => j = p) w wr
 len : l.length = k
 val : (repDec wrC k r1).2.why = 0 → l = (repDec wrC k r1).1
 ok : ∀ x ∈ l, KeyOk x.key ∧ ItOk x.it
theorem owns_ge {w : World} {base e size n : Nat} {v : Value} {xs : List Value} (h : w.ownsRow base e size v n xs) {g : Nat} (hg : v.ownBlock = some g) : base ≤ g := (h.lt g hg).1
theorem iso_pair_dec {α β γ : Type} (A : Codec α) (B : Codec β) (f : α × β → γ) (g : γ → α × β) (r : RS) : (isoC (pairC A B) f g).dec r = (f ((A.dec r).1, (B.dec (A.dec r).2).1), (B.dec (A.dec r).2).2) := rfl
theorem wrC_eq (r : RS) : wrC.dec r = (⟨(keyS r).1, (itC.dec (keyS r).2).1⟩, (itC.dec (keyS r).2).2) := iso_pair_dec keyC itC _ _ r
theorem keyS_bytes {r : RS} (h : ∀ c ∈ r.bs, 0 ≤ c ∧ c < 256) : ∀ c ∈ (keyS r).2.bs, 0 ≤ c ∧ c < 256 := by
 unfold keyS
 split
 ·exact h
 ·split
  ·exact h
  ·exact go_bytes h
set_option maxRecDepth 100000 in
set_option maxHeartbeats 800000 in
theorem getWrites_any (p : Nat) (vb : Value) (all : List Int) (r : RS) (w : World) (h : CR w p vb all r) :
  Calls Tryz.prog 194 #[.pointer (some ⟨p, 0, none⟩)] w fun e w' => ∃ v ws, e = .returned v ∧ RSrc wrE w' v ws ∧ (∀ g, v.ownBlock = some g → w.heap.size ≤ g) ∧ ((wsC.dec r).2.why = 0 → ws = (wsC.dec r).1) ∧ (∀ x ∈ ws, KeyOk x.key ∧ ItOk x.it) ∧ CR w' p vb all (wsC.dec r).2 ∧ KeepBut (fun k => k = p) w w' ∧ ws.length ≤ 16 := by
 obtain ⟨n, hn, hn16⟩ := num_rng 16 r h.byte'
 have C0 := crnum_any p vb all r w h 16
 rw [hn] at C0
 have hp := h.box.lt
 have HVB : Hid (∀ g, vb.ownBlock = some g → g < w.heap.size) := hide (fun g hg => owns_lt h.own hg)
 obtain ⟨r1, hr1⟩ : ∃ r1, r1 = (numS 16 r).2 := ⟨_, rfl⟩
 rw [← hr1] at C0
 have C0 := hide C0
 have HD : Hid (wsC.dec r = repDec wrC n r1) := hide (by
  show repDec wrC (numS 16 r).1.toNat (numS 16 r).2 = _
  rw [hn, ← hr1]
  rfl)
 rw [HD.out]
 clear h hn hr1
 go_enter Tryz.func194, Tryz.ntmps194
 go_wp2_with fail
 refine C0.out.mono ?_
 rintro e w1 ⟨rfl, hc, hk⟩
 have HC1 := hide hc
 have HK1 := hide hk
 clear hc hk C0
 go_wp2_with fail
 go_loopg [3, 6] n (fun g l i wr => ∃ (k : Nat) (vl : Value) (ws : List WrP), k + g = n ∧ l = vl ∧ i = .int .u64 k ∧ Hid (GwI w wr p vb all r1 k vl ws))
 case atStart =>
  refine ⟨0, _, [], by omega, rfl, rfl, hide ⟨HC1.out, ?_, HK1.out, rfl, fun _ => rfl, fun x hx => by cases hx⟩⟩
  exact ⟨rfl, .inl ⟨rfl, rfl⟩⟩
 case round =>
  clear HC1 HK1
  obtain ⟨k, vl, ws, hk, rfl, rfl, HG⟩ := hrel
  cases gk with
  | zero =>
   obtain rfl : k = n := by omega
   have hz : ¬ ((k : Int) < (k : Int)) := by omega
   go_wp2_with fail
   refine (fault_any p vb all _ wr HG.out.cr).mono ?_
   rintro e w5 ⟨rfl, hB5⟩
   have HB5 := hide hB5
   have hfl := fld_why
   clear hB5
   obtain ⟨wy, hwy⟩ : ∃ wy, wy = (repDec wrC k r1).2.why := ⟨_, rfl⟩
   rw [← hwy]
   have HWY := hide hwy
   clear hwy
   by_cases hw : wy = 0
   ·subst hw
    go_wp2_with fail
    go_ret
    refine ⟨_, ws, rfl, (RSrc.of_own HG.out.own).below HB5.out, fun g hg => owns_ge HG.out.own hg, fun _ => HG.out.val HWY.out.symm, HG.out.ok, HG.out.cr.below HB5.out, HG.out.keep.oneB HB5.out, by rw [HG.out.len]; omega⟩
   ·have hwb : (wy != 0) = true := by simp [hw]
    have HW := hide hw
    clear hw
    go_wp2_with fail
    go_ret
    refine ⟨_, [], rfl, RSrc.nil _, (fun g hg => by cases hg), fun e => absurd e (by rw [← HWY.out]; exact HW.out), (fun x hx => by cases hx), HG.out.cr.below HB5.out, HG.out.keep.oneB HB5.out, by simp⟩
  | succ g =>
   have hz : (k : Int) < (n : Int) := by omega
   have HLEN := hide HG.out.len
   have hl16 : ws.length + 1 ≤ 1000000 := by rw [HLEN.out]; omega
   have hbyte := HG.out.cr.byte'
   obtain ⟨rk, hrk⟩ : ∃ rk, rk = (repDec wrC k r1).2 := ⟨_, rfl⟩
   have HRK := hide hrk
   have HC := HG.out.cr
   rw [← hrk] at HC hbyte
   have HC := hide HC
   have HKO := hide (key_got_ok hbyte)
   have HIO := hide (it_got_ok (keyS_bytes hbyte))
   obtain ⟨kk, hkk⟩ : ∃ kk, kk = (keyS rk).1 := ⟨_, rfl⟩
   obtain ⟨rj, hrj⟩ : ∃ rj, rj = (keyS rk).2 := ⟨_, rfl⟩
   obtain ⟨ii, hii⟩ : ∃ ii, ii = itGot rj := ⟨_, rfl⟩
   have CK := crkey_any p vb all rk wr HC.out
   rw [← hkk, ← hrj, ← eightE_map (by rw [hkk]; exact keyS_length rk)] at CK
   have CK := hide CK
   have CI := fun W (hW : CR W p vb all rj) => getItem_any p vb all rj W hW
   rw [← hii] at CI
   have CI := hide CI
   rw [← hkk] at HKO
   rw [← hrj, ← hii] at HIO
   have HDK : Hid ((repDec wrC (k + 1) r1).2 = (itC.dec rj).2) := hide (by rw [rep_snoc]; simp only; rw [← hrk, wrC_eq, ← hrj])
   have HVK : Hid ((itC.dec rj).2.why = 0 → ws = (repDec wrC k r1).1 → ws ++ [⟨kk, ii⟩] = (repDec wrC (k + 1) r1).1) := hide (fun e0 e => by
    rw [rep_snoc]
    simp only
    rw [← hrk, wrC_eq, ← hrj, ← hkk, e, hii]
    unfold itGot
    rw [if_neg (by rw [e0]; simp)])
   have HST : Hid ((itC.dec rj).2.why = 0 → rk.why = 0) := hide (fun e => by
    by_cases h0 : rk.why = 0
    ·exact h0
    ·have hs := wrC_good.stays rk h0
     rw [wrC_eq, ← hrj] at hs
     simp only at hs
     rw [hs] at e
     exact absurd e h0)
   have HO := hide HG.out.own
   obtain ⟨av, cv, hvl, _⟩ := owns_shapeR HO.out
   subst hvl
   have HOG : Hid (∀ g, (Value.slice av ws.length cv).ownBlock = some g → w.heap.size ≤ g) := hide (fun g hg => owns_ge HO.out hg)
   clear hrk hkk hrj hii hbyte HC
   go_wp2_with fail
   refine CK.out.mono ?_
   rintro e w4 ⟨rfl, hc4, hk4⟩
   have HC4 := hide hc4
   have HK4 := hide (HG.out.keep.one hk4)
   have HO4 := hide (owns_keep HO.out hk4 (fun g hg e => by have := HOG.out g hg; omega))
   clear hc4 hk4 CK
   go_wp2_with fail
   refine (CI.out w4 HC4.out).mono ?_
   rintro e w5 ⟨rfl, hc5, hk5⟩
   have HC5 := hide hc5
   have HK5 := hide (HK4.out.one hk5)
   have HO5 := hide (owns_keep HO4.out hk5 (fun g hg e => by have := HOG.out g hg; omega))
   clear hc5 hk5 CI HC4 HK4 HO4
   have hSN := src_new (enc := wrE) w5 ⟨kk, ii⟩ #[.int .u8 (at8 kk 0), .int .u8 (at8 kk 1), .int .u8 (at8 kk 2), .int .u8 (at8 kk 3), .int .u8 (at8 kk 4), .int .u8 (at8 kk 5), .int .u8 (at8 kk 6), .int .u8 (at8 kk 7), .int .u32 (ii.ver : Int), .string (strOfNums ii.val), .int .u32 (ii.cf.e : Int), .int .u8 (ii.cf.r : Int), .int .u8 (ii.cf.w : Int), .int .u8 (atN ii.cf.vs 0), .int .u8 (atN ii.cf.vs 1), .int .u8 (atN ii.cf.vs 2), .int .u8 (atN ii.cf.vs 3), .int .u8 (atN ii.cf.vs 4), .int .u8 (atN ii.cf.vs 5), .int .u8 (atN ii.cf.vs 6), .int .u8 (atN ii.cf.vs 7)] rfl 91
   have hBA := alloc_below10 w5 (.cells #[.int .u8 (at8 kk 0), .int .u8 (at8 kk 1), .int .u8 (at8 kk 2), .int .u8 (at8 kk 3), .int .u8 (at8 kk 4), .int .u8 (at8 kk 5), .int .u8 (at8 kk 6), .int .u8 (at8 kk 7), .int .u32 (ii.ver : Int), .string (strOfNums ii.val), .int .u32 (ii.cf.e : Int), .int .u8 (ii.cf.r : Int), .int .u8 (ii.cf.w : Int), .int .u8 (atN ii.cf.vs 0), .int .u8 (atN ii.cf.vs 1), .int .u8 (atN ii.cf.vs 2), .int .u8 (atN ii.cf.vs 3), .int .u8 (atN ii.cf.vs 4), .int .u8 (atN ii.cf.vs 5), .int .u8 (atN ii.cf.vs 6), .int .u8 (atN ii.cf.vs 7)] 91)
   obtain ⟨w6, hw6⟩ : ∃ w6, w6 = w5.alloc (.cells #[.int .u8 (at8 kk 0), .int .u8 (at8 kk 1), .int .u8 (at8 kk 2), .int .u8 (at8 kk 3), .int .u8 (at8 kk 4), .int .u8 (at8 kk 5), .int .u8 (at8 kk 6), .int .u8 (at8 kk 7), .int .u32 (ii.ver : Int), .string (strOfNums ii.val), .int .u32 (ii.cf.e : Int), .int .u8 (ii.cf.r : Int), .int .u8 (ii.cf.w : Int), .int .u8 (atN ii.cf.vs 0), .int .u8 (atN ii.cf.vs 1), .int .u8 (atN ii.cf.vs 2), .int .u8 (atN ii.cf.vs 3), .int .u8 (atN ii.cf.vs 4), .int .u8 (atN ii.cf.vs 5), .int .u8 (atN ii.cf.vs 6), .int .u8 (atN ii.cf.vs 7)] 91) := ⟨_, rfl⟩
   rw [← hw6] at hSN hBA
   have HSN := hide hSN
   have HBA := hide hBA
   have hW6 := hw6.symm
   have HO6 := hide (owns_keep HO5.out (KeepBut.of_below (fun _ => False) hBA) (fun _ _ h => h))
   clear hSN hBA hw6
   have hk1 : IntKind.u64.wrap ((k : Int) + 1) = (k : Int) + 1 := by rw [IntKind.wrap_u64]; omega
   go_wp2_with (at_builtin; refine wp_recs recWR w6 rfl _ _ rfl w.heap.size (.slice av ws.length cv) _ ws [⟨kk, ii⟩] rfl HO6.out rfl HSN.out (fun y hy => by simp at hy; subst hy; exact wr_one _) hl16 (Nat.le_trans HK5.out.size HBA.out.size) ?_; intro v7 w7 ho7 hg7 hb7; have HO7 := hide ho7; have HG7 := hide (kept_grown10 hg7); clear ho7 hg7 hb7)
   go_roundg g
   case measure => omega
   case rel =>
    have hK7 : KeepBut (fun j => j = p) w w7 := (HK5.out.oneB HBA.out).trans HG7.out (fun j hj e => by have := HOG.out j e; omega)
    have hL7 : (ws ++ [(⟨kk, ii⟩ : WrP)]).length = k + 1 := by rw [List.length_append, HLEN.out]; rfl
    have hG : GwI w w7 p vb all r1 (k + 1) v7 (ws ++ [⟨kk, ii⟩]) := by
     refine ⟨?_, HO7.out, hK7, hL7, fun e => ?_, fun x hx => ?_⟩
     ·rw [HDK.out]
      exact (HC5.out.below HBA.out).keep HG7.out (fun e => by have := HOG.out p e; omega) (fun g hg e => by have := HOG.out g e; have := HVB.out g hg; omega)
     ·rw [HDK.out] at e
      have e2 := HST.out e
      rw [HRK.out] at e2
      exact HVK.out e (HG.out.val e2)
     ·rcases List.mem_append.1 hx with hx | hx
      ·exact HG.out.ok x hx
      ·simp at hx
       subst hx
       exact ⟨HKO.out, HIO.out⟩
    exact ⟨k + 1, v7, ws ++ [⟨kk, ii⟩], by omega, rfl, by go_num, hide hG⟩
end
section
open Go.RowKit
def Grown (w w' : World) : Prop := ∃ q os, w' = Sort.grow (w.drewN q) os
theorem Grown.refl (w : World) : Grown w w := ⟨0, #[], by rw [Sort.grow_empty]; rfl⟩
theorem Grown.alloc {w w' : World} (h : Grown w w') (o : Obj) : Grown w (w'.alloc o) := by
 obtain ⟨q, os, rfl⟩ := h
 exact ⟨q, os ++ #[o], by rw [Sort.alloc_eq_grow, Sort.grow_grow]⟩
theorem Grown.drew {w w' : World} (h : Grown w w') : Grown w w'.drew := by
 obtain ⟨q, os, rfl⟩ := h
 exact ⟨q + 1, os, rfl⟩
theorem Grown.trans {a b c : World} (h : Grown a b) (h' : Grown b c) : Grown a c := by
 obtain ⟨q, os, rfl⟩ := h
 obtain ⟨q', os', rfl⟩ := h'
 refine ⟨q + q', os ++ os', ?_⟩
 simp only [Sort.grow, World.drewN, Array.append_assoc, Nat.add_assoc]
theorem Grown.below {w w' : World} (h : Grown w w') : Below w.heap.size w w' := by
 obtain ⟨q, os, rfl⟩ := h
 refine ⟨rfl, rfl, rfl, by simp [Sort.grow, World.drewN], fun k hk => ?_⟩
 simp only [Sort.grow, World.drewN]
 rw [Array.getElem?_append_left hk]
end
section
open Go.RowKit
theorem load_bytes (w : World) (b off : Nat) (xs : List Int) (hc : ∀ t, t < xs.length → w.cell? ⟨b, off + t, none⟩ = some (.int .u8 (xs.getD t 0))) :
  (Extern.Bytes.loadBytes ⟨b, off, none⟩ xs.length .empty).run Tryz.prog w = .ok ⟨(Lib.bytesOf xs).toArray⟩ w := by
 have hl := Lib.run_loadBytesX (P := Tryz.prog) w xs ⟨b, off, none⟩ .empty (fun j x hj => by
  have hjl : j < xs.length := (List.getElem?_eq_some_iff.1 hj).1
  have e : (⟨b, off, none⟩ : Addr).add j = ⟨b, off + j, none⟩ := by unfold Addr.add; split <;> simp_all
  rw [e, hc j (by omega), List.getD_eq_getElem?_getD, hj]
  rfl)
 rw [hl]
 congr 1
 apply ByteArray.ext
 show (#[] : Array UInt8) ++ (Lib.bytesOf xs).toArray = (Lib.bytesOf xs).toArray
 simp
theorem run_compareSlice (w : World) (b1 o1 c1 b2 o2 c2 : Nat) (xs ys : List Int) (h1 : ∀ t, t < xs.length → w.cell? ⟨b1, o1 + t, none⟩ = some (.int .u8 (xs.getD t 0))) (h2 : ∀ t, t < ys.length → w.cell? ⟨b2, o2 + t, none⟩ = some (.int .u8 (ys.getD t 0))) :
  (Extern.BytealgCompare.compare #[.slice (some ⟨b1, o1, none⟩) xs.length c1, .slice (some ⟨b2, o2, none⟩) ys.length c2]).run Tryz.prog w = .ok (.int .i64 (Lib.compareBytes (Lib.bytesOf xs) (Lib.bytesOf ys))) w := by
 have l1 := load_bytes w b1 o1 xs h1
 have l2 := load_bytes w b2 o2 ys h2
 change Sem.run Tryz.prog (do pure (goInt (Extern.BytealgCompare.cmp (← Extern.Bytes.bytesOf (.slice (some ⟨b1, o1, none⟩) xs.length c1)) (← Extern.Bytes.bytesOf (.slice (some ⟨b2, o2, none⟩) ys.length c2))))) w = _
 simp only [Extern.Bytes.bytesOf, Sem.run_bind, Sem.run_pure, l1, l2, Result.andThen]
 rw [Lib.cmp_eq]
 rfl
set_option maxRecDepth 100000 in
theorem bcompare_any (w : World) (b1 o1 c1 b2 o2 c2 : Nat) (xs ys : List Int) (h1 : ∀ t, t < xs.length → w.cell? ⟨b1, o1 + t, none⟩ = some (.int .u8 (xs.getD t 0))) (h2 : ∀ t, t < ys.length → w.cell? ⟨b2, o2 + t, none⟩ = some (.int .u8 (ys.getD t 0)))
  (hl : xs.length = ys.length) (hx : ∀ c ∈ xs, 0 ≤ c ∧ c < 256) (hy : ∀ c ∈ ys, 0 ≤ c ∧ c < 256) :
  Calls Tryz.prog 249 #[.slice (some ⟨b1, o1, none⟩) xs.length c1, .slice (some ⟨b2, o2, none⟩) ys.length c2] w fun e w' => e = .returned (.int .i64 (lexF xs ys)) ∧ w' = w := by
 have hr := run_compareSlice w b1 o1 c1 b2 o2 c2 xs ys h1 h2
 rw [compare_lex xs ys hl hx hy] at hr
 generalize lexF xs ys = r at *
 generalize xs.length = n1 at *
 generalize ys.length = n2 at *
 clear h1 h2 hx hy hl
 go_enter Tryz.func249, Tryz.ntmps249
 go_wp2
 rw [run_callFunc_extern Tryz.func257 (by kernel_rfl) (by kernel_rfl) (by kernel_rfl) (e := Extern.BytealgCompare.compare) (by kernel_rfl), hr]
 simp only [Result.andThen]
 rw [Oper.upon_value]
 go_wp2
 go_ret
 exact ⟨rfl, rfl⟩
set_option maxRecDepth 100000 in
set_option maxHeartbeats 1600000 in
theorem keys_any (a b : List Int) (w : World) (ha : a.length = 8) (hb : b.length = 8) (hx : ∀ c ∈ a, 0 ≤ c ∧ c < 256) (hy : ∀ c ∈ b, 0 ≤ c ∧ c < 256) : Calls Tryz.prog 235 #[.agg (cells8 a), .agg (cells8 b)] w fun e w' => e = .returned (.int .i64 (lexF a b)) ∧ Below w.heap.size w w' := by
 have hA : Box ((w.alloc (.cells (cells8 a) 81)).alloc (.cells (cells8 b) 81)) w.heap.size (cells8 a) 81 := (box_new w _ _).belowI ((Below.refl _ _).alloc (Nat.le_refl _) _)
 have hB : Box ((w.alloc (.cells (cells8 a) 81)).alloc (.cells (cells8 b) 81)) (w.heap.size + 1) (cells8 b) 81 := by
  have := box_new (w.alloc (.cells (cells8 a) 81)) (cells8 b) 81
  rw [World.size_alloc] at this
  exact this
 have hc1 : ∀ n t, t < a.length → (((w.alloc (.cells (cells8 a) 81)).alloc (.cells (cells8 b) 81)).drewN n).cell? ⟨w.heap.size, 0 + t, none⟩ = some (.int .u8 (a.getD t 0)) := fun n t ht => by
  rw [Nat.zero_add]; exact hA.cell t _ (by simp [cells8, List.getD, ht])
 have hc2 : ∀ n t, t < b.length → (((w.alloc (.cells (cells8 a) 81)).alloc (.cells (cells8 b) 81)).drewN n).cell? ⟨w.heap.size + 1, 0 + t, none⟩ = some (.int .u8 (b.getD t 0)) := fun n t ht => by
  rw [Nat.zero_add]; exact hB.cell t _ (by simp [cells8, List.getD, ht])
 have HC : Hid (∀ n, Calls Tryz.prog 249 #[.slice (some ⟨w.heap.size, 0, none⟩) 8 8, .slice (some ⟨w.heap.size + 1, 0, none⟩) 8 8] (((w.alloc (.cells (cells8 a) 81)).alloc (.cells (cells8 b) 81)).drewN n) fun e w' => e = .returned (.int .i64 (lexF a b)) ∧ w' = (((w.alloc (.cells (cells8 a) 81)).alloc (.cells (cells8 b) 81)).drewN n)) := hide (fun n => by
  have h := bcompare_any _ w.heap.size 0 8 (w.heap.size + 1) 0 8 a b (hc1 n) (hc2 n) (by omega) hx hy
  rw [ha, hb] at h
  exact h)
 clear hA hB hc1 hc2 hx hy
 generalize lexF a b = r at *
 generalize cells8 a = ca at *
 generalize cells8 b = cb at *
 go_enter Tryz.func235, Tryz.ntmps235
 go_wp2
 go_quiet ((go_at_call 249; exact Calls.quiet_of_same (HC.out _)))
 go_wp2
 go_ret
 exact ⟨rfl, below_drewN (((Below.refl _ _).alloc (Nat.le_refl _) _).alloc (by simp) _)⟩
end
section
open Go.RowKit Classical
theorem en10_keys : ∀ args w, (callFunc 235 args).run Tryz.prog w = .ok (.enter 235 args) w := enters_of Tryz.func235 (by kernel_rfl) rfl
theorem wpList_load_mid_g {ops : Array Oper} {rest : List Oper} {op : Oper} {a : Act} {w : World} {Q : Exit → Act → World → Prop} (hgd : Region.wanted op (yielded ops a.tmps) = true) (ty : TypeId) (x : Operand) (ho : op.op = .load ty x)
  (b o : Nat) (hx : a.eval x = .pointer (some ⟨b, o, none⟩)) (cs : List Value) (d : TypeDesc) (hc : w.rangeAt b o cs)
  (hu : Tryz.prog.underlying ty = some d) (hd : d.isRow = true) (hi : (Tryz.prog.info? ty).map (·.size) = some cs.length)
  (h : wpList Tryz.prog ops Q rest (a.put op.dst (.agg cs.toArray)) w) : wpList Tryz.prog ops Q (op :: rest) a w :=
 wpList_wanted hgd fun _ hK => wp_load_mid ty x ho b o hx cs d hc hu hd hi (hK _ _ h)
theorem wr_oneA10 (x : WrP) : (wrA x).all (·.oneCell') = true := by
 rw [Array.all_eq_true_iff_forall_mem]
 intro u hu
 exact wr_one x u (by simpa using hu)
set_option maxRecDepth 100000 in
set_option maxHeartbeats 3200000 in
theorem writesMay_any (v : Value) (ws : List WrP) (w : World) (h : RSrc wrE w v ws) (hok : ∀ x ∈ ws, KeyOk x.key ∧ ItOk x.it) :
  Calls Tryz.prog 190 #[v] w fun e w' => e = .returned (.bool (wsMayB ws)) ∧ Below w.heap.size w w' := by
 obtain ⟨a1, c1, rfl, hc1, hm1⟩ := h.shape
 have H1 := hide h
 have HA := hide hok
 obtain ⟨R, hR⟩ : ∃ R, R = wsMayB ws := ⟨_, rfl⟩
 rw [← hR]
 have HR := hide hR
 obtain ⟨L1, hL1⟩ : ∃ L1, L1 = ws.length := ⟨_, rfl⟩
 rw [← hL1]
 rw [← hL1] at hc1
 have HL1 := hide hL1
 clear h hok hR hL1 hm1
 by_cases hlen : L1 ≤ 16
 rotate_left
 ·have hz : decide ((L1 : Int) > 16) = true := decide_eq_true (by omega)
  have HE : Hid (R = false) := hide (by
   rw [HR.out]
   cases hq : wsMayB ws with
   | false => rfl
   | true => have := (ws_all.1 hq).2; rw [← HL1.out] at this; exact absurd this hlen)
  have hz2 : (16 : Int) < (L1 : Int) := by omega
  clear hlen
  go_enter Tryz.func190, Tryz.ntmps190
  go_wp2_with fail
  go_ret
  exact ⟨by rw [HE.out]; rfl, Below.refl _ _⟩
 have hz16 : ¬ ((16 : Int) < (L1 : Int)) := by omega
 go_enter Tryz.func190, Tryz.ntmps190
 go_wp2_with fail
 clear hz16
 go_loopg [10] L1 (fun g i wr => ∃ k : Nat, k + g = L1 ∧ i = .int .i64 k ∧ Hid (Below w.heap.size w wr) ∧ Hid (∀ j, j < k → okAt ws j = true))
 case atStart => exact ⟨0, by omega, rfl, hide (Below.refl _ _), hide (fun j h => absurd h (Nat.not_lt_zero _))⟩
 case round =>
  obtain ⟨k, hk, rfl, HBW, HT⟩ := hrel
  cases gk with
  | zero =>
   obtain rfl : k = L1 := by omega
   have hz : ¬ ((k : Int) < (k : Int)) := by omega
   have HE : Hid (R = true) := hide (by
    rw [HR.out, ws_all, ← HL1.out]
    exact ⟨fun j hj => HT.out j hj, by omega⟩)
   go_wp2_with fail
   go_ret
   exact ⟨by rw [HE.out]; rfl, HBW.out⟩
  | succ g =>
   have hz : (k : Int) < (L1 : Int) := by omega
   have hz0 : (0 : Int) ≤ (k : Int) := by omega
   have hk1 : k < ws.length := by rw [← HL1.out]; omega
   have hkl : k < L1 := by omega
   have hS1 : RSrc wrE wr (.slice a1 L1 c1) ws := by have := H1.out.below HBW.out; rw [← HL1.out] at this; exact this
   obtain ⟨b1, o1, rfl, hr1⟩ := hS1.range hk1
   have hbl : b1 < wr.heap.size := by obtain ⟨_, _, _, e, hb, _⟩ := hS1.at recWR.len hk1; cases e; exact hb
   obtain ⟨x, hx⟩ : ∃ x, x = ws[k] := ⟨_, rfl⟩
   rw [← hx] at hr1
   have HR1 := hide hr1
   have HXD : Hid (ws.getD k zeroWr = x) := hide (by rw [hx]; simp [List.getD, hk1])
   have HXO : Hid (KeyOk x.key ∧ ItOk x.it) := hide (by rw [hx]; exact HA.out _ (List.getElem_mem hk1))
   have CK := hide (fun W => keyMay_any x.key HXO.out.1 W)
   have CI := hide (fun W => itemMay_any x.it HXO.out.2 W)
   have HZ := hide (box_new wr (wrA zeroWr) 91)
   have HBA := hide (alloc_below10 wr (.cells (wrA zeroWr) 91))
   have HK1 := hide hk1
   have HS1 := hide hS1
   have HBL := hide hbl
   clear hr1 hx hk1 hS1 hbl
   go_wp2_with (first
    | (refine wpList_load_mid rfl _ _ rfl b1 (o1 + k * 21) rfl (wrE x) _ HR1.out Tryz.underlying91 rfl infoWrite ?_)
    | (refine wp_store_box rfl rfl _ _ rfl wr.heap.size rfl (cs' := wrA x) rfl HZ.out rfl infoWrite (wr_oneA10 x) ?_; intro w4 hb4 hk4; have HX4 := hide hb4; have HK4 := hide hk4; have HRK := hide (range_key (x := x) (box_range hb4 0 _ (fun j u hu => by rw [Nat.zero_add, List.getElem?_toArray]; exact hu))); clear hb4 hk4)
    | (refine wpList_load_mid rfl _ _ rfl wr.heap.size 0 rfl (eightE x.key) _ HRK.out Tryz.underlying81 rfl infoKey10 ?_))
   have HB4 : Hid (Below wr.heap.size wr w4) := hide (HBA.out.trans (HK4.out.below HBA.out.size (fun k e => by omega)))
   clear HZ HBA HK4 HRK
   refine (CK.out w4).mono ?_
   rintro e w5 ⟨rfl, hB5⟩
   have HB5 := hide (HB4.out.trans (hB5.mono HB4.out.size))
   have HX5 := hide (HX4.out.belowI hB5)
   clear hB5 HB4 HX4 CK
   cases hkey : (nameF x.key).2 with
   | false =>
    have HE : Hid (R = false) := hide (by rw [HR.out]; exact ws_not HK1.out (by unfold okAt; rw [HXD.out, hkey]; rfl))
    clear hkey
    go_wp2_with fail
    go_ret
    exact ⟨by rw [HE.out]; rfl, HBW.out.trans (HB5.out.mono HBW.out.size)⟩
   | true =>
    have HRI := hide (range_item (x := x) (box_range HX5.out 0 _ (fun j u hu => by rw [Nat.zero_add, List.getElem?_toArray]; exact hu)))
    go_wp2_with (refine wpList_load_mid_g ?_ _ _ rfl wr.heap.size (0 + 8) rfl (itE x.it) _ HRI.out Tryz.underlying85 rfl infoItem ?_; rfl)
    refine (CI.out w5).mono ?_
    rintro e w6 ⟨rfl, hB6⟩
    have HB6 := hide (HB5.out.trans (hB6.mono HB5.out.size))
    have HX6 := hide (HX5.out.belowI hB6)
    clear hB6 HB5 HX5 CI HRI
    cases hit : itMayB x.it with
    | false =>
     have HE : Hid (R = false) := hide (by rw [HR.out]; exact ws_not HK1.out (by unfold okAt; rw [HXD.out, hit, Bool.and_false]; rfl))
     clear hkey hit
     go_wp2_with fail
     go_ret
     exact ⟨by rw [HE.out]; rfl, HBW.out.trans (HB6.out.mono HBW.out.size)⟩
    | true =>
     cases k with
     | zero =>
      have HT2 : Hid (∀ j, j < 0 + 1 → okAt ws j = true) := hide (fun j hj => by
       obtain rfl : j = 0 := by omega
       unfold okAt keysB
       rw [HXD.out, hkey, hit]
       rfl)
      clear hkey hit
      go_wp2_with fail
      refine wp_region_vals (by kernel_rfl) [(25, .int .i64 ((0 : Nat) : Int)), (26, .bool false), (27, .bool false), (28, undef), (29, undef), (30, undef), (31, undef), (32, undef), (33, undef), (34, undef), (35, undef), (36, undef), (37, undef), (38, .bool false)] (by kernel_rfl) rfl ?_ ?_
      ·intro i o hi A w1 hB hold hdeps
       have hlt : i < 14 := (Array.getElem?_eq_some_iff.1 hi).1
       have hc : i = 0 ∨ i = 1 ∨ i = 2 ∨ i = 3 ∨ i = 4 ∨ i = 5 ∨ i = 6 ∨ i = 7 ∨ i = 8 ∨ i = 9 ∨ i = 10 ∨ i = 11 ∨ i = 12 ∨ i = 13 := by omega
       clear hlt
       rcases hc with rfl | rfl | rfl | rfl | rfl | rfl | rfl | rfl | rfl | rfl | rfl | rfl | rfl | rfl
       ·obtain rfl := Option.some.inj hi
        have s3 : A.tmps.getD 3 undef = .int .i64 ((0 : Nat) : Int) := hold 3 (by kernel_rfl)
        exact r_pure hi rfl rfl (y_move _ s3)
       ·obtain rfl := Option.some.inj hi
        have s25 : A.tmps.getD 25 undef = .int .i64 ((0 : Nat) : Int) := dep_of hdeps 0 (by kernel_rfl)
        exact r_pure hi rfl rfl (y_gtr0 _ _ s25 rfl (by simp))
       ·obtain rfl := Option.some.inj hi
        have s26 : A.tmps.getD 26 undef = .bool false := dep_of hdeps 1 (by kernel_rfl)
        exact r_pure hi rfl rfl (y_move _ s26)
       ·obtain rfl := Option.some.inj hi
        have g3 : A.tmps.getD 27 undef = .bool false := dep_of hdeps 2 (by kernel_rfl)
        exact each_skip hi rfl rfl (fun e => absurd (g3.symm.trans e) (by simp)) rfl
       ·obtain rfl := Option.some.inj hi
        have g4 : A.tmps.getD 27 undef = .bool false := dep_of hdeps 2 (by kernel_rfl)
        exact each_skip hi rfl rfl (fun e => absurd (g4.symm.trans e) (by simp)) rfl
       ·obtain rfl := Option.some.inj hi
        have g5 : A.tmps.getD 27 undef = .bool false := dep_of hdeps 2 (by kernel_rfl)
        exact each_skip hi rfl rfl (fun e => absurd (g5.symm.trans e) (by simp)) rfl
       ·obtain rfl := Option.some.inj hi
        have g6 : A.tmps.getD 27 undef = .bool false := dep_of hdeps 2 (by kernel_rfl)
        exact each_skip hi rfl rfl (fun e => absurd (g6.symm.trans e) (by simp)) rfl
       ·obtain rfl := Option.some.inj hi
        have g7 : A.tmps.getD 27 undef = .bool false := dep_of hdeps 2 (by kernel_rfl)
        exact each_skip hi rfl rfl (fun e => absurd (g7.symm.trans e) (by simp)) rfl
       ·obtain rfl := Option.some.inj hi
        have g8 : A.tmps.getD 27 undef = .bool false := dep_of hdeps 2 (by kernel_rfl)
        exact each_skip hi rfl rfl (fun e => absurd (g8.symm.trans e) (by simp)) rfl
       ·obtain rfl := Option.some.inj hi
        have g9 : A.tmps.getD 27 undef = .bool false := dep_of hdeps 2 (by kernel_rfl)
        exact each_skip hi rfl rfl (fun e => absurd (g9.symm.trans e) (by simp)) rfl
       ·obtain rfl := Option.some.inj hi
        have g10 : A.tmps.getD 27 undef = .bool false := dep_of hdeps 2 (by kernel_rfl)
        exact each_skip hi rfl rfl (fun e => absurd (g10.symm.trans e) (by simp)) rfl
       ·obtain rfl := Option.some.inj hi
        have g11 : A.tmps.getD 27 undef = .bool false := dep_of hdeps 2 (by kernel_rfl)
        exact each_skip hi rfl rfl (fun e => absurd (g11.symm.trans e) (by simp)) rfl
       ·obtain rfl := Option.some.inj hi
        have g12 : A.tmps.getD 27 undef = .bool false := dep_of hdeps 2 (by kernel_rfl)
        exact each_skip hi rfl rfl (fun e => absurd (g12.symm.trans e) (by simp)) rfl
       ·obtain rfl := Option.some.inj hi
        have s27 : A.tmps.getD 27 undef = .bool false := dep_of hdeps 2 (by kernel_rfl)
        exact r_pure hi rfl rfl (y_pickF _ _ _ s27 rfl)
      ·intro w8 hB8
       simp only [putAll, Act.put, List.setIfInBounds_toArray, List.set_cons_succ, List.set_cons_zero]
       have HB8 := hide hB8
       clear hB8
       go_wp2_with fail
       go_roundg g
       case measure => omega
       case rel => exact ⟨0 + 1, by omega, by first | rfl | go_num, hide (HBW.out.trans ((HB6.out.trans (HB8.out.mono HB6.out.size)).mono HBW.out.size)), HT2⟩
     | succ k =>
      have hk0 : k < ws.length := by have := HK1.out; omega
      have hkl0 : k < L1 := by omega
      obtain ⟨b2, o2, e2, hr2⟩ := HS1.out.range hk0
      cases e2
      obtain ⟨y, hy⟩ : ∃ y, y = ws[k] := ⟨_, rfl⟩
      rw [← hy] at hr2
      have HR2 := hide hr2
      have HYD : Hid (ws.getD k zeroWr = y) := hide (by rw [hy]; simp [List.getD, hk0])
      have HYO : Hid (KeyOk y.key) := hide (by rw [hy]; exact (HA.out _ (List.getElem_mem hk0)).1)
      have CX : Hid (∀ W, Calls Tryz.prog 235 #[.agg (eightA y.key), .agg (eightA x.key)] W fun e w' => e = .returned (.int .i64 (lexF y.key x.key)) ∧ Below W.heap.size W w') := hide (fun W => by
       have := keys_any y.key x.key W HYO.out.l HXO.out.1.l HYO.out.b HXO.out.1.b
       rw [eight_cells8 HYO.out.l, eight_cells8 HXO.out.1.l] at this
       exact this)
      have hsm : k < 1000000 := by omega
      have HKB : Hid (keysB ws (k + 1) = decide (lexF y.key x.key < 0)) := hide (by unfold keysB; rw [Nat.add_sub_cancel, HXD.out, HYD.out]; simp)
      obtain ⟨r, hr⟩ : ∃ r, r = lexF y.key x.key := ⟨_, rfl⟩
      rw [← hr] at CX HKB
      clear hr2 hy hr hk0
      have hbl := HBL.out
      by_cases hlt : r < 0
      ·have dge : decide (0 ≤ r) = false := decide_eq_false (by omega)
       have HT2 : Hid (∀ j, j < k + 1 + 1 → okAt ws j = true) := hide (fun j hj => by
        rcases Nat.lt_or_ge j (k + 1) with h | h
        ·exact HT.out j h
        ·obtain rfl : j = k + 1 := by omega
         unfold okAt
         rw [HXD.out, hkey, hit, HKB.out, decide_eq_true hlt]
         rfl)
       clear hkey hit
       go_wp2_with fail
       refine wp_region_vals (by kernel_rfl) [(25, .int .i64 ((k + 1 : Nat) : Int)), (26, .bool true), (27, .bool true), (28, .slice (some ⟨b1, o1, none⟩) L1 c1), (29, .int .i64 ((k + 1 : Nat) : Int)), (30, .int .i64 (k : Int)), (31, .pointer (some ⟨b1, o1 + k * 21, none⟩)), (32, .pointer (some ⟨b1, o1 + k * 21, none⟩)), (33, .agg (eightA y.key)), (34, .pointer (some ⟨wr.heap.size, 0, none⟩)), (35, .agg (eightA x.key)), (36, .int .i64 r), (37, .bool false), (38, .bool false)] (by kernel_rfl) rfl ?_ ?_
       ·intro i o hi A w1 hB hold hdeps
        have hlt : i < 14 := (Array.getElem?_eq_some_iff.1 hi).1
        have hc : i = 0 ∨ i = 1 ∨ i = 2 ∨ i = 3 ∨ i = 4 ∨ i = 5 ∨ i = 6 ∨ i = 7 ∨ i = 8 ∨ i = 9 ∨ i = 10 ∨ i = 11 ∨ i = 12 ∨ i = 13 := by omega
        clear hlt
        rcases hc with rfl | rfl | rfl | rfl | rfl | rfl | rfl | rfl | rfl | rfl | rfl | rfl | rfl | rfl
        ·obtain rfl := Option.some.inj hi
         have s3 : A.tmps.getD 3 undef = .int .i64 ((k + 1 : Nat) : Int) := hold 3 (by kernel_rfl)
         exact r_pure hi rfl rfl (y_move _ s3)
        ·obtain rfl := Option.some.inj hi
         have s25 : A.tmps.getD 25 undef = .int .i64 ((k + 1 : Nat) : Int) := dep_of hdeps 0 (by kernel_rfl)
         exact r_pure hi rfl rfl (y_gtr0 _ _ s25 rfl (by simp))
        ·obtain rfl := Option.some.inj hi
         have s26 : A.tmps.getD 26 undef = .bool true := dep_of hdeps 1 (by kernel_rfl)
         exact r_pure hi rfl rfl (y_move _ s26)
        ·obtain rfl := Option.some.inj hi
         have g3 : A.tmps.getD 27 undef = .bool true := dep_of hdeps 2 (by kernel_rfl)
         have s0 : A.tmps.getD 0 undef = .slice (some ⟨b1, o1, none⟩) L1 c1 := hold 0 (by kernel_rfl)
         exact r_pure hi (wanted_of rfl rfl g3) rfl (y_move _ s0)
        ·obtain rfl := Option.some.inj hi
         have g4 : A.tmps.getD 27 undef = .bool true := dep_of hdeps 2 (by kernel_rfl)
         have s3 : A.tmps.getD 3 undef = .int .i64 ((k + 1 : Nat) : Int) := hold 3 (by kernel_rfl)
         exact r_pure hi (wanted_of rfl rfl g4) rfl (y_move _ s3)
        ·obtain rfl := Option.some.inj hi
         have g5 : A.tmps.getD 27 undef = .bool true := dep_of hdeps 2 (by kernel_rfl)
         have s29 : A.tmps.getD 29 undef = .int .i64 ((k + 1 : Nat) : Int) := dep_of hdeps 4 (by kernel_rfl)
         exact r_pure hi (wanted_of rfl rfl g5) rfl (y_sub1 _ _ s29 rfl hsm)
        ·obtain rfl := Option.some.inj hi
         have g6 : A.tmps.getD 27 undef = .bool true := dep_of hdeps 2 (by kernel_rfl)
         have s28 : A.tmps.getD 28 undef = .slice (some ⟨b1, o1, none⟩) L1 c1 := dep_of hdeps 3 (by kernel_rfl)
         have s30 : A.tmps.getD 30 undef = .int .i64 (k : Int) := dep_of hdeps 5 (by kernel_rfl)
         exact r_pure hi (wanted_of rfl rfl g6) rfl (y_idxW _ _ s28 s30 hkl0)
        ·obtain rfl := Option.some.inj hi
         have g7 : A.tmps.getD 27 undef = .bool true := dep_of hdeps 2 (by kernel_rfl)
         have s31 : A.tmps.getD 31 undef = .pointer (some ⟨b1, o1 + k * 21, none⟩) := dep_of hdeps 6 (by kernel_rfl)
         exact r_pure hi (wanted_of rfl rfl g7) rfl (y_fldW0 _ s31)
        ·obtain rfl := Option.some.inj hi
         have g8 : A.tmps.getD 27 undef = .bool true := dep_of hdeps 2 (by kernel_rfl)
         have s32 : A.tmps.getD 32 undef = .pointer (some ⟨b1, o1 + k * 21, none⟩) := dep_of hdeps 7 (by kernel_rfl)
         exact r_pure hi (wanted_of rfl rfl g8) rfl (y_loadMid _ _ s32 (range_below (range_key HR2.out) hbl (HB6.out.trans (hB.mono HB6.out.size))) Tryz.underlying81 rfl infoKey10)
        ·obtain rfl := Option.some.inj hi
         have g9 : A.tmps.getD 27 undef = .bool true := dep_of hdeps 2 (by kernel_rfl)
         have s4 : A.tmps.getD 4 undef = .pointer (some ⟨wr.heap.size, 0, none⟩) := hold 4 (by kernel_rfl)
         exact r_pure hi (wanted_of rfl rfl g9) rfl (y_fldW0 _ s4)
        ·obtain rfl := Option.some.inj hi
         have g10 : A.tmps.getD 27 undef = .bool true := dep_of hdeps 2 (by kernel_rfl)
         have s34 : A.tmps.getD 34 undef = .pointer (some ⟨wr.heap.size, 0, none⟩) := dep_of hdeps 9 (by kernel_rfl)
         exact r_pure hi (wanted_of rfl rfl g10) rfl (y_loadMid _ _ s34 (range_key (x := x) (box_range (HX6.out.belowI hB) 0 _ (fun j u hu => by rw [Nat.zero_add, List.getElem?_toArray]; exact hu))) Tryz.underlying81 rfl infoKey10)
        ·obtain rfl := Option.some.inj hi
         have g11 : A.tmps.getD 27 undef = .bool true := dep_of hdeps 2 (by kernel_rfl)
         have s33 : A.tmps.getD 33 undef = .agg (eightA y.key) := dep_of hdeps 8 (by kernel_rfl)
         have s35 : A.tmps.getD 35 undef = .agg (eightA x.key) := dep_of hdeps 10 (by kernel_rfl)
         exact r_enter hi (wanted_of rfl rfl g11) rfl (y_call 235 _ #[.agg (eightA y.key), .agg (eightA x.key)] _ rfl (by simp only [List.map_toArray, List.map_cons, List.map_nil, show A.eval (.tmp 33) = .agg (eightA y.key) from s33, show A.eval (.tmp 35) = .agg (eightA x.key) from s35]; try rfl) en10_keys) (CX.out w1)
        ·obtain rfl := Option.some.inj hi
         have g12 : A.tmps.getD 27 undef = .bool true := dep_of hdeps 2 (by kernel_rfl)
         have s36 : A.tmps.getD 36 undef = .int .i64 r := dep_of hdeps 11 (by kernel_rfl)
         exact r_pure hi (wanted_of rfl rfl g12) rfl (y_geq0 _ _ s36 rfl dge)
        ·obtain rfl := Option.some.inj hi
         have s27 : A.tmps.getD 27 undef = .bool true := dep_of hdeps 2 (by kernel_rfl)
         have s37 : A.tmps.getD 37 undef = .bool false := dep_of hdeps 12 (by kernel_rfl)
         exact r_pure hi rfl rfl (y_pickT _ _ _ s27 s37)
       ·intro w8 hB8
        simp only [putAll, Act.put, List.setIfInBounds_toArray, List.set_cons_succ, List.set_cons_zero]
        have HB8 := hide hB8
        clear hB8
        go_wp2_with fail
        go_roundg g
        case measure => omega
        case rel => exact ⟨k + 1 + 1, by omega, by first | rfl | go_num, hide (HBW.out.trans ((HB6.out.trans (HB8.out.mono HB6.out.size)).mono HBW.out.size)), HT2⟩
      ·have dge : decide (0 ≤ r) = true := decide_eq_true (by omega)
       have HE : Hid (R = false) := hide (by rw [HR.out]; exact ws_not HK1.out (by unfold okAt; rw [HKB.out, decide_eq_false hlt, Bool.and_false]))
       clear hkey hit
       go_wp2_with fail
       refine wp_region_vals (by kernel_rfl) [(25, .int .i64 ((k + 1 : Nat) : Int)), (26, .bool true), (27, .bool true), (28, .slice (some ⟨b1, o1, none⟩) L1 c1), (29, .int .i64 ((k + 1 : Nat) : Int)), (30, .int .i64 (k : Int)), (31, .pointer (some ⟨b1, o1 + k * 21, none⟩)), (32, .pointer (some ⟨b1, o1 + k * 21, none⟩)), (33, .agg (eightA y.key)), (34, .pointer (some ⟨wr.heap.size, 0, none⟩)), (35, .agg (eightA x.key)), (36, .int .i64 r), (37, .bool true), (38, .bool true)] (by kernel_rfl) rfl ?_ ?_
       ·intro i o hi A w1 hB hold hdeps
        have hlt : i < 14 := (Array.getElem?_eq_some_iff.1 hi).1
        have hc : i = 0 ∨ i = 1 ∨ i = 2 ∨ i = 3 ∨ i = 4 ∨ i = 5 ∨ i = 6 ∨ i = 7 ∨ i = 8 ∨ i = 9 ∨ i = 10 ∨ i = 11 ∨ i = 12 ∨ i = 13 := by omega
        clear hlt
        rcases hc with rfl | rfl | rfl | rfl | rfl | rfl | rfl | rfl | rfl | rfl | rfl | rfl | rfl | rfl
        ·obtain rfl := Option.some.inj hi
         have s3 : A.tmps.getD 3 undef = .int .i64 ((k + 1 : Nat) : Int) := hold 3 (by kernel_rfl)
         exact r_pure hi rfl rfl (y_move _ s3)
        ·obtain rfl := Option.some.inj hi
         have s25 : A.tmps.getD 25 undef = .int .i64 ((k + 1 : Nat) : Int) := dep_of hdeps 0 (by kernel_rfl)
         exact r_pure hi rfl rfl (y_gtr0 _ _ s25 rfl (by simp))
        ·obtain rfl := Option.some.inj hi
         have s26 : A.tmps.getD 26 undef = .bool true := dep_of hdeps 1 (by kernel_rfl)
         exact r_pure hi rfl rfl (y_move _ s26)
        ·obtain rfl := Option.some.inj hi
         have g3 : A.tmps.getD 27 undef = .bool true := dep_of hdeps 2 (by kernel_rfl)
         have s0 : A.tmps.getD 0 undef = .slice (some ⟨b1, o1, none⟩) L1 c1 := hold 0 (by kernel_rfl)
         exact r_pure hi (wanted_of rfl rfl g3) rfl (y_move _ s0)
        ·obtain rfl := Option.some.inj hi
         have g4 : A.tmps.getD 27 undef = .bool true := dep_of hdeps 2 (by kernel_rfl)
         have s3 : A.tmps.getD 3 undef = .int .i64 ((k + 1 : Nat) : Int) := hold 3 (by kernel_rfl)
         exact r_pure hi (wanted_of rfl rfl g4) rfl (y_move _ s3)
        ·obtain rfl := Option.some.inj hi
         have g5 : A.tmps.getD 27 undef = .bool true := dep_of hdeps 2 (by kernel_rfl)
         have s29 : A.tmps.getD 29 undef = .int .i64 ((k + 1 : Nat) : Int) := dep_of hdeps 4 (by kernel_rfl)
         exact r_pure hi (wanted_of rfl rfl g5) rfl (y_sub1 _ _ s29 rfl hsm)
        ·obtain rfl := Option.some.inj hi
         have g6 : A.tmps.getD 27 undef = .bool true := dep_of hdeps 2 (by kernel_rfl)
         have s28 : A.tmps.getD 28 undef = .slice (some ⟨b1, o1, none⟩) L1 c1 := dep_of hdeps 3 (by kernel_rfl)
         have s30 : A.tmps.getD 30 undef = .int .i64 (k : Int) := dep_of hdeps 5 (by kernel_rfl)
         exact r_pure hi (wanted_of rfl rfl g6) rfl (y_idxW _ _ s28 s30 hkl0)
        ·obtain rfl := Option.some.inj hi
         have g7 : A.tmps.getD 27 undef = .bool true := dep_of hdeps 2 (by kernel_rfl)
         have s31 : A.tmps.getD 31 undef = .pointer (some ⟨b1, o1 + k * 21, none⟩) := dep_of hdeps 6 (by kernel_rfl)
         exact r_pure hi (wanted_of rfl rfl g7) rfl (y_fldW0 _ s31)
        ·obtain rfl := Option.some.inj hi
         have g8 : A.tmps.getD 27 undef = .bool true := dep_of hdeps 2 (by kernel_rfl)
         have s32 : A.tmps.getD 32 undef = .pointer (some ⟨b1, o1 + k * 21, none⟩) := dep_of hdeps 7 (by kernel_rfl)
         exact r_pure hi (wanted_of rfl rfl g8) rfl (y_loadMid _ _ s32 (range_below (range_key HR2.out) hbl (HB6.out.trans (hB.mono HB6.out.size))) Tryz.underlying81 rfl infoKey10)
        ·obtain rfl := Option.some.inj hi
         have g9 : A.tmps.getD 27 undef = .bool true := dep_of hdeps 2 (by kernel_rfl)
         have s4 : A.tmps.getD 4 undef = .pointer (some ⟨wr.heap.size, 0, none⟩) := hold 4 (by kernel_rfl)
         exact r_pure hi (wanted_of rfl rfl g9) rfl (y_fldW0 _ s4)
        ·obtain rfl := Option.some.inj hi
         have g10 : A.tmps.getD 27 undef = .bool true := dep_of hdeps 2 (by kernel_rfl)
         have s34 : A.tmps.getD 34 undef = .pointer (some ⟨wr.heap.size, 0, none⟩) := dep_of hdeps 9 (by kernel_rfl)
         exact r_pure hi (wanted_of rfl rfl g10) rfl (y_loadMid _ _ s34 (range_key (x := x) (box_range (HX6.out.belowI hB) 0 _ (fun j u hu => by rw [Nat.zero_add, List.getElem?_toArray]; exact hu))) Tryz.underlying81 rfl infoKey10)
        ·obtain rfl := Option.some.inj hi
         have g11 : A.tmps.getD 27 undef = .bool true := dep_of hdeps 2 (by kernel_rfl)
         have s33 : A.tmps.getD 33 undef = .agg (eightA y.key) := dep_of hdeps 8 (by kernel_rfl)
         have s35 : A.tmps.getD 35 undef = .agg (eightA x.key) := dep_of hdeps 10 (by kernel_rfl)
         exact r_enter hi (wanted_of rfl rfl g11) rfl (y_call 235 _ #[.agg (eightA y.key), .agg (eightA x.key)] _ rfl (by simp only [List.map_toArray, List.map_cons, List.map_nil, show A.eval (.tmp 33) = .agg (eightA y.key) from s33, show A.eval (.tmp 35) = .agg (eightA x.key) from s35]; try rfl) en10_keys) (CX.out w1)
        ·obtain rfl := Option.some.inj hi
         have g12 : A.tmps.getD 27 undef = .bool true := dep_of hdeps 2 (by kernel_rfl)
         have s36 : A.tmps.getD 36 undef = .int .i64 r := dep_of hdeps 11 (by kernel_rfl)
         exact r_pure hi (wanted_of rfl rfl g12) rfl (y_geq0 _ _ s36 rfl dge)
        ·obtain rfl := Option.some.inj hi
         have s27 : A.tmps.getD 27 undef = .bool true := dep_of hdeps 2 (by kernel_rfl)
         have s37 : A.tmps.getD 37 undef = .bool true := dep_of hdeps 12 (by kernel_rfl)
         exact r_pure hi rfl rfl (y_pickT _ _ _ s27 s37)
       ·intro w8 hB8
        simp only [putAll, Act.put, List.setIfInBounds_toArray, List.set_cons_succ, List.set_cons_zero]
        have HB8 := hide hB8
        clear hB8
        go_wp2_with fail
        go_ret
        exact ⟨by rw [HE.out]; rfl, HBW.out.trans ((HB6.out.trans (HB8.out.mono HB6.out.size)).mono HBW.out.size)⟩
end
section
open Go.RowKit Classical
section
variable {ρ : Operand → Value} {w : World} {dst : Option Tmp} {ty : TypeId} {pos : String} {aft : Array Edge} {gd : Option (Nat × Bool)}
theorem y_idxU (x y : Operand) {b off n c k : Nat} (hx : ρ x = .slice (some ⟨b, off, none⟩) n c) (hy : ρ y = .int .i64 (k : Int)) (h : k < n) : (execOp ρ ⟨dst, .indexAddr 79 x y, ty, pos, aft, gd⟩).run Tryz.prog w = .ok (.value (.pointer (some ⟨b, off + k, none⟩))) w := by
 have h1 : (0 : Int) ≤ (k : Int) := by omega
 have h2 : (k : Int) < (n : Int) := by omega
 simp [go_sem, hx, hy, h1, h2]
theorem y_cell_u64 (x : Operand) {q o : Nat} {v : Value} (hx : ρ x = .pointer (some ⟨q, o, none⟩)) (h : w.cell? ⟨q, o, none⟩ = some v) : (execOp ρ ⟨dst, .load 77 x, ty, pos, aft, gd⟩).run Tryz.prog w = .ok (.value v) w := by simp [go_sem, hx, h]
end
theorem neq_u64_11 (a b : Int) (w : World) : (binOp .neq 77 (.int .u64 a) (.int .u64 b)).run Tryz.prog w = .ok (.bool (!(a == b))) w := by
 simp [go_sem]
 rfl
theorem lies_at {k : IntKind} {w : World} {ao : Option Addr} {n c : Nat} {xs : List Int} (h : Lies k w (.slice ao n c) xs) {i : Nat} (hi : i < xs.length) : ∃ b off, ao = some ⟨b, off, none⟩ ∧ b < w.heap.size ∧ w.cell? ⟨b, off + i, none⟩ = some (.int k (xs.getD i 0)) := by
 rcases h with ⟨he, _⟩ | ⟨_, b, off, cap, e, hb, _, _, hc⟩
 ·rw [he] at hi
  exact absurd hi (Nat.not_lt_zero _)
 ·cases e
  exact ⟨b, off, rfl, hb, hc i hi⟩
set_option maxRecDepth 100000 in
theorem rsets_any (v1 v2 : Value) (la lb : List Int) (w : World) (h1 : Lies .u64 w v1 la) (h2 : Lies .u64 w v2 lb) :
  Calls Tryz.prog 85 #[v1, v2] w fun e w' => e = .returned (.bool (decide (la = lb))) ∧ Below w.heap.size w w' := by
 have hm1 := h1.len
 have hm2 := h2.len
 unfold maxLen at hm1 hm2
 obtain ⟨a1, c1, rfl⟩ := h1.shape
 obtain ⟨a2, c2, rfl⟩ := h2.shape
 have H1 := hide h1
 have H2 := hide h2
 obtain ⟨R, hR⟩ : ∃ R, R = decide (la = lb) := ⟨_, rfl⟩
 rw [← hR]
 have HR := hide hR
 obtain ⟨L1, hL1⟩ : ∃ L1, L1 = la.length := ⟨_, rfl⟩
 obtain ⟨L2, hL2⟩ : ∃ L2, L2 = lb.length := ⟨_, rfl⟩
 rw [← hL1] at hm1
 rw [← hL2] at hm2
 rw [← hL1, ← hL2]
 have HL1 := hide hL1
 have HL2 := hide hL2
 clear h1 h2 hR hL1 hL2
 by_cases hl : L1 = L2
 ·subst hl
  have hne : ((L1 : Int) != (L1 : Int)) = false := by simp
  go_enter Tryz.func85, Tryz.ntmps85
  go_wp2_with fail
  go_loopg [5] L1 (fun g i wr => ∃ k : Nat, k + g = L1 ∧ i = .int .i64 k ∧ Hid (Below w.heap.size w wr) ∧ Hid (la.take k = lb.take k))
  case atStart => exact ⟨0, by omega, rfl, hide (Below.refl _ _), hide rfl⟩
  case round =>
   obtain ⟨k, hk, rfl, HBW, HT⟩ := hrel
   cases gk with
   | zero =>
    obtain rfl : k = L1 := by omega
    have hz : ¬ ((k : Int) < (k : Int)) := by omega
    have HE : Hid (R = true) := hide (by
     have := HT.out
     rw [HL1.out, List.take_length, ← HL1.out, HL2.out, List.take_length] at this
     rw [HR.out, decide_eq_true this])
    go_wp2_with fail
    go_ret
    exact ⟨by rw [HE.out]; rfl, HBW.out⟩
   | succ g =>
    have hz : (k : Int) < (L1 : Int) := by omega
    have hk1 : k < la.length := by rw [← HL1.out]; omega
    have hk2 : k < lb.length := by rw [← HL2.out]; omega
    have hkl : k < L1 := by omega
    have hS1 : Lies .u64 wr (.slice a1 L1 c1) la := by have := H1.out.below HBW.out; rw [← HL1.out] at this; exact this
    have hS2 : Lies .u64 wr (.slice a2 L1 c2) lb := by have := H2.out.below HBW.out; rw [← HL2.out] at this; exact this
    obtain ⟨b1, o1, rfl, hb1, hr1⟩ := lies_at hS1 hk1
    obtain ⟨b2, o2, rfl, hb2, hr2⟩ := lies_at hS2 hk2
    have HX1 : Hid (la.getD k 0 = la[k]) := hide (by simp [List.getD, hk1])
    have HX2 : Hid (lb.getD k 0 = lb[k]) := hide (by simp [List.getD, hk2])
    obtain ⟨x, hx⟩ : ∃ x, x = la.getD k 0 := ⟨_, rfl⟩
    obtain ⟨y, hy⟩ : ∃ y, y = lb.getD k 0 := ⟨_, rfl⟩
    rw [← hx] at hr1 HX1
    rw [← hy] at hr2 HX2
    have HR1 := hide hr1
    have HR2 := hide hr2
    clear hS1 hS2 hr1 hr2 hx hy
    by_cases hxy : x = y
    ·have HN : Hid (∀ W, (binOp .neq 77 (.int .u64 x) (.int .u64 y)).run Tryz.prog W = .ok (.bool false) W) := hide (fun W => by rw [neq_u64_11, hxy]; simp)
     have HT2 : Hid (la.take (k + 1) = lb.take (k + 1)) := hide (by rw [List.take_succ_eq_append_getElem hk1, List.take_succ_eq_append_getElem hk2, HT.out, ← HX1.out, ← HX2.out, hxy])
     go_wp2_with fail
     refine wp_region_vals (by kernel_rfl) [(17, .slice (some ⟨b1, o1, none⟩) L1 c1), (18, .int .i64 (k : Int)), (19, .pointer (some ⟨b1, o1 + k, none⟩)), (20, .int .u64 x), (21, .slice (some ⟨b2, o2, none⟩) L1 c2), (22, .int .i64 (k : Int)), (23, .pointer (some ⟨b2, o2 + k, none⟩)), (24, .int .u64 y), (25, .bool false)] (by kernel_rfl) rfl ?_ ?_
     ·intro i o hi A w1 hB hold hdeps
      have hlt : i < 9 := (Array.getElem?_eq_some_iff.1 hi).1
      have hc : i = 0 ∨ i = 1 ∨ i = 2 ∨ i = 3 ∨ i = 4 ∨ i = 5 ∨ i = 6 ∨ i = 7 ∨ i = 8 := by omega
      clear hlt
      rcases hc with rfl | rfl | rfl | rfl | rfl | rfl | rfl | rfl | rfl
      ·obtain rfl := Option.some.inj hi
       have s0 : A.tmps.getD 0 undef = .slice (some ⟨b1, o1, none⟩) L1 c1 := hold 0 (by kernel_rfl)
       exact r_pure hi rfl rfl (y_move _ s0)
      ·obtain rfl := Option.some.inj hi
       have s5 : A.tmps.getD 5 undef = .int .i64 (k : Int) := hold 5 (by kernel_rfl)
       exact r_pure hi rfl rfl (y_move _ s5)
      ·obtain rfl := Option.some.inj hi
       have s17 : A.tmps.getD 17 undef = .slice (some ⟨b1, o1, none⟩) L1 c1 := dep_of hdeps 0 (by kernel_rfl)
       have s18 : A.tmps.getD 18 undef = .int .i64 (k : Int) := dep_of hdeps 1 (by kernel_rfl)
       exact r_pure hi rfl rfl (y_idxU _ _ s17 s18 hkl)
      ·obtain rfl := Option.some.inj hi
       have s19 : A.tmps.getD 19 undef = .pointer (some ⟨b1, o1 + k, none⟩) := dep_of hdeps 2 (by kernel_rfl)
       exact r_pure hi rfl rfl (y_cell_u64 _ s19 ((hB.cell (p := ⟨b1, o1 + k, none⟩) hb1).trans HR1.out))
      ·obtain rfl := Option.some.inj hi
       have s1 : A.tmps.getD 1 undef = .slice (some ⟨b2, o2, none⟩) L1 c2 := hold 1 (by kernel_rfl)
       exact r_pure hi rfl rfl (y_move _ s1)
      ·obtain rfl := Option.some.inj hi
       have s5 : A.tmps.getD 5 undef = .int .i64 (k : Int) := hold 5 (by kernel_rfl)
       exact r_pure hi rfl rfl (y_move _ s5)
      ·obtain rfl := Option.some.inj hi
       have s21 : A.tmps.getD 21 undef = .slice (some ⟨b2, o2, none⟩) L1 c2 := dep_of hdeps 4 (by kernel_rfl)
       have s22 : A.tmps.getD 22 undef = .int .i64 (k : Int) := dep_of hdeps 5 (by kernel_rfl)
       exact r_pure hi rfl rfl (y_idxU _ _ s21 s22 hkl)
      ·obtain rfl := Option.some.inj hi
       have s23 : A.tmps.getD 23 undef = .pointer (some ⟨b2, o2 + k, none⟩) := dep_of hdeps 6 (by kernel_rfl)
       exact r_pure hi rfl rfl (y_cell_u64 _ s23 ((hB.cell (p := ⟨b2, o2 + k, none⟩) hb2).trans HR2.out))
      ·obtain rfl := Option.some.inj hi
       have s20 : A.tmps.getD 20 undef = .int .u64 x := dep_of hdeps 3 (by kernel_rfl)
       have s24 : A.tmps.getD 24 undef = .int .u64 y := dep_of hdeps 7 (by kernel_rfl)
       exact r_pure hi rfl rfl (y_bin _ _ _ _ _ s20 s24 (HN.out w1) (by kernel_rfl))
     ·intro w8 hB8
      simp only [putAll, Act.put, List.setIfInBounds_toArray, List.set_cons_succ, List.set_cons_zero]
      have HB8 := hide hB8
      clear hB8
      go_wp2_with fail
      go_roundg g
      case measure => omega
      case rel => exact ⟨k + 1, by omega, by first | rfl | go_num, hide (HBW.out.trans (HB8.out.mono HBW.out.size)), HT2⟩
    ·have HN : Hid (∀ W, (binOp .neq 77 (.int .u64 x) (.int .u64 y)).run Tryz.prog W = .ok (.bool true) W) := hide (fun W => by rw [neq_u64_11]; simp [hxy])
     have HE : Hid (R = false) := hide (by
      rw [HR.out]
      refine decide_eq_false (fun e => hxy ?_)
      rw [HX1.out, HX2.out]
      simp only [e])
     go_wp2_with fail
     refine wp_region_vals (by kernel_rfl) [(17, .slice (some ⟨b1, o1, none⟩) L1 c1), (18, .int .i64 (k : Int)), (19, .pointer (some ⟨b1, o1 + k, none⟩)), (20, .int .u64 x), (21, .slice (some ⟨b2, o2, none⟩) L1 c2), (22, .int .i64 (k : Int)), (23, .pointer (some ⟨b2, o2 + k, none⟩)), (24, .int .u64 y), (25, .bool true)] (by kernel_rfl) rfl ?_ ?_
     ·intro i o hi A w1 hB hold hdeps
      have hlt : i < 9 := (Array.getElem?_eq_some_iff.1 hi).1
      have hc : i = 0 ∨ i = 1 ∨ i = 2 ∨ i = 3 ∨ i = 4 ∨ i = 5 ∨ i = 6 ∨ i = 7 ∨ i = 8 := by omega
      clear hlt
      rcases hc with rfl | rfl | rfl | rfl | rfl | rfl | rfl | rfl | rfl
      ·obtain rfl := Option.some.inj hi
       have s0 : A.tmps.getD 0 undef = .slice (some ⟨b1, o1, none⟩) L1 c1 := hold 0 (by kernel_rfl)
       exact r_pure hi rfl rfl (y_move _ s0)
      ·obtain rfl := Option.some.inj hi
       have s5 : A.tmps.getD 5 undef = .int .i64 (k : Int) := hold 5 (by kernel_rfl)
       exact r_pure hi rfl rfl (y_move _ s5)
      ·obtain rfl := Option.some.inj hi
       have s17 : A.tmps.getD 17 undef = .slice (some ⟨b1, o1, none⟩) L1 c1 := dep_of hdeps 0 (by kernel_rfl)
       have s18 : A.tmps.getD 18 undef = .int .i64 (k : Int) := dep_of hdeps 1 (by kernel_rfl)
       exact r_pure hi rfl rfl (y_idxU _ _ s17 s18 hkl)
      ·obtain rfl := Option.some.inj hi
       have s19 : A.tmps.getD 19 undef = .pointer (some ⟨b1, o1 + k, none⟩) := dep_of hdeps 2 (by kernel_rfl)
       exact r_pure hi rfl rfl (y_cell_u64 _ s19 ((hB.cell (p := ⟨b1, o1 + k, none⟩) hb1).trans HR1.out))
      ·obtain rfl := Option.some.inj hi
       have s1 : A.tmps.getD 1 undef = .slice (some ⟨b2, o2, none⟩) L1 c2 := hold 1 (by kernel_rfl)
       exact r_pure hi rfl rfl (y_move _ s1)
      ·obtain rfl := Option.some.inj hi
       have s5 : A.tmps.getD 5 undef = .int .i64 (k : Int) := hold 5 (by kernel_rfl)
       exact r_pure hi rfl rfl (y_move _ s5)
      ·obtain rfl := Option.some.inj hi
       have s21 : A.tmps.getD 21 undef = .slice (some ⟨b2, o2, none⟩) L1 c2 := dep_of hdeps 4 (by kernel_rfl)
       have s22 : A.tmps.getD 22 undef = .int .i64 (k : Int) := dep_of hdeps 5 (by kernel_rfl)
       exact r_pure hi rfl rfl (y_idxU _ _ s21 s22 hkl)
      ·obtain rfl := Option.some.inj hi
       have s23 : A.tmps.getD 23 undef = .pointer (some ⟨b2, o2 + k, none⟩) := dep_of hdeps 6 (by kernel_rfl)
       exact r_pure hi rfl rfl (y_cell_u64 _ s23 ((hB.cell (p := ⟨b2, o2 + k, none⟩) hb2).trans HR2.out))
      ·obtain rfl := Option.some.inj hi
       have s20 : A.tmps.getD 20 undef = .int .u64 x := dep_of hdeps 3 (by kernel_rfl)
       have s24 : A.tmps.getD 24 undef = .int .u64 y := dep_of hdeps 7 (by kernel_rfl)
       exact r_pure hi rfl rfl (y_bin _ _ _ _ _ s20 s24 (HN.out w1) (by kernel_rfl))
     ·intro w8 hB8
      simp only [putAll, Act.put, List.setIfInBounds_toArray, List.set_cons_succ, List.set_cons_zero]
      have HB8 := hide hB8
      clear hB8
      go_wp2_with fail
      go_ret
      exact ⟨by rw [HE.out]; rfl, HBW.out.trans (HB8.out.mono HBW.out.size)⟩
 ·have hne : ((L1 : Int) != (L2 : Int)) = true := by simp; omega
  have HE : Hid (R = false) := hide (by rw [HR.out]; exact decide_eq_false (fun e => hl (by rw [HL1.out, HL2.out, e])))
  go_enter Tryz.func85, Tryz.ntmps85
  go_wp2_with fail
  go_ret
  exact ⟨by rw [HE.out]; rfl, Below.refl _ _⟩
end
end Go.Proofs.YtlegliimgjmphaaGreat
