/-
  Own texts put together: LkCont, LkRest, IdSort, LkIter, LkUsers, LkDo. Own work.
-/
import Derived.Test.YtiloagmkkhlfjaaGreatG13
import Derived.Test.YtiloagmkkhlfjaaGreatG10
import Derived.Test.YtiloagmkkhlfjaaGreatG14
import Derived.Test.YtiloagmkkhlfjaaGreatG08
import Derived.Test.YtiloagmkkhlfjaaGreatG09
import Derived.Test.YtiloagmkkhlfjaaGreatG06
import Derived.Test.YtiloagmkkhlfjaaGreatG15
import Derived.Test.YtiloagmkkhlfjaaGreatIdLay
import Derived.Shelf.SlSortCmp.NoneTotal
import Derived.Sort.OwnSorted
namespace Go.Proofs.YtiloagmkkhlfjaaGreat
set_option maxRecDepth 100000
section
open Go.RowKit Go.Maps Classical
abbrev Lkd (l : List (aS KeyT)) (k : KeyT) : Prop := ∃ u ∈ l, u.h k ≠ 0
def AnyLkd (l : List (aS KeyT)) (ks : List KeyT) : Prop := ∃ k ∈ ks, Lkd l k
set_option maxHeartbeats 1600000 in
theorem index15 (q b C : Nat) (p : TxN → Nat × Nat) (l : List (aS KeyT)) (ks : List KeyT) (v : Value) (w : World) (h : fJ w q b C p l) (hs : bI kyCs w v ks) (hl : ks.length ≤ 1000000) :
  Calls Tryz.prog 79 #[v, .func (.func 51) #[.pointer (some ⟨q, 0, none⟩)] #[]] w fun e w' => ∃ r : Int, e = .returned (.int .i64 r) ∧ (0 ≤ r ↔ AnyLkd l ks) ∧ Below w.heap.size w w' := by
 obtain ⟨av, cv, rfl, _⟩ := hs.shape
 have H := aA h
 have HS := aA hs
 obtain ⟨n, hn⟩ : ∃ n, n = ks.length := ⟨_, rfl⟩
 have HN := aA hn
 have hnl : n ≤ 1000000 := by omega
 rw [← hn] at HS ⊢
 clear h hs hn hl
 go_enter Tryz.func79, Tryz.ntmps79
 go_wp2_with fail
 go_loopw [8] (fun x wr => ∃ i : Nat, x = .int .i64 (i : Int) ∧ i ≤ n ∧ Hid (∀ k ∈ ks.take i, ¬ Lkd l k) ∧ Hid (Below w.heap.size w wr)) (fun x _ => ctK n x)
 case atStart => exact ⟨0, rfl, Nat.zero_le _, aA (fun k hk => by simp at hk), aA (Below.refl _ _)⟩
 case round =>
  obtain ⟨i, rfl, hi, HA, HB⟩ := hrel
  by_cases hlt : i < n
  ·have hz : (i : Int) < (n : Int) := by omega
   have hik : i < ks.length := by rw [← HN.out]; exact hlt
   obtain ⟨-, bd, od, rfl, hbd, hcd⟩ := (HS.out.below HB.out).at (K := 8) (fun _ => rfl) hik
   obtain ⟨k, hk⟩ : ∃ k, k = ks[i] := ⟨_, rfl⟩
   rw [← hk] at hcd
   have x0 := hcd 0 _ rfl
   have x1 := hcd 1 _ rfl
   have x2 := hcd 2 _ rfl
   have x3 := hcd 3 _ rfl
   have x4 := hcd 4 _ rfl
   have x5 := hcd 5 _ rfl
   have x6 := hcd 6 _ rfl
   have x7 := hcd 7 _ rfl
   simp only [Nat.add_zero] at x0
   have HTK : Hid (ks.take (i + 1) = ks.take i ++ [k]) := aA (by rw [hk, List.take_succ_eq_append_getElem hik])
   have HKM : Hid (k ∈ ks) := aA (by rw [hk]; exact List.getElem_mem hik)
   obtain ⟨R, hR⟩ : ∃ R, R = decide (∃ u ∈ l, u.h k ≠ 0) := ⟨_, rfl⟩
   have CL := aA (isLocked15 q b C p l k wr (H.out.below HB.out))
   rw [← hR] at CL
   have HR : Hid (R = true ↔ Lkd l k) := aA (by rw [hR, decide_eq_true_eq])
   clear hcd hbd hk hR
   go_wp2_with fail
   refine CL.out.mono ?_
   rintro e w2 ⟨rfl, hb2⟩
   have HB2 := aA (HB.out.trans (hb2.mono HB.out.size))
   clear hb2 CL
   cases R with
   | true =>
    have HY := aA (HR.out.1 rfl)
    go_wp2_with fail
    go_ret
    exact ⟨_, rfl, ⟨fun _ => ⟨k, HKM.out, HY.out⟩, fun _ => by omega⟩, HB2.out⟩
   | false =>
    have HNY : Hid (¬ Lkd l k) := aA (fun h => by have := HR.out.2 h; cases this)
    have HA2 : Hid (∀ k ∈ ks.take (i + 1), ¬ Lkd l k) := aA (fun k' hk' => by
     rw [HTK.out] at hk'
     rcases List.mem_append.1 hk' with h | h
     ·exact HA.out k' h
     ·rw [List.mem_singleton] at h
      rw [h]
      exact HNY.out)
    go_wp2_with fail
    go_roundw
    case rel => exact ⟨i + 1, by first | rfl | go_num, by omega, HA2, HB2⟩
    case measure =>
     rw [show (i : Int) + 1 = ((i + 1 : Nat) : Int) from by omega, cB, cB]
     omega
  ·have hz : ¬ (i : Int) < (n : Int) := by omega
   have HE : Hid (ks.take i = ks) := aA (by rw [show i = ks.length from by rw [← HN.out]; omega]; exact List.take_length)
   go_wp2_with fail
   go_ret
   refine ⟨_, rfl, ⟨fun h => absurd h (by decide), fun h => absurd h (fun ⟨k, hk, hL⟩ => HA.out k (by rw [HE.out]; exact hk) hL)⟩, HB.out⟩
theorem contains15 (q b C : Nat) (p : TxN → Nat × Nat) (l : List (aS KeyT)) (ks : List KeyT) (v : Value) (w : World) (h : fJ w q b C p l) (hs : bI kyCs w v ks) (hl : ks.length ≤ 1000000) :
  Calls Tryz.prog 50 #[v, .func (.func 51) #[.pointer (some ⟨q, 0, none⟩)] #[]] w fun e w' => ∃ B : Bool, e = .returned (.bool B) ∧ (B = true ↔ AnyLkd l ks) ∧ Below w.heap.size w w' := by
 have C := aA (index15 q b C p l ks v w h hs hl)
 clear h hs hl
 go_enter Tryz.func50, Tryz.ntmps50
 go_wp2_with fail
 refine C.out.mono ?_
 rintro e w2 ⟨r, rfl, hr, hb⟩
 have HR := aA hr
 have HB := aA hb
 clear hr hb C
 go_wp2_with fail
 go_ret
 exact ⟨decide (0 ≤ r), by first | rfl | simp, by rw [decide_eq_true_eq]; exact HR.out, HB.out⟩
end
section
open Go.RowKit Go.Maps Classical
def fF (t : TxN) (ks : List KeyT) : Bool := kO (txI t) && (ks.all (fun k => (cU k.1).2) && (decide (ks ≠ []) && decide ks.Nodup))
theorem buildSt15 (t : TxN) (w : World) : (Instr.build 36 #[(1, aV t)]).run Tryz.prog w = .ok (.agg #[.int .u32 0, .int .u8 (t.1 : Int), .int .u32 (t.2.1 : Int), .int .u32 (t.2.2 : Int)]) w := by kernel_rfl
def inF (ks : List KeyT) (k : KeyT) : Nat := if k ∈ ks then 2 else 0
theorem restU_h (t : TxN) (ks : List KeyT) : (eM t ks).h = inF ks := by
 funext k
 unfold eM inF
 by_cases hk : k ∈ ks <;> simp [hk]
attribute [local go_sem ↓] kC
set_option maxHeartbeats 3200000 in
theorem lkRestore_any (q b C : Nat) (p : TxN → Nat × Nat) (l : List (aS KeyT)) (t : TxN) (ks : List KeyT) (v : Value) (w : World) (h : fJ w q b C p l) (ht : kJ t) (hs : bI kyCs w v ks) (hl : ks.length ≤ 100000) :
  Calls Tryz.prog 27 #[.pointer (some ⟨q, 0, none⟩), aV t, v] w fun e w' => ∃ er l' p', e = .returned (.int .i64 er) ∧ RestR (fF t ks) l t ks er l' ∧ fJ w' q b (max C ks.length) p' l' ∧ aC (fun g => eP q b p l g) w w' ∧ ∀ g, eP q b p' l' g → eP q b p l g ∨ w.heap.size ≤ g := by
 obtain ⟨av, cv, rfl, _⟩ := hs.shape
 have hA := aE w (.cells #[.int .u8 (t.1 : Int), .int .u32 (t.2.1 : Int), .int .u32 (t.2.2 : Int)] 34)
 have HXT := aA (aN w #[.int .u8 (t.1 : Int), .int .u32 (t.2.1 : Int), .int .u32 (t.2.2 : Int)] 34)
 obtain ⟨w1, hw1⟩ : ∃ w1, w1 = w.alloc (.cells #[.int .u8 (t.1 : Int), .int .u32 (t.2.1 : Int), .int .u32 (t.2.2 : Int)] 34) := ⟨_, rfl⟩
 obtain ⟨p1, hp1⟩ : ∃ p1, p1 = w.heap.size := ⟨_, rfl⟩
 rw [← hw1, ← hp1] at HXT
 rw [← hw1] at hA
 have hW1 := hw1.symm
 have hP1 := hp1.symm
 have HP := aA h
 have H1 := aA (h.below hA)
 have HS1 := aA (hs.below hA)
 have HB := aA hA
 have HNUM : Hid (w.heap.size = p1 ∧ p1 < w1.heap.size) := aA ⟨hp1.symm, HXT.out.lt⟩
 have HFL : Hid (∀ g, eP q b p l g → g < p1) := aA (fun g hg => by rw [hp1]; exact h.flt hg)
 have CM := aA (made15 q b w1 H1.out.box)
 have hbs := fun W => buildSt15 t W
 have CN := aA (newUser15 0 t w1)
 obtain ⟨n, hn⟩ : ∃ n, n = ks.length := ⟨_, rfl⟩
 have HN := aA hn
 have hnl : n ≤ 100000 := by omega
 rw [← hn] at HS1 ⊢
 obtain ⟨k0, k1, k2⟩ := HXT.out.three
 clear h hA hw1 hp1 hs hn hl
 go_enter Tryz.func27, Tryz.ntmps27
 go_wp2_with fail
 refine CM.out.mono ?_
 rintro e w0 ⟨rfl, hw0⟩
 rw [hw0]
 clear hw0 CM
 go_wp2_with fail
 refine CN.out.mono ?_
 rintro e w2 ⟨m1, m2, rfl, hma, hmb, hm12, hn1, hn2, hb2⟩
 have HM12 : Hid (m1 ≠ m2 ∧ w1.heap.size ≤ m1 ∧ w1.heap.size ≤ m2) := aA ⟨hm12, hn1, hn2⟩
 have HMA := aA hma
 have HMB := aA hmb
 have HB2 := aA hb2
 clear hma hmb hm12 hn1 hn2 hb2 CN hbs k0 k1 k2 hW1 hP1
 have hA4 := aE w2 (.cells zU 80)
 have hXU := aN w2 zU 80
 obtain ⟨wA, hwA⟩ : ∃ wA, wA = w2.alloc (.cells zU 80) := ⟨_, rfl⟩
 obtain ⟨p4, hp4⟩ : ∃ p4, p4 = w2.heap.size := ⟨_, rfl⟩
 rw [← hwA] at hA4 hXU
 rw [← hp4] at hXU
 have hWA := hwA.symm
 have hP4 := hp4.symm
 have HXU := aA hXU
 have HBA : Hid (Below w1.heap.size w1 wA) := aA (HB2.out.trans (hA4.mono HB2.out.size))
 have HP4 : Hid (w1.heap.size ≤ p4 ∧ m1 < p4 ∧ m2 < p4) := aA ⟨by rw [hp4]; exact HB2.out.size, by rw [hp4]; exact HMA.out.lt, by rw [hp4]; exact HMB.out.lt⟩
 have HMA1 := aA (HMA.out.below hA4)
 have HMB1 := aA (HMB.out.below hA4)
 clear hwA hp4 hA4 hXU
 go_wp2_with (refine aP rfl rfl _ _ rfl p4 rfl (cs' := usA (0, t, false, some m1, some m2)) rfl HXU.out rfl gZ (by simp [Value.oneCell']) ?_; intro w5 hb5 hk5; have HX5 := aA hb5; have HK5 := aA hk5; have y4 := hb5.cell 4 _ rfl; have f4 := hb5.frozen 4; clear hb5 hk5)
 have hbx := HX5.out.set (i := 4) (v := .bool true)
 obtain ⟨w6, hw6⟩ : ∃ w6, w6 = w5.setCell ⟨p4, 4, none⟩ (.bool true) := ⟨_, rfl⟩
 rw [← hw6]
 have HX6 : Hid (bZ w6 p4 (usA (0, t, true, some m1, some m2)) 80) := aA (by rw [hw6]; exact hbx)
 have HK6 : Hid (aC (fun g => g = p4) wA w6) := aA (by rw [hw6]; exact HK5.out.setCell (p := ⟨p4, 4, none⟩) (.inl rfl) _)
 have HB6 : Hid (Below w1.heap.size w1 w6) := aA (HBA.out.trans (HK6.out.below HBA.out.size (fun g e => by rw [e]; exact HP4.out.1)))
 have HMA6 := aA (HMA1.out.keep HK6.out (fun e => by have := HP4.out; omega))
 have HMB6 := aA (HMB1.out.keep HK6.out (fun e => by have := HP4.out; omega))
 have HM0 : Hid (jD w6 m1 (inF (ks.take 0)) 0) := aA (by
  have e : inF (ks.take 0) = fun _ => 0 := by funext k; simp [inF]
  rw [e]
  exact HMA6.out)
 clear hbx hw6 y4 f4 HK5 HX5 HXU
 go_loopw [21] (fun x wr => ∃ (i n1 : Nat), x = .int .i64 (i : Int) ∧ i ≤ n ∧ Hid (∀ k ∈ ks.take i, (cU k.1).2 = true) ∧ Hid (jD wr m1 (inF (ks.take i)) n1) ∧ Hid (n1 ≤ i ∧ (n1 = i ↔ (ks.take i).Nodup)) ∧ Hid (aC (fun g => g = m1) w6 wr)) (fun x _ => ctK n x)
 case atStart => exact ⟨0, 0, rfl, Nat.zero_le _, aA (fun k hk => by simp at hk), HM0, aA (by simp), aA (aC.refl _ _)⟩
 case round =>
  obtain ⟨i, n1, rfl, hi, HNA, HMW, HCT, HKW⟩ := hrel
  have HBW : Hid (Below w1.heap.size w1 wr) := aA (HB6.out.trans (HKW.out.below HB6.out.size (fun g e => by rw [e]; exact HM12.out.2.1)))
  have HPW := aA (H1.out.below HBW.out)
  have HXW := aA (HX6.out.keep HKW.out (fun e => by have := HP4.out; omega))
  by_cases hlt : i < n
  ·have hz : (i : Int) < (n : Int) := by omega
   have hik : i < ks.length := by rw [← HN.out]; exact hlt
   obtain ⟨-, bd, od, rfl, hbd, hcd⟩ := (HS1.out.below HBW.out).at (K := 8) (fun _ => rfl) hik
   obtain ⟨k, hk⟩ : ∃ k, k = ks[i] := ⟨_, rfl⟩
   rw [← hk] at hcd
   have x0 := hcd 0 _ rfl
   have x1 := hcd 1 _ rfl
   have x2 := hcd 2 _ rfl
   have x3 := hcd 3 _ rfl
   have x4 := hcd 4 _ rfl
   have x5 := hcd 5 _ rfl
   have x6 := hcd 6 _ rfl
   have x7 := hcd 7 _ rfl
   simp only [Nat.add_zero] at x0
   have HTK : Hid (ks.take (i + 1) = ks.take i ++ [k]) := aA (by rw [hk, List.take_succ_eq_append_getElem hik])
   have HKM : Hid (k ∈ ks) := aA (by rw [hk]; exact List.getElem_mem hik)
   have HA3 : Hid (Below wr.heap.size wr (wr.alloc (.cells (aK k.1) 38))) := aA (aE _ _)
   have HXK0 := aA (aN wr (aK k.1) 38)
   obtain ⟨w3, hw3⟩ : ∃ w3, w3 = wr.alloc (.cells (aK k.1) 38) := ⟨_, rfl⟩
   obtain ⟨p7, hp7⟩ : ∃ p7, p7 = wr.heap.size := ⟨_, rfl⟩
   rw [← hw3, ← hp7] at HXK0
   rw [← hw3] at HA3
   have hW3 := hw3.symm
   have hP7 := hp7.symm
   obtain ⟨z0, z1, z2, z3, z4, z5, z6, z7⟩ := bN HXK0.out
   obtain ⟨R, hR⟩ : ∃ R, R = (cU k.1).2 := ⟨_, rfl⟩
   have CK := aA (keyMay15 k.1 k.2 w3)
   rw [← hR] at CK
   have HRR := aA hR
   clear hcd hbd hk hw3 hp7 hR
   go_wp2_with fail
   refine CK.out.mono ?_
   rintro e w4 ⟨rfl, hb4⟩
   have HXK4 := aA (HXK0.out.belowI hb4)
   have HB4 : Hid (Below wr.heap.size wr w4) := aA (HA3.out.trans (hb4.mono HA3.out.size))
   clear hb4 CK z0 z1 z2 z3 z4 z5 z6 z7 x0 x1 x2 x3 x4 x5 x6 x7 hW3 hP7
   cases R with
   | false =>
    go_wp2_with fail
    go_ret
    have hmay : fF t ks = false := by
     unfold fF
     have : ks.all (fun k => (cU k.1).2) = false := List.all_eq_false.2 ⟨k, HKM.out, by rw [← HRR.out]; simp⟩
     rw [this]
     simp
    have hbw4 : Below w.heap.size w w4 := HB.out.trans ((HBW.out.trans (HB4.out.mono HBW.out.size)).mono HB.out.size)
    exact ⟨_, l, p, rfl, .inl ⟨rfl, .inl ⟨hmay, rfl⟩⟩, (HPW.out.below HB4.out).more (Nat.le_max_left _ _), aC.of_below _ hbw4, fun g hg => .inl hg⟩
   | true =>
    have y5 : w4.cell? ⟨p4, 5, none⟩ = some (.map (some m1)) := (HXW.out.belowI HB4.out).cell 5 _ rfl
    obtain ⟨z0, z1, z2, z3, z4, z5, z6, z7⟩ := bN HXK4.out
    obtain ⟨w8, hput, hmp, hkp⟩ := mmap_put (HMW.out.below HB4.out) (by have := HCT.out.1; unfold maxLen; omega) k 2 (by decide)
    have hput2 : (Instr.mapUpdate 78 (.map (some m1)) (kyV k.1) (.int .u8 2)).run Tryz.prog w4 = .ok () w8 := hput
    have HNA2 : Hid (∀ k' ∈ ks.take (i + 1), (cU k'.1).2 = true) := aA (fun k' hk' => by
     rw [HTK.out] at hk'
     rcases List.mem_append.1 hk' with h | h
     ·exact HNA.out k' h
     ·rw [List.mem_singleton] at h
      rw [h]
      exact HRR.out.symm)
    have HMP : Hid (jD w8 m1 (inF (ks.take (i + 1))) (if inF (ks.take i) k = 0 then n1 + 1 else n1)) := aA (by
     have e : inF (ks.take (i + 1)) = fun k' => if k' = k then 2 else inF (ks.take i) k' := by
      funext k'
      unfold inF
      rw [HTK.out]
      by_cases e1 : k' = k <;> simp [e1]
     rw [e]
     exact hmp)
    have HCT2 : Hid ((if inF (ks.take i) k = 0 then n1 + 1 else n1) ≤ i + 1 ∧ ((if inF (ks.take i) k = 0 then n1 + 1 else n1) = i + 1 ↔ (ks.take (i + 1)).Nodup)) := aA (by
     have h1 := HCT.out
     have e : inF (ks.take i) k = 0 ↔ k ∉ ks.take i := by
      unfold inF
      by_cases e1 : k ∈ ks.take i <;> simp [e1]
     have e2 : (ks.take (i + 1)).Nodup ↔ (ks.take i).Nodup ∧ k ∉ ks.take i := by
      rw [HTK.out, List.nodup_append]
      constructor
      ·rintro ⟨a1, _, a3⟩
       exact ⟨a1, fun hm => a3 k hm k (by simp) rfl⟩
      ·rintro ⟨a1, a2⟩
       refine ⟨a1, by simp, fun a ha b hb => ?_⟩
       rw [List.mem_singleton] at hb
       rw [hb]
       exact fun e3 => a2 (e3 ▸ ha)
     rw [e2]
     by_cases hk : inF (ks.take i) k = 0
     ·rw [if_pos hk]
      have := e.1 hk
      exact ⟨by omega, ⟨fun h => ⟨h1.2.1 (by omega), this⟩, fun h => by have := h1.2.2 h.1; omega⟩⟩
     ·rw [if_neg hk]
      exact ⟨by omega, ⟨fun h => by omega, fun h => absurd (e.2 h.2) hk⟩⟩)
    have HKW2 : Hid (aC (fun g => g = m1) w6 w8) := aA ((HKW.out.trans (aC.of_below (fun _ => False) HB4.out) (fun _ _ h => h.elim)).trans hkp (fun _ _ h => h))
    obtain ⟨n2, hn2⟩ : ∃ n2, n2 = (if inF (ks.take i) k = 0 then n1 + 1 else n1) := ⟨_, rfl⟩
    rw [← hn2] at HMP HCT2
    clear hput hmp hkp hn2
    go_wp2_with fail
    go_roundw
    case rel => exact ⟨i + 1, n2, by first | rfl | go_num, by omega, HNA2, HMP, HCT2, HKW2⟩
    case measure =>
     rw [show (i : Int) + 1 = ((i + 1 : Nat) : Int) from by omega, cB, cB]
     omega
  ·have hz : ¬ (i : Int) < (n : Int) := by omega
   have hin : i = n := by omega
   have HE : Hid (ks.take i = ks) := aA (by rw [hin, HN.out]; exact List.take_length)
   have HALL : Hid (ks.all (fun k => (cU k.1).2) = true) := aA (List.all_eq_true.2 (fun k hk => HNA.out k (by rw [HE.out]; exact hk)))
   have HCN : Hid (n1 ≤ n ∧ (n1 = n ↔ ks.Nodup)) := aA (by have := HCT.out; rw [HE.out, hin] at this; exact this)
   have HMW2 : Hid (jD wr m1 (inF ks) n1) := aA (by have := HMW.out; rw [HE.out] at this; exact this)
   have HNZ : Hid (n = 0 ↔ ks = []) := aA (by rw [HN.out]; exact List.length_eq_zero_iff)
   obtain ⟨B1, hB1⟩ : ∃ B1, B1 = kO (txI t) := ⟨_, rfl⟩
   have CT := aA (txMay_any (t.1 : Int) (t.2.1 : Int) (t.2.2 : Int) wr)
   have hB1' : kO ((t.1 : Int), (t.2.1 : Int), (t.2.2 : Int)) = B1 := hB1.symm
   rw [hB1'] at CT
   have HMAY : Hid (fF t ks = (B1 && (decide (n ≠ 0) && decide (n1 = n)))) := aA (by
    unfold fF
    rw [← hB1, HALL.out, Bool.true_and]
    congr 1
    congr 1
    ·exact decide_eq_decide.2 (not_congr HNZ.out.symm)
    ·exact decide_eq_decide.2 HCN.out.2.symm)
   obtain ⟨k0, k1, k2⟩ := (HXT.out.belowI HBW.out).three
   clear hB1 hB1' hin hi
   go_wp2_with fail
   refine CT.out.mono ?_
   rintro e w9 ⟨rfl, hb9⟩
   have HXT9 := aA ((HXT.out.belowI HBW.out).belowI hb9)
   have HX9 := aA (HXW.out.belowI hb9)
   have HP9 := aA (HPW.out.below hb9)
   have HM9 := aA (HMW2.out.below hb9)
   have HMB9 := aA ((HMB6.out.keep HKW.out (fun e => HM12.out.1 e.symm)).below hb9)
   have HB9 : Hid (Below w1.heap.size w1 w9) := aA (HBW.out.trans (hb9.mono HBW.out.size))
   have HBB9 : Hid (Below w.heap.size w w9) := aA (HB.out.trans (HB9.out.mono HB.out.size))
   have HS9 := aA (HS1.out.below HB9.out)
   have y5 : w9.cell? ⟨p4, 5, none⟩ = some (.map (some m1)) := HX9.out.cell 5 _ rfl
   have hlen := fun ty => HM9.out.len kB ty
   clear hb9 CT k0 k1 k2 HXW HPW HMW HBW HKW
   cases B1 with
   | false =>
    go_wp2_with fail
    go_ret
    exact ⟨_, l, p, rfl, .inl ⟨rfl, .inl ⟨by rw [HMAY.out]; rfl, rfl⟩⟩, HP9.out.more (Nat.le_max_left _ _), aC.of_below _ HBB9.out, fun g hg => .inl hg⟩
   | true =>
    by_cases h0 : n = 0
    ·have hz0 : (n : Int) = 0 := by omega
     have HH0 := aA h0
     subst h0
     go_wp2_with fail
     go_ret
     exact ⟨_, l, p, rfl, .inl ⟨rfl, .inl ⟨by rw [HMAY.out]; rfl, rfl⟩⟩, HP9.out.more (Nat.le_max_left _ _), aC.of_below _ HBB9.out, fun g hg => .inl hg⟩
    ·have hz0 : ((n : Int) == 0) = false := by simp; omega
     have hz0' : ¬ (n : Int) = 0 := by omega
     by_cases h1 : n1 = n
     case neg =>
      have hz1 : ((n1 : Int) != (n : Int)) = true := by simp; omega
      have hz1' : ¬ (n1 : Int) = (n : Int) := by omega
      have HERR : Hid (fF t ks = false) := aA (by rw [HMAY.out, decide_eq_false h1]; simp)
      go_wp2_with fail
      go_ret
      exact ⟨_, l, p, rfl, .inl ⟨rfl, .inl ⟨HERR.out, rfl⟩⟩, HP9.out.more (Nat.le_max_left _ _), aC.of_below _ HBB9.out, fun g hg => .inl hg⟩
     case pos =>
      have HERR : Hid (fF t ks = true) := aA (by rw [HMAY.out, decide_eq_true h0, decide_eq_true h1]; rfl)
      have HN1 := aA h1
      subst h1
      go_wp2_with fail
      have hA4 := aE w9 (.cells zU 80)
      have hXU := aN w9 zU 80
      obtain ⟨wB, hwB⟩ : ∃ wB, wB = w9.alloc (.cells zU 80) := ⟨_, rfl⟩
      obtain ⟨p10, hp10⟩ : ∃ p10, p10 = w9.heap.size := ⟨_, rfl⟩
      rw [← hwB] at hA4 hXU
      rw [← hp10] at hXU
      have hWB := hwB.symm
      have hP10 := hp10.symm
      have HPB := aA (HP9.out.below hA4)
      have h0b : wB.cell? ⟨q, 0, none⟩ = some (.map (some b)) := HPB.out.box.cell 0 _ rfl
      obtain ⟨k0, k1, k2⟩ := (HXT9.out.belowI hA4).three
      have L1 := (HPB.out.m.below (aG wB)).look fM ⟨t, ht⟩
      have h01 : w9.cell? ⟨q, 0, none⟩ = some (.map (some b)) := HP9.out.box.cell 0 _ rfl
      obtain ⟨k01, k11, k21⟩ := HXT9.out.three
      have L11 := (HP9.out.m.below (aG w9)).look fM ⟨t, ht⟩
      obtain ⟨E, hE⟩ : ∃ E : E15, E = (gU l p ⟨t, ht⟩).getD zE := ⟨_, rfl⟩
      obtain ⟨I, hI⟩ : ∃ I : Bool, I = (gU l p ⟨t, ht⟩).isSome := ⟨_, rfl⟩
      rw [← hE, ← hI] at L1 L11
      have hII : I = (cM l t).isSome := by rw [hI]; show ((cM l t).map _).isSome = _; rw [Option.isSome_map]
      have HII := aA hII
      obtain ⟨w10, hst, hx10, hk10⟩ := run_stU (hXU.belowI (aG wB)) rfl E
      have HB10 : Hid (Below w9.heap.size w9 w10) := aA ((hA4.trans ((aG wB).mono hA4.size)).trans (hk10.below hA4.size (fun j e => by rw [e, hp10]; exact Nat.le_refl _)))
      clear hwB hp10 hA4 hXU hx10 hk10 hE hI hII y5 hlen
      go_region
      simp only [Exit.then]
      rename_i hK
      refine hK _ _ ?_
      clear hK h0b k0 k1 k2 h01 k01 k11 k21 L1 L11 hst hWB hP10
      have HXT10 := aA (HXT9.out.belowI HB10.out)
      have HX10 := aA (HX9.out.belowI HB10.out)
      have HP10 := aA (HP9.out.below HB10.out)
      have HM10 := aA (HM9.out.below HB10.out)
      have HMB10 := aA (HMB9.out.below HB10.out)
      have HS10 := aA (HS9.out.below HB10.out)
      have HBB10 : Hid (Below w.heap.size w w10) := aA (HBB9.out.trans (HB10.out.mono HBB9.out.size))
      cases hc : I with
      | true =>
       have HIS : Hid ((cM l t).isSome = true) := aA (by rw [← HII.out, hc])
       subst hc
       go_wp2_with fail
       go_ret
       exact ⟨_, l, p, rfl, .inl ⟨rfl, .inr ⟨HERR.out, .inl ⟨HIS.out, rfl⟩⟩⟩, HP10.out.more (Nat.le_max_left _ _), aC.of_below _ HBB10.out, fun g hg => .inl hg⟩
      | false =>
       have HIN : Hid (cM l t = none) := aA (by have := HII.out; rw [hc] at this; cases hu : cM l t with | none => rfl | some x => rw [hu] at this; cases this)
       subst hc
       have CF := aA (contains15 q b C p l ks (.slice av n1 cv) w10 HP10.out HS10.out (by rw [← HN.out]; omega))
       go_wp2_with fail
       refine CF.out.mono ?_
       rintro e w11 ⟨B, rfl, hBB, hb11⟩
       have HXT11 := aA (HXT10.out.belowI hb11)
       have HX11 := aA (HX10.out.belowI hb11)
       have HP11 := aA (HP10.out.below hb11)
       have HM11 := aA (HM10.out.below hb11)
       have HMB11 := aA (HMB10.out.below hb11)
       have HBB11 : Hid (Below w.heap.size w w11) := aA (HBB10.out.trans (hb11.mono HBB10.out.size))
       have HBQ := aA hBB
       clear hBB hb11 CF
       cases B with
       | true =>
        have HLK := aA (HBQ.out.1 rfl)
        go_wp2_with fail
        go_ret
        exact ⟨_, l, p, rfl, .inl ⟨rfl, .inr ⟨HERR.out, .inr ⟨HIN.out, .inl ⟨HLK.out, rfl⟩⟩⟩⟩, HP11.out.more (Nat.le_max_left _ _), aC.of_below _ HBB11.out, fun g hg => .inl hg⟩
       | false =>
        have HNL : Hid (∀ k ∈ ks, ∀ u ∈ l, u.h k = 0) := aA (fun k hk u hu => by
         by_cases e : u.h k = 0
         ·exact e
         ·have := HBQ.out.2 ⟨k, hk, u, hu, e⟩
          cases this)
        have h0c : w11.cell? ⟨q, 0, none⟩ = some (.map (some b)) := HP11.out.box.cell 0 _ rfl
        have hlu := fun ty => HP11.out.m.len fM ty
        obtain ⟨ln, hln⟩ : ∃ ln, ln = l.length := ⟨_, rfl⟩
        rw [← hln] at hlu
        have HLN := aA hln
        clear hln
        by_cases h64 : 64 ≤ ln
        ·have hz6 : (64 : Int) ≤ (ln : Int) := by omega
         have HH6 := aA h64
         go_wp2_with fail
         go_ret
         exact ⟨_, l, p, rfl, .inl ⟨rfl, .inr ⟨HERR.out, .inr ⟨HIN.out, .inr ⟨HNL.out, by rw [← HLN.out]; exact HH6.out, rfl⟩⟩⟩⟩, HP11.out.more (Nat.le_max_left _ _), aC.of_below _ HBB11.out, fun g hg => .inl hg⟩
        ·have hz6 : ¬ (64 : Int) ≤ (ln : Int) := by omega
         have HH6 : Hid (l.length < 64) := aA (by rw [← HLN.out]; omega)
         obtain ⟨k0, k1, k2⟩ := HXT11.out.three
         have u0 : w11.cell? ⟨p4, 0, none⟩ = some (.int .u32 0) := HX11.out.cell 0 _ rfl
         have u1 : w11.cell? ⟨p4, 1, none⟩ = some (.int .u8 (t.1 : Int)) := HX11.out.cell 1 _ rfl
         have u2 : w11.cell? ⟨p4, 2, none⟩ = some (.int .u32 (t.2.1 : Int)) := HX11.out.cell 2 _ rfl
         have u3 : w11.cell? ⟨p4, 3, none⟩ = some (.int .u32 (t.2.2 : Int)) := HX11.out.cell 3 _ rfl
         have u4 : w11.cell? ⟨p4, 4, none⟩ = some (.bool true) := HX11.out.cell 4 _ rfl
         have u5 : w11.cell? ⟨p4, 5, none⟩ = some (.map (some m1)) := HX11.out.cell 5 _ rfl
         have u6 : w11.cell? ⟨p4, 6, none⟩ = some (.map (some m2)) := HX11.out.cell 6 _ rfl
         obtain ⟨w12, hput, hmp, hkp⟩ := (HP11.out.m.below (aG w11)).put fM (by have := HP.out.ok.few; unfold maxLen; omega) ⟨t, ht⟩ (0, t, true, some m1, some m2)
         have hput2 : (Instr.mapUpdate 63 (.map (some b)) (aV t) (.agg #[.int .u32 0, .int .u8 (t.1 : Int), .int .u32 (t.2.1 : Int), .int .u32 (t.2.2 : Int), .bool true, .map (some m1), .map (some m2)])).run Tryz.prog w11.drew = .ok () w12 := hput
         have HUM := aA hmp
         have HK12 : Hid (aC (fun j => j = b) w11 w12) := aA ((aC.of_below (fun j => j = b) (aG w11)).trans hkp (fun _ _ h => h))
         clear hput hmp hkp
         go_wp2_with fail
         go_region
         simp only [Exit.then]
         rename_i hK
         refine hK _ _ ?_
         clear hK h0c hlu k0 k1 k2 u0 u1 u2 u3 u4 u5 u6 hput2
         go_wp2_with fail
         go_ret
         have hbi : dD (dH l (eM t ks)) := insU_b HP.out.ok HIN.out HH6.out ⟨ht, (by show 0 < 4294967296; omega), fun k => by
          rw [restU_h]
          unfold inF
          split <;> omega, fun _ => Nat.zero_le _⟩
         have hnf : ∀ g, w1.heap.size ≤ g → ¬ eP q b p l g := fun g hg hF => by
          have h1 := HFL.out g hF
          have h3 := HNUM.out
          omega
         have hbl : b < w1.heap.size := by
          have h1 := HFL.out b (.inr (.inl rfl))
          have h3 := HNUM.out
          omega
         have hp12 : fJ w12 q b (max C ks.length) (pIns p t m1 m2) (dH l (eM t ks)) := by
          refine HP11.out.ins (w' := w12) (C' := max C ks.length) (x := eM t ks) (S := fun j => j = b) (m1 := m1) (m2 := m2) HIN.out hbi ?_ HK12.out (fun j e => .inl e) ?_ (Nat.le_max_left _ _) (hnf m1 HM12.out.2.1) (hnf m2 HM12.out.2.2) HM12.out.1
          ·have h2 := HUM.out
           have h3 : (gU l p ⟨t, ht⟩).isSome = false := by show ((cM l t).map _).isSome = false; rw [HIN.out]; rfl
           rw [if_neg (by rw [h3]; simp)] at h2
           refine h2.as (fun s => ?_)
           have h4 := gU_ins HP.out.ok hbi p m1 m2 ht s
           by_cases e : s = ⟨t, ht⟩
           ·rw [if_pos e]
            exact h4.1 e
           ·rw [if_neg e]
            exact h4.2 e
          ·rw [restU_h]
           exact ⟨n1, 0, HM11.out.keep HK12.out (fun e => by have := HM12.out; omega), HMB11.out.keep HK12.out (fun e => by have := HM12.out; omega), by rw [← HN.out]; omega⟩
         refine ⟨_, dH l (eM t ks), pIns p t m1 m2, rfl, .inr ⟨HERR.out, HIN.out, HNL.out, HH6.out, rfl, rfl⟩, by rw [HN.out]; exact hp12, (aC.of_below _ HBB11.out).trans HK12.out (fun g _ e => by rw [e]; exact .inr (.inl rfl)), fun g hg => ?_⟩
         have h5 := HB.out.size
         have h6 := HM12.out
         rcases flk_ins (x := eM t ks) HIN.out hg with e | e | e
         ·exact .inl e
         ·exact .inr (by omega)
         ·exact .inr (by omega)
end
section
open Go.RowKit Go.Maps Go.Shelf Go.Sort
theorem iA (a b : TxP) : fV b a = - fV a b := lexF_neg _ _
theorem txsF_trans (a b c : TxP) (h : fV a b ≤ 0) (h' : fV b c ≤ 0) : fV a c ≤ 0 := fW (txL a) (txL b) (txL c) rfl rfl h h'
theorem txsF_self (a : TxP) : fV a a = 0 := (txsF_zero a a).2 rfl
theorem txsSWO : SWO (ltOf fV) := by
 refine ⟨fun x => by simp [ltOf, txsF_self], fun x y z h1 h2 => ?_, fun x y z h1 h2 => ?_⟩
 ·simp only [ltOf, decide_eq_true_eq] at *
  have h3 := txsF_trans x y z (by omega) (by omega)
  rcases Int.lt_or_eq_of_le h3 with h | h
  ·exact h
  ·have := (txsF_zero x z).1 h
   subst this
   have := iA x y
   omega
 ·simp only [ltOf, decide_eq_false_iff_not] at *
  have e1 := iA x y
  have e2 := iA y z
  have e3 := iA x z
  have h3 := txsF_trans z y x (by omega) (by omega)
  omega
theorem txsTotal (x y : TxP) (h1 : ltOf fV x y = false) (h2 : ltOf fV y x = false) : x = y := by
 simp only [ltOf, decide_eq_false_iff_not] at *
 have := iA x y
 exact (txsF_zero x y).1 (by omega)
def kF (ss : List TxP) : List TxP := ss.mergeSort fun x y => !(ltOf fV) y x
theorem sortT_nil : kF [] = [] := by simp [kF]
def Rising (ss : List TxP) : Prop := ss.Pairwise (fun a b => fV a b < 0)
theorem Rising.nodup {ss : List TxP} (h : Rising ss) : ss.Nodup := h.imp (fun {a b} hab e => by subst e; rw [txsF_self] at hab; omega)
theorem sortT_unique (ss L : List TxP) (hn : ss.Nodup) (hL : Rising L) (hm : ∀ t, t ∈ L ↔ t ∈ ss) : kF ss = L := by
 have hp : (kF ss).Perm L := (List.mergeSort_perm ss _).trans ((List.perm_ext_iff_of_nodup hn hL.nodup).2 (fun t => (hm t).symm))
 refine List.Perm.eq_of_pairwise (le := fun a b => fV a b ≤ 0) (fun a b _ _ h1 h2 => ?_) ?_ (hL.imp (fun h => by omega)) hp
 ·have := iA a b
  exact (txsF_zero a b).1 (by omega)
 ·have := List.pairwise_mergeSort (le := fun x y : TxP => !(ltOf fV) y x) (fun a b c h1 h2 => ?_) (fun a b => ?_) ss
  ·exact this.imp (fun {a b} h => by
    simp only [ltOf, Bool.not_eq_true', decide_eq_false_iff_not] at h
    have := iA a b
    omega)
  ·simp only [Bool.not_eq_true'] at h1 h2 ⊢
   exact txsSWO.ntrans _ _ _ h2 h1
  ·simp only [ltOf, Bool.or_eq_true, Bool.not_eq_true', decide_eq_false_iff_not]
   have := iA a b
   omega
theorem rowOf_get : ∀ (ss : List TxP) (t : Nat), t < ss.length * 3 → (bV ss)[t]? = some ((txCs ss[t / 3]!)[t % 3]!)
 | [], t, h => by simp at h
 | x :: r, t, h => by
  have e : bV (x :: r) = txCs x ++ bV r := by simp [bV]
  rw [e]
  by_cases h3 : t < 3
  ·have : t = 0 ∨ t = 1 ∨ t = 2 := by omega
   rcases this with rfl | rfl | rfl <;> simp
  ·obtain ⟨s, rfl⟩ : ∃ s, t = s + 3 := ⟨t - 3, by omega⟩
   rw [List.getElem?_append_right (by simp)]
   have ih := rowOf_get r s (by simp at h; omega)
   have e1 : (s + 3) / 3 = s / 3 + 1 := by omega
   have e2 : (s + 3) % 3 = s % 3 := by omega
   rw [e1, e2]
   simpa using ih
theorem flat_row (ss : List TxP) : flatK txCs 3 ss.toArray = (bV ss).toArray := by
 apply Array.ext
 ·simp [iR]
 ·intro i h1 h2
  have hi : i < ss.length * 3 := by simpa using h1
  have e := rowOf_get ss i hi
  have h3 : i < (bV ss).length := by rw [iR]; exact hi
  rw [List.getElem?_eq_getElem h3] at e
  have e' := Option.some.inj e
  simp only [List.getElem_toArray, e']
  simp [flatK]
theorem holds_row {w : World} {g : Nat} {cur : Array Value} {e : TypeId} {ss : List TxP} (hb : w.heap[g]? = some (.cells cur e (0, 0))) (ht : cur.toList.take (ss.length * 3) = bV ss) : HoldsK txCs 3 w g 0 ss.toArray := by
 unfold HoldsK
 rw [flat_row]
 intro j hj
 have hj' : j < (bV ss).length := by simpa using hj
 refine ⟨?_, by simp [World.frozen?, hb]⟩
 have h1 : (cur.toList.take (ss.length * 3))[j]? = (bV ss)[j]? := by rw [ht]
 rw [List.getElem?_take_of_lt (by rw [iR] at hj'; exact hj')] at h1
 simp only [World.cell?, hb, Nat.zero_add]
 simp only [Option.isSome_none, Bool.false_eq_true, if_false]
 rw [← Array.getElem?_toList, h1]
 simp [hj']
theorem heap_sortW {w : World} {g n : Nat} {os : Array Obj} {cur : Array Value} {e : TypeId} (ts : List TxP) (hb : w.heap[g]? = some (.cells cur e (0, 0))) :
  (sortWorldK txCs 3 w g 0 n ts.toArray os).heap[g]? = some (.cells (putCells id 0 (bV ts).toArray cur) e (0, 0)) := by
 have hg : g < w.heap.size := (Array.getElem?_eq_some_iff.1 hb).1
 unfold sortWorldK putRowK
 rw [flat_row, heap_grow_old _ _ (by simpa using hg)]
 simp [putRow, mapBlock, Sort.ahead, Array.getElem?_modify, hb, onCells]
theorem grown_sortW {w : World} {g n : Nat} {os : Array Obj} (d : Array TxP) : w.grownBy (sortWorldK txCs 3 w g 0 n d os) (some g) := by
 unfold sortWorldK putRowK
 refine ⟨rfl, rfl, rfl, by simp, fun k hk hne => ?_⟩
 rw [heap_grow_old _ _ (by simpa using hk)]
 have : g ≠ k := fun e => hne (by rw [e])
 simp [putRow, mapBlock, Sort.ahead, Array.getElem?_modify, this]
theorem take_putIds (cur : Array Value) (ts : List Value) (h : ts.length ≤ cur.size) : (putCells id 0 ts.toArray cur).toList.take ts.length = ts := by
 apply List.ext_getElem?
 intro j
 by_cases hj : j < ts.length
 ·rw [List.getElem?_take_of_lt hj, Array.getElem?_toList]
  simp [putCells, hj, show j < cur.size by omega]
 ·rw [List.getElem?_take_eq_none (by omega), List.getElem?_eq_none (by omega)]
theorem sortT_length (ss : List TxP) : (kF ss).length = ss.length := by simp [kF]
theorem owns_sorted {w : World} {base g cap n : Nat} {e : TypeId} {os : Array Obj} {cur : Array Value} {ss : List TxP} (hbase : base ≤ g) (hb : w.heap[g]? = some (.cells cur e (0, 0)))
  (h1 : ss.length ≤ cap) (h2 : cap ≤ maxLen) (h3 : cur.size = cap * 3) :
  (sortWorldK txCs 3 w g 0 n (kF ss).toArray os).ownsRow base e 3 (.slice (some ⟨g, 0, none⟩) ss.length cap) ss.length (bV (kF ss)) := by
 have hl : (bV (kF ss)).length = ss.length * 3 := by rw [iR, sortT_length]
 refine ⟨hl, .inr ⟨g, cap, _, rfl, hbase, heap_sortW _ hb, h1, h2, by simp [putCells, h3], ?_⟩⟩
 have := take_putIds cur (bV (kF ss)) (by rw [hl]; omega)
 rw [hl] at this
 exact this
theorem cmpLays (blk off size : Nat) (w : World) : CmpLays Tryz.prog 35 #[] txCs 3 fV blk off size w := by
 intro m os dk _ x y
 obtain ⟨a, b, c⟩ := x
 obtain ⟨d, e, f⟩ := y
 refine (txs_any a b c d e f _).mono ?_
 rintro e' w' ⟨rfl, q, os', h⟩
 exact ⟨rfl, q, os', h⟩
theorem sortF_any (g cap : Nat) (cur : Array Value) (ss : List TxP) (w : World) (hb : w.heap[g]? = some (.cells cur 34 (0, 0))) (h1 : ss.length ≤ cap) (h2 : cap ≤ maxLen) (h3 : cur.size = cap * 3) (h4 : cur.toList.take (ss.length * 3) = bV ss) (base : Nat) (hbase : base ≤ g) (hss : ss.length ≤ 1000000) :
  Calls Tryz.prog 36 #[.slice (some ⟨g, 0, none⟩) ss.length cap, .func (.func 35) #[] #[]] w fun e w' => e = .returned (.tuple #[]) ∧ w'.ownsRow base 34 3 (.slice (some ⟨g, 0, none⟩) ss.length cap) ss.length (bV (kF ss)) ∧ w.grownBy w' (some g) := by
 have hg : g < w.heap.size := (Array.getElem?_eq_some_iff.1 hb).1
 have h := AnyQ.slices_SortFunc_total Tryz.sortL 3 Tryz.isAgg34 Tryz.sizeOf34 txCs (fun _ => rfl) (fun x v hv => by simp at hv; rcases hv with rfl | rfl | rfl <;> rfl) fV txsSWO 35 #[] g 0 cap ss.toArray w
  (enters_of Tryz.func35 (by kernel_rfl) rfl) (cmpLays _ _ _ _) (holds_row hb h4) hg (by simp; omega) txsTotal
 refine Calls.mono h ?_
 rintro e w' ⟨rfl, n, os, rfl⟩
 exact ⟨rfl, owns_sorted hbase hb h1 h2 h3, grown_sortW _⟩
theorem sortF_none (p : Option Addr) (cap : Nat) (fv : Value) (w : World) :
  Calls Tryz.prog 36 #[.slice p 0 cap, fv] w fun e w' => e = .returned (.tuple #[]) ∧ w' = w := AnyF.slices_SortFunc_none Tryz.sortL p cap fv w
set_option maxHeartbeats 2000000 in
theorem sorted_in (n : Nat) (hn : 4 ≤ n) (g : Nat) (lb : Array Value) (eg : ∀ args w, (callFunc g args).run Tryz.prog w = .ok (.enter g args) w) (S : List TxP → Prop) (N : Nat) (hN : N ≤ 1000000) (w : World) (hS : ∀ ss, S ss → ss.length ≤ N)
  (hseq : SeqStopsK Fence.wide (n - 1 - 1 - 1) Tryz.prog g lb (fun x : TxP => #[txV x]) KeepsWalks S (fun _ => True) N w) :
  CallsIn Fence.wide n Tryz.prog 33 #[.func (.func g) #[] lb, .func (.func 35) #[] #[]] w fun e w' => ∃ (v : Value) (ss : List TxP), e = .returned v ∧ S ss ∧ w'.ownsRow w.heap.size 34 3 v ss.length (bV (kF ss)) ∧ Below w.heap.size w w' := by
 have h1 : 1 ≤ n := by omega
 have hF : Fence.wide.fn 33 := trivial
 refine callsIn_of_wp Tryz.func33 rfl hF ?_ rfl
 simp only [Tryz.ntmps33, List.size_toArray, List.length_cons, List.length_nil, Nat.reduceAdd, Nat.reduceSub, Array.replicate_succ, Array.replicate_zero, List.push_toArray, List.append_toArray, List.nil_append, List.cons_append]
 gi_wp2_with (refine ⟨trivial, ?_⟩; gi_at_call 61; refine (collect_in (n - 1) (by omega) g lb eg S N hN _ hseq).mono ?_; rintro e W ⟨v, ss, rfl, hS1, hrow, hb⟩; have HROW := aA hrow; have HB := aA hb; clear hrow hb; rcases HROW.out.2 with ⟨rfl, hz⟩ | ⟨gb, cap, cur, rfl, hbase, hgb, r1, r2, r3, r4⟩)
 ·have hss : ss = [] := List.eq_nil_of_length_eq_zero hz
  subst hss
  refine ⟨trivial, ?_⟩
  refine (callsIn_wide.2 (sortF_none none 0 _ W)).mono ?_
  rintro e w' ⟨rfl, rfl⟩
  gi_wp2
  go_ret
  refine ⟨.slice none 0 0, [], rfl, hS1, ?_, HB.out⟩
  rw [sortT_nil]
  exact World.ownsRow_nil _ _ _ _
 ·refine ⟨trivial, ?_⟩
  refine (callsIn_wide.2 (sortF_any gb cap cur ss W hgb r1 r2 r3 r4 w.heap.size hbase (by have := hS ss hS1; omega))).mono ?_
  rintro e w' ⟨rfl, ho, hg⟩
  have HO := aA ho
  have HG := aA hg
  clear ho hg r1 r2 r3 r4 hgb HROW
  gi_wp2
  go_ret
  exact ⟨_, ss, rfl, hS1, HO.out, HB.out.grown HG.out HB.out.size (fun j hj => by cases hj; exact hbase)⟩
theorem own_base {w : World} {a b : Nat} {e : TypeId} {size : Nat} {v : Value} {n : Nat} {xs : List Value} (h : w.ownsRow b e size v n xs) (hab : a ≤ b) : w.ownsRow a e size v n xs :=
 ⟨h.1, h.2.imp id (fun ⟨g, cap, cur, h1, h2, h3⟩ => ⟨g, cap, cur, h1, Nat.le_trans hab h2, h3⟩)⟩
end
section
open Go.RowKit Go.Maps Go.Shelf
attribute [local go_sem] Oper.semAt_some
def MetG {E : Type} (D0 : DataW E) (left : Lit → Bool) (ss : List TxP) : Prop := ss.Nodup ∧ (∀ t ∈ ss, jY t) ∧ ∀ t, jY t → (t ∈ ss ↔ (has D0 (cV t) = true ∧ left (cV t) = false))
theorem MetG.start {E : Type} (D0 : DataW E) : MetG D0 (has D0) [] := ⟨List.nodup_nil, by simp, fun t _ => by cases has D0 (cV t) <;> simp⟩
theorem MetG.step {E : Type} {D0 : DataW E} {left : Lit → Bool} {ss : List TxP} (h : MetG D0 left ss) {t : TxP} (ht : jY t) {y : DataW E} (hlk : left (cV t) = true) (hat : ∀ zd, D0.atKey (cV t) zd = y) : MetG D0 (fun z => left z && !z.sameKey (cV t)) (ss ++ [t]) := by
 have hhas : has D0 (cV t) = true := has_true_of_atKey hat
 have hnew : t ∉ ss := fun hx => by have := ((h.2.2 t ht).1 hx).2; rw [hlk] at this; cases this
 refine ⟨List.nodup_append.2 ⟨h.1, by simp, fun a ha b hb => by simp at hb; subst hb; exact fun e => hnew (e ▸ ha)⟩, fun u hu => ?_, fun u hu => ?_⟩
 ·rcases List.mem_append.1 hu with hu | hu
  ·exact h.2.1 u hu
  ·simp at hu; subst hu; exact ht
 ·by_cases hy : u = t
  ·subst hy
   have hss : (cV u).sameKey (cV u) = true := by unfold cV; simp [Lit.sameKey]
   simp [hhas, hss]
  ·have hne : cV u ≠ cV t := fun e => hy (txKey_inj hu ht e)
   have hsk : (cV u).sameKey (cV t) = false := by
    unfold cV at hne ⊢
    simp [Lit.sameKey]
    intro e
    exact hne (by rw [e])
   simp [h.2.2 u hu, hy, hsk]
def NamesG {E : Type} (D : DataW E) (ss : List TxP) : Prop := ss.Nodup ∧ (∀ t ∈ ss, jY t) ∧ ∀ t, jY t → (t ∈ ss ↔ has D (cV t) = true)
theorem MetG.done {E : Type} {D0 : DataW E} {left : Lit → Bool} {ss : List TxP} (h : MetG D0 left ss) (hl : ∀ kl, left kl = false) : NamesG D0 ss := ⟨h.1, h.2.1, fun t ht => by rw [h.2.2 t ht, hl]; simp⟩
set_option maxHeartbeats 2000000 in
theorem keys1G_in (n : Nat) (hn : 1 ≤ n) (l Bm b nn : Nat) {E : Type} {R : Value → Option (DataW E × List MemPlace)} (D0 : DataW E) (J Jx : List TxP → World → Prop)
  (hY : ∀ pre x W, J pre W → pre.length < Maps.size D0 → YieldAt Fence.wide (n - 1) Tryz.prog l #[txV x] W fun e W' => (e = .returned (.bool true) ∧ J (pre ++ [x]) W' ∧ KeepsWalks W W') ∨ (e = .returned (.bool false) ∧ Jx (pre ++ [x]) W'))
  (W : World) (hJ : AbidesFrom W.heap.size J) (hm : W.cell? ⟨Bm, 0, none⟩ = some (.map (some b))) (hown : W.ownsMap Tryz.prog 34 R b nn D0) (h0 : J [] W) :
  CallsIn Fence.wide n Tryz.prog 62 #[.func (.yield l) #[] #[], .pointer (some ⟨Bm, 0, none⟩)] W fun e W' => (∃ v, e = .returned v) ∧ ((∃ ss : List TxP, (NamesG D0 ss ∧ ss.length ≤ Maps.size D0) ∧ J ss W') ∨ (∃ pre : List TxP, True ∧ Jx pre W')) := by
 have hF : Fence.wide.fn 62 := trivial
 have HI := aA infoTx3
 refine callsIn_of_wp Tryz.func62 rfl hF ?_ rfl
 simp only [Tryz.ntmps62, List.size_toArray, List.length_cons, List.length_nil, Nat.reduceAdd, Nat.reduceSub, Array.replicate_succ, Array.replicate_zero, List.push_toArray, List.append_toArray, List.nil_append, List.cons_append]
 gi_wp2_with (gi_at_range; refine wpListIn_range_own _ rfl _ 63 rfl 34 80 txKeyed Tryz.underlying63 _ b nn _ rfl hown ?_; intro w0 hrg0 hg0 hs0)
 go_frame
 gi_loopw [3] (fun _ wr => ∃ (left : Lit → Bool) (cnt : Nat) (ss : List TxP), wr.ranges Tryz.prog 34 R b W.heap.size nn D0 left cnt ∧ ss.length + cnt ≤ Maps.size D0 ∧ MetG D0 left ss ∧ J ss wr)
  (fun _ wr => wr.rangeLeft b W.heap.size)
 case atStart =>
  exact ⟨_, _, [], hrg0, by simp, MetG.start D0, hJ [] W w0 none h0 hg0 (fun r e => by cases e)⟩
 case round =>
  obtain ⟨left, cnt, ss, hrg, hcs, hC, hJs⟩ := hrel
  gi_wp2_with (gi_at_next; refine wpListIn_next_ranges _ rfl _ rfl 34 txKeyed R txV id (fun key kl hk => by obtain ⟨x, _, hx, _⟩ := kQ hk; exact ⟨x, hx⟩) (fun v _ _ => ⟨v, rfl⟩) b W.heap.size nn _ _ _ rfl hrg ?_ ?_)
  ·intro hc0 hl0
   gi_wp2
   go_end0
   exact ⟨⟨_, rfl⟩, .inl ⟨ss, ⟨hC.done hl0, by omega⟩, hJs⟩⟩
  ·intro xa xb xc c kl yd yp w2 cnt2 hkey hlk hv hat hrg2 hlt hg2 hs2 hen
   obtain ⟨x', hok, ex, rfl⟩ := kQ hkey
   obtain rfl : (xa, xb, xc) = x' := by
    obtain ⟨d, e, f⟩ := x'
    simp [txV] at ex
    obtain ⟨rfl, rfl, rfl⟩ := ex
    rfl
   have hJ2 : J ss w2 := hJ ss wr w2 (some W.heap.size) hJs hg2 (fun r e => by cases e; exact ⟨Nat.le_refl _, hrg.iter_walk⟩)
   have HX := aA (aN w2 #[.int .u8 0, .int .u32 0, .int .u32 0] 34)
   clear hs2 ex
   gi_wp2_with (refine wpIn_store_box (cs' := #[.int .u8 xa, .int .u32 xb, .int .u32 xc]) rfl rfl _ _ rfl _ rfl rfl HX.out rfl HI.out (by simp [Value.oneCell']) ?_; intro w3 hb3 hk3; have HB3 := aA hb3; have HK3 := aA hk3; clear hb3 hk3; obtain ⟨z0, z1, z2⟩ := HB3.out.three; have zl := HB3.out.lt; have hg3 := grown_new _ HK3.out; have hJ3 : J ss w3 := hJ ss w2 w3 none hJ2 hg3 (fun r e => by cases e); have hrg3 := hrg2.of_walks (KeepsWalks.of_grownBy hg3 (fun j o e => by cases e)); obtain ⟨fn, tmps, assign, body, hy, hR⟩ := hY ss (xa, xb, xc) w3 hJ3 (by omega); have HR := aA hR; have HG3 := aA hg3; clear hg3 hR)
   refine HR.out.mono ?_
   rintro e W4 (⟨rfl, hJ4, hk4⟩ | ⟨rfl, hJx4⟩)
   ·have hrg4 := hrg3.of_walks hk4
    gi_wp2
    go_roundw
    case rel => exact ⟨_, cnt2, ss ++ [(xa, xb, xc)], hrg4, by simp; omega, hC.step hok hlk hat, hJ4⟩
    case measure => rw [hrg4.left_eq, hrg.left_eq]; exact hlt
   ·gi_wp2
    refine bodyPost_ret (results_none rfl _ _ _) rfl ?_
    exact ⟨⟨_, rfl⟩, .inr ⟨_, trivial, hJx4⟩⟩
theorem keysG_in (n : Nat) (mb : Option Nat) (w : World) :
  CallsIn Fence.wide n Tryz.prog 34 #[.map mb] w fun e w' => e = .returned (.func (.func 62) #[] #[.pointer (some ⟨w.heap.size, 0, none⟩)]) ∧ w' = w.alloc (.cells #[.map mb] 63) := by
 have hF : Fence.wide.fn 34 := trivial
 refine callsIn_of_wp Tryz.func34 rfl hF ?_ rfl
 simp only [Tryz.ntmps34, List.size_toArray, List.length_cons, List.length_nil, Nat.reduceAdd, Nat.reduceSub, Array.replicate_succ, Array.replicate_zero, List.push_toArray, List.append_toArray, List.nil_append, List.cons_append]
 gi_wp2
 go_ret
 exact ⟨rfl, rfl⟩
theorem keysG_stops {E : Type} {R : Value → Option (DataW E × List MemPlace)} (n : Nat) (hn : 1 ≤ n) (Bm b nn : Nat) (D0 : DataW E) (w : World) (hBm : Bm < w.heap.size) (hm : w.cell? ⟨Bm, 0, none⟩ = some (.map (some b))) (hown : w.ownsMap Tryz.prog 34 R b nn D0) :
  SeqStopsK Fence.wide n Tryz.prog 62 #[.pointer (some ⟨Bm, 0, none⟩)] (fun x : TxP => #[txV x]) KeepsWalks (fun ss => NamesG D0 ss ∧ ss.length ≤ Maps.size D0) (fun _ => True) (Maps.size D0) w := fun l J Jx W hW hJ _ hY h0 =>
 keys1G_in n hn l Bm b nn D0 J Jx hY W hJ ((hW.cell (p := ⟨Bm, 0, none⟩) hBm).trans hm) (by obtain ⟨es, clock, g1, g2⟩ := hown; exact ⟨es, clock, (hW.block b (Array.getElem?_eq_some_iff.1 g1).1).trans g1, g2⟩) h0
end
section
open Go.RowKit Go.Maps Go.Shelf Classical
attribute [local go_sem] Oper.semAt_some
theorem lkUsers_any (q b1 C : Nat) (p : TxN → Nat × Nat) (l : List (aS KeyT)) (w : World) (h : fJ w q b1 C p l) :
  Calls Tryz.prog 13 #[.pointer (some ⟨q, 0, none⟩)] w fun e w' => ∃ v, e = .returned v ∧ w'.ownsRow w.heap.size 34 3 v l.length (bV (l.map fun x => txI x.tx)) ∧ Below w.heap.size w w' := by
 refine (callsIn_wide (n := 9)).1 ?_
 have hlt := h.box.lt
 have hp0 := h.box.cell 0 _ rfl
 obtain ⟨R, D, hR, hown, hsz, hhas, _⟩ := h.m.own
 have hsl := h.ok.few
 have HRS : Hid (∀ ss, NamesG D ss → kF ss = l.map fun x => txI x.tx) := aA (fun ss hss => sortT_unique ss _ hss.1 (by
   unfold Rising
   rw [List.pairwise_map]
   exact h.ok.rise) (fun t => by
   constructor
   ·intro ht
    obtain ⟨x, hx, rfl⟩ := List.mem_map.1 ht
    have hok : kJ x.tx := (h.ok.oks x hx).1
    refine (hss.2.2 _ (txI_ok hok)).2 ?_
    rw [hhas ⟨x.tx, hok⟩]
    show ((cM l x.tx).map _).isSome = true
    rw [(bT h.ok).2 ⟨hx, rfl⟩]
    rfl
   ·intro ht
    have hok := hss.2.1 t ht
    have hh := (hss.2.2 t hok).1 ht
    obtain ⟨u, rfl⟩ := tx_back hok
    rw [hhas u] at hh
    obtain ⟨y, hy⟩ := Option.isSome_iff_exists.1 hh
    obtain ⟨x, hx, _⟩ := Option.map_eq_some_iff.1 hy
    have hxx := (bT h.ok).1 hx
    exact List.mem_map.2 ⟨x, hxx.1, by rw [hxx.2]⟩))
 have hF : Fence.wide.fn 13 := trivial
 have C := aA (made15 q b1 w h.box)
 have HS := aA (keysG_stops 5 (by omega) w.heap.size b1 _ D (w.alloc (.cells #[.map (some b1)] 63)) (by simp) (Boxed.new w 63 (.map (some b1))).cell (hown.alloc _))
 clear h hown hhas
 refine callsIn_of_wp Tryz.func13 rfl hF ?_ rfl
 simp only [Tryz.ntmps13, List.size_toArray, List.length_cons, List.length_nil, Nat.reduceAdd, Nat.reduceSub, Array.replicate_succ, Array.replicate_zero, List.push_toArray, List.append_toArray, List.nil_append, List.cons_append]
 gi_wp2_with (first | (refine ⟨trivial, ?_⟩; gi_at_call 32; refine (callsIn_wide.2 C.out).mono ?_; rintro e w' ⟨rfl, hw'⟩; rw [hw']; clear hw') | (refine ⟨trivial, ?_⟩; gi_at_call 34; refine (keysG_in _ (some b1) _).mono ?_; rintro e w' ⟨rfl, hw'⟩; rw [hw']; clear hw'))
 refine ⟨trivial, ?_⟩
 refine (sorted_in 8 (by omega) 62 _ (enters_of Tryz.func62 (by kernel_rfl) rfl) (fun ss => NamesG D ss ∧ ss.length ≤ Maps.size D) (Maps.size D) (by omega) _ (fun ss h => h.2) HS.out).mono ?_
 rintro e w' ⟨v, ss, rfl, ⟨hN, _⟩, ho, hB⟩
 have hso := HRS.out ss hN
 have hsl2 := sortT_length ss
 rw [hso] at ho hsl2
 rw [List.length_map] at hsl2
 rw [← hsl2] at ho
 have HO := aA ho
 have HB := aA hB
 clear ho hB hso hsl2
 gi_wp2
 go_ret
 refine ⟨v, rfl, ?_, ((Below.refl _ w).alloc (Nat.le_refl _) _).trans (HB.out.mono (by simp))⟩
 exact own_base HO.out (by simp)
end
section
open Go.RowKit
abbrev stV15 (tm : Nat) (t : TxN) : Value := .agg #[.int .u32 (tm : Int), .int .u8 (t.1 : Int), .int .u32 (t.2.1 : Int), .int .u32 (t.2.2 : Int)]
def fP (D : World → Nat → (Nat → Prop) → Nat → List (aS KeyT) → Prop) (w w' : World) (q : Nat) (F : Nat → Prop) (C : Nat) (l' : List (aS KeyT)) : Prop :=
 ∃ F', D w' q F' C l' ∧ aC F w w' ∧ ∀ k, F' k → F k ∨ w.heap.size ≤ k
abbrev outV15 (a b : Value) : Value := .agg #[a, b]
abbrev cG (q : Nat) : Value := .pointer (some ⟨q, 0, none⟩)
structure eH (D : World → Nat → (Nat → Prop) → Nat → List (aS KeyT) → Prop) : Prop where
 keep : ∀ {w w' : World} {q C : Nat} {F S : Nat → Prop} {l : List (aS KeyT)}, D w q F C l → aC S w w' → (∀ k, F k → ¬ S k) → D w' q F C l
 lt : ∀ {w : World} {q C : Nat} {F : Nat → Prop} {l : List (aS KeyT)}, D w q F C l → ∀ k, F k → k < w.heap.size
 ok : ∀ {w : World} {q C : Nat} {F : Nat → Prop} {l : List (aS KeyT)}, D w q F C l → dD l
 new : ∀ (w : World), Calls Tryz.prog 4 #[] w fun e w' => ∃ q F, e = .returned (cG q) ∧ D w' q F 0 [] ∧ (∀ k, F k → w.heap.size ≤ k) ∧ Below w.heap.size w w'
 ask : ∀ {w : World} {q C : Nat} {F : Nat → Prop} {l : List (aS KeyT)} (tm : Nat) (t : TxN) (k : KeyT) (m : Nat), D w q F C l → C ≤ 150 → kJ t → tm < 4294967296 → m < 256 →
  Calls Tryz.prog 23 #[cG q, stV15 tm t, .agg (aK k.1), .int .u8 (m : Int)] w fun e w' => ∃ vw vg er wn gr l', e = .returned (.tuple #[outV15 vw vg, .int .i64 er]) ∧ AskR cQ (dG tm t k m) l t tm k m er l' wn gr ∧ fP D w w' q F (C + 1) l' ∧
   w'.ownsRow w.heap.size 34 3 vw wn.length (bV (wn.map txI)) ∧ w'.ownsRow w.heap.size 73 12 vg gr.length (bR gtE gr)
 prep : ∀ {w : World} {q C : Nat} {F : Nat → Prop} {l : List (aS KeyT)} (t : TxN), D w q F C l → C ≤ 150 → kJ t →
  Calls Tryz.prog 25 #[cG q, aV t] w fun e w' => ∃ vg er gr l', e = .returned (.tuple #[outV15 (.slice none 0 0) vg, .int .i64 er]) ∧ PrepR cQ l t er l' gr ∧ fP D w w' q F C l' ∧ w'.ownsRow w.heap.size 73 12 vg gr.length (bR gtE gr)
 rel : ∀ {w : World} {q C : Nat} {F : Nat → Prop} {l : List (aS KeyT)} (t : TxN), D w q F C l → C ≤ 150 → kJ t →
  Calls Tryz.prog 26 #[cG q, aV t] w fun e w' => ∃ vg er gr l', e = .returned (.tuple #[outV15 (.slice none 0 0) vg, .int .i64 er]) ∧ RelR cQ l t er l' gr ∧ fP D w w' q F C l' ∧ w'.ownsRow w.heap.size 73 12 vg gr.length (bR gtE gr)
 rest : ∀ {w : World} {q C : Nat} {F : Nat → Prop} {l : List (aS KeyT)} (t : TxN) (ks : List KeyT) (v : Value), D w q F C l → C ≤ 150 → ks.length ≤ 100000 → kJ t → bI kyCs w v ks →
  Calls Tryz.prog 27 #[cG q, aV t, v] w fun e w' => ∃ er l', e = .returned (.int .i64 er) ∧ RestR (fF t ks) l t ks er l' ∧ fP D w w' q F (max C ks.length) l'
 mode : ∀ {w : World} {q C : Nat} {F : Nat → Prop} {l : List (aS KeyT)} (t : TxN) (k : KeyT), D w q F C l → kJ t →
  Calls Tryz.prog 17 #[cG q, aV t, .agg (aK k.1)] w fun e w' => e = .returned (.int .u8 ((aT l t).h k : Int)) ∧ Below w.heap.size w w'
 waits : ∀ {w : World} {q C : Nat} {F : Nat → Prop} {l : List (aS KeyT)} (t : TxN), D w q F C l → kJ t →
  Calls Tryz.prog 19 #[cG q, aV t] w fun e w' => ∃ b, e = .returned (.bool b) ∧ (b = true ↔ ∃ k, (aT l t).w k ≠ 0) ∧ Below w.heap.size w w'
 prepd : ∀ {w : World} {q C : Nat} {F : Nat → Prop} {l : List (aS KeyT)} (t : TxN), D w q F C l → kJ t →
  Calls Tryz.prog 21 #[cG q, aV t] w fun e w' => e = .returned (.bool (aT l t).pr) ∧ Below w.heap.size w w'
 users : ∀ {w : World} {q C : Nat} {F : Nat → Prop} {l : List (aS KeyT)}, D w q F C l → Calls Tryz.prog 13 #[cG q] w fun e w' => ∃ v, e = .returned v ∧ w'.ownsRow w.heap.size 34 3 v l.length (bV (l.map fun x => txI x.tx)) ∧ Below w.heap.size w w'
 queue : ∀ {w : World} {q C : Nat} {F : Nat → Prop} {l : List (aS KeyT)} (k : KeyT), D w q F C l → Calls Tryz.prog 15 #[cG q, .agg (aK k.1)] w fun e w' => ∃ v, e = .returned v ∧ w'.ownsRow w.heap.size 34 3 v (cS l k).length (bV ((cS l k).map txI)) ∧ Below w.heap.size w w'
section
variable {D : World → Nat → (Nat → Prop) → Nat → List (aS KeyT) → Prop}
theorem eH.below (H : eH D) {w w' : World} {q C : Nat} {F : Nat → Prop} {l : List (aS KeyT)} (h : D w q F C l) (hB : Below w.heap.size w w') : D w' q F C l := H.keep h (aC.of_below (fun _ => False) hB) (fun _ _ h => h)
structure fA (D : World → Nat → (Nat → Prop) → Nat → List (aS KeyT) → Prop) (w : World) (q : Nat) (F : Nat → Prop) (C : Nat) (l : List (aS KeyT)) (W : World) : Prop where
 d : D W q F C l
 new : ∀ k, F k → w.heap.size ≤ k
 b : Below w.heap.size w W
theorem fA.did {w w1 w2 : World} {q C C' : Nat} {F : Nat → Prop} {l l' : List (aS KeyT)} (h : fA D w q F C l w1) (hd : fP D w1 w2 q F C' l') : ∃ F', fA D w q F' C' l' w2 ∧ aC F w1 w2 ∧ ∀ k, F' k → F k ∨ w1.heap.size ≤ k := by
 obtain ⟨F', h1, hk, h2⟩ := hd
 exact ⟨F', ⟨h1, fun k hk' => (h2 k hk').elim (h.new k) (fun h3 => Nat.le_trans h.b.size h3), h.b.trans (hk.below h.b.size h.new)⟩, hk, h2⟩
theorem fA.below (H : eH D) {w W W' : World} {q C : Nat} {F : Nat → Prop} {l : List (aS KeyT)} (h : fA D w q F C l W) (hB : Below W.heap.size W W') : fA D w q F C l W' :=
 ⟨H.below h.d hB, h.new, h.b.trans (hB.mono h.b.size)⟩
theorem fA.keep (H : eH D) {S : Nat → Prop} {w W W' : World} {q C : Nat} {F : Nat → Prop} {l : List (aS KeyT)} (h : fA D w q F C l W) (hk : aC S W W') (h1 : ∀ k, F k → ¬ S k) (h2 : ∀ k, S k → w.heap.size ≤ k) : fA D w q F C l W' :=
 ⟨H.keep h.d hk h1, h.new, h.b.trans (hk.below h.b.size h2)⟩
end
end
end Go.Proofs.YtiloagmkkhlfjaaGreat
