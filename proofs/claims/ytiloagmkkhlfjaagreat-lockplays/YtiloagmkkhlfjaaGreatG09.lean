/-
  Own texts put together: LkProg, IdCmp2, IdKey, Cuts, IdName, LkGet. Own work.
-/
import Derived.Test.YtiloagmkkhlfjaaGreatG06
import Derived.Test.YtiloagmkkhlfjaaGreatG07
import Derived.Test.YtiloagmkkhlfjaaGreatG08
import Derived.Test.YtiloagmkkhlfjaaGreatG04
import Derived.Test.YtiloagmkkhlfjaaGreatG01
import Derived.BigRegion
import Derived.Deep.RegionHeld
import Derived.Shelf.Abstract
import Derived.Lib.BytesEntry
import Derived.Deep.QuietTactic
import Derived.BigQuiet
namespace Go.Proofs.YtiloagmkkhlfjaaGreat
set_option maxRecDepth 100000
section
open Go.RowKit Go.Maps Classical
abbrev E15 : Type := Nat × TxN × Bool × Option Nat × Option Nat
abbrev usA (e : E15) : Array Value := #[.int .u32 (e.1 : Int), .int .u8 (e.2.1.1 : Int), .int .u32 (e.2.1.2.1 : Int), .int .u32 (e.2.1.2.2 : Int), .bool e.2.2.1, .map e.2.2.2.1, .map e.2.2.2.2]
abbrev usV (e : E15) : Value := .agg (usA e)
def zE : E15 := (0, (0, 0, 0), false, none, none)
theorem fM : jN 63 34 80 (fun t : TxT => aV t.1) (fun t => cV (txI t.1)) usV zE where
 und := Tryz.underlying63
 keyed := txKeyed
 key := fun k => keyOf_tx (txI k.1) (txI_ok k.2)
 inj := fun k l h => Subtype.ext (txI_inj (txKey_inj (txI_ok k.2) (txI_ok l.2) h))
 inv := fun v kl h => by
  obtain ⟨x, hx, rfl, rfl⟩ := kQ h
  obtain ⟨t, rfl⟩ := tx_back hx
  exact ⟨t, rfl, rfl⟩
 zero := fun w => by kernel_rfl
 einj := fun a b h => by
  obtain ⟨a1, ⟨a2, a3, a4⟩, a5, a6, a7⟩ := a
  obtain ⟨b1, ⟨b2, b3, b4⟩, b5, b6, b7⟩ := b
  simp at h
  obtain ⟨h1, h2, h3, h4, h5, h6, h7⟩ := h
  have e1 : a1 = b1 := by omega
  have e2 : a2 = b2 := by omega
  have e3 : a3 = b3 := by omega
  have e4 : a4 = b4 := by omega
  rw [e1, e2, e3, e4, h5, h6, h7]
abbrev u8V (n : Nat) : Value := .int .u8 (n : Int)
theorem kB : jN 78 38 5 (fun k : KeyT => kyV k.1) (fun k => eD k.1) u8V 0 where
 und := Tryz.underlying78
 keyed := kyKeyed
 key := fun k => keyOf_ky k.1 k.2
 inj := fun k l h => Subtype.ext (kyKey_inj k.2 l.2 h)
 inv := fun v kl h => keyOf_ky_inv h
 zero := fun w => by kernel_rfl
 einj := fun a b h => by simp at h; omega
abbrev UMap (w : World) (b : Nat) (g : TxT → Option E15) (n : Nat) : Prop := eT 34 (fun t : TxT => cV (txI t.1)) usV w b g n
abbrev gM (f : KeyT → Nat) (k : KeyT) : Option Nat := if f k = 0 then none else some (f k)
abbrev jD (w : World) (b : Nat) (f : KeyT → Nat) (n : Nat) : Prop := eT 38 (fun k : KeyT => eD k.1) u8V w b (gM f) n
abbrev gU (l : List (aS KeyT)) (p : TxN → Nat × Nat) (t : TxT) : Option E15 := (cM l t.1).map fun u => (u.tm, u.tx, u.pr, some (p t.1).1, some (p t.1).2)
theorem gM_getD (f : KeyT → Nat) (k : KeyT) : (gM f k).getD 0 = f k := by
 unfold gM
 split
 ·rename_i h; rw [h]; rfl
 ·rfl
theorem kT (f : KeyT → Nat) (k : KeyT) : (gM f k).isSome = true ↔ f k ≠ 0 := by
 unfold gM
 split
 ·rename_i h; simp [h]
 ·rename_i h; simp [h]
def eN (w : World) (mb : Option Nat) (f : KeyT → Nat) : Prop := (mb = none ∧ ∀ k, f k = 0) ∨ ∃ b n, mb = some b ∧ jD w b f n
theorem eN.look {w : World} {mb : Option Nat} {f : KeyT → Nat} (h : eN w mb f) (k : KeyT) : (Instr.lookup 78 (.map mb) (kyV k.1) false).run Tryz.prog w = .ok (.int .u8 (f k : Int)) w := by
 rcases h with ⟨rfl, h0⟩ | ⟨b, n, rfl, hm⟩
 ·rw [h0 k]
  exact Maps.look_nil false kB.keyed kB.und (kB.zero w) (kB.key k)
 ·have := hm.look1 kB k
  rw [gM_getD] at this
  exact this
theorem gmap_pos {K E : Type} {mt kt et : TypeId} {kV : K → Value} {kL : K → Lit} {eV : E → Value} {z : E} {w : World} {b n : Nat} {g : K → Option E} (T : jN mt kt et kV kL eV z) (h : eT kt kL eV w b g n) : 0 < n ↔ ∃ k, (g k).isSome = true := by
 constructor
 ·intro hn
  by_cases he : ∃ k, (g k).isSome = true
  ·exact he
  ·have := h.few T [] (fun k hk => absurd ⟨k, hk⟩ he)
   simp at this
   omega
 ·rintro ⟨k, hk⟩
  obtain ⟨R, D, hR, ho, hs, hh, ha⟩ := h.own
  obtain ⟨es, clock, hb, F, _, rfl⟩ := ho
  rw [← hs]
  rw [← hh k] at hk
  cases hl : (es.toList.map (WideElems.rg Tryz.prog kt R)).foldr DataW.insert [] with
  | nil => rw [hl] at hk; cases hk
  | cons x xs => simp [Maps.size]
theorem eN.len {w : World} {mb : Option Nat} {f : KeyT → Nat} (h : eN w mb f) : ∃ n : Nat, (∀ ty, (Builtin.len_ #[78] ty #[.map mb]).run Tryz.prog w = .ok (.int .i64 (n : Int)) w) ∧ (0 < n ↔ ∃ k, f k ≠ 0) := by
 rcases h with ⟨rfl, h0⟩ | ⟨b, n, rfl, hm⟩
 ·refine ⟨0, fun ty => ?_, ⟨fun h => absurd h (by decide), fun ⟨k, hk⟩ => absurd (h0 k) hk⟩⟩
  simp [go_sem, Tryz.underlying78]
 ·exact ⟨n, fun ty => hm.len kB ty, (gmap_pos kB hm).trans ⟨fun ⟨k, hk⟩ => ⟨k, (kT f k).1 hk⟩, fun ⟨k, hk⟩ => ⟨k, (kT f k).2 hk⟩⟩⟩
theorem eN.keep {S : Nat → Prop} {w w' : World} {mb : Option Nat} {f : KeyT → Nat} (h : eN w mb f) (hk : aC S w w') (hS : ∀ b, mb = some b → ¬ S b) : eN w' mb f := by
 rcases h with h | ⟨b, n, rfl, hm⟩
 ·exact .inl h
 ·exact .inr ⟨b, n, rfl, hm.keep hk (hS b rfl)⟩
structure fJ (w : World) (q b C : Nat) (p : TxN → Nat × Nat) (l : List (aS KeyT)) : Prop where
 box : bZ w q #[.map (some b)] 65
 m : UMap w b (gU l p) l.length
 maps : ∀ u ∈ l, ∃ n n', jD w (p u.tx).1 u.h n ∧ jD w (p u.tx).2 u.w n' ∧ n + n' ≤ C
 ap : ∀ u ∈ l, (p u.tx).1 ≠ (p u.tx).2 ∧ (p u.tx).1 ≠ b ∧ (p u.tx).2 ≠ b
 ap2 : ∀ u ∈ l, ∀ v ∈ l, u.tx ≠ v.tx → (p u.tx).1 ≠ (p v.tx).1 ∧ (p u.tx).1 ≠ (p v.tx).2 ∧ (p u.tx).2 ≠ (p v.tx).2
 ok : dD l
def eP (q b : Nat) (p : TxN → Nat × Nat) (l : List (aS KeyT)) (k : Nat) : Prop := k = q ∨ k = b ∨ ∃ u ∈ l, (p u.tx).1 = k ∨ (p u.tx).2 = k
def PL15 (w : World) (q : Nat) (F : Nat → Prop) (C : Nat) (l : List (aS KeyT)) : Prop := ∃ b p, fJ w q b C p l ∧ ∀ k, F k ↔ eP q b p l k
section
variable {w w' : World} {q b C : Nat} {p : TxN → Nat × Nat} {l : List (aS KeyT)}
theorem fJ.keep {S : Nat → Prop} (h : fJ w q b C p l) (hk : aC S w w') (hS : ∀ k, eP q b p l k → ¬ S k) : fJ w' q b C p l :=
 ⟨h.box.keep hk (hS _ (.inl rfl)), h.m.keep hk (hS _ (.inr (.inl rfl))), fun u hu => by
  obtain ⟨n, n', h1, h2, h3⟩ := h.maps u hu
  exact ⟨n, n', h1.keep hk (hS _ (.inr (.inr ⟨u, hu, .inl rfl⟩))), h2.keep hk (hS _ (.inr (.inr ⟨u, hu, .inr rfl⟩))), h3⟩, h.ap, h.ap2, h.ok⟩
theorem fJ.below (h : fJ w q b C p l) (hB : Below w.heap.size w w') : fJ w' q b C p l := h.keep (aC.of_below (fun _ => False) hB) (fun _ _ h => h)
theorem fJ.flt (h : fJ w q b C p l) {k : Nat} (hk : eP q b p l k) : k < w.heap.size := by
 rcases hk with rfl | rfl | ⟨u, hu, rfl | rfl⟩
 ·exact h.box.lt
 ·exact h.m.lt
 ·obtain ⟨n, n', h1, _⟩ := h.maps u hu
  exact h1.lt
 ·obtain ⟨n, n', _, h2, _⟩ := h.maps u hu
  exact h2.lt
theorem fJ.q_ne (h : fJ w q b C p l) : q ≠ b ∧ ∀ u ∈ l, q ≠ (p u.tx).1 ∧ q ≠ (p u.tx).2 := ⟨h.m.ne h.box, fun u hu => by
 obtain ⟨n, n', h1, h2, _⟩ := h.maps u hu
 exact ⟨h1.ne h.box, h2.ne h.box⟩⟩
theorem fJ.more (h : fJ w q b C p l) {C' : Nat} (hC : C ≤ C') : fJ w q b C' p l := ⟨h.box, h.m, fun u hu => by
 obtain ⟨n, n', h1, h2, h3⟩ := h.maps u hu
 exact ⟨n, n', h1, h2, Nat.le_trans h3 hC⟩, h.ap, h.ap2, h.ok⟩
theorem fJ.read (h : fJ w q b C p l) (t : TxT) : eN w ((gU l p t).getD zE).2.2.2.1 (aT l t.1).h ∧ eN w ((gU l p t).getD zE).2.2.2.2 (aT l t.1).w ∧ ((gU l p t).getD zE).2.2.1 = (aT l t.1).pr := by
 cases hu : cM l t.1 with
 | none =>
  have e : gU l p t = none := by show (cM l t.1).map _ = _; rw [hu]; rfl
  rw [e, dA hu]
  exact ⟨.inl ⟨rfl, fun _ => rfl⟩, .inl ⟨rfl, fun _ => rfl⟩, rfl⟩
 | some u =>
  have e : gU l p t = some (u.tm, u.tx, u.pr, some (p t.1).1, some (p t.1).2) := by show (cM l t.1).map _ = _; rw [hu]; rfl
  have eg : aT l t.1 = u := by unfold aT; rw [hu]; rfl
  obtain ⟨hm, et⟩ := (bT h.ok).1 hu
  obtain ⟨n, n', h1, h2, _⟩ := h.maps u hm
  rw [e, eg]
  rw [et] at h1 h2
  exact ⟨.inr ⟨_, n, rfl, h1⟩, .inr ⟨_, n', rfl, h2⟩, rfl⟩
end
theorem pl_keep {w w' : World} {q C : Nat} {F S : Nat → Prop} {l : List (aS KeyT)} (h : PL15 w q F C l) (hk : aC S w w') (hS : ∀ k, F k → ¬ S k) : PL15 w' q F C l := by
 obtain ⟨b, p, h1, h2⟩ := h
 exact ⟨b, p, h1.keep hk (fun k hk => hS k ((h2 k).2 hk)), h2⟩
theorem pl_lt {w : World} {q C : Nat} {F : Nat → Prop} {l : List (aS KeyT)} (h : PL15 w q F C l) : ∀ k, F k → k < w.heap.size := by
 obtain ⟨b, p, h1, h2⟩ := h
 exact fun k hk => h1.flt ((h2 k).1 hk)
theorem lkNew_any (w : World) : Calls Tryz.prog 4 #[] w fun e w' => ∃ q F, e = .returned (.pointer (some ⟨q, 0, none⟩)) ∧ PL15 w' q F 0 [] ∧ (∀ k, F k → w.heap.size ≤ k) ∧ Below w.heap.size w w' := by
 have hmm := @run_makeMap Tryz.prog
 go_enter Tryz.func4, Tryz.ntmps4
 go_wp2
 go_ret
 have hA := aE w (.map #[] 0)
 have hA2 := aE (w.alloc (.map #[] 0)) (.cells #[.map (some w.heap.size)] 65)
 have h1 := (gmap_made fM w).below hA2
 have h3 := aN (w.alloc (.map #[] 0)) #[.map (some w.heap.size)] 65
 refine ⟨w.heap.size + 1, eP (w.heap.size + 1) w.heap.size (fun _ => (0, 0)) [], by simp, ⟨w.heap.size, fun _ => (0, 0), ⟨by simpa using h3, h1, (fun u hu => by cases hu), (fun u hu => by cases hu), (fun u hu => by cases hu), lkb_nil⟩, fun k => Iff.rfl⟩, fun k hk => ?_, hA.trans (hA2.mono hA.size)⟩
 rcases hk with rfl | rfl | ⟨u, hu, _⟩
 ·omega
 ·omega
 ·cases hu
theorem neqSomeL (b : Nat) (w : World) : (binOp .neq 63 (.map (some b)) (.map none)).run Tryz.prog w = .ok (.bool true) w := by kernel_rfl
theorem made15 (q b : Nat) (w : World) (h : bZ w q #[.map (some b)] 65) : Calls Tryz.prog 32 #[.pointer (some ⟨q, 0, none⟩)] w fun e w' => e = .returned (.bool true) ∧ w' = w := by
 have h0 := h.cell 0 _ rfl
 have hm := neqSomeL b
 go_enter Tryz.func32, Tryz.ntmps32
 go_wp2
 go_ret
 exact ⟨rfl, rfl⟩
theorem gZ : (Tryz.prog.info? 80).map (·.size) = some 7 := by kernel_rfl
theorem fS : (Tryz.prog.info? 34).map (·.size) = some 3 := by kernel_rfl
theorem infoKey15 : (Tryz.prog.info? 38).map (·.size) = some 8 := by kernel_rfl
theorem infoSt15 : (Tryz.prog.info? 36).map (·.size) = some 4 := by kernel_rfl
def stU (a v : Value) : Sem Unit := Instr.storeAt 80 a v
theorem kC (a v : Value) : Instr.storeAt 80 a v = stU a v := rfl
theorem run_stU {w : World} {p : Nat} {cs : Array Value} {t0 : TypeId} (h : bZ w p cs t0) (hs : cs.size = 7) (e : E15) : ∃ w', (stU (.pointer (some ⟨p, 0, none⟩)) (usV e)).run Tryz.prog w = .ok () w' ∧ bZ w' p (usA e) t0 ∧ aC (fun k => k = p) w w' := by
 have hr := run_storeVar_row (P := Tryz.prog) w p t0 80 cs (usA e) h gZ hs (by simp [Value.oneCell'])
 refine ⟨w.setRow p (usA e), ?_, setRow_heap w p cs _ t0 (0, 0) h, rfl, rfl, rfl, by simp [World.setRow], fun k _ hS => setRow_other w p k _ hS⟩
 unfold stU
 simp only [Instr.storeAt, Instr.sureAddr, Sem.run_bind, Sem.run_pure, Result.andThen_ok, hr]
attribute [local go_sem ↓] kC
set_option maxHeartbeats 1600000 in
theorem lkFind_any (q b C : Nat) (p : TxN → Nat × Nat) (l : List (aS KeyT)) (t : TxN) (w : World) (h : fJ w q b C p l) (ht : kJ t) :
  Calls Tryz.prog 39 #[.pointer (some ⟨q, 0, none⟩), aV t] w fun e w' => e = .returned (usV ((gU l p ⟨t, ht⟩).getD zE)) ∧ Below w.heap.size w w' := by
 have hA := aE w (.cells #[.int .u8 (t.1 : Int), .int .u32 (t.2.1 : Int), .int .u32 (t.2.2 : Int)] 34)
 have hA2 := aE (w.alloc (.cells #[.int .u8 (t.1 : Int), .int .u32 (t.2.1 : Int), .int .u32 (t.2.2 : Int)] 34)) (.cells (usA zE) 80)
 have hB2 := hA.trans (hA2.mono hA.size)
 have H2 := aA (h.below hB2)
 have CM := aA (made15 q b _ H2.out.box)
 have HXK := aA ((aN w #[.int .u8 (t.1 : Int), .int .u32 (t.2.1 : Int), .int .u32 (t.2.2 : Int)] 34).belowI hA2)
 have HXR : Hid (bZ ((w.alloc (.cells #[.int .u8 (t.1 : Int), .int .u32 (t.2.1 : Int), .int .u32 (t.2.2 : Int)] 34)).alloc (.cells (usA zE) 80)) (w.heap.size + 1) (usA zE) 80) := aA (by have := aN (w.alloc (.cells #[.int .u8 (t.1 : Int), .int .u32 (t.2.1 : Int), .int .u32 (t.2.2 : Int)] 34)) (usA zE) 80; simpa using this)
 have HB2 := aA hB2
 have HTB := aA ht
 obtain ⟨⟨tm, ⟨ta, tb, tc⟩, pr, hb, wb⟩, hE⟩ : ∃ E : E15, E = (gU l p ⟨t, ht⟩).getD zE := ⟨_, rfl⟩
 rw [← hE]
 have HE := aA hE
 clear hA hA2 hB2 h hE
 go_enter Tryz.func39, Tryz.ntmps39
 go_wp2_with fail
 refine CM.out.mono ?_
 rintro e w1 ⟨rfl, hw1⟩
 replace H2 : Hid (fJ w1 q b C p l) := aA (by rw [hw1]; exact H2.out)
 replace HXK : Hid (bZ w1 w.heap.size #[.int .u8 (t.1 : Int), .int .u32 (t.2.1 : Int), .int .u32 (t.2.2 : Int)] 34) := aA (by rw [hw1]; exact HXK.out)
 replace HXR : Hid (bZ w1 (w.heap.size + 1) (usA zE) 80) := aA (by rw [hw1]; exact HXR.out)
 replace HB2 : Hid (Below w.heap.size w w1) := aA (by rw [hw1]; exact HB2.out)
 clear hw1 CM
 have h0 : w1.cell? ⟨q, 0, none⟩ = some (.map (some b)) := H2.out.box.cell 0 _ rfl
 obtain ⟨k0, k1, k2⟩ := HXK.out.three
 have L1 := (H2.out.m.below (aG w1)).look1 fM ⟨t, HTB.out⟩
 rw [← HE.out] at L1
 obtain ⟨w3, hst, hx, hk⟩ := run_stU (HXR.out.belowI (aG w1)) rfl (tm, (ta, tb, tc), pr, hb, wb)
 have HX3 := aA hx
 have HB3 : Hid (Below w.heap.size w w3) := aA ((HB2.out.trans ((aG w1).mono HB2.out.size)).trans (hk.below HB2.out.size (fun k hk => by omega)))
 clear hx hk
 go_wp2_with fail
 go_region
 go_wp2_with fail
 exact bodyPost_ret (v := usV (tm, (ta, tb, tc), pr, hb, wb)) (eL Tryz.results39 _ _ (w.heap.size + 1) rfl HX3.out Tryz.underlying80 rfl gZ) rfl ⟨rfl, HB3.out⟩
end
section
open Go.RowKit
theorem lies_of3 (k : IntKind) (w : World) (b : Nat) (x y z : Int) (hb : b < w.heap.size) (h0 : w.cell? ⟨b, 0, none⟩ = some (.int k x)) (h1 : w.cell? ⟨b, 1, none⟩ = some (.int k y)) (h2 : w.cell? ⟨b, 2, none⟩ = some (.int k z)) : cX k w (.slice (some ⟨b, 0, none⟩) 3 3) [x, y, z] := by
 refine .inr ⟨by simp, b, 0, 3, rfl, hb, by simp, by unfold maxLen; omega, fun i hi => ?_⟩
 match i, hi with
 | 0, _ => exact h0
 | 1, _ => exact h1
 | 2, _ => exact h2
theorem lies_of2 (k : IntKind) (w : World) (b : Nat) (x y : Int) (hb : b < w.heap.size) (h0 : w.cell? ⟨b, 0, none⟩ = some (.int k x)) (h1 : w.cell? ⟨b, 1, none⟩ = some (.int k y)) : cX k w (.slice (some ⟨b, 0, none⟩) 2 2) [x, y] := by
 refine .inr ⟨by simp, b, 0, 2, rfl, hb, by simp, by unfold maxLen; omega, fun i hi => ?_⟩
 match i, hi with
 | 0, _ => exact h0
 | 1, _ => exact h1
theorem orL3 (a b c d e f : Int) : orL [gJ a d, gJ b e, gJ c f] = fV (a, b, c) (d, e, f) := rfl
theorem orL2 (s t : Int) (a b : TxP) : orL [gJ s t, fV a b] = fO (s, a) (t, b) := by
 show orF (gJ s t) (orF (fV a b) 0) = orF (gJ s t) (dW (txL a) (txL b))
 have : orF (fV a b) 0 = fV a b := by unfold orF; split <;> omega
 rw [this]
 rfl
set_option maxHeartbeats 400000 in
theorem txs_any (a b c d e f : Int) (w : World) : Calls Tryz.prog 35 #[.agg #[.int .u8 a, .int .u32 b, .int .u32 c], .agg #[.int .u8 d, .int .u32 e, .int .u32 f]] w fun e' w' => e' = .returned (.int .i64 (fV (a, b, c) (d, e, f))) ∧ dN w w' := by
 have hG0 := (((dN.refl w).alloc (.cells #[.int .u8 a, .int .u32 b, .int .u32 c] 34)).alloc (.cells #[.int .u8 d, .int .u32 e, .int .u32 f] 34)).drew
 have HO : Hid (∀ (W : World) (B : Nat), B < W.heap.size → W.cell? ⟨B, 0, none⟩ = some (.int .i64 (gJ a d)) → W.cell? ⟨B, 1, none⟩ = some (.int .i64 (gJ b e)) → W.cell? ⟨B, 2, none⟩ = some (.int .i64 (gJ c f)) → Calls Tryz.prog 63 #[.slice (some ⟨B, 0, none⟩) 3 3] W fun e' w' => e' = .returned (.int .i64 (fV (a, b, c) (d, e, f))) ∧ w' = W) := aA (fun W B h0 h1 h2 h3 => by
  have h4 := or_any [gJ a d, gJ b e, gJ c f] _ _ (lies_of3 .i64 W B _ _ _ h0 h1 h2 h3) (by simp)
  rw [orL3] at h4
  exact h4)
 have C1 := aA (fun w => cmp8_any a d w)
 have C2 := aA cmp32_any
 have HG0 := aA hG0
 clear hG0
 generalize fV (a, b, c) (d, e, f) = r at *
 go_enter Tryz.func35, Tryz.ntmps35
 go_wp2_with fail
 go_region_held (fun w' => w'.cell? ⟨w.heap.size, 0, none⟩ = some (.int .u8 a) ∧ w'.cell? ⟨w.heap.size, 1, none⟩ = some (.int .u32 b) ∧ w'.cell? ⟨w.heap.size, 2, none⟩ = some (.int .u32 c) ∧ w'.cell? ⟨w.heap.size + 1, 0, none⟩ = some (.int .u8 d) ∧ w'.cell? ⟨w.heap.size + 1, 1, none⟩ = some (.int .u32 e) ∧ w'.cell? ⟨w.heap.size + 1, 2, none⟩ = some (.int .u32 f)) (go_keep) (first
  | (go_at_call 64; refine (C1.out _).mono ?_; rintro e' w1 ⟨rfl, rfl⟩)
  | (go_at_call 65; refine (C2.out _ _ _).mono ?_; rintro e' w1 ⟨rfl, rfl⟩)
  | (go_at_call 63; refine (HO.out _ _ (by simp) (new_cell _ _ _ _ _ _ (by simp) rfl) (new_cell _ _ _ _ _ _ (by simp) rfl) (new_cell _ _ _ _ _ _ (by simp) rfl)).mono ?_; rintro e' w1 ⟨rfl, rfl⟩))
 go_wp2_with fail
 go_ret
 exact ⟨rfl, ((((dN.refl w).alloc _).alloc _).alloc _).drew⟩
set_option maxHeartbeats 1600000 in
theorem stamps_any (s a b c t d e f : Int) (w : World) : Calls Tryz.prog 68 #[.agg #[.int .u32 s, .int .u8 a, .int .u32 b, .int .u32 c], .agg #[.int .u32 t, .int .u8 d, .int .u32 e, .int .u32 f]] w fun e' w' => e' = .returned (.int .i64 (fO (s, a, b, c) (t, d, e, f))) ∧ dN w w' := by
 have HO : Hid (∀ (W : World) (B : Nat), B < W.heap.size → W.cell? ⟨B, 0, none⟩ = some (.int .i64 (gJ s t)) → W.cell? ⟨B, 1, none⟩ = some (.int .i64 (fV (a, b, c) (d, e, f))) → Calls Tryz.prog 63 #[.slice (some ⟨B, 0, none⟩) 2 2] W fun e' w' => e' = .returned (.int .i64 (fO (s, a, b, c) (t, d, e, f))) ∧ w' = W) := aA (fun W B h0 h1 h2 => by
  have h4 := or_any [gJ s t, fV (a, b, c) (d, e, f)] _ _ (lies_of2 .i64 W B _ _ h0 h1 h2) (by simp)
  rw [orL2] at h4
  exact h4)
 have C1 := aA cmp32_any
 have C2 := aA (fun w => txs_any a b c d e f w)
 have HS0 : Hid (bZ ((w.alloc (.cells #[.int .u32 s, .int .u8 a, .int .u32 b, .int .u32 c] 36)).alloc (.cells #[.int .u32 t, .int .u8 d, .int .u32 e, .int .u32 f] 36)).drew w.heap.size #[.int .u32 s, .int .u8 a, .int .u32 b, .int .u32 c] 36) := aA ((aN w _ _).belowI (((Below.refl _ _).alloc (Nat.le_refl _) _).drew))
 have HT0 : Hid (bZ ((w.alloc (.cells #[.int .u32 s, .int .u8 a, .int .u32 b, .int .u32 c] 36)).alloc (.cells #[.int .u32 t, .int .u8 d, .int .u32 e, .int .u32 f] 36)).drew (w.heap.size + 1) #[.int .u32 t, .int .u8 d, .int .u32 e, .int .u32 f] 36) := aA (by
  have := aN (w.alloc (.cells #[.int .u32 s, .int .u8 a, .int .u32 b, .int .u32 c] 36)) #[.int .u32 t, .int .u8 d, .int .u32 e, .int .u32 f] 36
  rw [World.size_alloc] at this
  exact this)
 generalize fV (a, b, c) (d, e, f) = q at *
 generalize fO (s, a, b, c) (t, d, e, f) = r at *
 have HG0 := aA (((dN.refl w).alloc (.cells #[.int .u32 s, .int .u8 a, .int .u32 b, .int .u32 c] 36)).alloc (.cells #[.int .u32 t, .int .u8 d, .int .u32 e, .int .u32 f] 36)).drew
 go_enter Tryz.func68, Tryz.ntmps68
 go_wp2_with fail
 go_region_held (fun w' => w'.cell? ⟨w.heap.size, 0, none⟩ = some (.int .u32 s) ∧ w'.cell? ⟨w.heap.size, 1, none⟩ = some (.int .u8 a) ∧ w'.cell? ⟨w.heap.size, 2, none⟩ = some (.int .u32 b) ∧ w'.cell? ⟨w.heap.size, 3, none⟩ = some (.int .u32 c) ∧ w'.cell? ⟨w.heap.size + 1, 0, none⟩ = some (.int .u32 t) ∧ w'.cell? ⟨w.heap.size + 1, 1, none⟩ = some (.int .u8 d) ∧ w'.cell? ⟨w.heap.size + 1, 2, none⟩ = some (.int .u32 e) ∧ w'.cell? ⟨w.heap.size + 1, 3, none⟩ = some (.int .u32 f)) (go_keep) (first
  | (go_at_call 65; refine (C1.out _ _ _).mono ?_; rintro e' w1 ⟨rfl, rfl⟩)
  | (go_at_call 35; refine (C2.out _).mono ?_; rintro e' w1 ⟨rfl, hG⟩; have HG1 := aA (HG0.out.trans hG); obtain ⟨a0, a1, a2, a3⟩ := (HS0.out.belowI hG.below).four; obtain ⟨b0, b1, b2, b3⟩ := (HT0.out.belowI hG.below).four; have hz1 := hG.below.size; clear hG)
  | (go_at_call 63; refine (HO.out _ _ (by simp) (new_at _ _ _ _ _ _ rfl rfl) (new_at _ _ _ _ _ _ rfl rfl)).mono ?_; rintro e' w2 ⟨rfl, rfl⟩))
 go_wp2_with fail
 go_ret
 exact ⟨rfl, (HG1.out.alloc _)⟩
end
section
open Go.RowKit
def kD (s : ByteArray) : List Int := s.data.toList.map fun b => (b.toNat : Int)
theorem numsS_length (s : ByteArray) : (kD s).length = s.size := by
 obtain ⟨d⟩ := s
 simp [kD, ByteArray.size]
theorem numsS_byte (s : ByteArray) : ∀ c ∈ kD s, 0 ≤ c ∧ c < 256 := by
 intro c hc
 simp only [kD, List.mem_map] at hc
 obtain ⟨b, _, rfl⟩ := hc
 have := b.toNat_lt
 omega
theorem bytesOf_numsS (s : ByteArray) : Lib.bytesOf (kD s) = s.data.toList := by
 unfold Lib.bytesOf kD
 rw [List.map_map]
 conv => rhs; rw [← List.map_id s.data.toList]
 apply List.map_congr_left
 intro b _
 simp
theorem infoKeyI : (Tryz.prog.info? 38).map (·.size) = some 8 := by kernel_rfl
theorem iS {P : Program} {fn : Func} {q t1 : Tmp} {t t0 : TypeId} {d : TypeDesc} (h : fn.results = #[.cell q t, .tmp t1]) (tmps : Array Value) (w : World) (p : Nat) (hq : tmps.getD q undef = .pointer (some ⟨p, 0, none⟩)) {v1 : Value} (h1 : tmps.getD t1 undef = v1) {cs : Array Value} (hb : bZ w p cs t0)
  (hu : P.underlying t = some d) (hd : d.isRow = true) (hi : (P.info? t).map (·.size) = some cs.size) : (results fn tmps).run P w = .ok (.tuple #[.agg cs, v1]) w := by
 subst h1
 have hr : w.rangeAt p 0 cs.toList := fun j v hv => by
  rw [Nat.zero_add]; exact hb.cell j v (by simpa using hv)
 have hl := run_loadVar_mid (P := P) w p 0 t cs.toList d hr hu hd (by simpa using hi)
 have hq' : tmps[q]?.getD undef = .pointer (some ⟨p, 0, none⟩) := by rw [← Array.getD_eq_getD_getElem?]; exact hq
 simp only [results, h]
 simp [hq', asAddr, hl]
theorem slidx_any (s : ByteArray) (c : Int) (w : World) : Calls Tryz.prog 131 #[.string s, .int .u8 c] w fun e w' => e = .returned (.int .i64 (Lib.indexByte s.data.toList c.toNat.toUInt8)) ∧ w' = w := by
 go_enter Tryz.func131, Tryz.ntmps131
 go_wp2
 rw [run_callFunc_extern Tryz.func135 (by kernel_rfl) (by kernel_rfl) (by kernel_rfl) (e := Extern.BytealgIndexByte.indexByte) (by kernel_rfl), Lib.run_indexByteString]
 simp only [Result.andThen]
 rw [Oper.upon_value]
 go_wp2
 go_ret
 exact ⟨rfl, rfl⟩
theorem stidx_any (s : ByteArray) (c : Int) (w : World) : Calls Tryz.prog 121 #[.string s, .int .u8 c] w fun e w' => e = .returned (.int .i64 (Lib.indexByte s.data.toList c.toNat.toUInt8)) ∧ w' = w := by
 go_enter Tryz.func121, Tryz.ntmps121
 go_wp2_with (go_at_call 131; refine (slidx_any _ _ _).mono ?_; rintro e w' ⟨rfl, rfl⟩)
 go_ret
 exact ⟨rfl, rfl⟩
abbrev hH : Array Value := #[.int .u8 0, .int .u8 0, .int .u8 0, .int .u8 0, .int .u8 0, .int .u8 0, .int .u8 0, .int .u8 0]
theorem drop_zero8 (n : Nat) : i8.drop n = List.replicate (8 - n) 0 := by
 rw [show i8 = List.replicate 8 (0 : Int) from rfl, List.drop_replicate]
theorem keyOfF_bad {xs : List Int} (h : xs.length = 0 ∨ 8 < xs.length ∨ 0 ∈ xs) : gB xs = (i8, 1) := by unfold gB; rw [if_pos h]
set_option maxHeartbeats 1600000 in
theorem keyOf_any (s : ByteArray) (hs : s.size ≤ maxLen) (w : World) :
  Calls Tryz.prog 104 #[.string s] w fun e w' => e = .returned (.tuple #[.agg (aY (gB (kD s)).1), .int .i64 (gB (kD s)).2]) ∧ Below w.heap.size w w' := by
 unfold maxLen at hs
 have hlen := numsS_length s
 have hix := index_zero (kD s) (numsS_byte s)
 rw [bytesOf_numsS] at hix
 have HI := aA infoKeyI
 have hbA := (Below.refl w.heap.size w).alloc (Nat.le_refl _) (.cells hH 38)
 have hbB := hbA.alloc (by simp) (.cells hH 38)
 have HB := aA hbB
 have HBR : Hid (bZ ((w.alloc (.cells hH 38)).alloc (.cells hH 38)) w.heap.size hH 38) := aA ((aN w hH 38).keep (aC.of_below (fun _ => False) ((Below.refl _ _).alloc (Nat.le_refl _) _)) id)
 have HBK : Hid (bZ ((w.alloc (.cells hH 38)).alloc (.cells hH 38)) (w.heap.size + 1) (aY i8) 38) := aA (by
  have := aN (w.alloc (.cells hH 38)) hH 38
  rw [show aY i8 = hH from rfl]
  simpa using this)
 have HZS : Hid ((hH).size = (aY (kD s ++ List.replicate (8 - s.size) 0)).size ∨ ¬ s.size ≤ 8) := aA (by
  by_cases h8 : s.size ≤ 8
  ·left; rw [jR]; simp [hlen]; omega
  ·exact .inr h8)
 clear hbA hbB
 have he0 : ∀ z : Int, z = 0 → Lib.indexByte s.data.toList z.toNat.toUInt8 = Lib.indexByte s.data.toList 0 := fun z hz => by rw [hz]; rfl
 have HCI : Hid (∀ w, Calls Tryz.prog 121 #[.string s, .int .u8 0] w fun e w' => e = .returned (.int .i64 (Lib.indexByte s.data.toList 0)) ∧ w' = w) := aA (fun w => stidx_any s 0 w)
 clear he0
 generalize hxs : kD s = xs at *
 generalize Lib.indexByte s.data.toList 0 = ix at *
 by_cases hbad : xs.length = 0 ∨ 8 < xs.length ∨ 0 ∈ xs
 ·rw [keyOfF_bad hbad]
  have HCE : Hid (aY i8 = hH) := aA rfl
  by_cases h1 : s.size = 0
  ·have h1' : (s.size : Int) = 0 := by omega
   clear hbad hix hlen HZS
   go_enter Tryz.func104, Tryz.ntmps104
   go_wp2_with fail
   exact bodyPost_ret (v := .tuple #[.agg hH, .int .i64 1]) (iS (v1 := .int .i64 1) Tryz.results104 _ _ w.heap.size rfl rfl HBR.out Tryz.underlying38 rfl HI.out) rfl ⟨rfl, HB.out⟩
  ·by_cases h2 : 8 < s.size
   ·have h1' : ((s.size : Int) == 0) = false := beq_eq_false_iff_ne.2 (by omega)
    have h2' : (8 : Int) < (s.size : Int) := by omega
    clear hbad hix hlen HZS
    go_enter Tryz.func104, Tryz.ntmps104
    go_wp2_with fail
    exact bodyPost_ret (v := .tuple #[.agg hH, .int .i64 1]) (iS (v1 := .int .i64 1) Tryz.results104 _ _ w.heap.size rfl rfl HBR.out Tryz.underlying38 rfl HI.out) rfl ⟨rfl, HB.out⟩
   ·have h0 : (0 : Int) ∈ xs := by
     rcases hbad with h | h | h
     ·omega
     ·omega
     ·exact h
    rw [if_pos h0] at hix
    have hix0 : 0 ≤ ix := by omega
    have h1' : ((s.size : Int) == 0) = false := beq_eq_false_iff_ne.2 (by omega)
    have h2' : decide ((8 : Int) < (s.size : Int)) = false := decide_eq_false (by omega)
    clear hbad hix hlen HZS h0 h1 h2
    go_enter Tryz.func104, Tryz.ntmps104
    go_wp2_with (go_at_call 121; refine (HCI.out _).mono ?_; rintro e w' ⟨rfl, rfl⟩)
    exact bodyPost_ret (v := .tuple #[.agg hH, .int .i64 1]) (iS (v1 := .int .i64 1) Tryz.results104 _ _ w.heap.size rfl rfl HBR.out Tryz.underlying38 rfl HI.out) rfl ⟨rfl, HB.out⟩
 ·have hE : gB xs = (xs ++ List.replicate (8 - xs.length) 0, 0) := by unfold gB; rw [if_neg hbad]
  simp only [not_or] at hbad
  rw [if_neg hbad.2.2] at hix
  have h1' : ((s.size : Int) == 0) = false := beq_eq_false_iff_ne.2 (by omega)
  have h2' : decide ((8 : Int) < (s.size : Int)) = false := decide_eq_false (by omega)
  have hs8 : s.size ≤ 8 := by omega
  have HZ : Hid (xs ++ List.replicate (8 - xs.length) 0 = i8.take 0 ++ (s.data.toList.map fun b => (b.toNat : Int)) ++ i8.drop (0 + s.size)) := aA (by
   have : (s.data.toList.map fun b => (b.toNat : Int)) = xs := hxs
   rw [this, ← hlen, Nat.zero_add, drop_zero8]
   rfl)
  rw [hE]
  have HL8 : Hid ((xs ++ List.replicate (8 - xs.length) 0).length = 8) := aA (by simp; omega)
  generalize xs ++ List.replicate (8 - xs.length) 0 = ks at *
  have HS8 : Hid ((aY ks).size = 8) := aA (by rw [jR]; exact HL8.out)
  have HI2 : Hid ((Tryz.prog.info? 38).map (·.size) = some (aY ks).size) := aA (by rw [HS8.out]; exact HI.out)
  have HZZ : Hid ((hH : Array Value).size = (aY ks).size) := aA (by rw [HS8.out]; rfl)
  have HO : Hid ((aY ks).all (·.oneCell') = true) := aA (cells8_one ks)
  obtain ⟨h0a, h0b, h0c⟩ := hbad
  clear hlen HZS h0a h0b h0c hE hxs
  subst hix
  go_enter Tryz.func104, Tryz.ntmps104
  go_wp2_with (first
   | (go_at_call 121; refine (HCI.out _).mono ?_; rintro e w' ⟨rfl, rfl⟩)
   | (refine wp_copy_str _ rfl _ _ rfl (w.heap.size + 1) 0 8 8 38 i8 ks HBK.out rfl s rfl hs8 (by simp [i8]; omega) HZ.out ?_; intro w2 hb2 hk2; have HB2 := aA hb2; have HK2 := aA hk2; have HR2 := aA (HBR.out.keep hk2 (fun e => absurd e (by omega))); clear hb2 hk2)
   | (refine dM rfl _ rfl _ rfl HB2.out Tryz.underlying38 rfl HI2.out ?_)
   | (refine aP rfl rfl _ _ rfl _ rfl rfl HR2.out HZZ.out HI2.out HO.out ?_; intro w3 hb3 hk3; have HB3 := aA hb3; have HK3 := aA hk3; clear hb3 hk3))
  refine bodyPost_ret (v := .tuple #[.agg (aY ks), .int .i64 0]) (iS (v1 := .int .i64 0) Tryz.results104 _ _ w.heap.size rfl rfl HB3.out Tryz.underlying38 rfl HI2.out) rfl ⟨rfl, ?_⟩
  exact (HB.out.trans (HK2.out.below HB.out.size (fun k hk => by omega))).trans (HK3.out.below (Nat.le_trans HB.out.size HK2.out.size) (fun k hk => by omega))
end
section
open Go.RowKit
theorem cX.cap {k : IntKind} {w : World} {ao : Option Addr} {cap : Nat} {xs : List Int} (h : cX k w (.slice ao xs.length cap) xs) : xs.length ≤ cap := by
 rcases h with ⟨rfl, _⟩ | ⟨_, b, off, cap', e, _, hl, _⟩
 ·simp
 ·cases e; exact hl
theorem cX.drop {k : IntKind} {w : World} {ao : Option Addr} {cap s : Nat} {xs : List Int} (h : cX k w (.slice ao xs.length cap) xs) (hs : s ≤ xs.length) :
  cX k w (.slice (if cap = s then ao else ao.map (·.add (s * 1))) (xs.length - s) (cap - s)) (xs.drop s) := by
 rcases h with ⟨rfl, ao', cap', e, h0⟩ | ⟨hne, b, off, cap', e, hb, hl, hm, hc⟩
 ·cases e
  obtain rfl : s = 0 := by simpa using hs
  refine .inl ⟨by simp, _, cap, rfl, fun hn => ?_⟩
  split at hn
  ·assumption
  ·cases ao with
   | none => exact h0 rfl
   | some ad => cases hn
 ·cases e
  by_cases hlt : s < xs.length
  ·rw [if_neg (by omega)]
   have hlen : (xs.drop s).length = xs.length - s := by simp
   refine .inr ⟨fun e => by rw [e] at hlen; simp at hlen; omega, b, off + s, cap - s, by simp [Addr.add_lit], hb, by omega, by omega, fun t ht => ?_⟩
   rw [Nat.add_assoc, hc (s + t) (by omega)]
   simp [List.getD]
  ·obtain rfl : s = xs.length := by omega
   refine .inl ⟨by simp, _, _, by rw [Nat.sub_self], fun hn => ?_⟩
   split at hn
   ·cases hn
   ·cases hn
theorem cX.take {k : IntKind} {w : World} {ao : Option Addr} {cap n : Nat} {xs : List Int} (h : cX k w (.slice ao xs.length cap) xs) (hn : n ≤ xs.length) : cX k w (.slice ao n cap) (xs.take n) := by
 rcases h with ⟨rfl, ao', cap', e, h0⟩ | ⟨hne, b, off, cap', e, hb, hl, hm, hc⟩
 ·cases e
  obtain rfl : n = 0 := by simpa using hn
  exact .inl ⟨by simp, ao, cap, rfl, h0⟩
 ·cases e
  by_cases h0 : n = 0
  ·subst h0
   exact .inl ⟨by simp, _, _, rfl, fun h => by cases h⟩
  ·have hlen : (xs.take n).length = n := by simp; omega
   refine .inr ⟨fun e => by rw [e] at hlen; simp at hlen; omega, b, off, cap, by rw [hlen], hb, by omega, hm, fun t ht => ?_⟩
   rw [hc t (by omega)]
   have : t < n := by omega
   simp [List.getD, this]
theorem run_from (w : World) (ao : Option Addr) (n cap s : Nat) (hs : s ≤ n) : (Instr.sliceAt 144 (.slice ao n cap) (some (.int .i64 s)) none none).run Tryz.prog w = .ok (.slice (if cap = s then ao else ao.map (·.add (s * 1))) (n - s) (cap - s)) w := by
 simp [Instr.sliceAt, Instr.slice, run_underlying Tryz.underlying144, Instr.sliceBounds, Instr.sliceBound, asIntOf]
 omega
theorem run_to (w : World) (kd : IntKind) (ao : Option Addr) (m cap n : Nat) (hn : n ≤ cap) : (Instr.sliceAt 144 (.slice ao m cap) none (some (.int kd n)) none).run Tryz.prog w = .ok (.slice ao n cap) w := by
 have h2 : (if cap = 0 then ao else Option.map (fun x => x.add 0) ao) = ao := by
  split
  ·rfl
  ·cases ao with
   | none => rfl
   | some ad => simp [Addr.add]
 simp [Instr.sliceAt, Instr.slice, run_underlying Tryz.underlying144, Instr.sliceBounds, Instr.sliceBound, asIntOf, h2]
 omega
end
section
open Go.RowKit
theorem bindex_any (w : World) (b off c : Nat) (xs : List Int) (hc : ∀ t, t < xs.length → w.cell? ⟨b, off + t, none⟩ = some (.int .u8 (xs.getD t 0))) (hx : ∀ c ∈ xs, 0 ≤ c ∧ c < 256) :
  Calls Tryz.prog 126 #[.slice (some ⟨b, off, none⟩) xs.length c, .int .u8 0] w fun e w' => e = .returned (.int .i64 (if 0 ∈ xs then ((aX xs).length : Int) else -1)) ∧ w' = w := by
 have hr := Lib.run_indexByteSlice (P := Tryz.prog) w b off xs.length c xs rfl hc 0
 have h0 : Lib.indexByte (Lib.bytesOf xs) (0 : Int).toNat.toUInt8 = if 0 ∈ xs then ((aX xs).length : Int) else -1 := index_zero xs hx
 rw [h0] at hr
 generalize (if 0 ∈ xs then ((aX xs).length : Int) else -1) = r at *
 generalize xs.length = n at *
 clear hc hx h0
 go_enter Tryz.func126, Tryz.ntmps126
 go_wp2
 rw [run_callFunc_extern Tryz.func133 (by kernel_rfl) (by kernel_rfl) (by kernel_rfl) (e := Extern.BytealgIndexByte.indexByte) (by kernel_rfl), hr]
 simp only [Result.andThen]
 rw [Oper.upon_value]
 go_wp2
 go_ret
 exact ⟨rfl, rfl⟩
set_option maxHeartbeats 1600000 in
theorem index1_any (w : World) (b off c b2 c2 : Nat) (xs : List Int) (hc : ∀ t, t < xs.length → w.cell? ⟨b, off + t, none⟩ = some (.int .u8 (xs.getD t 0))) (hx : ∀ c ∈ xs, 0 ≤ c ∧ c < 256) (hs : w.cell? ⟨b2, 0, none⟩ = some (.int .u8 0)) :
  Calls Tryz.prog 120 #[.slice (some ⟨b, off, none⟩) xs.length c, .slice (some ⟨b2, 0, none⟩) 1 c2] w fun e w' => e = .returned (.int .i64 (if 0 ∈ xs then ((aX xs).length : Int) else -1)) ∧ w' = w := by
 have C := aA (bindex_any w b off c xs hc hx)
 generalize (if 0 ∈ xs then ((aX xs).length : Int) else -1) = r at *
 generalize xs.length = n at *
 clear hc hx
 go_enter Tryz.func120, Tryz.ntmps120
 go_wp2_with (go_at_call 126; refine C.out.mono ?_; rintro e w' ⟨rfl, rfl⟩)
 go_ret
 exact ⟨rfl, rfl⟩
set_option maxHeartbeats 1600000 in
theorem cut_any (w : World) (b b2 : Nat) (ks : List Int) (hl : ks.length = 8) (hc : ∀ t, t < ks.length → w.cell? ⟨b, 0 + t, none⟩ = some (.int .u8 (ks.getD t 0))) (hx : ∀ c ∈ ks, 0 ≤ c ∧ c < 256) (hs : w.cell? ⟨b2, 0, none⟩ = some (.int .u8 0)) :
  Calls Tryz.prog 103 #[.slice (some ⟨b, 0, none⟩) 8 8, .slice (some ⟨b2, 0, none⟩) 1 1] w fun e w' => ∃ x y n, e = .returned (.tuple #[.slice (some ⟨b, 0, none⟩) (aX ks).length 8, x, y]) ∧ w' = w.drewN n := by
 have hC := index1_any w b 0 8 b2 1 ks hc hx hs
 rw [hl] at hC
 have hle := fZ ks
 rw [hl] at hle
 by_cases h0 : (0 : Int) ∈ ks
 ·rw [if_pos h0] at hC
  have hlt : (aX ks).length < 8 := by
   rcases Nat.lt_or_ge (aX ks).length 8 with h | h
   ·exact h
   ·have e : aX ks = ks := by
     have := fB ks
     rw [List.take_of_length_le (by omega)] at this
     exact this
    have h1 := aheadF_no ks
    rw [e] at h1
    exact absurd h0 h1
  have C := aA hC
  have HTO := fun w => run_to w .i64 (some ⟨b, 0, none⟩) 8 8 (aX ks).length (by omega)
  have HFR := fun w => run_from w (some ⟨b, 0, none⟩) 8 8 ((aX ks).length + 1) (by omega)
  generalize (aX ks).length = n at *
  have hnat : (((n + 1 : Nat)) : Int) = (n : Int) + 1 := by omega
  rw [hnat] at HFR
  generalize (if 8 = n + 1 then (some ⟨b, 0, none⟩ : Option Addr) else (some ⟨b, 0, none⟩ : Option Addr).map (·.add ((n + 1) * 1))) = ao at *
  have hn0 : (0 : Int) ≤ (n : Int) := by omega
  have hnlt : (n : Int) < 8 := by omega
  clear hC hc hx hle hnat
  go_enter Tryz.func103, Tryz.ntmps103
  go_wp2_with (go_at_call 120; refine C.out.mono ?_; rintro e w' ⟨rfl, rfl⟩)
  go_quiet (fail)
  go_wp2
  go_ret3
  exact ⟨_, _, _, rfl, rfl⟩
 ·rw [if_neg h0] at hC
  have C := aA hC
  have HE : Hid ((aX ks).length = 8) := aA (by rw [aheadF_all ks h0, hl])
  rw [HE.out]
  clear hC hc hx hle
  go_enter Tryz.func103, Tryz.ntmps103
  go_wp2_with (go_at_call 120; refine C.out.mono ?_; rintro e w' ⟨rfl, rfl⟩)
  go_ret3
  exact ⟨_, _, 0, rfl, rfl⟩
theorem strOf_len (l : List Int) : (strOfNums l).size = l.length := by simp [strOfNums, ByteArray.size]
theorem numsS_strOf (l : List Int) (hl : ∀ c ∈ l, 0 ≤ c ∧ c < 256) : kD (strOfNums l) = l := by
 unfold kD
 show (l.map fun n : Int => UInt8.ofNat n.toNat).map _ = l
 rw [List.map_map]
 conv => rhs; rw [← List.map_id l]
 apply List.map_congr_left
 intro c hc
 have := hl c hc
 show ((UInt8.ofNat c.toNat).toNat : Int) = c
 rw [UInt8.toNat_ofNat']
 omega
theorem eight8 (l : List Int) (h : l.length = 8) : ∃ a b c d e f g i, l = [a, b, c, d, e, f, g, i] := by
 match l, h with
 | [a, b, c, d, e, f, g, i], _ => exact ⟨a, b, c, d, e, f, g, i, rfl⟩
set_option maxHeartbeats 1600000 in
theorem name_any (ks : List Int) (hl : ks.length = 8) (hx : ∀ c ∈ ks, 0 ≤ c ∧ c < 256) (w : World) :
  Calls Tryz.prog 77 #[.agg (aY ks)] w fun e w' => e = .returned (.tuple #[.string (strOfNums (cU ks).1), .bool (cU ks).2]) ∧ Below w.heap.size w w' := by
 have HE := aA (nameF_by_key ks hl)
 have hbx : ∀ c ∈ aX ks, 0 ≤ c ∧ c < 256 := fun c hc => hx c (aheadF_sub ks c hc)
 have hle := fZ ks
 have HK8 := aA (keyOfF_fst (aX ks))
 have hK := fun w => keyOf_any (strOfNums (aX ks)) (by rw [strOf_len]; unfold maxLen; omega) w
 rw [numsS_strOf _ hbx] at hK
 have CK := aA hK
 have HA0 : Hid (bZ ((w.alloc (.cells (aY ks) 38)).alloc (.cells #[.int .u8 0] 5)) w.heap.size (aY ks) 38) := aA ((aN w _ _).belowI ((Below.refl _ _).alloc (Nat.le_refl _) _))
 have HS0 : Hid (bZ ((w.alloc (.cells (aY ks) 38)).alloc (.cells #[.int .u8 0] 5)) (w.heap.size + 1) #[.int .u8 0] 5) := aA (by
  have := aN (w.alloc (.cells (aY ks) 38)) #[.int .u8 0] 5
  rw [World.size_alloc] at this
  exact this)
 have HB0 := aA (((Below.refl w.heap.size w).alloc (Nat.le_refl _) (.cells (aY ks) 38)).alloc (by simp) (.cells #[.int .u8 0] 5))
 have CC := aA (cut_any _ w.heap.size (w.heap.size + 1) ks hl (fun t ht => by rw [Nat.zero_add]; exact HA0.out.cell t _ (by simp [aY, List.getD, ht])) hx (HS0.out.cell 0 _ rfl))
 have HI := aA infoKeyI
 have HS8 : Hid ((aY ks).size = 8) := aA (by rw [jR]; exact hl)
 have HI2 : Hid ((Tryz.prog.info? 38).map (·.size) = some (aY ks).size) := aA (by rw [HS8.out]; exact HI.out)
 have HL := aA hl
 have HX := aA hx
 have HLIE : Hid (∀ W, bZ W w.heap.size (aY ks) 38 → cX .u8 W (.slice (some ⟨w.heap.size, 0, none⟩) (aX ks).length 8) (aX ks)) := aA (fun W hW => by
  have h8 : cX .u8 W (.slice (some ⟨w.heap.size, 0, none⟩) ks.length 8) ks := .inr ⟨fun e => by rw [e] at hl; simp at hl, w.heap.size, 0, 8, rfl, hW.lt, by omega, by unfold maxLen; omega, fun t ht => by rw [Nat.zero_add]; exact hW.cell t _ (by simp [aY, List.getD, ht])⟩
  have h9 := h8.take (n := (aX ks).length) hle
  rw [← fB ks] at h9
  exact h9)
 clear hl hx hbx hle hK
 have HEE : Hid ((gB (aX ks)).2 = (gB (aX ks)).2) := aA rfl
 obtain ⟨k0, k1, k2, k3, k4, k5, k6, k7, hkk⟩ := eight8 _ HK8.out
 have HEK := aA hkk
 rw [hkk] at CK
 have hcc : aY [k0, k1, k2, k3, k4, k5, k6, k7] = #[.int .u8 k0, .int .u8 k1, .int .u8 k2, .int .u8 k3, .int .u8 k4, .int .u8 k5, .int .u8 k6, .int .u8 k7] := rfl
 rw [hcc] at CK
 clear hkk hcc HK8
 generalize (gB (aX ks)).2 = E at *
 generalize hca : aY ks = ca at *
 have HCA := aA hca
 clear hca
 go_enter Tryz.func77, Tryz.ntmps77
 go_wp2_with fail
 refine CC.out.mono ?_
 rintro e w1 ⟨x, y, n1, rfl, hw1⟩
 have hA1 : bZ w1 w.heap.size ca 38 := by rw [hw1]; exact HA0.out
 have HB1 : Hid (Below w.heap.size w w1) := aA (by rw [hw1]; exact jP HB0.out)
 have hcv := (HLIE.out w1 hA1).convert
 have HA1 := aA hA1
 clear hw1 hA1 HA0 HS0 HB0 CC
 generalize (aX ks).length = n at *
 go_wp2_with fail
 refine (CK.out _).mono ?_
 rintro e w2 ⟨rfl, hB2⟩
 have HA2 := aA (HA1.out.belowI hB2)
 have HB2 := aA (HB1.out.trans (hB2.mono HB1.out.size))
 clear hB2 hcv
 have HKE : Hid (cU ks = if E ≠ 0 ∨ [k0, k1, k2, k3, k4, k5, k6, k7] ≠ ks then ([], false) else (aX ks, true)) := aA (by rw [HE.out, HEK.out])
 obtain ⟨j0, j1, j2, j3, j4, j5, j6, j7, hj⟩ := eight8 ks HL.out
 have hcj : ca = #[.int .u8 j0, .int .u8 j1, .int .u8 j2, .int .u8 j3, .int .u8 j4, .int .u8 j5, .int .u8 j6, .int .u8 j7] := by rw [← HCA.out, hj]; rfl
 rw [hcj] at HA2
 obtain ⟨y0, y1, y2, y3, y4, y5, y6, y7⟩ := HA2.out.eight
 have hylt := HA2.out.lt
 have hneq := neqi_key k0 k1 k2 k3 k4 k5 k6 k7 j0 j1 j2 j3 j4 j5 j6 j7
 have HEQ : Hid ([k0, k1, k2, k3, k4, k5, k6, k7] = ks ↔ [k0, k1, k2, k3, k4, k5, k6, k7] = [j0, j1, j2, j3, j4, j5, j6, j7]) := aA (by rw [hj])
 have HB3 := aA (HB2.out.trans (((Below.refl w2.heap.size w2).alloc (Nat.le_refl _) (.cells #[.int .u8 k0, .int .u8 k1, .int .u8 k2, .int .u8 k3, .int .u8 k4, .int .u8 k5, .int .u8 k6, .int .u8 k7] 38)).mono HB2.out.size))
 clear hcj hj CK HA1 HA2 HE
 have hst : strOfNums (aX ks) = strOfNums (aX ks) := rfl
 generalize hst0 : strOfNums (aX ks) = st at *
 have HST := aA hst0
 clear hst hst0
 by_cases hE : E = 0
 ·subst hE
  by_cases hq : [k0, k1, k2, k3, k4, k5, k6, k7] = [j0, j1, j2, j3, j4, j5, j6, j7]
  ·have hn : ∀ w, (binOp .neq 38 (.agg #[.int .u8 k0, .int .u8 k1, .int .u8 k2, .int .u8 k3, .int .u8 k4, .int .u8 k5, .int .u8 k6, .int .u8 k7]) (.agg #[.int .u8 j0, .int .u8 j1, .int .u8 j2, .int .u8 j3, .int .u8 j4, .int .u8 j5, .int .u8 j6, .int .u8 j7])).run Tryz.prog w = .ok (.bool false) w := fun w => by rw [hneq, decide_eq_true hq]; rfl
   have HF : Hid (cU ks = (aX ks, true)) := aA (by rw [HKE.out, if_neg]; simp only [not_or, Classical.not_not]; exact ⟨by trivial, HEQ.out.2 hq⟩)
   clear hneq hq
   go_wp2_with fail
   go_ret2
   exact ⟨by rw [HF.out, HST.out]; rfl, HB3.out⟩
  ·have hn : ∀ w, (binOp .neq 38 (.agg #[.int .u8 k0, .int .u8 k1, .int .u8 k2, .int .u8 k3, .int .u8 k4, .int .u8 k5, .int .u8 k6, .int .u8 k7]) (.agg #[.int .u8 j0, .int .u8 j1, .int .u8 j2, .int .u8 j3, .int .u8 j4, .int .u8 j5, .int .u8 j6, .int .u8 j7])).run Tryz.prog w = .ok (.bool true) w := fun w => by rw [hneq, decide_eq_false hq]; rfl
   have HF : Hid (cU ks = ([], false)) := aA (by rw [HKE.out, if_pos]; exact .inr (fun h => hq (HEQ.out.1 h)))
   clear hneq hq
   go_wp2_with fail
   go_ret2
   exact ⟨by rw [HF.out]; rfl, HB3.out⟩
 ·have hE' : (E != 0) = true := bne_iff_ne.2 hE
  have HF : Hid (cU ks = ([], false)) := aA (by rw [HKE.out, if_pos (.inl hE)])
  clear hneq hE
  go_wp2_with fail
  go_ret2
  exact ⟨by rw [HF.out]; rfl, HB3.out⟩
end
section
open Go.RowKit Go.Maps Classical
theorem field0_us (e : E15) (w : World) : (Instr.field 80 (usV e) 0).run Tryz.prog w = .ok (.agg #[.int .u32 (e.1 : Int), .int .u8 (e.2.1.1 : Int), .int .u32 (e.2.1.2.1 : Int), .int .u32 (e.2.1.2.2 : Int)]) w := by kernel_rfl
theorem field1_us (e : E15) (w : World) : (Instr.field 80 (usV e) 1).run Tryz.prog w = .ok (.bool e.2.2.1) w := by kernel_rfl
theorem field2_us (e : E15) (w : World) : (Instr.field 80 (usV e) 2).run Tryz.prog w = .ok (.map e.2.2.2.1) w := by kernel_rfl
theorem field3_us (e : E15) (w : World) : (Instr.field 80 (usV e) 3).run Tryz.prog w = .ok (.map e.2.2.2.2) w := by kernel_rfl
set_option maxHeartbeats 1600000 in
theorem lkMode_any (q b C : Nat) (p : TxN → Nat × Nat) (l : List (aS KeyT)) (t : TxN) (k : KeyT) (w : World) (h : fJ w q b C p l) (ht : kJ t) :
  Calls Tryz.prog 17 #[.pointer (some ⟨q, 0, none⟩), aV t, .agg (aK k.1)] w fun e w' => e = .returned (.int .u8 ((aT l t).h k : Int)) ∧ Below w.heap.size w w' := by
 have hA := aE w (.cells #[.int .u8 (t.1 : Int), .int .u32 (t.2.1 : Int), .int .u32 (t.2.2 : Int)] 34)
 have hA2 := aE (w.alloc (.cells #[.int .u8 (t.1 : Int), .int .u32 (t.2.1 : Int), .int .u32 (t.2.2 : Int)] 34)) (.cells (aK k.1) 38)
 have hB2 := hA.trans (hA2.mono hA.size)
 have HXT := aA ((aN w #[.int .u8 (t.1 : Int), .int .u32 (t.2.1 : Int), .int .u32 (t.2.2 : Int)] 34).belowI hA2)
 have HXK : Hid (bZ ((w.alloc (.cells #[.int .u8 (t.1 : Int), .int .u32 (t.2.1 : Int), .int .u32 (t.2.2 : Int)] 34)).alloc (.cells (aK k.1) 38)) (w.heap.size + 1) (aK k.1) 38) := aA (by have := aN (w.alloc (.cells #[.int .u8 (t.1 : Int), .int .u32 (t.2.1 : Int), .int .u32 (t.2.2 : Int)] 34)) (aK k.1) 38; simpa using this)
 obtain ⟨w1, hw1⟩ : ∃ w1, w1 = (w.alloc (.cells #[.int .u8 (t.1 : Int), .int .u32 (t.2.1 : Int), .int .u32 (t.2.2 : Int)] 34)).alloc (.cells (aK k.1) 38) := ⟨_, rfl⟩
 obtain ⟨p1, hp1⟩ : ∃ p1, p1 = w.heap.size := ⟨_, rfl⟩
 obtain ⟨p2, hp2⟩ : ∃ p2, p2 = p1 + 1 := ⟨_, rfl⟩
 rw [← hw1, ← hp1] at HXT
 rw [← hw1, ← hp1, ← hp2] at HXK
 rw [← hw1] at hB2
 have HW1 := aA hw1
 have HP1 := aA hp1
 have HP2 := aA hp2
 have H1 := aA (h.below hB2)
 have HB := aA hB2
 obtain ⟨⟨tm, ⟨ta, tb, tc⟩, pr, hb, wb⟩, hE⟩ : ∃ E : E15, E = (gU l p ⟨t, ht⟩).getD zE := ⟨_, rfl⟩
 have CF : Hid (∀ W, fJ W q b C p l → Calls Tryz.prog 39 #[.pointer (some ⟨q, 0, none⟩), aV t] W fun e w' => e = .returned (usV (tm, (ta, tb, tc), pr, hb, wb)) ∧ Below W.heap.size W w') := aA (fun W hW => by
  have := lkFind_any q b C p l t W hW ht
  rw [← hE] at this
  exact this)
 have HRD : Hid (∀ W, fJ W q b C p l → eN W hb (aT l t).h) := aA (fun W hW => by
  have := (hW.read ⟨t, ht⟩).1
  rw [← hE] at this
  exact this)
 obtain ⟨k0, k1, k2⟩ := HXT.out.three
 obtain ⟨x0, x1, x2, x3, x4, x5, x6, x7⟩ := bN HXK.out
 obtain ⟨f, hf⟩ : ∃ f, f = (aT l t).h := ⟨_, rfl⟩
 rw [← hf] at HRD ⊢
 clear h hA hA2 hB2 hw1 hp1 hp2 hE hf
 have hf2 := field2_us (tm, (ta, tb, tc), pr, hb, wb)
 go_enter Tryz.func17, Tryz.ntmps17
 go_wp2_with fail
 rw [← HW1.out, ← HP1.out, ← HP2.out]
 go_region_held (fun w' => w'.cell? ⟨p1, 0, none⟩ = some (.int .u8 (t.1 : Int)) ∧ w'.cell? ⟨p1, 1, none⟩ = some (.int .u32 (t.2.1 : Int)) ∧ w'.cell? ⟨p1, 2, none⟩ = some (.int .u32 (t.2.2 : Int)) ∧ w'.cell? ⟨p2, 0, none⟩ = some (.int .u8 (aZ k.1 0)) ∧ w'.cell? ⟨p2, 1, none⟩ = some (.int .u8 (aZ k.1 1)) ∧ w'.cell? ⟨p2, 2, none⟩ = some (.int .u8 (aZ k.1 2)) ∧ w'.cell? ⟨p2, 3, none⟩ = some (.int .u8 (aZ k.1 3)) ∧ w'.cell? ⟨p2, 4, none⟩ = some (.int .u8 (aZ k.1 4)) ∧ w'.cell? ⟨p2, 5, none⟩ = some (.int .u8 (aZ k.1 5)) ∧ w'.cell? ⟨p2, 6, none⟩ = some (.int .u8 (aZ k.1 6)) ∧ w'.cell? ⟨p2, 7, none⟩ = some (.int .u8 (aZ k.1 7))) (go_keep) (first
  | (go_at_call 39; refine (CF.out _ (H1.out.below (aG w1))).mono ?_; rintro e w3 ⟨rfl, hB3⟩; have HB3 := aA (HB.out.trans (((aG w1).trans hB3).mono HB.out.size)); have L3 := (HRD.out _ (H1.out.below ((aG w1).trans hB3))).look k; have ss : _ ∧ _ ∧ _ := (HXT.out.belowI ((aG w1).trans hB3)).three; have ss2 := bN (HXK.out.belowI ((aG w1).trans hB3)); clear hB3))
 all_goals go_wp2_with fail
 all_goals go_ret
 all_goals exact ⟨rfl, HB3.out⟩
set_option maxHeartbeats 1600000 in
theorem lkWaits_any (q b C : Nat) (p : TxN → Nat × Nat) (l : List (aS KeyT)) (t : TxN) (w : World) (h : fJ w q b C p l) (ht : kJ t) :
  Calls Tryz.prog 19 #[.pointer (some ⟨q, 0, none⟩), aV t] w fun e w' => ∃ B, e = .returned (.bool B) ∧ (B = true ↔ ∃ k, (aT l t).w k ≠ 0) ∧ Below w.heap.size w w' := by
 have hA := aE w (.cells #[.int .u8 (t.1 : Int), .int .u32 (t.2.1 : Int), .int .u32 (t.2.2 : Int)] 34)
 have HXT := aA (aN w #[.int .u8 (t.1 : Int), .int .u32 (t.2.1 : Int), .int .u32 (t.2.2 : Int)] 34)
 have H1 := aA (h.below hA)
 have HB := aA hA
 obtain ⟨⟨tm, ⟨ta, tb, tc⟩, pr, hb, wb⟩, hE⟩ : ∃ E : E15, E = (gU l p ⟨t, ht⟩).getD zE := ⟨_, rfl⟩
 have CF := aA (lkFind_any q b C p l t _ H1.out ht)
 have HRD : Hid (∀ W, fJ W q b C p l → eN W wb (aT l t).w) := aA (fun W hW => by
  have := (hW.read ⟨t, ht⟩).2.1
  rw [← hE] at this
  exact this)
 rw [← hE] at CF
 have hf3 := field3_us (tm, (ta, tb, tc), pr, hb, wb)
 clear h hA hE
 go_enter Tryz.func19, Tryz.ntmps19
 go_wp2_with (refine dM rfl _ rfl w.heap.size rfl HXT.out Tryz.underlying34 rfl fS ?_)
 refine CF.out.mono ?_
 rintro e w3 ⟨rfl, hB3⟩
 obtain ⟨n, hn, hnk⟩ := (HRD.out _ (H1.out.below hB3)).len
 have HN := aA hnk
 have HB3 := aA (HB.out.trans (hB3.mono HB.out.size))
 clear hB3 hnk CF
 go_wp2_with fail
 go_ret
 exact ⟨_, rfl, by rw [← HN.out]; simp, HB3.out⟩
set_option maxHeartbeats 1600000 in
theorem lkPrepared_any (q b C : Nat) (p : TxN → Nat × Nat) (l : List (aS KeyT)) (t : TxN) (w : World) (h : fJ w q b C p l) (ht : kJ t) :
  Calls Tryz.prog 21 #[.pointer (some ⟨q, 0, none⟩), aV t] w fun e w' => e = .returned (.bool (aT l t).pr) ∧ Below w.heap.size w w' := by
 have hA := aE w (.cells #[.int .u8 (t.1 : Int), .int .u32 (t.2.1 : Int), .int .u32 (t.2.2 : Int)] 34)
 have HXT := aA (aN w #[.int .u8 (t.1 : Int), .int .u32 (t.2.1 : Int), .int .u32 (t.2.2 : Int)] 34)
 have H1 := aA (h.below hA)
 have HB := aA hA
 obtain ⟨⟨tm, ⟨ta, tb, tc⟩, pr, hb, wb⟩, hE⟩ : ∃ E : E15, E = (gU l p ⟨t, ht⟩).getD zE := ⟨_, rfl⟩
 have CF := aA (lkFind_any q b C p l t _ H1.out ht)
 have hpr : pr = (aT l t).pr := by
  have := (h.read ⟨t, ht⟩).2.2
  rw [← hE] at this
  exact this
 rw [← hE] at CF
 rw [← hpr]
 have hf1 := field1_us (tm, (ta, tb, tc), pr, hb, wb)
 clear h hA hE hpr
 go_enter Tryz.func21, Tryz.ntmps21
 go_wp2_with (refine dM rfl _ rfl w.heap.size rfl HXT.out Tryz.underlying34 rfl fS ?_)
 refine CF.out.mono ?_
 rintro e w3 ⟨rfl, hB3⟩
 have HB3 := aA (HB.out.trans (hB3.mono HB.out.size))
 clear hB3 CF
 go_wp2_with fail
 go_ret
 exact ⟨rfl, HB3.out⟩
theorem keyMay15 (k : List Int) (hk : gX k) (w : World) : Calls Tryz.prog 48 #[.agg (aK k)] w fun e w' => e = .returned (.bool (cU k).2) ∧ Below w.heap.size w w' := by
 have hA := aE w (.cells (aK k) 38)
 have hX := aN w (aK k) 38
 obtain ⟨w1, hw1⟩ : ∃ w1, w1 = w.alloc (.cells (aK k) 38) := ⟨_, rfl⟩
 rw [← hw1] at hA hX
 have C := name_any k hk.l hk.b w1
 have hc8 : aY k = aK k := by unfold aY; rw [← fY hk.l]
 rw [hc8] at C
 have HC := aA C
 have HA := aA hA
 have hW := hw1.symm
 have HX := aA hX
 generalize (cU k).1 = nm at *
 generalize (cU k).2 = r at *
 clear hA hX hw1 C hc8
 go_enter Tryz.func48, Tryz.ntmps48
 go_wp2_with (first | (refine dM rfl _ rfl _ rfl HX.out Tryz.underlying38 rfl infoKey15 ?_) | (go_at_call 77; refine HC.out.mono ?_; rintro e w2 ⟨rfl, hB2⟩; have HB2 := aA hB2; clear hB2))
 go_ret
 exact ⟨rfl, HA.out.trans (HB2.out.mono HA.out.size)⟩
theorem apart15 (a b : Nat) (w : World) : Calls Tryz.prog 71 #[.int .u8 (a : Int), .int .u8 (b : Int)] w fun e w' => e = .returned (.bool (decide (cI a b))) ∧ w' = w := by
 obtain ⟨R, hR⟩ : ∃ R, R = decide (cI a b) := ⟨_, rfl⟩
 rw [← hR]
 have HR := aA hR
 clear hR
 by_cases a0 : a = 0
 ·subst a0
  have HF : Hid (R = false) := aA (by rw [HR.out]; simp [cI])
  go_enter Tryz.func71, Tryz.ntmps71
  go_wp2
  go_ret
  exact ⟨by rw [HF.out]; rfl, rfl⟩
 by_cases b0 : b = 0
 ·subst b0
  have HF : Hid (R = false) := aA (by rw [HR.out]; simp [cI])
  go_enter Tryz.func71, Tryz.ntmps71
  go_wp2
  go_ret
  exact ⟨by rw [HF.out]; rfl, rfl⟩
 have ha0 : ((a : Int) != 0) = true := by simpa using a0
 have hb0 : ((b : Int) != 0) = true := by simpa using b0
 by_cases a2 : a = 2
 ·subst a2
  have HF : Hid (R = true) := aA (by rw [HR.out]; simp [cI, b0])
  go_enter Tryz.func71, Tryz.ntmps71
  go_wp2
  go_ret
  exact ⟨by rw [HF.out]; rfl, rfl⟩
 have ha2 : ((a : Int) == 2) = false := by simp; omega
 by_cases b2 : b = 2
 ·subst b2
  have HF : Hid (R = true) := aA (by rw [HR.out]; simp [cI, a0])
  go_enter Tryz.func71, Tryz.ntmps71
  go_wp2
  go_ret
  exact ⟨by rw [HF.out]; rfl, rfl⟩
 have hb2 : ((b : Int) == 2) = false := by simp; omega
 have HF : Hid (R = false) := aA (by rw [HR.out]; simp [cI, a2, b2])
 go_enter Tryz.func71, Tryz.ntmps71
 go_wp2
 go_ret
 exact ⟨by rw [HF.out]; rfl, rfl⟩
end
end Go.Proofs.YtiloagmkkhlfjaaGreat
