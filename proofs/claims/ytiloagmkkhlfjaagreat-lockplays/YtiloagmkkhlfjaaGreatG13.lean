/-
  Own texts put together: LkGt, LkGrant, RecSl, LkComp, LkOnP. Own work.
-/
import Derived.Test.YtiloagmkkhlfjaaGreatG08
import Derived.Test.YtiloagmkkhlfjaaGreatG06
import Derived.Test.YtiloagmkkhlfjaaGreatG12
import Derived.Test.YtiloagmkkhlfjaaGreatG07
import Derived.Lib.MinMax
import Derived.ArgAppend
import Derived.Lib.Overlaps
import Derived.Lib.AppendZerosOnto
import Derived.Laws.NewBlocks
import Derived.Shelf.Spec.SlicesInsert
import Derived.BigQuiet
import Derived.Deep.QuietTactic
namespace Go.Proofs.YtiloagmkkhlfjaaGreat
set_option maxRecDepth 100000
section
abbrev bW (g : cD KeyT) : Array Value := #[.int .u8 (g.tx.1 : Int), .int .u32 (g.tx.2.1 : Int), .int .u32 (g.tx.2.2 : Int), .int .u8 (aZ g.key.1 0), .int .u8 (aZ g.key.1 1), .int .u8 (aZ g.key.1 2), .int .u8 (aZ g.key.1 3), .int .u8 (aZ g.key.1 4), .int .u8 (aZ g.key.1 5), .int .u8 (aZ g.key.1 6), .int .u8 (aZ g.key.1 7), .int .u8 (g.mode : Int)]
def gtE (g : cD KeyT) : List Value := (bW g).toList
end
section
open Go.RowKit Go.Maps Classical
theorem usL_upd {l : List (aS KeyT)} (t : TxN) {f : aS KeyT → aS KeyT} (hf : ∀ u, (f u).tx = u.tx) (s : TxN) : cM (bG l t f) s = (cM l s).map fun u => if u.tx = t then f u else u := by
 unfold cM bG
 rw [List.find?_map]
 congr 1
 congr 1
 funext u
 show decide ((if u.tx = t then f u else u).tx = s) = decide (u.tx = s)
 split
 ·rw [hf]
 ·rfl
theorem gU_upd {l : List (aS KeyT)} (t : TxN) {f : aS KeyT → aS KeyT} (hf : ∀ u, (f u).tx = u.tx ∧ (f u).tm = u.tm ∧ (f u).pr = u.pr) (p : TxN → Nat × Nat) (s : TxT) : gU (bG l t f) p s = gU l p s := by
 show (cM (bG l t f) s.1).map _ = (cM l s.1).map _
 rw [usL_upd t (fun u => (hf u).1), Option.map_map]
 congr 1
 funext u
 show ((if u.tx = t then f u else u).tm, (if u.tx = t then f u else u).tx, (if u.tx = t then f u else u).pr, some (p s.1).1, some (p s.1).2) = (u.tm, u.tx, u.pr, some (p s.1).1, some (p s.1).2)
 by_cases e : u.tx = t
 ·rw [if_pos e, (hf u).1, (hf u).2.1, (hf u).2.2]
 ·rw [if_neg e]
theorem upd_len (l : List (aS KeyT)) (t : TxN) (f : aS KeyT → aS KeyT) : (bG l t f).length = l.length := by unfold bG; rw [List.length_map]
theorem fJ.upd {w w' : World} {q b C C' : Nat} {p : TxN → Nat × Nat} {l : List (aS KeyT)} {S : Nat → Prop} (h : fJ w q b C p l) {x : aS KeyT} (hx : x ∈ l) {f : aS KeyT → aS KeyT} (hf : ∀ u, (f u).tx = u.tx)
  (hum : UMap w' b (gU (bG l x.tx f) p) l.length) (hk : aC S w w') (hS : ∀ j, S j → j = (p x.tx).1 ∨ j = (p x.tx).2 ∨ j = b) (hm : ∃ n n', jD w' (p x.tx).1 (f x).h n ∧ jD w' (p x.tx).2 (f x).w n' ∧ n + n' ≤ C') (hC : C ≤ C') (hb : dD (bG l x.tx f)) : fJ w' q b C' p (bG l x.tx f) := by
 have hq := h.q_ne
 have hback : ∀ u ∈ bG l x.tx f, ∃ u0 ∈ l, u.tx = u0.tx ∧ (u0 = x ∧ u = f x ∨ u0.tx ≠ x.tx ∧ u = u0) := fun u hu => by
  obtain ⟨u0, hu0, rfl⟩ := dE.1 hu
  by_cases e : u0.tx = x.tx
  ·have := cR h.ok.rise hu0 hx e
   subst this
   rw [if_pos rfl]
   exact ⟨_, hu0, hf _, .inl ⟨rfl, rfl⟩⟩
  ·rw [if_neg e]
   exact ⟨_, hu0, rfl, .inr ⟨e, rfl⟩⟩
 refine ⟨h.box.keep hk (fun hs => ?_), by rw [upd_len]; exact hum, fun u hu => ?_, fun u hu => ?_, fun u hu v hv e => ?_, hb⟩
 ·rcases hS _ hs with e | e | e
  ·exact (hq.2 x hx).1 e
  ·exact (hq.2 x hx).2 e
  ·exact hq.1 e
 ·obtain ⟨u0, hu0, e, ⟨rfl, rfl⟩ | ⟨en, rfl⟩⟩ := hback u hu
  ·obtain ⟨n, n', h1, h2, h3⟩ := hm
   rw [e]
   exact ⟨n, n', h1, h2, h3⟩
  ·obtain ⟨n, n', h1, h2, h3⟩ := h.maps u hu0
   have hp := h.ap u hu0
   have hp2 := h.ap2 u hu0 x hx en
   have hp3 := h.ap2 x hx u hu0 (fun e => en e.symm)
   refine ⟨n, n', h1.keep hk (fun hs => ?_), h2.keep hk (fun hs => ?_), Nat.le_trans h3 hC⟩
   ·rcases hS _ hs with e | e | e
    ·exact hp2.1 e
    ·exact hp2.2.1 e
    ·exact hp.2.1 e
   ·rcases hS _ hs with e | e | e
    ·exact hp3.2.1 e.symm
    ·exact hp2.2.2 e
    ·exact hp.2.2 e
 ·obtain ⟨u0, hu0, e, _⟩ := hback u hu
  rw [e]
  exact h.ap u0 hu0
 ·obtain ⟨u0, hu0, e1, _⟩ := hback u hu
  obtain ⟨v0, hv0, e2, _⟩ := hback v hv
  rw [e1, e2]
  exact h.ap2 u0 hu0 v0 hv0 (by rw [← e1, ← e2]; exact e)
theorem gM_of {f : KeyT → Nat} {k : KeyT} {v : Nat} (h : f k = v) (hv : v ≠ 0) : gM f k = some v := by
 unfold gM
 rw [h, if_neg hv]
theorem gM_zero {f : KeyT → Nat} {k : KeyT} (h : f k = 0) : gM f k = none := by
 unfold gM
 rw [h, if_pos rfl]
theorem gM_at {f g : KeyT → Nat} {k : KeyT} (h : f k = g k) : gM f k = gM g k := by
 unfold gM
 rw [h]
theorem mmap_put {w : World} {m n : Nat} {f : KeyT → Nat} (h : jD w m f n) (hn : n < maxLen) (k : KeyT) (v : Nat) (hv : v ≠ 0) : ∃ w', (Instr.mapUpdate 78 (.map (some m)) (kyV k.1) (.int .u8 (v : Int))).run Tryz.prog w = .ok () w' ∧ jD w' m (fun k' => if k' = k then v else f k') (if f k = 0 then n + 1 else n) ∧ aC (fun j => j = m) w w' := by
 obtain ⟨w', hr, hg, hk⟩ := h.put kB hn k v
 refine ⟨w', hr, ?_, hk⟩
 have e : (if (gM f k).isSome then n else n + 1) = if f k = 0 then n + 1 else n := by
  by_cases h0 : f k = 0
  ·rw [if_pos h0, if_neg (fun h1 => (kT f k).1 h1 h0)]
  ·rw [if_neg h0, if_pos ((kT f k).2 h0)]
 rw [e] at hg
 refine hg.as (fun k' => ?_)
 by_cases ek : k' = k
 ·rw [if_pos ek]
  exact (gM_of (by rw [if_pos ek]) hv).symm
 ·rw [if_neg ek]
  exact (gM_at (by rw [if_neg ek])).symm
theorem mmap_del {w : World} {m n : Nat} {f : KeyT → Nat} (h : jD w m f n) (k : KeyT) : ∃ w', (∀ ty, (Builtin.delete_ #[78, 38] ty #[.map (some m), kyV k.1]).run Tryz.prog w = .ok (.tuple #[]) w') ∧ jD w' m (fun k' => if k' = k then 0 else f k') (if f k = 0 then n else n - 1) ∧ aC (fun j => j = m) w w' := by
 obtain ⟨w', hr, hg, hk⟩ := h.del kB k
 refine ⟨w', hr, ?_, hk⟩
 have e : (if (gM f k).isSome then n - 1 else n) = if f k = 0 then n else n - 1 := by
  by_cases h0 : f k = 0
  ·rw [if_pos h0, if_neg (fun h1 => (kT f k).1 h1 h0)]
  ·rw [if_neg h0, if_pos ((kT f k).2 h0)]
 rw [e] at hg
 refine hg.as (fun k' => ?_)
 by_cases ek : k' = k
 ·rw [if_pos ek]
  exact (gM_zero (by rw [if_pos ek])).symm
 ·rw [if_neg ek]
  exact (gM_at (by rw [if_neg ek])).symm
abbrev zG : Array Value := #[.int .u8 0, .int .u32 0, .int .u32 0, .int .u8 0, .int .u8 0, .int .u8 0, .int .u8 0, .int .u8 0, .int .u8 0, .int .u8 0, .int .u8 0, .int .u8 0]
theorem infoGt15 : (Tryz.prog.info? 73).map (·.size) = some 12 := by kernel_rfl
theorem buildGt (t : TxN) (k : KeyT) (m : Nat) (w : World) : (Instr.build 73 #[(0, aV t), (1, kyV k.1), (2, .int .u8 (m : Int))]).run Tryz.prog w = .ok (.agg (bW ⟨t, k, m⟩)) w := by kernel_rfl
def stG (a v : Value) : Sem Unit := Instr.storeAt 73 a v
theorem stG_hide (a v : Value) : Instr.storeAt 73 a v = stG a v := rfl
theorem run_stG {w : World} {p : Nat} {cs : Array Value} {t0 : TypeId} (h : bZ w p cs t0) (hs : cs.size = 12) (g : cD KeyT) : ∃ w', (stG (.pointer (some ⟨p, 0, none⟩)) (.agg (bW g))).run Tryz.prog w = .ok () w' ∧ bZ w' p (bW g) t0 ∧ aC (fun k => k = p) w w' := by
 have hr := run_storeVar_row (P := Tryz.prog) w p t0 73 cs (bW g) h infoGt15 hs (by simp [Value.oneCell'])
 refine ⟨w.setRow p (bW g), ?_, setRow_heap w p cs _ t0 (0, 0) h, rfl, rfl, rfl, by simp [World.setRow], fun k _ hS => setRow_other w p k _ hS⟩
 unfold stG
 simp only [Instr.storeAt, Instr.sureAddr, Sem.run_bind, Sem.run_pure, Result.andThen_ok, hr]
theorem grU_all (k : KeyT) (u : aS KeyT) : (iL k u).tx = u.tx ∧ (iL k u).tm = u.tm ∧ (iL k u).pr = u.pr := ⟨rfl, rfl, rfl⟩
attribute [local go_sem ↓] stG_hide kC
set_option maxHeartbeats 3200000 in
theorem lkGrant_any (q b C : Nat) (p : TxN → Nat × Nat) (l : List (aS KeyT)) (x : aS KeyT) (hx : x ∈ l) (k : KeyT) (w : World) (h : fJ w q b C p l) (hw : x.w k ≠ 0) (hC : C ≤ 1000000) :
  Calls Tryz.prog 76 #[.pointer (some ⟨q, 0, none⟩), aV x.tx, .agg (aK k.1)] w fun e w' => e = .returned (.agg (bW ⟨x.tx, k, max (x.h k) (x.w k)⟩)) ∧ fJ w' q b C p (bG l x.tx (iL k)) ∧ aC (fun j => j = (p x.tx).1 ∨ j = (p x.tx).2) w w' := by
 have hxb : kJ x.tx := (h.ok.oks x hx).1
 have hE : (gU l p ⟨x.tx, hxb⟩).getD zE = (x.tm, x.tx, x.pr, some (p x.tx).1, some (p x.tx).2) := by
  have e : gU l p ⟨x.tx, hxb⟩ = some (x.tm, x.tx, x.pr, some (p x.tx).1, some (p x.tx).2) := by show (cM l x.tx).map _ = _; rw [(bT h.ok).2 ⟨hx, rfl⟩]; rfl
  rw [e]; rfl
 have hA := aE w (.cells #[.int .u8 (x.tx.1 : Int), .int .u32 (x.tx.2.1 : Int), .int .u32 (x.tx.2.2 : Int)] 34)
 have hA2 := aE (w.alloc (.cells #[.int .u8 (x.tx.1 : Int), .int .u32 (x.tx.2.1 : Int), .int .u32 (x.tx.2.2 : Int)] 34)) (.cells (aK k.1) 38)
 have hA3 := aE ((w.alloc (.cells #[.int .u8 (x.tx.1 : Int), .int .u32 (x.tx.2.1 : Int), .int .u32 (x.tx.2.2 : Int)] 34)).alloc (.cells (aK k.1) 38)) (.cells zG 73)
 have HXT := aA (((aN w #[.int .u8 (x.tx.1 : Int), .int .u32 (x.tx.2.1 : Int), .int .u32 (x.tx.2.2 : Int)] 34).belowI hA2).belowI hA3)
 have HXK : Hid (bZ (((w.alloc (.cells #[.int .u8 (x.tx.1 : Int), .int .u32 (x.tx.2.1 : Int), .int .u32 (x.tx.2.2 : Int)] 34)).alloc (.cells (aK k.1) 38)).alloc (.cells zG 73)) (w.heap.size + 1) (aK k.1) 38) := aA ((by have := aN (w.alloc (.cells #[.int .u8 (x.tx.1 : Int), .int .u32 (x.tx.2.1 : Int), .int .u32 (x.tx.2.2 : Int)] 34)) (aK k.1) 38; simpa using this : bZ ((w.alloc (.cells #[.int .u8 (x.tx.1 : Int), .int .u32 (x.tx.2.1 : Int), .int .u32 (x.tx.2.2 : Int)] 34)).alloc (.cells (aK k.1) 38)) (w.heap.size + 1) (aK k.1) 38).belowI hA3)
 have HXG : Hid (bZ (((w.alloc (.cells #[.int .u8 (x.tx.1 : Int), .int .u32 (x.tx.2.1 : Int), .int .u32 (x.tx.2.2 : Int)] 34)).alloc (.cells (aK k.1) 38)).alloc (.cells zG 73)) (w.heap.size + 1 + 1) zG 73) := aA (by have := aN ((w.alloc (.cells #[.int .u8 (x.tx.1 : Int), .int .u32 (x.tx.2.1 : Int), .int .u32 (x.tx.2.2 : Int)] 34)).alloc (.cells (aK k.1) 38)) zG 73; simpa using this)
 have hB3 := hA.trans ((hA2.trans (hA3.mono hA2.size)).mono hA.size)
 obtain ⟨w1, hw1⟩ : ∃ w1, w1 = ((w.alloc (.cells #[.int .u8 (x.tx.1 : Int), .int .u32 (x.tx.2.1 : Int), .int .u32 (x.tx.2.2 : Int)] 34)).alloc (.cells (aK k.1) 38)).alloc (.cells zG 73) := ⟨_, rfl⟩
 obtain ⟨p1, hp1⟩ : ∃ p1, p1 = w.heap.size := ⟨_, rfl⟩
 obtain ⟨p2, hp2⟩ : ∃ p2, p2 = p1 + 1 := ⟨_, rfl⟩
 obtain ⟨p3, hp3⟩ : ∃ p3, p3 = p2 + 1 := ⟨_, rfl⟩
 rw [← hw1, ← hp1] at HXT
 rw [← hw1, ← hp1, ← hp2] at HXK
 rw [← hw1, ← hp1, ← hp2, ← hp3] at HXG
 rw [← hw1] at hB3
 have hW1 := hw1.symm
 have hP1 := hp1.symm
 have hP2 := hp2.symm
 have hP3 := hp3.symm
 have H1 := aA (h.below hB3)
 have HB := aA hB3
 obtain ⟨n, n', hm1, hm2, hnn⟩ := H1.out.maps x hx
 have hA4 := aE w1 (.cells zU 80)
 have hXU := aN w1 zU 80
 obtain ⟨w2, hw2⟩ : ∃ w2, w2 = w1.alloc (.cells zU 80) := ⟨_, rfl⟩
 obtain ⟨p4, hp4⟩ : ∃ p4, p4 = w1.heap.size := ⟨_, rfl⟩
 rw [← hw2] at hA4 hXU
 rw [← hp4] at hXU
 have hW2 := hw2.symm
 have hP4 := hp4.symm
 have HB2 := aA hA4
 have H2 := aA (H1.out.below hA4)
 have h0 : w2.cell? ⟨q, 0, none⟩ = some (.map (some b)) := H2.out.box.cell 0 _ rfl
 obtain ⟨k0, k1, k2⟩ := (HXT.out.belowI hA4).three
 have L1 := (H2.out.m.below (aG w2)).look1 fM ⟨x.tx, hxb⟩
 rw [hE] at L1
 have h01 : w1.cell? ⟨q, 0, none⟩ = some (.map (some b)) := H1.out.box.cell 0 _ rfl
 obtain ⟨k01, k11, k21⟩ := HXT.out.three
 have L11 := (H1.out.m.below (aG w1)).look1 fM ⟨x.tx, hxb⟩
 rw [hE] at L11
 obtain ⟨⟨m1, m2⟩, hxm⟩ : ∃ m, m = p x.tx := ⟨_, rfl⟩
 rw [← hxm] at L1 L11 hm1 hm2
 obtain ⟨w3, hst, hx3, hk3⟩ := run_stU (hXU.belowI (aG w2)) rfl (x.tm, x.tx, x.pr, some m1, some m2)
 have HX3 := aA hx3
 have HB3 : Hid (Below w1.heap.size w1 w3) := aA ((hA4.trans ((aG w2).mono hA4.size)).trans (hk3.below hA4.size (fun j e => by rw [e, hp4]; exact Nat.le_refl _)))
 clear hw2 hp4 hA4 hXU hx3 hk3
 have HXM := aA hxm
 have HM1 := aA hm1
 have HM2 := aA hm2
 have HNN := aA hnn
 have HXI := aA hx
 have HC := aA hC
 have HPW := aA h
 have HNW : Hid (w.heap.size ≤ p3) := aA (by omega)
 have HNB : Hid (m1 ≠ b ∧ m2 ≠ b) := aA (by
  have h6 := (h.ap x hx).2
  rw [← hxm] at h6
  exact h6)
 have HNE : Hid (p1 < p2 ∧ p2 < p3 ∧ p3 < p4 ∧ m1 < p1 ∧ m2 < p1 ∧ m1 ≠ m2) := aA (by
  have h1 := HXT.out.lt
  have h2 := HXK.out.lt
  have h3 := HXG.out.lt
  have h4 := h.flt (k := m1) (.inr (.inr ⟨x, hx, .inl (by rw [← hxm])⟩))
  have h5 := h.flt (k := m2) (.inr (.inr ⟨x, hx, .inr (by rw [← hxm])⟩))
  have h6 := (h.ap x hx).1
  rw [← hxm] at h6
  dsimp only at h6
  omega)
 have HWK := aA hw
 have HXB := aA hxb
 clear h hA hA2 hA3 hB3 hw1 hp1 hp2 hp3 hE hm1 hm2 hnn hC hx hxm hw
 obtain ⟨⟨xa, xb, xc⟩, xm, xp, xh, xw⟩ := x
 dsimp only at *
 obtain ⟨V, hV⟩ : ∃ V, V = max (xh k) (xw k) := ⟨_, rfl⟩
 have HV := aA hV
 rw [← hV]
 clear hV
 go_enter Tryz.func76, Tryz.ntmps76
 go_wp2_with fail
 go_region
 clear h0 k0 k1 k2 h01 k01 k11 k21 L1 L11 hst hW1 hW2 hP1 hP2 hP3
 simp only [Exit.then]
 rename_i hK
 refine hK _ _ ?_
 clear hK
 have hV := HV.out
 have hmx : ((V : Nat) : Int) = max ((xh k : Nat) : Int) ((xw k : Nat) : Int) := by omega
 have HXK3 := aA (HXK.out.belowI HB3.out)
 have HXT3 := aA (HXT.out.belowI HB3.out)
 have HXG3 := aA (HXG.out.belowI HB3.out)
 have H3 := aA (H1.out.below HB3.out)
 have HM13 := aA (HM1.out.below HB3.out)
 have HM23 := aA (HM2.out.below HB3.out)
 have HBB3 : Hid (Below w.heap.size w w3) := aA (HB.out.trans (HB3.out.mono HB.out.size))
 obtain ⟨x0, x1, x2, x3, x4, x5, x6, x7⟩ := bN HXK3.out
 have y5 : w3.cell? ⟨p4, 5, none⟩ = some (.map (some m1)) := HX3.out.cell 5 _ rfl
 have y6 : w3.cell? ⟨p4, 6, none⟩ = some (.map (some m2)) := HX3.out.cell 6 _ rfl
 have L2 := (eN.look (.inr ⟨_, _, rfl, HM13.out.below (aG w3)⟩) k : (Instr.lookup 78 (.map (some m1)) (kyV k.1) false).run Tryz.prog w3.drew = _)
 have L3 := (eN.look (.inr ⟨_, _, rfl, HM23.out.below (aG w3)⟩) k : (Instr.lookup 78 (.map (some m2)) (kyV k.1) false).run Tryz.prog w3.drew = _)
 obtain ⟨w4, hput, hmp, hkp⟩ := mmap_put (HM13.out.below (aG w3)) (by have := HNN.out; have := HC.out; unfold maxLen; omega) k V (by have := HWK.out; omega)
 rw [hmx] at hput
 have HM14 := aA hmp
 clear hmx
 have HK34 : Hid (aC (fun j => j = m1) w3 w4) := aA ((aC.of_below (fun j => j = m1) (aG w3)).trans hkp (fun _ _ h => h))
 clear hV hmp hkp
 have HXK4 := aA (HXK3.out.keep HK34.out (fun e => by have := HNE.out; omega))
 have HXT4 := aA (HXT3.out.keep HK34.out (fun e => by have := HNE.out; omega))
 have HXG4 := aA (HXG3.out.keep HK34.out (fun e => by have := HNE.out; omega))
 have HX4 := aA (HX3.out.keep HK34.out (fun e => by have := HNE.out; omega))
 have HM24 := aA (HM23.out.keep HK34.out (fun e => by have := HNE.out; omega))
 obtain ⟨z0, z1, z2, z3, z4, z5, z6, z7⟩ := bN HXK4.out
 have u5 : w4.cell? ⟨p4, 5, none⟩ = some (.map (some m1)) := HX4.out.cell 5 _ rfl
 have u6 : w4.cell? ⟨p4, 6, none⟩ = some (.map (some m2)) := HX4.out.cell 6 _ rfl
 go_wp2_with fail
 go_region_held (fun w' => w'.cell? ⟨p2, 0, none⟩ = some (.int .u8 (aZ k.1 0)) ∧ w'.cell? ⟨p2, 1, none⟩ = some (.int .u8 (aZ k.1 1)) ∧ w'.cell? ⟨p2, 2, none⟩ = some (.int .u8 (aZ k.1 2)) ∧ w'.cell? ⟨p2, 3, none⟩ = some (.int .u8 (aZ k.1 3)) ∧ w'.cell? ⟨p2, 4, none⟩ = some (.int .u8 (aZ k.1 4)) ∧ w'.cell? ⟨p2, 5, none⟩ = some (.int .u8 (aZ k.1 5)) ∧ w'.cell? ⟨p2, 6, none⟩ = some (.int .u8 (aZ k.1 6)) ∧ w'.cell? ⟨p2, 7, none⟩ = some (.int .u8 (aZ k.1 7)) ∧ w'.cell? ⟨p4, 5, none⟩ = some (.map (some m1)) ∧ w'.cell? ⟨p4, 6, none⟩ = some (.map (some m2))) (go_keep) (fail)
 all_goals rename_i hS9
 all_goals clear hS9 x0 x1 x2 x3 x4 x5 x6 x7 y5 y6 L2 L3 hput
 all_goals obtain ⟨w5, hdel, hmd, hkd⟩ := mmap_del HM24.out k
 all_goals have HM25 := aA hmd
 all_goals have HK45 := aA hkd
 all_goals clear hmd hkd
 all_goals go_wp2_with fail
 all_goals
  have HM15 := aA (HM14.out.keep HK45.out (fun e => by have := HNE.out; omega))
  have HXK5 := aA (HXK4.out.keep HK45.out (fun e => by have := HNE.out; omega))
  have HXT5 := aA (HXT4.out.keep HK45.out (fun e => by have := HNE.out; omega))
  have HXG5 := aA (HXG4.out.keep HK45.out (fun e => by have := HNE.out; omega))
  have HX5 := aA (HX4.out.keep HK45.out (fun e => by have := HNE.out; omega))
  obtain ⟨x0, x1, x2, x3, x4, x5, x6, x7⟩ := bN HXK5.out
  obtain ⟨k0, k1, k2⟩ := HXT5.out.three
  have y5 : w5.cell? ⟨p4, 5, none⟩ = some (.map (some m1)) := HX5.out.cell 5 _ rfl
  have L4 := (eN.look (.inr ⟨_, _, rfl, HM15.out.below (aG w5)⟩) k : (Instr.lookup 78 (.map (some m1)) (kyV k.1) false).run Tryz.prog w5.drew = _)
  rw [if_pos rfl] at L4
  have hbu := fun W => buildGt (xa, xb, xc) k V W
  obtain ⟨w6, hstg, hx6, hk6⟩ := run_stG (HXG5.out.belowI (aG w5)) rfl ⟨(xa, xb, xc), k, V⟩
  have HX6 := aA hx6
  have HK56 : Hid (aC (fun j => j = p3) w5 w6) := aA ((aC.of_below (fun j => j = p3) (aG w5)).trans hk6 (fun _ _ h => h))
  have HXK6 := aA (HXK5.out.keep HK56.out (fun e => by have := HNE.out; omega))
  have HXT6 := aA (HXT5.out.keep HK56.out (fun e => by have := HNE.out; omega))
  have HXX6 := aA (HX5.out.keep HK56.out (fun e => by have := HNE.out; omega))
  obtain ⟨v0, v1, v2, v3, v4, v5, v6, v7⟩ := bN HXK6.out
  obtain ⟨j0, j1, j2⟩ := HXT6.out.three
  have i5 : w6.cell? ⟨p4, 5, none⟩ = some (.map (some m1)) := HXX6.out.cell 5 _ rfl
  clear hx6 hk6 z0 z1 z2 z3 z4 z5 z6 z7 u5 u6 hdel
 all_goals go_region_held (fun w' => w'.cell? ⟨p2, 0, none⟩ = some (.int .u8 (aZ k.1 0)) ∧ w'.cell? ⟨p2, 1, none⟩ = some (.int .u8 (aZ k.1 1)) ∧ w'.cell? ⟨p2, 2, none⟩ = some (.int .u8 (aZ k.1 2)) ∧ w'.cell? ⟨p2, 3, none⟩ = some (.int .u8 (aZ k.1 3)) ∧ w'.cell? ⟨p2, 4, none⟩ = some (.int .u8 (aZ k.1 4)) ∧ w'.cell? ⟨p2, 5, none⟩ = some (.int .u8 (aZ k.1 5)) ∧ w'.cell? ⟨p2, 6, none⟩ = some (.int .u8 (aZ k.1 6)) ∧ w'.cell? ⟨p2, 7, none⟩ = some (.int .u8 (aZ k.1 7)) ∧ w'.cell? ⟨p4, 5, none⟩ = some (.map (some m1)) ∧ w'.cell? ⟨p1, 0, none⟩ = some (.int .u8 (xa : Int)) ∧ w'.cell? ⟨p1, 1, none⟩ = some (.int .u32 (xb : Int)) ∧ w'.cell? ⟨p1, 2, none⟩ = some (.int .u32 (xc : Int))) (go_keep) (fail)
 all_goals rename_i hS8
 all_goals clear hS8
 all_goals go_wp2_with fail
 all_goals refine bodyPost_ret (v := .agg (bW ⟨(xa, xb, xc), k, V⟩)) (eL Tryz.results76 _ _ p3 rfl HX6.out Tryz.underlying73 rfl infoGt15) rfl ⟨rfl, ?_⟩
 all_goals
  have hk26 : aC (fun j => j = m1 ∨ j = m2) w w6 := by
   have a1 := (aC.of_below (fun j => j = m1 ∨ j = m2) HBB3.out).trans (HK34.out.mono (fun j e => .inl e)) (fun _ _ h => h)
   have a2 := a1.trans (HK45.out.mono (fun j e => .inr e)) (fun _ _ h => h)
   exact ⟨HK56.out.os.trans a2.os, HK56.out.tape.trans a2.tape, HK56.out.output.trans a2.output, Nat.le_trans a2.size HK56.out.size, fun j hj hn => (HK56.out.block j (Nat.lt_of_lt_of_le hj a2.size) (fun e => by have := HNW.out; omega)).trans (a2.block j hj hn)⟩
  have hxm := HXM.out
  have e1 : (p (xa, xb, xc)).1 = m1 := by rw [← hxm]
  have e2 : (p (xa, xb, xc)).2 = m2 := by rw [← hxm]
  rw [e1, e2]
  have hmm : ∃ n n', jD w6 (p (xa, xb, xc)).1 (iL k ⟨(xa, xb, xc), xm, xp, xh, xw⟩).h n ∧ jD w6 (p (xa, xb, xc)).2 (iL k ⟨(xa, xb, xc), xm, xp, xh, xw⟩).w n' ∧ n + n' ≤ C := by
   rw [e1, e2]
   have b1 := HM15.out.keep HK56.out (fun e => by have := HNE.out; omega)
   have b2 := HM25.out.keep HK56.out (fun e => by have := HNE.out; omega)
   rw [HV.out] at b1
   refine ⟨_, _, b1, b2, ?_⟩
   have := HNN.out
   have := HWK.out
   have b3 : n' ≠ 0 := fun e => by
    have := (gmap_pos kB HM2.out).2 ⟨k, (kT xw k).2 HWK.out⟩
    omega
   rw [if_neg HWK.out]
   split <;> omega
  have hum : UMap w6 b (gU (bG l (xa, xb, xc) (iL k)) p) l.length := by
   refine (HPW.out.m.keep hk26 (fun e => ?_)).as (fun s => (gU_upd (xa, xb, xc) (grU_all k) p s).symm)
   have := HNB.out
   omega
  exact ⟨HPW.out.upd HXI.out (fun u => (grU_all k u).1) hum hk26 (fun j e => by rw [e1, e2]; exact e.elim .inl (fun e => .inr (.inl e))) hmm (Nat.le_refl _) (i9 HPW.out.ok _ _ (grU_ok HPW.out.ok k)), hk26⟩
end
section
open Go.RowKit
def layC (cs : Array Value) : Nat → List Value → Array Value
 | _, [] => cs
 | o, v :: r => layC (cs.setIfInBounds o v) (o + 1) r
theorem bZ.setCells {g : Nat} {t : TypeId} : ∀ (vs : List Value) (o : Nat) (w : World) (cs : Array Value), bZ w g cs t → bZ (w.setCells g o vs) g (layC cs o vs) t
 | [], _, _, _, h => h
 | _ :: r, o, _, _, h => bZ.setCells r (o + 1) _ _ h.set
theorem aC.setCells {S : Nat → Prop} {g : Nat} : ∀ (vs : List Value) (o : Nat) (a w : World), aC S a w → (S g ∨ a.heap.size ≤ g) → aC S a (w.setCells g o vs)
 | [], _, _, _, h, _ => h
 | v :: r, o, a, _, h, hS => aC.setCells r (o + 1) a _ (h.setCell (p := ⟨g, o, none⟩) hS v) hS
theorem iX : ∀ (vs : List Value) (o : Nat) (cs : Array Value), (layC cs o vs).size = cs.size
 | [], _, _ => rfl
 | v :: r, o, cs => by rw [layC, iX r]; simp
section
variable {α : Type} {t e : TypeId} {K : Nat} {enc : α → List Value}
theorem Rec.sizeOf (R : Rec t e K enc) (w : World) : (Go.sizeOf e).run Tryz.prog w = .ok K w := by
 obtain ⟨i0, z, B, hi, hz0, hz1, hz2, hzs, hB⟩ := R.info
 simp [Go.sizeOf, typeInfo, hi, hz1]
theorem run_fromB (R : Rec t e K enc) (w : World) (g n cap s : Nat) (hs : s ≤ n) (hc : s < cap) : (Instr.sliceAt t (.slice (some ⟨g, 0, none⟩) n cap) (some (.int .i64 s)) none none).run Tryz.prog w = .ok (.slice (some ⟨g, s * K, none⟩) (n - s) (cap - s)) w := by
 rw [fK R w _ n cap s hs, if_neg (by omega)]
 simp [Addr.add_lit]
def ZeroOne (e : TypeId) : Prop := ∀ i z, Tryz.prog.info? e = some i → i.zero = some z → ∀ v ∈ z.cells.toList, v.oneCell' = true
theorem zero_one_of {e : TypeId} {z : Value} (h : (Tryz.prog.info? e).map (·.zero) = some (some z)) (h1 : z.cells.all (·.oneCell') = true) : ZeroOne e := by
 intro i z' hi hz v hv
 rw [hi] at h
 simp only [Option.map_some, hz, Option.some.injEq] at h
 subst h
 rw [Array.all_eq_true'] at h1
 exact h1 v (by simpa using hv)
theorem zeros_one {e : TypeId} (h : ZeroOne e) {i : TypeInfo} {z : Value} (hi : Tryz.prog.info? e = some i) (hz : i.zero = some z) (hp : 0 < z.cells.size) (n : Nat) : ∀ v ∈ (Builtin.zeroCells z.cells n).toList, v.oneCell' = true := by
 intro v hv
 simp only [Builtin.zeroCells, Array.toList_map, List.mem_map] at hv
 obtain ⟨j, _, rfl⟩ := hv
 have hlt : j % z.cells.size < z.cells.size := Nat.mod_lt _ hp
 rw [getElem!_pos z.cells _ hlt]
 exact h i z hi hz _ (by simp)
theorem run_clearR (R : Rec t e K enc) (hzo : ZeroOne e) (w : World) (g o n c : Nat) (cs : Array Value) (hb : bZ w g cs e) (ho : o + n * K ≤ cs.size) (hn : 0 < n) : ∃ zs : List Value, zs.length = n * K ∧ ∀ ty, (Builtin.clear_ #[t] ty #[.slice (some ⟨g, o, none⟩) n c]).run Tryz.prog w = .ok (.tuple #[]) (w.setCells g o zs) := by
 obtain ⟨i0, z, B, hi, hz0, hz1, hz2, hzs, hB⟩ := R.info
 have hzv : (zeroValue e).run Tryz.prog w = .ok z w := by simp [zeroValue, typeInfo, hi, hz0]
 have hl : (Builtin.zeroCells z.cells n).toList.length = n * K := by simp [size_zeroCells, hzs]
 have hone := zeros_one hzo hi hz0 (by rw [hzs]; exact R.pos) n
 refine ⟨_, hl, fun ty => ?_⟩
 have hst := run_storeCells_cells (P := Tryz.prog) g o (Builtin.zeroCells z.cells n).toList 0 w (fun j hj => by
   have hlt : o + 0 + j < cs.size := by omega
   rw [hb.cell _ _ (Array.getElem?_eq_getElem hlt)]; rfl) (fun j hj => hb.frozen _) hone
 simp only [Nat.add_zero] at hst
 obtain ⟨m, rfl⟩ : ∃ m, n = m + 1 := ⟨n - 1, by omega⟩
 simp [Builtin.clear_, run_underlying R.und, hzv, hst]
end
end
section
open Go.RowKit Go.Maps Classical
theorem eql_ky15 {a b : List Int} (ha : gX a) (hb : gX b) (w : World) : (binOp .eql 38 (.agg (aK a)) (.agg (aK b))).run Tryz.prog w = .ok (.bool (decide (a = b))) w := by
 have h := eq8 38 Tryz.underlying38 9998 (aZ a 0) (aZ a 1) (aZ a 2) (aZ a 3) (aZ a 4) (aZ a 5) (aZ a 6) (aZ a 7) (aZ b 0) (aZ b 1) (aZ b 2) (aZ b 3) (aZ b 4) (aZ b 5) (aZ b 6) (aZ b 7) w
 rw [eight_dec ha.l hb.l] at h
 rw [run_eql_struct]
 have h2 : (Op.equalIn 10000 38 (.agg (aK a)) (.agg (aK b))).run Tryz.prog w = .ok (decide (a = b)) w := h
 rw [h2]
 rfl
theorem neq_ky15 {a b : List Int} (ha : gX a) (hb : gX b) (w : World) : (binOp .neq 38 (.agg (aK a)) (.agg (aK b))).run Tryz.prog w = .ok (.bool (!decide (a = b))) w := by
 have h := eq8 38 Tryz.underlying38 9998 (aZ a 0) (aZ a 1) (aZ a 2) (aZ a 3) (aZ a 4) (aZ a 5) (aZ a 6) (aZ a 7) (aZ b 0) (aZ b 1) (aZ b 2) (aZ b 3) (aZ b 4) (aZ b 5) (aZ b 6) (aZ b 7) w
 rw [eight_dec ha.l hb.l] at h
 rw [run_neq_struct]
 have h2 : (Op.equalIn 10000 38 (.agg (aK a)) (.agg (aK b))).run Tryz.prog w = .ok (decide (a = b)) w := h
 rw [h2]
 rfl
structure jE (w : World) (g n : Nat) (xs : Nat → KeyT) : Prop where
 bx : ∃ cur, bZ w g cur 38 ∧ n * 8 ≤ cur.size
 rd : ∀ i, i < n → w.rangeAt g (i * 8) (kyCs (xs i))
theorem jE.keep {S : Nat → Prop} {w w' : World} {g n : Nat} {xs : Nat → KeyT} (h : jE w g n xs) (hk : aC S w w') (hS : ¬ S g) : jE w' g n xs := by
 obtain ⟨cur, hb, hn⟩ := h.bx
 refine ⟨⟨cur, hb.keep hk hS, hn⟩, fun i hi j v hv => ?_⟩
 rw [← h.rd i hi j v hv]
 exact World.cell?_of_block (hk.block g hb.lt hS)
theorem jE.below {w w' : World} {g n : Nat} {xs : Nat → KeyT} (h : jE w g n xs) (hB : Below w.heap.size w w') : jE w' g n xs := h.keep (aC.of_below (fun _ => False) hB) (fun h => h)
theorem jE.cells {w : World} {g n : Nat} {xs : Nat → KeyT} (h : jE w g n xs) {i : Nat} (hi : i < n) : w.cell? ⟨g, i * 8, none⟩ = some (.int .u8 (aZ (xs i).1 0)) ∧ w.cell? ⟨g, i * 8 + 1, none⟩ = some (.int .u8 (aZ (xs i).1 1)) ∧ w.cell? ⟨g, i * 8 + 2, none⟩ = some (.int .u8 (aZ (xs i).1 2)) ∧ w.cell? ⟨g, i * 8 + 3, none⟩ = some (.int .u8 (aZ (xs i).1 3)) ∧ w.cell? ⟨g, i * 8 + 4, none⟩ = some (.int .u8 (aZ (xs i).1 4)) ∧ w.cell? ⟨g, i * 8 + 5, none⟩ = some (.int .u8 (aZ (xs i).1 5)) ∧ w.cell? ⟨g, i * 8 + 6, none⟩ = some (.int .u8 (aZ (xs i).1 6)) ∧ w.cell? ⟨g, i * 8 + 7, none⟩ = some (.int .u8 (aZ (xs i).1 7)) :=
 ⟨h.rd i hi 0 _ rfl, h.rd i hi 1 _ rfl, h.rd i hi 2 _ rfl, h.rd i hi 3 _ rfl, h.rd i hi 4 _ rfl, h.rd i hi 5 _ rfl, h.rd i hi 6 _ rfl, h.rd i hi 7 _ rfl⟩
theorem there_box {w : World} {g : Nat} {cur : Array Value} {t : TypeId} (hb : bZ w g cur t) (o n : Nat) (h : o + n ≤ cur.size) : w.there g o n := fun j hj => by
 have hlt : o + j < cur.size := by omega
 refine ⟨?_, hb.frozen _⟩
 rw [hb.cell _ _ (Array.getElem?_eq_getElem hlt)]
 rfl
theorem jE.there {w : World} {g n : Nat} {xs : Nat → KeyT} (h : jE w g n xs) {i : Nat} (hi : i < n) : w.there g (i * 8) 8 := by
 obtain ⟨cur, hb, hn⟩ := h.bx
 exact there_box hb _ _ (by omega)
theorem jE.set {w : World} {g n : Nat} {xs : Nat → KeyT} (h : jE w g n xs) {i : Nat} (hi : i < n) (y : KeyT) : jE (w.setCells g (i * 8) (kyCs y)) g n (fun j => if j = i then y else xs j) := by
 obtain ⟨cur, hb, hn⟩ := h.bx
 refine ⟨⟨_, hb.setCells (kyCs y) (i * 8), by rw [iX]; exact hn⟩, fun j hj => ?_⟩
 by_cases e : j = i
 ·subst e
  rw [if_pos rfl]
  exact World.rangeAt_setCells_same _ _ _ _ (h.there hi)
 ·rw [if_neg e]
  refine World.rangeAt_setCells_apart (h.rd j hj) _ _ _ (.inr ?_)
  show j * 8 + 8 ≤ i * 8 ∨ i * 8 + 8 ≤ j * 8
  omega
theorem jE.less {w : World} {g n : Nat} {xs : Nat → KeyT} (h : jE w g n xs) {m o : Nat} (hm : m ≤ n) (ho : m * 8 ≤ o) (vs : List Value) : jE (w.setCells g o vs) g m xs := by
 obtain ⟨cur, hb, hn⟩ := h.bx
 refine ⟨⟨_, hb.setCells vs o, by rw [iX]; omega⟩, fun j hj => ?_⟩
 refine World.rangeAt_setCells_apart (h.rd j (by omega)) _ _ _ (.inr (.inl ?_))
 show j * 8 + 8 ≤ o
 omega
theorem jE.of_own {base : Nat} {w : World} {g n cap : Nat} {ss : List KeyT} (h : w.ownsRow base 38 8 (.slice (some ⟨g, 0, none⟩) n cap) ss.length (gI ss)) (d : KeyT) : jE w g ss.length (fun i => ss.getD i d) := by
 have hsrc : bI kyCs w (.slice (some ⟨g, 0, none⟩) n cap) ss := bI.of_own h
 obtain ⟨_, h0 | ⟨g', cap', cur, e, _, hb, h1, h2, h3, _⟩⟩ := h
 ·cases h0.1
 ·cases e
  refine ⟨⟨cur, hb, by omega⟩, fun i hi j u hu => ?_⟩
  obtain ⟨_, b', off, e, _, hc⟩ := hsrc.at (K := 8) (fun _ => rfl) hi
  cases e
  have := hc j u (by rw [List.getD_eq_getElem?_getD, List.getElem?_eq_getElem hi] at hu; exact hu)
  rw [Nat.zero_add] at this
  exact this
theorem jE.src {w : World} {g n cap : Nat} {xs : Nat → KeyT} (h : jE w g n xs) (hc : n ≤ cap) (hM : cap ≤ maxLen) : bI kyCs w (.slice (some ⟨g, 0, none⟩) n cap) ((List.range n).map xs) := by
 obtain ⟨cur, hb, _⟩ := h.bx
 have hl : ((List.range n).map xs).length = n := by simp
 refine ⟨some ⟨g, 0, none⟩, cap, by rw [hl], by rw [hl]; exact hc, hM, (fun e => by cases e), fun _ => ⟨g, 0, rfl, hb.lt, fun j u hu => ?_⟩⟩
 have hj : j < n * 8 := by
  have h1 := (List.getElem?_eq_some_iff.1 hu).1
  rw [gY (K := 8) (fun _ => rfl), hl] at h1
  exact h1
 have e1 : j = j / 8 * 8 + j % 8 := by omega
 have h2 : j / 8 < n := by omega
 rw [e1, jO (K := 8) (fun _ => rfl) (by rw [hl]; exact h2) (by omega)] at hu
 rw [Nat.zero_add, e1]
 refine h.rd (j / 8) h2 (j % 8) u ?_
 simpa using hu
structure Dd (xs ys : Nat → KeyT) (m k : Nat) : Prop where
 rise : ∀ i j, i < j → j < k → cQ (ys i) (ys j) < 0
 from_ : ∀ i, i < k → ∃ j, j < m ∧ xs j = ys i
 all : ∀ j, j < m → ∃ i, i < k ∧ ys i = xs j
theorem Dd.one (xs : Nat → KeyT) : Dd xs xs 1 1 := ⟨fun i j h1 h2 => by omega, fun i hi => ⟨i, hi, rfl⟩, fun i hi => ⟨i, hi, rfl⟩⟩
theorem Dd.same {xs ys : Nat → KeyT} {m k : Nat} (h : Dd xs ys (m + 1) k) (e : xs (m + 1) = xs m) : Dd xs ys (m + 2) k :=
 ⟨h.rise, fun i hi => by
  obtain ⟨j, hj, e⟩ := h.from_ i hi
  exact ⟨j, by omega, e⟩, fun j hj => by
  by_cases hj2 : j = m + 1
  ·obtain ⟨i, hi, e2⟩ := h.all m (by omega)
   exact ⟨i, hi, by rw [hj2, e]; exact e2⟩
  ·exact h.all j (by omega)⟩
theorem Dd.more {xs ys : Nat → KeyT} {m k n : Nat} (h : Dd xs ys (m + 1) k) (hs : ∀ i j, i ≤ j → j < n → cQ (xs i) (xs j) ≤ 0) (hm : m + 1 < n) (e : xs (m + 1) ≠ xs m) : Dd xs (fun j => if j = k then xs (m + 1) else ys j) (m + 2) (k + 1) := by
 refine ⟨fun i j hij hj => ?_, fun i hi => ?_, fun j hj => ?_⟩
 ·show cQ (if i = k then _ else _) (if j = k then _ else _) < 0
  rw [if_neg (by omega)]
  by_cases hj2 : j = k
  ·rw [if_pos hj2]
   obtain ⟨t, ht, et⟩ := h.from_ i (by omega)
   rw [← et]
   have h1 := hs t m (by omega) (by omega)
   have h2 := hs m (m + 1) (by omega) hm
   have h3 : cQ (xs m) (xs (m + 1)) ≠ 0 := fun e2 => e ((f8 _ _).1 e2).symm
   have h4 := kR _ _ _ h1 h2
   rcases Int.lt_or_eq_of_le h4 with h5 | h5
   ·exact h5
   ·have h6 := (f8 _ _).1 h5
    rw [h6] at h1
    have := fD (xs (m + 1)) (xs m)
    omega
  ·rw [if_neg hj2]
   exact h.rise i j hij (by omega)
 ·show ∃ j, j < m + 2 ∧ xs j = if i = k then _ else _
  by_cases hi2 : i = k
  ·rw [if_pos hi2]
   exact ⟨m + 1, by omega, rfl⟩
  ·rw [if_neg hi2]
   obtain ⟨j, hj, e⟩ := h.from_ i (by omega)
   exact ⟨j, by omega, e⟩
 ·by_cases hj2 : j = m + 1
  ·exact ⟨k, by omega, by show (if k = k then _ else _) = _; rw [if_pos rfl, hj2]⟩
  ·obtain ⟨i, hi, e⟩ := h.all j (by omega)
   exact ⟨i, by omega, by show (if i = k then _ else _) = _; rw [if_neg (by omega)]; exact e⟩
structure DdL (xs : Nat → KeyT) (n : Nat) (D : List KeyT) : Prop where
 rise : RisingK D
 mem : ∀ x, x ∈ D ↔ ∃ i, i < n ∧ xs i = x
theorem Dd.list {xs ys : Nat → KeyT} {m k : Nat} (h : Dd xs ys m k) : DdL xs m ((List.range k).map ys) := by
 constructor
 ·unfold RisingK
  rw [List.pairwise_map]
  refine List.pairwise_lt_range.imp_of_mem (fun {a b} _ hb hab => h.rise a b hab (List.mem_range.1 hb))
 ·intro x
  rw [List.mem_map]
  constructor
  ·rintro ⟨i, hi, rfl⟩
   obtain ⟨j, hj, e⟩ := h.from_ i (List.mem_range.1 hi)
   exact ⟨j, hj, e⟩
  ·rintro ⟨j, hj, rfl⟩
   obtain ⟨i, hi, e⟩ := h.all j hj
   exact ⟨i, List.mem_range.2 hi, e⟩
theorem wp_store_key {ops : Array Oper} {rest : List Oper} {op : Oper} {a : Act} {w : World} {Q : Exit → Act → World → Prop} (hgd : op.guard = none) (x y : Operand) (ho : op.op = .store 38 x y)
  (b o : Nat) (B : KeyT) (hx : a.eval x = .pointer (some ⟨b, o, none⟩)) (hy : a.eval y = .agg (aK B.1)) (ht : w.there b o 8) (h : ∀ w', Hid (w' = w.setCells b o (kyCs B)) → wpList Tryz.prog ops Q rest (a.put op.dst undef) w') : wpList Tryz.prog ops Q (op :: rest) a w :=
 wpList_store_mid hgd 38 x y ho b o (aK B.1) hx hy ht infoKey15 (by simp [Value.oneCell']) (h _ (aA rfl))
theorem compact_few (p : Option Addr) (n cap : Nat) (hn : n < 2) (w : World) : Calls Tryz.prog 74 #[.slice p n cap] w fun e w' => e = .returned (.slice p n cap) ∧ w' = w := by
 have hz : (n : Int) < 2 := by omega
 go_enter Tryz.func74, Tryz.ntmps74
 go_wp2
 go_ret
 exact ⟨rfl, rfl⟩
theorem zeroKey15 : ZeroOne 38 := zero_one_of (z := .agg (aK [0, 0, 0, 0, 0, 0, 0, 0])) (by kernel_rfl) (by simp [Value.cells, Value.oneCell'])
theorem eC (w : World) (n : Nat) : Below w.heap.size w (w.drewN n) := ⟨rfl, rfl, rfl, Nat.le_refl _, fun _ _ => rfl⟩
def ctK (n : Nat) (x : Value) : Nat := match x with | .int _ i => n - i.toNat | _ => 0
theorem cB (n m : Nat) (k : IntKind) : ctK n (.int k ((m : Nat) : Int)) = n - m := by unfold ctK; simp
set_option maxHeartbeats 3200000 in
theorem compact_any (g n cap : Nat) (xs : Nat → KeyT) (w : World) (h : jE w g n xs) (hn : 2 ≤ n) (hs : ∀ i j, i ≤ j → j < n → cQ (xs i) (xs j) ≤ 0) (hc : n ≤ cap) (hM : cap ≤ maxLen) (hN : n ≤ 1000000) :
  Calls Tryz.prog 74 #[.slice (some ⟨g, 0, none⟩) n cap] w fun e w' => ∃ D : List KeyT, e = .returned (.slice (some ⟨g, 0, none⟩) D.length cap) ∧ DdL xs n D ∧ bI kyCs w' (.slice (some ⟨g, 0, none⟩) D.length cap) D ∧ aC (fun j => j = g) w w' := by
 have H := aA h
 have HS := aA hs
 have HC := aA hc
 have HM := aA hM
 have hz : ¬ (n : Int) < 2 := by omega
 clear h hs hc hM
 go_enter Tryz.func74, Tryz.ntmps74
 go_wp2_with fail
 go_loopw [3] (fun x wr => ∃ (k : Nat), x = .int .i64 ((k + 1 : Nat) : Int) ∧ k + 1 ≤ n ∧ Hid (Dd xs xs (k + 1) (k + 1)) ∧ Hid (Below w.heap.size w wr)) (fun x _ => ctK n x)
 case atStart => exact ⟨0, rfl, by omega, aA (Dd.one xs), aA (Below.refl _ _)⟩
 case round =>
  obtain ⟨k, rfl, hkn, HD, HB⟩ := hrel
  have HK := aA (H.out.below HB.out)
  by_cases hlt : k + 1 < n
  case neg =>
   have hz2 : ¬ ((k + 1 : Nat) : Int) < (n : Int) := by omega
   have HKN : Hid (n = k + 1) := aA (by omega)
   go_wp2_with fail
   go_ret
   have hd := HD.out
   rw [← HKN.out] at hd
   have hl := hd.list
   have hlen : ((List.range n).map xs).length = n := by simp
   refine ⟨(List.range n).map xs, by rw [hlen]; rfl, hl, ?_, aC.of_below _ HB.out⟩
   rw [hlen]
   exact HK.out.src HC.out HM.out
  case pos =>
   have hz2 : ((k + 1 : Nat) : Int) < (n : Int) := by omega
   have hkz : ((k + 1 : Nat) : Int) - 1 = ((k : Nat) : Int) := by omega
   have hw1 : IntKind.i64.wrap (((k + 1 : Nat) : Int) - 1) = ((k : Nat) : Int) := by rw [IntKind.wrap_i64]; omega
   have hw2 : IntKind.i64.wrap (k : Int) = ((k : Nat) : Int) := by rw [IntKind.wrap_i64]; omega
   obtain ⟨x0, x1, x2, x3, x4, x5, x6, x7⟩ := HK.out.cells (show k < n by omega)
   obtain ⟨y0, y1, y2, y3, y4, y5, y6, y7⟩ := HK.out.cells hlt
   have heq := fun W => eql_ky15 (xs (k + 1)).2 (xs k).2 W
   by_cases e : xs (k + 1) = xs k
   ·have e2 : decide ((xs (k + 1)).1 = (xs k).1) = true := by simp [e]
    rw [e2] at heq
    have HE := aA e
    obtain ⟨L, hL⟩ : ∃ L, L = n - (k + 1) := ⟨_, rfl⟩
    obtain ⟨cp, hcp⟩ : ∃ cp, cp = cap - (k + 1) := ⟨_, rfl⟩
    obtain ⟨o, ho⟩ : ∃ o, o = (k + 1) * 8 := ⟨_, rfl⟩
    have hsl := fun W => run_fromB eU W g n cap (k + 1) (by omega) (by have := HC.out; omega)
    rw [← hL, ← hcp, ← ho, show ((k + 1 : Nat) : Int) = (k : Int) + 1 from by omega] at hsl
    have HLL : Hid (n = k + 1 + L ∧ o = (k + 1) * 8 ∧ 1 ≤ L) := aA ⟨by omega, ho, by omega⟩
    have hLb : L ≤ 1000000 := by omega
    clear e e2 hL hcp ho
    go_wp2_with fail
    go_quiet (fail)
    go_wp2_with fail
    have HBQ : Hid (aC (fun j => j = g) w (wr.drewN nq)) := aA ((aC.of_below _ HB.out).trans (aC.of_below _ (eC wr nq)) (fun _ _ h => h))
    have HKQ := aA (HK.out.below (eC wr nq))
    clear x0 x1 x2 x3 x4 x5 x6 x7 y0 y1 y2 y3 y4 y5 y6 y7 heq hsl hw1 hw2
    generalize wr.drewN nq = wq at *
    go_loopw [3, 5] (fun x y wr => ∃ (kk m : Nat) (ys : Nat → KeyT), x = .int .i64 (kk : Int) ∧ y = .int .i64 ((m + 1 : Nat) : Int) ∧ m + 1 ≤ L ∧ k + 1 ≤ kk ∧ kk ≤ k + 1 + m ∧ Hid (Dd xs ys (k + 1 + m + 1) kk) ∧ Hid (∀ i, k + 1 + m ≤ i → ys i = xs i) ∧ Hid (jE wr g n ys) ∧ Hid (aC (fun j => j = g) w wr)) (fun _ y _ => ctK L y)
    case atStart => exact ⟨k + 1, 0, xs, by first | rfl | go_num, by first | rfl | go_num, HLL.out.2.2, Nat.le_refl _, Nat.le_refl _, aA (HD.out.same HE.out), aA (fun i _ => rfl), HKQ, HBQ⟩
    case round =>
     clear HK HB HKQ HBQ
     obtain ⟨kk, m, ys, rfl, rfl, hm, hk1, hk2, HDD, HY, HK, HB⟩ := hrel
     by_cases hlt2 : m + 1 < L
     case neg =>
      have hz3 : ¬ ((m + 1 : Nat) : Int) < (L : Int) := by omega
      have hll := HLL.out
      have hcc := HC.out
      have hsl := fun W => run_fromB eU W g n cap kk (by omega) (by omega)
      have hst := fun W => gD eU W (some ⟨g, 0, none⟩) n cap kk (by omega)
      obtain ⟨cur, hbx, hcur⟩ := HK.out.bx
      obtain ⟨zs, _, hcl⟩ := run_clearR eU zeroKey15 wr g (kk * 8) (n - kk) (cap - kk) cur hbx (by omega) (by omega)
      have HK9 := aA (HK.out.less (m := kk) (o := kk * 8) (by omega) (Nat.le_refl _) zs)
      have HB9 := aA (HB.out.setCells zs (kk * 8) (a := w) (w := wr) (g := g) (.inl rfl))
      have HMN : Hid (k + 1 + m + 1 = n ∧ kk ≤ n ∧ kk ≤ cap) := aA (by omega)
      obtain ⟨c1, hc1⟩ : ∃ c1, c1 = n - kk := ⟨_, rfl⟩
      obtain ⟨c2, hc2⟩ : ∃ c2, c2 = cap - kk := ⟨_, rfl⟩
      obtain ⟨o2, ho2⟩ : ∃ o2, o2 = kk * 8 := ⟨_, rfl⟩
      rw [← hc1, ← hc2, ← ho2] at hcl hsl
      rw [← ho2] at HK9 HB9
      clear hll hcc hbx hcur hc1 hc2 ho2
      go_wp2_with fail
      go_ret
      have hd := HDD.out
      rw [HMN.out.1] at hd
      have hlen : ((List.range kk).map ys).length = kk := by simp
      refine ⟨(List.range kk).map ys, by rw [hlen]; rfl, hd.list, ?_, HB9.out⟩
      rw [hlen]
      exact HK9.out.src HMN.out.2.2 HM.out
     case pos =>
      have hz3 : ((m + 1 : Nat) : Int) < (L : Int) := by omega
      have hll := HLL.out
      have hi1 : k + 1 + m < n := by omega
      have hi2 : k + 1 + (m + 1) < n := by omega
      have hw1 : IntKind.i64.wrap (((m + 1 : Nat) : Int) - 1) = ((m : Nat) : Int) := by rw [IntKind.wrap_i64]; omega
      have hw2 : IntKind.i64.wrap (m : Int) = ((m : Nat) : Int) := by rw [IntKind.wrap_i64]; omega
      have C1 := HK.out.cells hi1
      have C2 := HK.out.cells hi2
      rw [show (k + 1 + m) * 8 = o + m * 8 from by omega, HY.out _ (Nat.le_refl _)] at C1
      rw [show (k + 1 + (m + 1)) * 8 = o + (m + 1) * 8 from by omega, HY.out _ (by omega)] at C2
      obtain ⟨x0, x1, x2, x3, x4, x5, x6, x7⟩ := C1
      obtain ⟨y0, y1, y2, y3, y4, y5, y6, y7⟩ := C2
      obtain ⟨A, hA⟩ : ∃ A, A = xs (k + 1 + m) := ⟨_, rfl⟩
      obtain ⟨B, hB⟩ : ∃ B, B = xs (k + 1 + (m + 1)) := ⟨_, rfl⟩
      rw [← hA] at x0 x1 x2 x3 x4 x5 x6 x7
      rw [← hB] at y0 y1 y2 y3 y4 y5 y6 y7
      have HAB : Hid (A = xs (k + 1 + m) ∧ B = xs (k + 1 + (m + 1)) ∧ k + 1 + (m + 1) < n) := aA ⟨hA, hB, hi2⟩
      have heq := fun W => neq_ky15 B.2 A.2 W
      clear hA hB hll hi1 hi2
      by_cases e : B = A
      ·have e2 : (!decide (B.1 = A.1)) = false := by simp [e]
       rw [e2] at heq
       have HE := aA e
       clear e e2
       go_wp2_with fail
       go_quiet (fail)
       go_wp2_with fail
       have hd2 : Dd xs ys (k + 1 + (m + 1) + 1) kk := HDD.out.same (by have := HE.out; rw [HAB.out.1, HAB.out.2.1] at this; exact this)
       refine ⟨⟨kk, m + 1, ys, by first | rfl | go_num, by first | rfl | go_num, by omega, hk1, by omega, aA hd2, aA (fun i hi => HY.out i (by omega)), aA (HK.out.below (eC wr nq)), aA (HB.out.trans (aC.of_below _ (eC wr nq)) (fun _ _ h => h))⟩, ?_⟩
       rw [show (m : Int) + 1 + 1 = ((m + 1 + 1 : Nat) : Int) from by omega, cB, cB]
       omega
      ·have e2 : (!decide (B.1 = A.1)) = true := by
        rw [decide_eq_false (fun h => e (Subtype.ext h))]; rfl
       rw [e2] at heq
       have HE := aA e
       clear e e2
       go_wp2_with fail
       go_quiet (fail)
       have HKQ := aA (HK.out.below (eC wr nq))
       have HBQ : Hid (aC (fun j => j = g) w (wr.drewN nq)) := aA (HB.out.trans (aC.of_below _ (eC wr nq)) (fun _ _ h => h))
       have HTH := aA (HKQ.out.there (i := kk) (by have := HAB.out; omega))
       have HKK : Hid (kk < n) := aA (by have := HAB.out; omega)
       go_wp2_with ((with_reducible show wpList _ _ _ (⟨none, .store _ _ _, _, _, _, _⟩ :: _) _ _); refine wp_store_key rfl _ _ rfl g (kk * 8) B rfl rfl ?_ ?_)
       ·exact HTH.out
       intro w9 hw9
       replace hw9 := hw9.out
       have HD2 : Hid (Dd xs (fun j => if j = kk then B else ys j) (k + 1 + (m + 1) + 1) (kk + 1)) := aA (by
        have := HDD.out.more HS.out HAB.out.2.2 (by have := HE.out; rw [HAB.out.1, HAB.out.2.1] at this; exact this)
        rw [HAB.out.2.1]
        exact this)
       have HK2 := aA (HKQ.out.set HKK.out B)
       rw [← hw9] at HK2
       have HB2 := aA (aC.setCells (g := g) (kyCs B) (kk * 8) w _ HBQ.out (.inl rfl))
       rw [← hw9] at HB2
       have HY2 : Hid (∀ i, k + 1 + (m + 1) ≤ i → (fun j => if j = kk then B else ys j) i = xs i) := aA (fun i hi => by
        show (if i = kk then _ else ys i) = xs i
        rw [if_neg (by omega)]
        exact HY.out i (by omega))
       clear hw9 x0 x1 x2 x3 x4 x5 x6 x7 y0 y1 y2 y3 y4 y5 y6 y7 heq
       go_wp2_with fail
       go_roundw
       case rel => exact ⟨kk + 1, by omega, m + 1, by omega, by omega, by omega, by omega, fun j => if j = kk then B else ys j, HD2, HY2, HK2⟩
       case measure =>
        rw [show (m : Int) + 1 + 1 = ((m + 1 + 1 : Nat) : Int) from by omega, cB, show (m : Int) + 1 = ((m + 1 : Nat) : Int) from by omega, cB]
        omega
   ·have e2 : decide ((xs (k + 1)).1 = (xs k).1) = false := decide_eq_false (fun h => e (Subtype.ext h))
    rw [e2] at heq
    have HE := aA e
    clear e e2
    go_wp2_with fail
    go_quiet (fail)
    go_wp2_with fail
    have hD2 : Dd xs xs (k + 1 + 1) (k + 1 + 1) := by
     have := HD.out.more HS.out hlt HE.out
     have e : (fun j => if j = k + 1 then xs (k + 1) else xs j) = xs := by
      funext j
      by_cases e : j = k + 1
      ·rw [if_pos e, e]
      ·rw [if_neg e]
     rw [e] at this
     exact this
    refine ⟨⟨k + 1, by first | rfl | go_num, by omega, aA hD2, aA (HB.out.trans ((eC wr nq).mono HB.out.size))⟩, ?_⟩
    rw [show (k : Int) + 1 + 1 = ((k + 1 + 1 : Nat) : Int) from by omega, cB, cB]
    omega
end
section
open Go.RowKit Go.Maps Go.Shelf Go.Sort Classical
theorem recGt15 : Rec 43 73 12 gtE := ⟨Tryz.underlying43, jC (z := .agg zG) (K := 12) (B := 24) (by kernel_rfl) rfl (by decide), by decide, fun _ => rfl⟩
theorem gt_one15 (g : cD KeyT) : ∀ u ∈ gtE g, u.oneCell' = true := fun u hu => by
 simp only [gtE, List.mem_cons, List.not_mem_nil, or_false] at hu
 rcases hu with rfl | rfl | rfl | rfl | rfl | rfl | rfl | rfl | rfl | rfl | rfl | rfl <;> rfl
def Wts {K : Type} (l : List (aS K)) (k : K) (q : List TxN) : Prop := ∀ t ∈ q, ∃ x ∈ l, x.tx = t ∧ x.w k ≠ 0
theorem wts_que {K : Type} (l : List (aS K)) (k : K) : Wts l k (cS l k) := fun t ht => by
 obtain ⟨u, hu, hw, e⟩ := fC.1 ht
 exact ⟨u, hu, e, hw⟩
section
variable {K : Type} [DecidableEq K]
theorem onQS_app (k : K) : ∀ (a : List TxN) (l : List (aS K)) (t : TxN), j9 k l (a ++ [t]) = cJ (j9 k l a) t k
 | [], _, _ => rfl
 | x :: a, l, t => onQS_app k a (cJ l x k) t
theorem onQG_app (k : K) : ∀ (a : List TxN) (l : List (aS K)) (t : TxN), onQG k l (a ++ [t]) = onQG k l a ++ fN (j9 k l a) t k
 | [], l, t => by show fN l t k ++ [] = [] ++ fN l t k; simp
 | x :: a, l, t => by
  show fN l x k ++ onQG k (cJ l x k) (a ++ [t]) = (fN l x k ++ onQG k (cJ l x k) a) ++ _
  rw [onQG_app k a (cJ l x k) t, List.append_assoc]
  rfl
theorem onAS_app : ∀ (a : List K) (l : List (aS K)) (k : K), gA l (a ++ [k]) = onS1 (gA l a) k
 | [], _, _ => rfl
 | x :: a, l, k => onAS_app a (onS1 l x) k
theorem onAG_app : ∀ (a : List K) (l : List (aS K)) (k : K), fX l (a ++ [k]) = fX l a ++ onG1 (gA l a) k
 | [], l, k => by show onG1 l k ++ [] = [] ++ onG1 l k; simp
 | x :: a, l, k => by
  show onG1 l x ++ fX (onS1 l x) (a ++ [k]) = (onG1 l x ++ fX (onS1 l x) a) ++ _
  rw [onAG_app a (onS1 l x) k, List.append_assoc]
  rfl
theorem step_names (l : List (aS K)) (t : TxN) (k : K) : (cJ l t k).map (·.tx) = l.map (·.tx) := by
 unfold cJ
 split
 ·rfl
 ·unfold bG
  rw [List.map_map]
  refine List.map_congr_left (fun u _ => ?_)
  show (if u.tx = t then iL k u else u).tx = u.tx
  split <;> rfl
theorem onQ_names (k : K) : ∀ (q : List TxN) (l : List (aS K)), (j9 k l q).map (·.tx) = l.map (·.tx)
 | [], _ => rfl
 | t :: q, l => (onQ_names k q (cJ l t k)).trans (step_names l t k)
theorem gO : ∀ (ks : List K) (l : List (aS K)), (gA l ks).map (·.tx) = l.map (·.tx)
 | [], _ => rfl
 | k :: ks, l => (gO ks (onS1 l k)).trans (onQ_names k _ l)
theorem wts_step {l : List (aS K)} (h : dD l) {k : K} {t : TxN} {q : List TxN} (hw : Wts l k (t :: q)) (hn : (t :: q).Nodup) : Wts (cJ l t k) k q := fun s hs => by
 obtain ⟨x, hx, e, _⟩ := hw t List.mem_cons_self
 obtain ⟨u, hu, e2, h2⟩ := hw s (List.mem_cons_of_mem _ hs)
 subst e
 exact ⟨u, step_get h hx k hu (fun e3 => (List.nodup_cons.1 hn).1 (by rw [← e3, e2]; exact hs)), e2, h2⟩
theorem step_no {l : List (aS K)} (h : dD l) {x : aS K} (hx : x ∈ l) {t : TxN} (e : x.tx = t) {k : K} (hf : NF l x k) : cJ l t k = l ∧ fN l t k = [] := by
 subst e
 unfold cJ fN
 rw [bH h hx, if_pos hf, if_pos hf]
 exact ⟨rfl, rfl⟩
theorem step_yes {l : List (aS K)} (h : dD l) {x : aS K} (hx : x ∈ l) {t : TxN} (e : x.tx = t) {k : K} (hf : ¬ NF l x k) : cJ l t k = bG l t (iL k) ∧ fN l t k = [⟨t, k, max (x.h k) (x.w k)⟩] := by
 subst e
 unfold cJ fN
 rw [bH h hx, if_neg hf, if_neg hf]
 exact ⟨rfl, rfl⟩
end
theorem sortK15 {base : Nat} {v : Value} {ts : List KeyT} {w : World} (h : w.ownsRow base 38 8 v ts.length (gI ts)) (hl : ts.length ≤ 1000000) :
  Calls Tryz.prog 72 #[v, .func (.func 73) #[] #[]] w fun e w' => e = .returned (.tuple #[]) ∧ w'.ownsRow base 38 8 v (dU ts).length (gI (dU ts)) ∧ aC (fun j => v.ownBlock = some j) w w' := by
 haveI : Inhabited KeyT := ⟨⟨[0, 0, 0, 0, 0, 0, 0, 0], rfl, fun c hc => by simp at hc; subst hc; decide⟩⟩
 obtain ⟨hr, ⟨rfl, hz⟩ | ⟨g, cap, cur, rfl, hbase, hgb, r1, r2, r3, r4⟩⟩ := id h
 ·have : ts = [] := List.eq_nil_of_length_eq_zero hz
  subst this
  refine (sortF_noneK none 0 _ w).mono ?_
  rintro e w' ⟨rfl, rfl⟩
  exact ⟨rfl, by rw [sortK_nil]; exact h, aC.refl _ _⟩
 ·refine (sortF_anyK g cap cur ts w hgb r1 r2 r3 r4 base hbase hl).mono ?_
  rintro e w' ⟨rfl, ho, hg⟩
  exact ⟨rfl, by rw [kS]; exact ho, ⟨hg.os, hg.tape, hg.output, hg.size, fun k hk hS => hg.block k hk (fun e => hS e.symm)⟩⟩
theorem sortK_le (ss : List KeyT) : (dU ss).Pairwise (fun a b => cQ a b ≤ 0) := by
 have := List.pairwise_mergeSort (le := fun x y : KeyT => !(ltOf cQ) y x) (fun a b c h1 h2 => ?_) (fun a b => ?_) ss
 ·exact this.imp (fun {a b} h => by
   simp only [ltOf, Bool.not_eq_true', decide_eq_false_iff_not] at h
   have := fD a b
   omega)
 ·simp only [Bool.not_eq_true'] at h1 h2 ⊢
  exact kysSWO.ntrans _ _ _ h2 h1
 ·simp only [ltOf, Bool.or_eq_true, Bool.not_eq_true', decide_eq_false_iff_not]
  have := fD a b
  omega
theorem comp15 {base : Nat} {v : Value} {ts : List KeyT} {w : World} (h : w.ownsRow base 38 8 v (dU ts).length (gI (dU ts))) (hl : ts.length ≤ 1000000) :
  Calls Tryz.prog 74 #[v] w fun e w' => ∃ v' D, e = .returned v' ∧ KsOk cQ D (fun k => k ∈ ts) ∧ bI kyCs w' v' D ∧ (∀ g, v'.ownBlock = some g → v.ownBlock = some g) ∧ D.length ≤ ts.length ∧ aC (fun j => v.ownBlock = some j) w w' := by
 have hmem : ∀ k, k ∈ dU ts ↔ k ∈ ts := fun k => (List.mergeSort_perm ts _).mem_iff
 have hlen := kS ts
 obtain ⟨ao, cap, rfl, hcap⟩ := aQ h
 by_cases hn : (dU ts).length < 2
 ·refine (compact_few ao (dU ts).length cap hn w).mono ?_
  rintro e w' ⟨rfl, rfl⟩
  refine ⟨_, dU ts, rfl, ⟨?_, hmem⟩, bI.of_own h, fun g hg => hg, by omega, aC.refl _ _⟩
  match hs : dU ts with
  | [] => exact List.Pairwise.nil
  | [a] => exact List.pairwise_singleton _ _
  | a :: b :: r => rw [hs] at hn; simp at hn; omega
 ·obtain ⟨hr, ⟨e0, hz⟩ | ⟨g, cap', cur, e1, hbase, hgb, r1, r2, r3, r4⟩⟩ := id h
  ·omega
  ·cases e1
   obtain ⟨d, hd⟩ : ∃ d, d ∈ dU ts := List.exists_mem_of_length_pos (by omega)
   have hk := jE.of_own h d
   have hget : ∀ i, i < (dU ts).length → ∃ hi : i < (dU ts).length, (dU ts).getD i d = (dU ts)[i] := fun i hi => ⟨hi, by rw [List.getD_eq_getElem?_getD, List.getElem?_eq_getElem hi]; rfl⟩
   refine (compact_any g (dU ts).length cap (fun i => (dU ts).getD i d) w hk (by omega) (fun i j hij hj => ?_) hcap r2 (by omega)).mono ?_
   ·obtain ⟨h1, e1⟩ := hget i (by omega)
    obtain ⟨h2, e2⟩ := hget j hj
    show cQ ((dU ts).getD i d) ((dU ts).getD j d) ≤ 0
    rw [e1, e2]
    by_cases e : i = j
    ·subst e
     rw [kysF_self]
     exact Int.le_refl _
    ·exact List.pairwise_iff_getElem.1 (sortK_le ts) i j h1 h2 (by omega)
   ·rintro e w' ⟨D, rfl, hD, hsrc, hkeep⟩
    have hmD : ∀ x, x ∈ D ↔ x ∈ ts := fun x => by
     rw [hD.mem x, ← hmem x]
     constructor
     ·rintro ⟨i, hi, e⟩
      obtain ⟨h1, e1⟩ := hget i hi
      have e2 : (dU ts)[i] = x := by rw [← e1]; exact e
      rw [← e2]
      exact List.getElem_mem h1
     ·intro hx
      obtain ⟨i, hi, e⟩ := List.mem_iff_getElem.1 hx
      obtain ⟨h1, e1⟩ := hget i hi
      exact ⟨i, hi, by show (dU ts).getD i d = x; rw [e1]; exact e⟩
    refine ⟨_, D, rfl, ⟨hD.rise, hmD⟩, hsrc, fun g' hg' => hg', ?_, hkeep.mono (fun j e => by rw [e]; rfl)⟩
    exact nodup_le _ _ hD.rise.nodup (fun x hx => (hmD x).1 hx)
end
end Go.Proofs.YtiloagmkkhlfjaaGreat
