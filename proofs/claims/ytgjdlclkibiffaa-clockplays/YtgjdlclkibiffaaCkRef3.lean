/-
  The reference's clock: Tick. Own work.
-/
import Derived.Test.YtgjdlclkibiffaaCkRef2
namespace Go.Proofs.Ytgjdlclkibiffaa
open Go.RowKit

/-- Behind k names that rang. -/
structure TkS (w wr : World) (p : Nat) (vb : Value) (c : Ck) (k : Nat) (vbk out : Value) : Prop where
  box : Box wr p #[.int .u32 ((c.now : Int) + 1), vbk] 28
  src : RSrc tmE wr vbk (c.l.drop k)
  ob : vbk.ownBlock = vb.ownBlock
  out : wr.ownsRow w.heap.size 34 4 out ((c.l.take k).map Prod.fst).length (flat nmE ((c.l.take k).map Prod.fst))
  keep : KeepBut (fun j => j = p) w wr
  ring : ∀ j (hj : j < c.l.length), j < k → ringB c c.l[j] = true
theorem take_all {l : List TmP} {f : TmP → Bool} : ∀ {k : Nat}, (∀ j (hj : j < l.length), j < k → f l[j] = true) → (∀ h : k < l.length, f l[k] = false) → k ≤ l.length → l.takeWhile f = l.take k ∧ l.dropWhile f = l.drop k := by
  induction l with
  | nil => intro k _ _ hk; have : k = 0 := by simpa using hk
           subst this; exact ⟨rfl, rfl⟩
  | cons t l ih =>
    intro k h1 h2 hk
    cases k with
    | zero =>
      have h := h2 (by simp)
      simp only [List.getElem_cons_zero] at h
      rw [List.takeWhile_cons, List.dropWhile_cons, h]
      exact ⟨rfl, rfl⟩
    | succ k =>
      have h0 := h1 0 (by simp) (by omega)
      simp only [List.getElem_cons_zero] at h0
      obtain ⟨e1, e2⟩ := ih (k := k) (fun j hj hjk => by have := h1 (j + 1) (by simpa using hj) (by omega); simp only [List.getElem_cons_succ] at this; exact this) (fun h => by have := h2 (by simpa using h); simp only [List.getElem_cons_succ] at this; exact this) (by simpa using hk)
      rw [List.takeWhile_cons, List.dropWhile_cons, h0]
      simp [e1, e2]
theorem TkS.done {w wr : World} {p : Nat} {vb vbk out : Value} {c : Ck} {k : Nat} (h : TkS w wr p vb c k vbk out) (hr : RCk w p vb c) (hnow : c.now < 2147483647) (hk : k ≤ c.l.length) (hend : ∀ h : k < c.l.length, ringB c c.l[k] = false) : RKid w wr p vb (tickD c) ∧ wr.ownsRow w.heap.size 34 4 out (tickL c).length (flat nmE (tickL c)) := by
  obtain ⟨e1, e2⟩ := take_all h.ring hend hk
  have hD : tickD c = ⟨c.now + 1, c.l.drop k⟩ := by unfold tickD; rw [if_neg (by omega), e2]
  have hL : tickL c = (c.l.take k).map Prod.fst := by unfold tickL; rw [if_neg (by omega), e1]
  have hok := tickD_ok hr.ok
  rw [hD] at hok ⊢
  rw [hL]
  refine ⟨⟨vbk, ⟨?_, h.src, hok, fun g e => ?_⟩, h.keep, .inl h.ob⟩, h.out⟩
  · have := h.box
    unfold rkc
    rw [show (((⟨c.now + 1, c.l.drop k⟩ : Ck).now : Nat) : Int) = (c.now : Int) + 1 by simp]
    exact this
  · rw [h.ob] at e
    exact ⟨Nat.lt_of_lt_of_le (hr.far g e).1 h.keep.size, (hr.far g e).2⟩
theorem TkS.below {w wr w' : World} {p : Nat} {vb vbk out : Value} {c : Ck} {k : Nat} (h : TkS w wr p vb c k vbk out) (hB : Below wr.heap.size wr w') : TkS w w' p vb c k vbk out :=
  ⟨h.box.belowI hB, h.src.below hB, h.ob, owns_keep h.out (KeepBut.of_below (fun _ => False) hB) (fun _ _ h => h), h.keep.trans (KeepBut.of_below (fun j => j = p) hB) (fun _ _ h => h), h.ring⟩
/-- One more rings. -/
theorem TkS.step {w wr w4 : World} {p : Nat} {vb out out' : Value} {c : Ck} {k ll cp : Nat} {ao : Option Addr} (h : TkS w wr p vb c k (.slice ao ll cp) out) (hk : k < c.l.length) (hring : ringB c c.l[k] = true) (hkeep : KeepBut (fun j => w.heap.size ≤ j) wr w4) (hr : RCk w p vb c)
    (ho : w4.ownsRow w.heap.size 34 4 out' ((c.l.take k).map Prod.fst ++ [c.l[k].1]).length (flat nmE ((c.l.take k).map Prod.fst ++ [c.l[k].1]))) (hll : ll = (c.l.drop k).length) :
    TkS w (w4.setCell ⟨p, 1, none⟩ (.slice (if cp = 1 then ao else ao.map (·.add (1 * 5))) (ll - 1) (cp - 1))) p vb c (k + 1) (.slice (if cp = 1 then ao else ao.map (·.add (1 * 5))) (ll - 1) (cp - 1)) out' := by
  have hpw := hr.box.lt
  have hks : ∀ v, KeepBut (fun j => j = p) w4 (w4.setCell ⟨p, 1, none⟩ v) := fun v => (KeepBut.refl (fun j => j = p) w4).setCell (p := ⟨p, 1, none⟩) (.inl rfl) _
  have hob : (Value.slice (if cp = 1 then ao else ao.map (·.add (1 * 5))) (ll - 1) (cp - 1)).ownBlock = vb.ownBlock := by rw [own_dropR]; exact h.ob
  have hs := h.src
  rw [hll] at hs
  have hs1 := src_dropR hs recTM.len (i := 1) (by simp; omega)
  rw [List.drop_drop, ← hll] at hs1
  have htk : (c.l.take (k + 1)).map Prod.fst = (c.l.take k).map Prod.fst ++ [c.l[k].1] := by rw [List.take_succ_eq_append_getElem hk, List.map_append]; rfl
  refine ⟨?_, ?_, hob, ?_, (h.keep.trans (hkeep.mono (S' := fun j => j = p ∨ w.heap.size ≤ j) (fun j e => .inr e)) (fun j hj e => e.elim id (fun e => by omega))).trans (hks _) (fun _ _ h => h), fun j hj hjk => ?_⟩
  · exact (h.box.keep hkeep (by omega)).set (i := 1)
  · refine (hs1.keep hkeep (fun g e e2 => ?_)).keep (hks _) (fun g e e2 => ?_)
    · rw [hob] at e; have := (hr.far g e).1; omega
    · rw [hob] at e; exact (hr.far g e).2 e2
  · rw [htk]
    exact owns_keep ho (hks _) (fun g e e2 => by have := (ho.lt g e).1; omega)
  · by_cases e : j = k
    · subst e; exact hring
    · exact h.ring j hj (by omega)
set_option maxRecDepth 100000 in
set_option maxHeartbeats 3200000 in
theorem rtick_any (p : Nat) (vb : Value) (c : Ck) (w : World) (h : RCk w p vb c) :
    Calls Try.prog 12 #[.pointer (some ⟨p, 0, none⟩)] w fun e w' => ∃ v, e = .returned (.tuple #[v, .int .i64 (tickA c)]) ∧ RKid w w' p vb (tickD c) ∧ w'.ownsRow w.heap.size 34 4 v (tickL c).length (flat nmE (tickL c)) := by
  have m0 := h.at.1
  have hnm := h.ok.now
  by_cases hnow : c.now < 2147483647
  · have HA : Hid (tickA c = 0) := hide (by unfold tickA; rw [if_neg (by omega)])
    rw [HA.out]
    have d1 : decide ((c.now : Int) ≥ 2147483647) = false := decide_eq_false (by omega)
    have d1' : ¬ 2147483647 ≤ (c.now : Int) := by omega
    have hwr : IntKind.u32.wrap ((c.now : Int) + 1) = (c.now : Int) + 1 := by rw [IntKind.wrap_u32]; omega
    have z0 := h.box.frozen 0
    have hks : KeepBut (fun j => j = p) w (w.setCell ⟨p, 0, none⟩ (.int .u32 ((c.now : Int) + 1))) := (KeepBut.refl (fun j => j = p) w).setCell (p := ⟨p, 0, none⟩) (.inl rfl) _
    have HT0 : Hid (TkS w (w.setCell ⟨p, 0, none⟩ (.int .u32 ((c.now : Int) + 1))) p vb c 0 vb (.slice none 0 0)) := hide ⟨h.box.set (i := 0) (v := .int .u32 ((c.now : Int) + 1)), h.src.keep hks (fun g e => (h.far g e).2), rfl, World.ownsRow_nil _ _ _ _, hks, fun j _ hj => by omega⟩
    have HR := hide h
    obtain ⟨LN, hLN⟩ : ∃ LN, LN = c.l.length := ⟨_, rfl⟩
    have HLN := hide hLN
    have hLb : LN ≤ 1024 := by rw [hLN]; exact h.ok.few
    clear h hks hLN
    go_enter Try.func12, Try.ntmps12
    go_wp2_with fail
    go_loopg [4] LN (fun g x wr => ∃ (k : Nat) (ax : Option Addr) (cx : Nat) (vbk : Value), k + g = LN ∧ x = .slice ax k cx ∧ Hid (TkS w wr p vb c k vbk (.slice ax k cx)))
    case atStart => exact ⟨0, none, 0, vb, by omega, rfl, HT0⟩
    case round =>
      obtain ⟨k, ax, cx, vbk, hk, rfl, HT⟩ := hrel
      clear HT0 d1 d1'
      have hkl : k ≤ c.l.length := by rw [← HLN.out]; omega
      have hsrc := HT.out.src
      have n0 := HT.out.box.cell 0 _ rfl
      have n1 := HT.out.box.cell 1 _ rfl
      cases gk with
      | zero =>
        have hdr : c.l.drop k = [] := List.drop_eq_nil_of_le (by rw [← HLN.out]; omega)
        rw [hdr] at hsrc
        obtain ⟨a2, c2, hv2, _⟩ := hsrc.shape
        subst hv2
        have HF := hide (HT.out.done HR.out hnow hkl (fun h => by have := HLN.out; omega))
        clear hdr hsrc
        go_wp2_with fail
        go_quiet (fail)
        go_wp2_with fail
        go_ret2
        obtain ⟨hf1, hf2⟩ := HF.out
        exact ⟨_, rfl, hf1.after (below_drewN9 _ _), owns_keep hf2 (KeepBut.of_below (fun _ => False) (below_drewN9 wr _)) (fun _ _ h => h)⟩
      | succ g =>
        have hkn : k < c.l.length := by rw [← HLN.out]; omega
        have hdr : c.l.drop k = c.l[k] :: c.l.drop (k + 1) := List.drop_eq_getElem_cons hkn
        obtain ⟨a2, c2, hv2, hcap2, hcm2⟩ := hsrc.shape
        subst hv2
        obtain ⟨ll, hll⟩ : ∃ ll, ll = (c.l.drop k).length := ⟨_, rfl⟩
        have hl0 : 0 < ll := by rw [hll, List.length_drop]; omega
        have hl1 : ll ≤ 1025 := by rw [hll, List.length_drop]; have := HLN.out; omega
        rw [hdr] at hsrc
        obtain ⟨_, b, off, hao, hb, hc⟩ := hsrc.at recTM.len (i := 0) (Nat.succ_pos _)
        cases hao
        have r0 := hc 0 _ rfl
        have r1 := hc 1 _ rfl
        have r2 := hc 2 _ rfl
        have r3 := hc 3 _ rfl
        have r4 := hc 4 _ rfl
        simp only [Nat.zero_mul, Nat.add_zero, List.getElem_cons_zero] at r0 r1 r2 r3 r4
        have dl : decide (0 < ll) = true := decide_eq_true hl0
        rw [← hll] at n1 hcap2 HT
        have HLL := hide hll
        obtain ⟨t, ht⟩ : ∃ t, t = c.l[k] := ⟨_, rfl⟩
        rw [← ht] at r0 r1 r2 r3 r4
        have HTT := hide ht
        clear hc hsrc hdr hcm2 hll ht
        by_cases e : t.2 = (c.now : Int) + 1
        · have de : (t.2 == (c.now : Int) + 1) = true := by simp [e]
          have HRG : Hid (ringB c c.l[k] = true) := hide (by unfold ringB; rw [← HTT.out, e]; simp)
          clear e
          go_wp2_with fail
          go_quiet (fail)
          generalize hwq : wr.drewN nq = wq
          have hBq : Below wr.heap.size wr wq := hwq ▸ below_drewN9 wr nq
          replace HT := hide (HT.out.below hBq)
          have q0 := (hBq.cell (p := ⟨b, off, none⟩) hb).trans r0
          have q1 := (hBq.cell (p := ⟨b, off + 1, none⟩) hb).trans r1
          have q2 := (hBq.cell (p := ⟨b, off + 2, none⟩) hb).trans r2
          have q3 := (hBq.cell (p := ⟨b, off + 3, none⟩) hb).trans r3
          have p1 := HT.out.box.cell 1 _ rfl
          have HAL := hide (alloc_below9 wq (.cells (nmA t.1) 34))
          have HOW := hide (owns_keep HT.out.out (KeepBut.of_below (fun _ => False) HAL.out) (fun _ _ h => h))
          have HNL : Hid (((c.l.take k).map Prod.fst).length = k) := hide (by rw [List.length_map, List.length_take]; omega)
          have HWS : Hid (w.heap.size ≤ wq.heap.size) := hide HT.out.keep.size
          have HPL := hide HR.out.box.lt
          obtain ⟨af, haf⟩ : ∃ af, af = (if c2 = 1 then some (⟨b, off, none⟩ : Addr) else (some (⟨b, off, none⟩ : Addr)).map (·.add (1 * 5))) := ⟨_, rfl⟩
          have hfr := fun W => run_fromR recTM W (some ⟨b, off, none⟩) ll c2 1 (by omega)
          rw [← haf] at hfr
          obtain ⟨l3, hl3⟩ : ∃ l3, l3 = ll - 1 := ⟨_, rfl⟩
          obtain ⟨c3, hc3⟩ : ∃ c3, c3 = c2 - 1 := ⟨_, rfl⟩
          rw [← hl3, ← hc3] at hfr
          replace hfr : ∀ W, (Instr.sliceAt 26 (.slice (some ⟨b, off, none⟩) ll c2) (some (.int .i64 1)) none none).run Try.prog W = .ok (.slice af l3 c3) W := hfr
          have HAF := hide haf
          have HL3 := hide hl3
          have HC3 := hide hc3
          clear hwq hBq r0 r1 r2 r3 r4 n0 n1 haf hl3 hc3
          go_wp2_with (at_builtin; refine wp_recs recRN _ rfl _ _ rfl w.heap.size (.slice ax k cx) _ ((c.l.take k).map Prod.fst) [t.1] rfl HOW.out rfl (src_new (enc := nmE) wq t.1 (nmA t.1) rfl 34) (fun y hy => by simp at hy; subst hy; exact nm_one _) (by rw [HNL.out]; simp; omega) (Nat.le_trans HWS.out HAL.out.size) ?_; intro v4 w4 ho4 hg4 _; obtain ⟨a4, c4, hv4, _⟩ := owns_shapeR ho4; subst hv4; have HK4 : Hid (KeepBut (fun j => w.heap.size ≤ j) wq w4) := hide ((KeepBut.of_below (fun j => w.heap.size ≤ j) HAL.out).trans ⟨hg4.os, hg4.tape, hg4.output, hg4.size, fun j hj hS => hg4.block j hj (fun e => hS ((HOW.out.lt j e.symm).1))⟩ (fun _ _ h => h)); have HO4 := hide ho4; have s1 := (HT.out.box.keep HK4.out (by have := HPL.out; omega)).cell 1 _ rfl; have y1 := (HT.out.box.keep HK4.out (by have := HPL.out; omega)).frozen 1; clear ho4 hg4)
          go_roundg g
          case measure => omega
          case rel =>
            refine ⟨k + 1, a4, c4, .slice af l3 c3, by omega, ?_, hide ?_⟩
            · rfl
            · have ho := HO4.out
              rw [HTT.out] at ho
              have := HT.out.step hkn HRG.out HK4.out HR.out ho HLL.out
              rw [← HAF.out, ← HL3.out, ← HC3.out] at this
              rw [List.length_append, HNL.out] at this
              exact this
        · have de : (t.2 == (c.now : Int) + 1) = false := by simp [e]
          have HF := hide (HT.out.done HR.out hnow hkl (fun h => by unfold ringB; rw [← HTT.out]; simp [e]))
          clear e
          go_wp2_with fail
          go_quiet (fail)
          go_wp2_with fail
          go_ret2
          obtain ⟨hf1, hf2⟩ := HF.out
          exact ⟨_, rfl, hf1.after (below_drewN9 _ _), owns_keep hf2 (KeepBut.of_below (fun _ => False) (below_drewN9 wr _)) (fun _ _ h => h)⟩
  · have HA : Hid (tickA c = 17) := hide (by unfold tickA; rw [if_pos (by omega)])
    have HD : Hid (tickD c = c) := hide (by unfold tickD; rw [if_pos (by omega)])
    have HL : Hid (tickL c = []) := hide (by unfold tickL; rw [if_pos (by omega)])
    rw [HA.out, HD.out, HL.out]
    have d1 : decide ((c.now : Int) ≥ 2147483647) = true := decide_eq_true (by omega)
    have d1' : 2147483647 ≤ (c.now : Int) := by omega
    have HR := hide h
    clear h
    go_enter Try.func12, Try.ntmps12
    go_wp2_with fail
    go_ret2
    exact ⟨_, rfl, RKid.of_below HR.out (Below.refl _ _), World.ownsRow_nil _ _ _ _⟩
end Go.Proofs.Ytgjdlclkibiffaa
