/-
  The reference's clock: its cells; place, ahead, Until, Next. Own work.
-/
import Derived.Test.YtgjdlclkibiffaaCkLaw
import Derived.Test.YtgjdlclkibiffaaIdRef2
import Derived.BigRegion
namespace Go.Proofs.Ytgjdlclkibiffaa
open Go.RowKit

def rkc (c : Ck) (vb : Value) : Array Value := #[.int .u32 (c.now : Int), vb]
/-- The reference's clock lies in a variable, its timers in a row that nobody writes into. -/
structure RCk (w : World) (p : Nat) (vb : Value) (c : Ck) : Prop where
  box : Box w p (rkc c vb) 28
  src : RSrc tmE w vb c.l
  ok : c.Ok
  far : ∀ g, vb.ownBlock = some g → g < w.heap.size ∧ g ≠ p
def usesK (p : Nat) (vb : Value) (k : Nat) : Prop := k = p ∨ vb.ownBlock = some k
theorem RCk.keep {S : Nat → Prop} {w w' : World} {p : Nat} {vb : Value} {c : Ck} (h : RCk w p vb c) (hk : KeepBut S w w') (hS : ∀ k, usesK p vb k → ¬ S k) : RCk w' p vb c :=
  ⟨h.box.keep hk (hS p (.inl rfl)), h.src.keep hk (fun g e => hS g (.inr e)), h.ok, fun g e => ⟨Nat.lt_of_lt_of_le (h.far g e).1 hk.size, (h.far g e).2⟩⟩
theorem RCk.below {w w' : World} {p : Nat} {vb : Value} {c : Ck} (h : RCk w p vb c) (hB : Below w.heap.size w w') : RCk w' p vb c := h.keep (KeepBut.of_below (fun _ => False) hB) (fun _ _ h => h)
theorem RCk.at {w : World} {p : Nat} {vb : Value} {c : Ck} (h : RCk w p vb c) : w.cell? ⟨p, 0, none⟩ = some (.int .u32 (c.now : Int)) ∧ w.cell? ⟨p, 1, none⟩ = some vb := ⟨h.box.cell 0 _ rfl, h.box.cell 1 _ rfl⟩
/-- Where a name stands. -/
def placeF : List TmP → NmP → Int
  | [], _ => -1
  | t :: l, n => if t.1 = n then 0 else if placeF l n < 0 then -1 else placeF l n + 1
theorem place_neg {l : List TmP} {n : NmP} : placeF l n < 0 ↔ ∀ t ∈ l, t.1 ≠ n := by
  induction l with
  | nil => simp [placeF]
  | cons t l ih =>
    unfold placeF
    by_cases e : t.1 = n
    · simp [e]
    · rw [if_neg e]
      split
      · rename_i h
        simp [e]
        exact fun a b c d x hx he => (ih.1 h) _ hx he
      · rename_i h
        constructor
        · intro h2; omega
        · intro h2
          exact absurd (ih.2 (fun x hx => h2 x (List.mem_cons_of_mem _ hx))) h
theorem place_none {l : List TmP} {n : NmP} (h : ∀ t ∈ l, t.1 ≠ n) : placeF l n = -1 := by
  induction l with
  | nil => rfl
  | cons t l ih =>
    unfold placeF
    rw [if_neg (h t List.mem_cons_self), ih (fun x hx => h x (List.mem_cons_of_mem _ hx))]
    rfl
theorem place_at {l : List TmP} {n : NmP} : ∀ {k : Nat} (hk : k < l.length), l[k].1 = n → (∀ j (hj : j < k), (l[j]'(Nat.lt_trans hj hk)).1 ≠ n) → placeF l n = (k : Int) := by
  induction l with
  | nil => intro k hk; simp at hk
  | cons t l ih =>
    intro k hk e hne
    unfold placeF
    cases k with
    | zero => rw [if_pos (by simpa using e)]; rfl
    | succ k =>
      have h0 := hne 0 (by omega)
      rw [if_neg (by simpa using h0)]
      have := ih (k := k) (by simpa using hk) (by simpa using e) (fun j hj => by simpa using hne (j + 1) (by omega))
      rw [this, if_neg (by omega)]
      rfl
theorem place_yes {l : List TmP} {n : NmP} : ∀ (_ : ¬ placeF l n < 0), ∃ k : Nat, placeF l n = (k : Int) ∧ ∃ hk : k < l.length, l[k].1 = n := by
  induction l with
  | nil => intro h; simp [placeF] at h
  | cons t l ih =>
    intro h
    unfold placeF at h ⊢
    by_cases e : t.1 = n
    · exact ⟨0, by rw [if_pos e]; rfl, by simp, by simpa using e⟩
    · rw [if_neg e] at h ⊢
      by_cases e2 : placeF l n < 0
      · rw [if_pos e2] at h; exact absurd (by decide) h
      · obtain ⟨k, h1, hk, h2⟩ := ih e2
        rw [if_neg e2, h1]
        exact ⟨k + 1, by omega, by simp; omega, by simpa using h2⟩
theorem place_has (c : Ck) (n : NmP) : c.has n = decide (¬ placeF c.l n < 0) := by
  cases h : c.has n
  · symm
    rw [decide_eq_false_iff_not]
    intro h2
    refine h2 (place_neg.2 fun t ht e => ?_)
    rw [(has_iff c n).2 ⟨t.2, by rw [← e]; exact ht⟩] at h
    cases h
  · symm
    rw [decide_eq_true_eq]
    intro h2
    obtain ⟨x, hx⟩ := (has_iff c n).1 h
    exact place_neg.1 h2 _ hx rfl
/-- Without the one at its place. -/
theorem stop_erase {c : Ck} (h : c.Ok) {n : NmP} {k : Nat} (hk : k < c.l.length) (e : c.l[k].1 = n) : (stopD c n).l = c.l.eraseIdx k := by
  unfold stopD
  simp only
  have hn := h.names
  clear h
  revert k hn
  induction c.l with
  | nil => intro k hk; simp at hk
  | cons t l ih =>
    intro k hk e hn
    rw [List.map_cons, List.nodup_cons] at hn
    cases k with
    | zero =>
      have e0 : t.1 = n := by simpa using e
      rw [List.filter_cons, if_neg (by simp [e0]), List.eraseIdx_cons_zero, List.filter_eq_self]
      intro x hx
      have : x.1 ≠ n := fun e2 => hn.1 (List.mem_map.2 ⟨x, hx, by rw [e2, e0]⟩)
      simpa using this
    | succ k =>
      have hk' : k < l.length := by simpa using hk
      have ek : l[k].1 = n := by simpa using e
      have : t.1 ≠ n := fun e2 => hn.1 (List.mem_map.2 ⟨l[k], List.getElem_mem _, by rw [ek, e2]⟩)
      rw [List.filter_cons, if_pos (by simpa using this), List.eraseIdx_cons_succ, ih hk' ek hn.2]
theorem stop_none {c : Ck} {n : NmP} (h : c.has n = false) : stopD c n = c := by
  unfold stopD
  obtain ⟨now, l⟩ := c
  simp only [Ck.mk.injEq, true_and]
  rw [List.filter_eq_self]
  intro t ht
  have : t.1 ≠ n := fun e => by
    rw [(has_iff ⟨now, l⟩ n).2 ⟨t.2, by rw [← e]; exact ht⟩] at h
    cases h
  simpa using this
set_option maxRecDepth 100000 in
set_option maxHeartbeats 1600000 in
theorem rplace_any (p : Nat) (vb : Value) (c : Ck) (n : NmP) (w : World) (h : RCk w p vb c) :
    Calls Try.prog 30 #[.pointer (some ⟨p, 0, none⟩), .agg (nmA n)] w fun e w' => e = .returned (.int .i64 (placeF c.l n)) ∧ Below w.heap.size w w' := by
  have hX0 := box_new w (nmA n) 34
  have hA0 := alloc_below9 w (.cells (nmA n) 34)
  obtain ⟨w1, hw1⟩ : ∃ w1, w1 = w.alloc (.cells (nmA n) 34) := ⟨_, rfl⟩
  rw [← hw1] at hX0 hA0
  have hW1 := hw1.symm
  have hR := h.below hA0
  obtain ⟨ao, cap, hvb, hcap, hcm⟩ := hR.src.shape
  subst hvb
  have m1 := hR.at.2
  have x0 := hX0.cell 0 _ rfl
  have x1 := hX0.cell 1 _ rfl
  have x2 := hX0.cell 2 _ rfl
  have x3 := hX0.cell 3 _ rfl
  have HSR := hide hR.src
  have HB := hide hA0
  obtain ⟨L, hL⟩ : ∃ L, L = c.l.length := ⟨_, rfl⟩
  have HL := hide hL
  have hL2 : L ≤ 1024 := by rw [hL]; exact h.ok.few
  rw [← hL] at m1
  clear h hR hX0 hA0 hw1 hL hcap hcm
  go_enter Try.func30, Try.ntmps30
  go_wp2
  go_loopw [5] (fun i wr => ∃ k : Nat, k ≤ L ∧ i = .int .i64 k ∧ Hid (∀ j (hj : j < c.l.length), j < k → c.l[j].1 ≠ n) ∧ ∃ nd, wr = w1.drewN nd) (fun i _ => L - (intOf i).toNat)
  case atStart => exact ⟨0, Nat.zero_le _, rfl, hide (fun j _ hj => by omega), 0, rfl⟩
  case round =>
    obtain ⟨k, hk, rfl, HNO, nd, rfl⟩ := hrel
    by_cases hlt : k < L
    · have hkn : k < c.l.length := by rw [← HL.out]; exact hlt
      obtain ⟨_, b, off, hao, _, hc⟩ := HSR.out.at recTM.len hkn
      cases hao
      have r0 := hc 0 _ rfl
      have r1 := hc 1 _ rfl
      have r2 := hc 2 _ rfl
      have r3 := hc 3 _ rfl
      rw [Nat.add_zero] at r0
      have hq := fun W => eql_rname c.l[k].1 n W
      have hltI : (k : Int) < (L : Int) := by omega
      by_cases e : c.l[k].1 = n
      · have HP := hide (place_at hkn e (fun j hj => HNO.out j (Nat.lt_trans hj hkn) hj))
        rw [decide_eq_true e] at hq
        generalize c.l[k].1 = y at *
        clear hc e
        go_wp2
        go_quiet (fail)
        go_wp2
        go_ret
        exact ⟨ret_int HP.out.symm, HB.out.trans (((below_drewN9 w1 nd).trans (below_drewN9 (w1.drewN nd) nq)).mono HB.out.size)⟩
      · have HNO2 : Hid (∀ j (hj : j < c.l.length), j < k + 1 → c.l[j].1 ≠ n) := hide (fun j hj hjk => by
          by_cases ej : j = k
          · subst ej; exact e
          · exact HNO.out j hj (by omega))
        rw [decide_eq_false e] at hq
        generalize c.l[k].1 = y at *
        clear hc e
        go_wp2
        go_quiet (fail)
        go_wp2
        go_roundw
        case rel => exact ⟨k + 1, by omega, by go_num, HNO2, nd + nq, by simp⟩
        case measure => simp [intOf]; omega
    · have HP : Hid (placeF c.l n = -1) := hide (place_none (fun t ht => by
        obtain ⟨j, hj, rfl⟩ := List.getElem_of_mem ht
        exact HNO.out j hj (by have := HL.out; omega)))
      go_wp2
      go_ret
      exact ⟨ret_int HP.out.symm, HB.out.trans ((below_drewN9 w1 _).mono HB.out.size)⟩
theorem lexF_cons (x y : Int) (a b : List Int) : lexF (x :: a) (y :: b) = orF (cmpF x y) (lexF a b) := by rfl
set_option maxRecDepth 100000 in
set_option maxHeartbeats 1600000 in
theorem rahead_any (s t : TmP) (w : World) (hs : nmOk s.1) (ht : nmOk t.1) :
    Calls Try.prog 32 #[.agg (tmA s), .agg (tmA t)] w fun e w' => e = .returned (.bool (aheadB s t)) ∧ Below w.heap.size w w' := by
  have hX1 := box_new w (tmA s) 77
  have hA1 := alloc_below9 w (.cells (tmA s) 77)
  obtain ⟨w1, hw1⟩ : ∃ w1, w1 = w.alloc (.cells (tmA s) 77) := ⟨_, rfl⟩
  rw [← hw1] at hX1 hA1
  have hX2 := box_new w1 (tmA t) 77
  have hA2 := alloc_below9 w1 (.cells (tmA t) 77)
  obtain ⟨w2, hw2⟩ : ∃ w2, w2 = w1.alloc (.cells (tmA t) 77) := ⟨_, rfl⟩
  rw [← hw2] at hX2 hA2
  have hW1 := hw1.symm
  have hW2 := hw2.symm
  have hX1' := hX1.belowI hA2
  have HB := hide (hA1.trans (hA2.mono hA1.size))
  have s0 := hX1'.cell 0 _ rfl
  have s1 := hX1'.cell 1 _ rfl
  have s2 := hX1'.cell 2 _ rfl
  have s3 := hX1'.cell 3 _ rfl
  have s4 := hX1'.cell 4 _ rfl
  have t0 := hX2.cell 0 _ rfl
  have t1 := hX2.cell 1 _ rfl
  have t2 := hX2.cell 2 _ rfl
  have t3 := hX2.cell 3 _ rfl
  have t4 := hX2.cell 4 _ rfl
  have CT := hide (rtxs_any s.1.2.1 s.1.2.2.1 s.1.2.2.2 t.1.2.1 t.1.2.2.1 t.1.2.2.2 w2 hs.2.1.1 hs.2.1.2 ht.2.1.1 ht.2.1.2)
  have HLX : Hid (lexF (tmL s) (tmL t) = orF (cmpF s.2 t.2) (orF (cmpF s.1.1 t.1.1) (txsF s.1.2 t.1.2))) := rfl
  clear hX1 hA1 hX2 hA2 hw1 hw2 hX1'
  by_cases e1 : s.2 = t.2
  · have d1 : (s.2 != t.2) = false := by simp [e1]
    have c1 : cmpF s.2 t.2 = 0 := (cmpF_zero _ _).2 e1
    by_cases e2 : s.1.1 = t.1.1
    · have d2 : (s.1.1 != t.1.1) = false := by simp [e2]
      have c2 : cmpF s.1.1 t.1.1 = 0 := (cmpF_zero _ _).2 e2
      have HR : Hid (aheadB s t = decide (txsF s.1.2 t.1.2 < 0)) := hide (by unfold aheadB; rw [HLX.out, c1, c2]; rfl)
      clear e1 e2 c1 c2
      go_enter Try.func32, Try.ntmps32
      go_wp2_with fail
      refine CT.out.mono ?_
      rintro e W3 ⟨rfl, hB3⟩
      have HB3 := hide (HB.out.trans (hB3.mono HB.out.size))
      clear hB3 CT
      go_wp2_with fail
      go_ret
      exact ⟨ret_bool HR.out.symm, HB3.out⟩
    · have d2 : (s.1.1 != t.1.1) = true := by simp [e2]
      have HR : Hid (aheadB s t = decide (s.1.1 < t.1.1)) := hide (by
        unfold aheadB
        rw [HLX.out, c1, decide_eq_decide]
        have hc := cmpF_rng s.1.1 t.1.1
        unfold orF
        rw [if_pos rfl]
        split <;> omega)
      clear e1 e2 c1
      go_enter Try.func32, Try.ntmps32
      go_wp2_with fail
      go_ret
      exact ⟨ret_bool HR.out.symm, HB.out⟩
  · have d1 : (s.2 != t.2) = true := by simp [e1]
    have HR : Hid (aheadB s t = decide (s.2 < t.2)) := hide (by
      unfold aheadB
      rw [HLX.out, decide_eq_decide]
      have hc := cmpF_rng s.2 t.2
      unfold orF
      split <;> omega)
    clear e1
    go_enter Try.func32, Try.ntmps32
    go_wp2_with fail
    go_ret
    exact ⟨ret_bool HR.out.symm, HB.out⟩
set_option maxRecDepth 100000 in
set_option maxHeartbeats 1600000 in
theorem runtil_any (p : Nat) (vb : Value) (c : Ck) (n : NmP) (w : World) (h : RCk w p vb c) :
    Calls Try.prog 21 #[.pointer (some ⟨p, 0, none⟩), .agg (nmA n)] w fun e w' => e = .returned (.tuple #[.int .u32 (c.atOf n), .bool (c.has n)]) ∧ Below w.heap.size w w' := by
  have hX0 := box_new w (nmA n) 34
  have hA0 := alloc_below9 w (.cells (nmA n) 34)
  obtain ⟨w1, hw1⟩ : ∃ w1, w1 = w.alloc (.cells (nmA n) 34) := ⟨_, rfl⟩
  rw [← hw1] at hX0 hA0
  have hW1 := hw1.symm
  have hR := h.below hA0
  have CP := hide (rplace_any p vb c n w1 hR)
  have x0 := hX0.cell 0 _ rfl
  have x1 := hX0.cell 1 _ rfl
  have x2 := hX0.cell 2 _ rfl
  have x3 := hX0.cell 3 _ rfl
  have HB := hide hA0
  have HR := hide hR
  have hhas := place_has c n
  clear h hR hX0 hA0 hw1
  by_cases hp : placeF c.l n < 0
  · have hh : c.has n = false := by rw [hhas]; simp [hp]
    have d1 : decide (placeF c.l n < 0) = true := decide_eq_true hp
    rw [atOf_none hh, hh]
    generalize placeF c.l n = pl at *
    clear hhas hh
    go_enter Try.func21, Try.ntmps21
    go_wp2_with fail
    refine CP.out.mono ?_
    rintro e W2 ⟨rfl, hB2⟩
    have HB2 := hide (HB.out.trans (hB2.mono HB.out.size))
    clear hB2 CP
    go_wp2_with fail
    go_ret2
    exact ⟨rfl, HB2.out⟩
  · obtain ⟨k, hk1, hk, hkn⟩ := place_yes hp
    have hh : c.has n = true := by rw [hhas]; simp [hp]
    have hat : c.atOf n = c.l[k].2 := atOf_mem HR.out.ok (by rw [← hkn]; exact List.getElem_mem hk)
    obtain ⟨aa, haa⟩ : ∃ aa, aa = c.l[k].2 := ⟨_, rfl⟩
    rw [hat, hh, ← haa]
    rw [hk1] at CP
    have HAA := hide haa
    clear hhas hh hp hk1 hat haa
    go_enter Try.func21, Try.ntmps21
    go_wp2_with fail
    refine CP.out.mono ?_
    rintro e W2 ⟨rfl, hB2⟩
    have HB2 := hide (HB.out.trans (hB2.mono HB.out.size))
    have hR2 := HR.out.below hB2
    obtain ⟨ao, cap, hvb, hcap, hcm⟩ := hR2.src.shape
    subst hvb
    have m1 := hR2.at.2
    have hkf := HR.out.ok.few
    obtain ⟨_, b, off, hao, _, hc⟩ := hR2.src.at recTM.len hk
    cases hao
    have r4 := hc 4 _ rfl
    have hkl : (k : Int) < (c.l.length : Int) := by omega
    rw [← HAA.out] at r4
    clear hB2 CP hc hR2 hcm
    go_wp2_with fail
    go_ret2
    exact ⟨rfl, HB2.out⟩
theorem results_three9 {P : Program} {fn : Func} {q t1 t2 : Tmp} {t t0 : TypeId} {d : TypeDesc} (h : fn.results = #[.cell q t, .tmp t1, .tmp t2]) (tmps : Array Value) (w : World) (p : Nat) (hq : tmps.getD q undef = .pointer (some ⟨p, 0, none⟩)) {v1 v2 : Value} (h1 : tmps.getD t1 undef = v1) (h2 : tmps.getD t2 undef = v2) {cs : Array Value} (hb : Box w p cs t0)
    (hu : P.underlying t = some d) (hd : d.isRow = true) (hi : (P.info? t).map (·.size) = some cs.size) : (results fn tmps).run P w = .ok (.tuple #[.agg cs, v1, v2]) w := by
  subst h1
  subst h2
  have hr : w.rangeAt p 0 cs.toList := fun j v hv => by
    rw [Nat.zero_add]; exact hb.cell j v (by simpa using hv)
  have hl := run_loadVar_mid (P := P) w p 0 t cs.toList d hr hu hd (by simpa using hi)
  have hq' : tmps[q]?.getD undef = .pointer (some ⟨p, 0, none⟩) := by rw [← Array.getD_eq_getD_getElem?]; exact hq
  simp only [results, h]
  simp [hq', asAddr, hl]
set_option maxRecDepth 100000 in
set_option maxHeartbeats 1600000 in
theorem rnext9_any (p : Nat) (vb : Value) (c : Ck) (w : World) (h : RCk w p vb c) :
    Calls Try.prog 23 #[.pointer (some ⟨p, 0, none⟩)] w fun e w' => e = .returned (.tuple #[.agg (nmA c.nextN), .int .u32 c.nextT, .bool c.any]) ∧ Below w.heap.size w w' := by
  have hX0 := box_new w (nmA nilN) 34
  have hA0 := alloc_below9 w (.cells (nmA nilN) 34)
  obtain ⟨w1, hw1⟩ : ∃ w1, w1 = w.alloc (.cells (nmA nilN) 34) := ⟨_, rfl⟩
  rw [← hw1] at hX0 hA0
  have hW1 := hw1.symm
  have hR := h.below hA0
  obtain ⟨ao, cap, hvb, hcap, hcm⟩ := hR.src.shape
  subst hvb
  have m1 := hR.at.2
  have HX := hide hX0
  have HB := hide hA0
  have hpw := h.box.lt
  have x0 := hX0.cell 0 _ rfl
  have x1 := hX0.cell 1 _ rfl
  have x2 := hX0.cell 2 _ rfl
  have x3 := hX0.cell 3 _ rfl
  have z0 := hX0.frozen 0
  have z1 := hX0.frozen 1
  have z2 := hX0.frozen 2
  have z3 := hX0.frozen 3
  unfold nilN at hW1
  cases hl : c.l with
  | nil =>
    have HN : Hid (c.nextN = nilN ∧ c.nextT = 0 ∧ c.any = false) := hide (by unfold Ck.nextN Ck.nextT Ck.any; rw [hl]; exact ⟨rfl, rfl, rfl⟩)
    rw [HN.out.1, HN.out.2.1, HN.out.2.2]
    rw [hl] at m1
    clear h hR hX0 hA0 hw1 hl hcap hcm
    go_enter Try.func23, Try.ntmps23
    go_wp2_with (first
      | (refine wp_store_box rfl rfl _ _ rfl w.heap.size rfl rfl HX.out rfl infoRN9 (nmA_one nilN) ?_; intro w4 hb4 hk4; have HX4 := hide hb4; have HK4 := hide hk4; clear hb4 hk4))
    refine bodyPost_ret (results_three9 rfl _ _ w.heap.size rfl rfl rfl HX4.out Try.underlying34 rfl infoRN9) rfl ?_
    exact ⟨rfl, HB.out.trans (HK4.out.below HB.out.size (fun k e => by omega))⟩
  | cons t rest =>
    have HN : Hid (c.nextN = t.1 ∧ c.nextT = t.2 ∧ c.any = true) := hide (by unfold Ck.nextN Ck.nextT Ck.any; rw [hl]; exact ⟨rfl, rfl, by simp⟩)
    rw [HN.out.1, HN.out.2.1, HN.out.2.2]
    have hsrc := hR.src
    rw [hl] at m1 hsrc hcap
    obtain ⟨_, b, off, hao, hb, hc⟩ := hsrc.at recTM.len (i := 0) (by simp)
    cases hao
    have r0 := hc 0 _ rfl
    have r1 := hc 1 _ rfl
    have r2 := hc 2 _ rfl
    have r3 := hc 3 _ rfl
    have r4 := hc 4 _ rfl
    simp only [Nat.zero_mul, Nat.add_zero, List.getElem_cons_zero] at r0 r1 r2 r3 r4
    have hlen : ((t :: rest).length : Int) ≠ 0 := by simp; omega
    have hll : 0 < (t :: rest).length := by simp
    have hl0 : (((t :: rest).length : Int) == 0) = false := by simp; omega
    have hbp : b ≠ w.heap.size := fun e => by
      have := (h.far b (by rw [hl]; rfl)).1
      omega
    have hpp : p ≠ w.heap.size := by omega
    generalize (t :: rest).length = ll at *
    clear h hR hX0 hA0 hw1 hl hcap hcm hc hsrc
    go_enter Try.func23, Try.ntmps23
    go_wp2_with fail
    go_region
    all_goals go_wp2_with fail
    all_goals
      have hb4 := (((HX.out.set (i := 0) (v := .int .u8 t.1.1)).set (i := 1) (v := .int .u8 t.1.2.1)).set (i := 2) (v := .int .u32 t.1.2.2.1)).set (i := 3) (v := .int .u32 t.1.2.2.2)
      have hk4 := (((((KeepBut.refl (fun k => k = w.heap.size) w1).setCell (p := ⟨w.heap.size, 0, none⟩) (.inl rfl) (.int .u8 t.1.1)).setCell (p := ⟨w.heap.size, 1, none⟩) (.inl rfl) (.int .u8 t.1.2.1)).setCell (p := ⟨w.heap.size, 2, none⟩) (.inl rfl) (.int .u32 t.1.2.2.1)).setCell (p := ⟨w.heap.size, 3, none⟩) (.inl rfl) (.int .u32 t.1.2.2.2)).drew
      refine bodyPost_ret (results_three9 rfl _ _ w.heap.size rfl rfl rfl (cs := nmA t.1) (t0 := 34) hb4 Try.underlying34 rfl infoRN9) rfl ?_
      exact ⟨rfl, HB.out.trans (hk4.below HB.out.size (fun k e => by omega))⟩
end Go.Proofs.Ytgjdlclkibiffaa
