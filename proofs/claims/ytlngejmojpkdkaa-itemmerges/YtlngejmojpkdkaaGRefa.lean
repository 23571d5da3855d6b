/-
  The reference's table of layer 13: Install. Own work.
-/
import Derived.Test.YtlngejmojpkdkaaG20
import Derived.Deep.RegionHeld
namespace Go.Proofs.Ytlngejmojpkdkaa
section
open Go.RowKit Classical

/-- At p lies the reference's table, whose row is vb. -/
structure RTb (w : World) (p : Nat) (vb : Value) (t : List WrP) : Prop where
  box : Box w p #[vb] 26
  src : RSrc wrE w vb t
  ok : TbOk t
  oks : ∀ x ∈ t, KeyOk x.key ∧ ItOk x.it
  far : ∀ g, vb.ownBlock = some g → g < w.heap.size ∧ g ≠ p
def usesT (p : Nat) (vb : Value) (k : Nat) : Prop := k = p ∨ vb.ownBlock = some k
theorem RTb.keep {S : Nat → Prop} {w w' : World} {p : Nat} {vb : Value} {t : List WrP} (h : RTb w p vb t) (hk : KeepBut S w w') (hS : ∀ k, usesT p vb k → ¬ S k) : RTb w' p vb t :=
  ⟨h.box.keep hk (hS p (.inl rfl)), h.src.keep hk (fun g e => hS g (.inr e)), h.ok, h.oks, fun g e => ⟨Nat.lt_of_lt_of_le (h.far g e).1 hk.size, (h.far g e).2⟩⟩
theorem RTb.below {w w' : World} {p : Nat} {vb : Value} {t : List WrP} (h : RTb w p vb t) (hB : Below w.heap.size w w') : RTb w' p vb t := h.keep (KeepBut.of_below (fun _ => False) hB) (fun _ _ h => h)
theorem RTb.lt {w : World} {p : Nat} {vb : Value} {t : List WrP} (h : RTb w p vb t) : ∀ k, usesT p vb k → k < w.heap.size := by
  rintro k (rfl | e)
  · exact h.box.lt
  · exact (h.far k e).1
/-- What a call leaves of it. -/
def RTid (w w' : World) (p : Nat) (vb : Value) (t' : List WrP) : Prop :=
  ∃ vb', RTb w' p vb' t' ∧ KeepBut (fun k => k = p) w w' ∧ (vb'.ownBlock = vb.ownBlock ∨ ∀ g, vb'.ownBlock = some g → w.heap.size ≤ g)
theorem RTid.of_below {w w' : World} {p : Nat} {vb : Value} {t : List WrP} (h : RTb w p vb t) (hB : Below w.heap.size w w') : RTid w w' p vb t := ⟨vb, h.below hB, KeepBut.of_below _ hB, .inl rfl⟩
theorem RTid.before {w w1 w2 : World} {p : Nat} {vb : Value} {t : List WrP} (hB : Below w.heap.size w w1) (h : RTid w1 w2 p vb t) : RTid w w2 p vb t := by
  obtain ⟨vb', h1, hk, hu⟩ := h
  exact ⟨vb', h1, (KeepBut.of_below (fun k => k = p) hB).trans hk (fun _ _ h => h), hu.imp id (fun h g e => Nat.le_trans hB.size (h g e))⟩
/-- Its row is written anew. -/
theorem RTb.put {w wf : World} {p : Nat} {vb v : Value} {t t' : List WrP} (h : RTb w p vb t) (hB : Below w.heap.size w wf) (ho : wf.ownsRow w.heap.size 38 21 v t'.length (flat wrE t')) (hok : TbOk t') (hoks : ∀ x ∈ t', KeyOk x.key ∧ ItOk x.it) : RTid w (wf.setCell ⟨p, 0, none⟩ v) p vb t' := by
  have hpw := h.box.lt
  have hf : ∀ g, v.ownBlock = some g → w.heap.size ≤ g := fun g e => (ho.lt g e).1
  have hks : KeepBut (fun k => k = p) wf (wf.setCell ⟨p, 0, none⟩ v) := (KeepBut.refl (fun k => k = p) wf).setCell (p := ⟨p, 0, none⟩) (.inl rfl) _
  refine ⟨v, ⟨?_, (RSrc.of_own ho).keep hks (fun g e e2 => by have := hf g e; omega), hok, hoks, fun g e => ⟨?_, fun e2 => by have := hf g e; omega⟩⟩, (KeepBut.of_below (fun k => k = p) hB).trans hks (fun _ _ h => h), .inr hf⟩
  · exact (h.box.belowI hB).set (i := 0) (v := v)
  · have := (ho.lt g e).2
    simpa using this
theorem wrs_one (l : List WrP) : ∀ x ∈ l, ∀ u ∈ wrE x, u.oneCell' = true := fun x _ => wr_one x
theorem wp_store_mid13 {P : Program} {ops : Array Oper} {rest : List Oper} {op : Oper} {a : Act} {w : World} {Q : Exit → Act → World → Prop} {t t0 : TypeId} (hgd : op.guard = none) (hdst : op.dst = none) (x y : Operand) (ho : op.op = .store t x y)
    (p o : Nat) (hx : a.eval x = .pointer (some ⟨p, o, none⟩)) {v : Value} {cs cs' : Array Value} (hy : a.eval y = v) (hb : Box w p cs t0) (hcs : cs' = (cs.toList.take o ++ v.cells.toList ++ cs.toList.drop (o + v.cells.toList.length)).toArray) (hsz : o + v.cells.toList.length ≤ cs.size) (hi : (P.info? t).map (·.size) = some v.cells.size) (h1 : v.cells.toList.all (·.oneCell') = true)
    (h : ∀ w', Box w' p cs' t0 → KeepBut (fun k => k = p) w w' → wpList P ops Q rest a w') : wpList P ops Q (op :: rest) a w := by
  refine wpList_plain hgd fun K hK => ?_
  have hr : (storeVar t ⟨p, o, none⟩ v).run P w = .ok () (w.setRow p cs') := by
    cases hq : P.info? t with
    | none => simp [hq] at hi
    | some i =>
      have hs : v.cells.size = i.size := by simp [hq] at hi; omega
      have h0 := run_storeCells_at (P := P) p o t0 v.cells.toList 0 cs w hb (by simpa using hsz) (List.all_eq_true.1 h1)
      simp only [Nat.add_zero] at h0
      rw [← hcs] at h0
      simp [storeVar, sizeOf, typeInfo, hq, hs, h0]
  unfold Oper.wp execOp
  simp only [ho, hx, hy, Instr.storeAt, Instr.sureAddr, Sem.run_bind, Sem.run_pure, Result.andThen_ok, hr]
  show K (a.put op.dst undef) _
  rw [hdst]
  refine hK _ _ (h _ ?_ ?_)
  · exact setRow_heap w p cs cs' t0 (0, 0) hb
  · exact ⟨rfl, rfl, rfl, by simp [World.setRow], fun k _ hS => setRow_other w p k cs' hS⟩
/-- An item in the midst of a row. -/
theorem flat_item (t : List WrP) {j : Nat} (hj : j < t.length) (i : ItP) : (flat wrE t).take (j * 21 + 8) ++ itE i ++ (flat wrE t).drop (j * 21 + 21) = flat wrE (t.set j ⟨(t[j]).key, i⟩) := by
  have ht : t = t.take j ++ t[j] :: t.drop (j + 1) := by rw [← List.drop_eq_getElem_cons hj, List.take_append_drop]
  have e1 : t.set j ⟨(t[j]).key, i⟩ = t.take j ++ ⟨(t[j]).key, i⟩ :: t.drop (j + 1) := by rw [List.set_eq_take_append_cons_drop, if_pos hj]
  rw [e1]
  have hA : (flat wrE (t.take j)).length = j * 21 := by rw [flat_len (fun x => wrE_len x), List.length_take]; congr 1; omega
  have h1 : (flat wrE t).take (j * 21 + 8) = flat wrE (t.take j) ++ eightE (t[j]).key := by
    conv => lhs; rw [ht]
    rw [flat_app, flat_cons, List.take_append, hA, List.take_of_length_le (by rw [hA]; omega), Nat.add_sub_cancel_left]
    rfl
  have h2 : (flat wrE t).drop (j * 21 + 21) = flat wrE (t.drop (j + 1)) := by
    have := flat_drop (enc := wrE) (fun x => wrE_len x) t (j + 1)
    rw [Nat.add_mul, Nat.one_mul] at this
    exact this
  rw [h1, h2, flat_app, flat_cons]
  simp only [List.append_assoc]
theorem put_set {t : List WrP} {k : List Int} {o : ItP} (hg : getT t k = some o) (i : ItP) : putT t k i = t.set (upT t k).length ⟨k, i⟩ := by
  unfold getT at hg
  unfold putT reT
  cases e : dnT t k with
  | nil => rw [e] at hg; cases hg
  | cons x l =>
    rw [e] at hg
    dsimp only at hg ⊢
    by_cases he : x.key = k
    · rw [if_pos he]
      have ht : t = upT t k ++ x :: l := by rw [← e, up_dn]
      conv => rhs; arg 1; rw [ht]
      rw [List.set_append_right _ _ (Nat.le_refl _), Nat.sub_self]
      rfl
    · rw [if_neg he] at hg
      cases hg
theorem put_none {t : List WrP} {k : List Int} (hg : getT t k = none) (i : ItP) : putT t k i = t.take (upT t k).length ++ [⟨k, i⟩] ++ t.drop (upT t k).length := by
  have h1 : t.take (upT t k).length = upT t k := by
    conv => lhs; arg 2; rw [← up_dn t k]
    exact List.take_left
  have h2 : t.drop (upT t k).length = dnT t k := by
    conv => lhs; arg 2; rw [← up_dn t k]
    exact List.drop_left
  rw [h1, h2]
  unfold putT reT
  unfold getT at hg
  cases e : dnT t k with
  | nil => simp
  | cons x l =>
    rw [e] at hg
    dsimp only at hg ⊢
    by_cases he : x.key = k
    · rw [if_pos he] at hg; cases hg
    · rw [if_neg he]; simp
theorem put_oks {t : List WrP} (h : TbOk t) (hs : ∀ x ∈ t, KeyOk x.key ∧ ItOk x.it) {k : List Int} (hk : KeyOk k) {i : ItP} (hi : ItOk i) : ∀ x ∈ putT t k i, KeyOk x.key ∧ ItOk x.it := fun x hx => by
  rcases (put_mem h hk.l i x).1 hx with rfl | ⟨_, hx⟩
  · exact ⟨hk, hi⟩
  · exact hs x hx
end
section
open Go.RowKit Classical

theorem build_wr5 (k : List Int) (i : ItP) (w : World) : (Instr.build 38 #[(0, .agg (eightA k)), (1, .agg (itA i))]).run Try.prog w = .ok (.agg (wrA ⟨k, i⟩)) w := by kernel_rfl
theorem wrA_ex5 (x : WrP) : wrA x = #[.int .u8 (at8 x.key 0), .int .u8 (at8 x.key 1), .int .u8 (at8 x.key 2), .int .u8 (at8 x.key 3), .int .u8 (at8 x.key 4), .int .u8 (at8 x.key 5), .int .u8 (at8 x.key 6), .int .u8 (at8 x.key 7), .int .u32 (x.it.ver : Int), .string (strOfNums x.it.val), .int .u32 (x.it.cf.e : Int), .int .u8 (x.it.cf.r : Int), .int .u8 (x.it.cf.w : Int), .int .u8 (atN x.it.cf.vs 0), .int .u8 (atN x.it.cf.vs 1), .int .u8 (atN x.it.cf.vs 2), .int .u8 (atN x.it.cf.vs 3), .int .u8 (atN x.it.cf.vs 4), .int .u8 (atN x.it.cf.vs 5), .int .u8 (atN x.it.cf.vs 6), .int .u8 (atN x.it.cf.vs 7)] := rfl
theorem box_eight5 {W : World} {q : Nat} {k : List Int} {t : TypeId} (h : Box W q (eightA k) t) : W.cell? ⟨q, 0, none⟩ = some (.int .u8 (at8 k 0)) ∧ W.cell? ⟨q, 1, none⟩ = some (.int .u8 (at8 k 1)) ∧ W.cell? ⟨q, 2, none⟩ = some (.int .u8 (at8 k 2)) ∧ W.cell? ⟨q, 3, none⟩ = some (.int .u8 (at8 k 3)) ∧ W.cell? ⟨q, 4, none⟩ = some (.int .u8 (at8 k 4)) ∧ W.cell? ⟨q, 5, none⟩ = some (.int .u8 (at8 k 5)) ∧ W.cell? ⟨q, 6, none⟩ = some (.int .u8 (at8 k 6)) ∧ W.cell? ⟨q, 7, none⟩ = some (.int .u8 (at8 k 7)) :=
  ⟨h.cell 0 _ rfl, h.cell 1 _ rfl, h.cell 2 _ rfl, h.cell 3 _ rfl, h.cell 4 _ rfl, h.cell 5 _ rfl, h.cell 6 _ rfl, h.cell 7 _ rfl⟩
theorem box_item5 {W : World} {q : Nat} {i : ItP} {t : TypeId} (h : Box W q (itA i) t) : W.cell? ⟨q, 0, none⟩ = some (.int .u32 (i.ver : Int)) ∧ W.cell? ⟨q, 1, none⟩ = some (.string (strOfNums i.val)) ∧ W.cell? ⟨q, 2, none⟩ = some (.int .u32 (i.cf.e : Int)) ∧ W.cell? ⟨q, 3, none⟩ = some (.int .u8 (i.cf.r : Int)) ∧ W.cell? ⟨q, 4, none⟩ = some (.int .u8 (i.cf.w : Int)) ∧ W.cell? ⟨q, 5, none⟩ = some (.int .u8 (atN i.cf.vs 0)) ∧ W.cell? ⟨q, 6, none⟩ = some (.int .u8 (atN i.cf.vs 1)) ∧ W.cell? ⟨q, 7, none⟩ = some (.int .u8 (atN i.cf.vs 2)) ∧ W.cell? ⟨q, 8, none⟩ = some (.int .u8 (atN i.cf.vs 3)) ∧ W.cell? ⟨q, 9, none⟩ = some (.int .u8 (atN i.cf.vs 4)) ∧ W.cell? ⟨q, 10, none⟩ = some (.int .u8 (atN i.cf.vs 5)) ∧ W.cell? ⟨q, 11, none⟩ = some (.int .u8 (atN i.cf.vs 6)) ∧ W.cell? ⟨q, 12, none⟩ = some (.int .u8 (atN i.cf.vs 7)) :=
  ⟨h.cell 0 _ rfl, h.cell 1 _ rfl, h.cell 2 _ rfl, h.cell 3 _ rfl, h.cell 4 _ rfl, h.cell 5 _ rfl, h.cell 6 _ rfl, h.cell 7 _ rfl, h.cell 8 _ rfl, h.cell 9 _ rfl, h.cell 10 _ rfl, h.cell 11 _ rfl, h.cell 12 _ rfl⟩
set_option maxRecDepth 100000 in
set_option maxHeartbeats 3200000 in
theorem rins_arg1 (p : Nat) (vb : Value) (t : List WrP) (k : List Int) (i : ItP) (w : World) (h : RTb w p vb t) (hk : KeyOk k) (hi : ItOk i) (hl : i.val.length ≤ 9223372036854775807) (hm : (nameF k).2 = false) :
    Calls Try.prog 13 #[.pointer (some ⟨p, 0, none⟩), .agg (eightA k), .agg (itA i)] w fun e w' => e = .returned (.int .i64 (1)) ∧ RTid w w' p vb (t) := by
  have hA := alloc_below13 w (.cells (eightA k) 31)
  have hA2 := alloc_below13 (w.alloc (.cells (eightA k) 31)) (.cells (itA i) 36)
  have hB2 : Below w.heap.size w ((w.alloc (.cells (eightA k) 31)).alloc (.cells (itA i) 36)) := hA.trans (hA2.mono hA.size)
  have HXK := hide ((box_new w (eightA k) 31).belowI hA2)
  have HXI : Hid (Box ((w.alloc (.cells (eightA k) 31)).alloc (.cells (itA i) 36)) (w.heap.size + 1) (itA i) 36) := hide (by have := box_new (w.alloc (.cells (eightA k) 31)) (itA i) 36; simpa using this)
  have HB := hide hB2
  have H0 := hide h
  have HK := hide hk
  have HI := hide hi
  have CK := hide (rkeyMay_any k hk ((w.alloc (.cells (eightA k) 31)).alloc (.cells (itA i) 36)))
  have CM := hide (fun W => ritem_any i hi hl W)
  clear hA hA2 hB2 h hk hi hl
  rw [hm] at CK
  go_enter Try.func13, Try.ntmps13
  go_wp2_with (first | (refine wp_load_box rfl _ rfl w.heap.size rfl HXK.out Try.underlying31 rfl infoKey13 ?_))
  refine CK.out.mono ?_
  rintro e w1 ⟨rfl, hB1⟩
  replace HB := hide (HB.out.trans (hB1.mono HB.out.size))
  replace HXK := hide (HXK.out.belowI hB1)
  replace HXI := hide (HXI.out.belowI hB1)
  clear hB1 CK
  go_wp2_with fail
  go_ret
  exact ⟨rfl, RTid.of_below H0.out HB.out⟩
set_option maxRecDepth 100000 in
set_option maxHeartbeats 3200000 in
theorem rins_arg2 (p : Nat) (vb : Value) (t : List WrP) (k : List Int) (i : ItP) (w : World) (h : RTb w p vb t) (hk : KeyOk k) (hi : ItOk i) (hl : i.val.length ≤ 9223372036854775807) (hm : (nameF k).2 = true) (hm2 : itMayB i = false) :
    Calls Try.prog 13 #[.pointer (some ⟨p, 0, none⟩), .agg (eightA k), .agg (itA i)] w fun e w' => e = .returned (.int .i64 (1)) ∧ RTid w w' p vb (t) := by
  have hA := alloc_below13 w (.cells (eightA k) 31)
  have hA2 := alloc_below13 (w.alloc (.cells (eightA k) 31)) (.cells (itA i) 36)
  have hB2 : Below w.heap.size w ((w.alloc (.cells (eightA k) 31)).alloc (.cells (itA i) 36)) := hA.trans (hA2.mono hA.size)
  have HXK := hide ((box_new w (eightA k) 31).belowI hA2)
  have HXI : Hid (Box ((w.alloc (.cells (eightA k) 31)).alloc (.cells (itA i) 36)) (w.heap.size + 1) (itA i) 36) := hide (by have := box_new (w.alloc (.cells (eightA k) 31)) (itA i) 36; simpa using this)
  have HB := hide hB2
  have H0 := hide h
  have HK := hide hk
  have HI := hide hi
  have CK := hide (rkeyMay_any k hk ((w.alloc (.cells (eightA k) 31)).alloc (.cells (itA i) 36)))
  have CM := hide (fun W => ritem_any i hi hl W)
  clear hA hA2 hB2 h hk hi hl
  rw [hm] at CK
  rw [hm2] at CM
  go_enter Try.func13, Try.ntmps13
  go_wp2_with (first | (refine wp_load_box rfl _ rfl w.heap.size rfl HXK.out Try.underlying31 rfl infoKey13 ?_))
  refine CK.out.mono ?_
  rintro e w1 ⟨rfl, hB1⟩
  replace HB := hide (HB.out.trans (hB1.mono HB.out.size))
  replace HXK := hide (HXK.out.belowI hB1)
  replace HXI := hide (HXI.out.belowI hB1)
  clear hB1 CK
  go_wp2_with (first | (refine wp_load_box_g rfl _ rfl (w.heap.size + 1) rfl HXI.out Try.underlying36 rfl infoIt13 ?_))
  refine (CM.out w1).mono ?_
  rintro e w2 ⟨rfl, hB2⟩
  replace HB := hide (HB.out.trans (hB2.mono HB.out.size))
  replace HXK := hide (HXK.out.belowI hB2)
  replace HXI := hide (HXI.out.belowI hB2)
  clear hB2 CM
  go_wp2_with fail
  go_ret
  exact ⟨rfl, RTid.of_below H0.out HB.out⟩
set_option maxRecDepth 100000 in
set_option maxHeartbeats 3200000 in
theorem rins_many (p : Nat) (vb : Value) (t : List WrP) (k : List Int) (i : ItP) (w : World) (h : RTb w p vb t) (hk : KeyOk k) (hi : ItOk i) (hl : i.val.length ≤ 9223372036854775807) (hm : (nameF k).2 = true) (hm2 : itMayB i = true) (hg : getT t k = none) (hf : 64 ≤ t.length) :
    Calls Try.prog 13 #[.pointer (some ⟨p, 0, none⟩), .agg (eightA k), .agg (itA i)] w fun e w' => e = .returned (.int .i64 (5)) ∧ RTid w w' p vb (t) := by
  have hA := alloc_below13 w (.cells (eightA k) 31)
  have hA2 := alloc_below13 (w.alloc (.cells (eightA k) 31)) (.cells (itA i) 36)
  have hB2 : Below w.heap.size w ((w.alloc (.cells (eightA k) 31)).alloc (.cells (itA i) 36)) := hA.trans (hA2.mono hA.size)
  have HXK := hide ((box_new w (eightA k) 31).belowI hA2)
  have HXI : Hid (Box ((w.alloc (.cells (eightA k) 31)).alloc (.cells (itA i) 36)) (w.heap.size + 1) (itA i) 36) := hide (by have := box_new (w.alloc (.cells (eightA k) 31)) (itA i) 36; simpa using this)
  have HB := hide hB2
  have H0 := hide h
  have HK := hide hk
  have HI := hide hi
  have CK := hide (rkeyMay_any k hk ((w.alloc (.cells (eightA k) 31)).alloc (.cells (itA i) 36)))
  have CM := hide (fun W => ritem_any i hi hl W)
  clear hA hA2 hB2 h hk hi hl
  rw [hm] at CK
  rw [hm2] at CM
  have hfew := H0.out.ok.few
  obtain ⟨ao, cap, hvb, hcap, hcm⟩ := H0.out.src.shape
  obtain ⟨LN, hLN⟩ : ∃ LN, LN = t.length := ⟨_, rfl⟩
  rw [← hLN] at hvb hfew hcap
  subst hvb
  have HLN := hide hLN
  have HC : Hid (LN ≤ cap ∧ cap ≤ maxLen) := hide ⟨hcap, hcm⟩
  obtain ⟨J, hJ⟩ : ∃ J, J = (upT t k).length := ⟨_, rfl⟩
  have HJ := hide hJ
  have hJL : J ≤ LN := by
    have := congrArg List.length (up_dn t k)
    rw [List.length_append] at this
    omega
  have dl : (64 : Int) ≤ (LN : Int) := by omega
  have dl2 : decide ((LN : Int) ≥ 64) = true := decide_eq_true dl
  clear hf hLN hcap hcm hJ hm hm2
  go_enter Try.func13, Try.ntmps13
  go_wp2_with (first | (refine wp_load_box rfl _ rfl w.heap.size rfl HXK.out Try.underlying31 rfl infoKey13 ?_))
  refine CK.out.mono ?_
  rintro e w1 ⟨rfl, hB1⟩
  replace HB := hide (HB.out.trans (hB1.mono HB.out.size))
  replace HXK := hide (HXK.out.belowI hB1)
  replace HXI := hide (HXI.out.belowI hB1)
  clear hB1 CK
  go_wp2_with (first | (refine wp_load_box_g rfl _ rfl (w.heap.size + 1) rfl HXI.out Try.underlying36 rfl infoIt13 ?_))
  refine (CM.out w1).mono ?_
  rintro e w2 ⟨rfl, hB2⟩
  replace HB := hide (HB.out.trans (hB2.mono HB.out.size))
  replace HXK := hide (HXK.out.belowI hB2)
  replace HXI := hide (HXI.out.belowI hB2)
  clear hB2 CM
  have HR2 := hide (H0.out.below HB.out)
  have CP := rplace_any p LN cap ao t k w2 (HR2.out.box.cell 0 _ rfl) HR2.out.box.lt HR2.out.src HK.out (fun x hx => (H0.out.oks x hx).1) (by rw [← HLN.out]; omega)
  rw [← HJ.out, hg] at CP
  simp only [Option.isSome_none] at CP
  have CP := hide CP
  go_wp2_with (first | (refine wp_load_box rfl _ rfl w.heap.size rfl HXK.out Try.underlying31 rfl infoKey13 ?_))
  refine CP.out.mono ?_
  rintro e Wx ⟨rfl, hB3⟩
  replace HB := hide (HB.out.trans (hB3.mono HB.out.size))
  replace HXK := hide (HXK.out.belowI hB3)
  replace HXI := hide (HXI.out.belowI hB3)
  replace HR2 := hide (HR2.out.below hB3)
  have c0 : Wx.cell? ⟨p, 0, none⟩ = some (.slice ao LN cap) := HR2.out.box.cell 0 _ rfl
  clear hB3 CP
  go_wp2_with fail
  go_ret
  exact ⟨rfl, RTid.of_below H0.out HB.out⟩
attribute [local go_sem ↓] app_hideH
set_option maxRecDepth 100000 in
set_option maxHeartbeats 3200000 in
theorem rins_new (p : Nat) (vb : Value) (t : List WrP) (k : List Int) (i : ItP) (w : World) (h : RTb w p vb t) (hk : KeyOk k) (hi : ItOk i) (hl : i.val.length ≤ 9223372036854775807) (hm : (nameF k).2 = true) (hm2 : itMayB i = true) (hg : getT t k = none) (hf : t.length < 64) (hok : TbOk (putT t k i) ∧ ∀ x ∈ putT t k i, KeyOk x.key ∧ ItOk x.it) :
    Calls Try.prog 13 #[.pointer (some ⟨p, 0, none⟩), .agg (eightA k), .agg (itA i)] w fun e w' => e = .returned (.int .i64 (0)) ∧ RTid w w' p vb (putT t k i) := by
  have hA := alloc_below13 w (.cells (eightA k) 31)
  have hA2 := alloc_below13 (w.alloc (.cells (eightA k) 31)) (.cells (itA i) 36)
  have hB2 : Below w.heap.size w ((w.alloc (.cells (eightA k) 31)).alloc (.cells (itA i) 36)) := hA.trans (hA2.mono hA.size)
  have HXK := hide ((box_new w (eightA k) 31).belowI hA2)
  have HXI : Hid (Box ((w.alloc (.cells (eightA k) 31)).alloc (.cells (itA i) 36)) (w.heap.size + 1) (itA i) 36) := hide (by have := box_new (w.alloc (.cells (eightA k) 31)) (itA i) 36; simpa using this)
  have HB := hide hB2
  have H0 := hide h
  have HK := hide hk
  have HI := hide hi
  have CK := hide (rkeyMay_any k hk ((w.alloc (.cells (eightA k) 31)).alloc (.cells (itA i) 36)))
  have CM := hide (fun W => ritem_any i hi hl W)
  clear hA hA2 hB2 h hk hi hl
  have HOK := hide hok
  clear hok
  rw [hm] at CK
  rw [hm2] at CM
  have hfew := H0.out.ok.few
  obtain ⟨ao, cap, hvb, hcap, hcm⟩ := H0.out.src.shape
  obtain ⟨LN, hLN⟩ : ∃ LN, LN = t.length := ⟨_, rfl⟩
  rw [← hLN] at hvb hfew hcap
  subst hvb
  have HLN := hide hLN
  have HC : Hid (LN ≤ cap ∧ cap ≤ maxLen) := hide ⟨hcap, hcm⟩
  obtain ⟨J, hJ⟩ : ∃ J, J = (upT t k).length := ⟨_, rfl⟩
  have HJ := hide hJ
  have hJL : J ≤ LN := by
    have := congrArg List.length (up_dn t k)
    rw [List.length_append] at this
    omega
  have dl : ¬ (64 : Int) ≤ (LN : Int) := by omega
  have dl2 : decide ((LN : Int) ≥ 64) = false := decide_eq_false dl
  clear hf hLN hcap hcm hJ hm hm2
  go_enter Try.func13, Try.ntmps13
  go_wp2_with (first | (refine wp_load_box rfl _ rfl w.heap.size rfl HXK.out Try.underlying31 rfl infoKey13 ?_))
  refine CK.out.mono ?_
  rintro e w1 ⟨rfl, hB1⟩
  replace HB := hide (HB.out.trans (hB1.mono HB.out.size))
  replace HXK := hide (HXK.out.belowI hB1)
  replace HXI := hide (HXI.out.belowI hB1)
  clear hB1 CK
  go_wp2_with (first | (refine wp_load_box_g rfl _ rfl (w.heap.size + 1) rfl HXI.out Try.underlying36 rfl infoIt13 ?_))
  refine (CM.out w1).mono ?_
  rintro e w2 ⟨rfl, hB2⟩
  replace HB := hide (HB.out.trans (hB2.mono HB.out.size))
  replace HXK := hide (HXK.out.belowI hB2)
  replace HXI := hide (HXI.out.belowI hB2)
  clear hB2 CM
  have HR2 := hide (H0.out.below HB.out)
  have CP := rplace_any p LN cap ao t k w2 (HR2.out.box.cell 0 _ rfl) HR2.out.box.lt HR2.out.src HK.out (fun x hx => (H0.out.oks x hx).1) (by rw [← HLN.out]; omega)
  rw [← HJ.out, hg] at CP
  simp only [Option.isSome_none] at CP
  have CP := hide CP
  go_wp2_with (first | (refine wp_load_box rfl _ rfl w.heap.size rfl HXK.out Try.underlying31 rfl infoKey13 ?_))
  refine CP.out.mono ?_
  rintro e Wx ⟨rfl, hB3⟩
  replace HB := hide (HB.out.trans (hB3.mono HB.out.size))
  replace HXK := hide (HXK.out.belowI hB3)
  replace HXI := hide (HXI.out.belowI hB3)
  replace HR2 := hide (HR2.out.below hB3)
  have c0 : Wx.cell? ⟨p, 0, none⟩ = some (.slice ao LN cap) := HR2.out.box.cell 0 _ rfl
  clear hB3 CP
  clear c0
  obtain ⟨x, hx⟩ : ∃ x : WrP, x = ⟨k, i⟩ := ⟨_, rfl⟩
  have hRx := HR2.out
  have hsx := hRx.src
  rw [HLN.out] at hsx
  have hcl3 := HC.out
  have hto := fun W => run_toR recWR W ao LN cap J (by omega)
  have hfr := fun W => run_fromR recWR W ao LN cap J hJL
  obtain ⟨af, haf⟩ : ∃ af, af = if cap = J then ao else (ao : Option Addr).map (·.add (J * 21)) := ⟨_, rfl⟩
  rw [← haf] at hfr
  have hs1 := src_takeR hsx recWR.len (i := J) (by rw [← HLN.out]; exact hJL)
  have hs2 := src_dropR hsx recWR.len (i := J) (by rw [← HLN.out]; exact hJL)
  rw [← haf, ← HLN.out] at hs2
  obtain ⟨l2, hl2⟩ : ∃ l2, l2 = LN - J := ⟨_, rfl⟩
  obtain ⟨cc2, hcc2⟩ : ∃ cc2, cc2 = cap - J := ⟨_, rfl⟩
  rw [← hl2, ← hcc2] at hfr hs2
  have hBd : Below Wx.heap.size Wx Wx.drew := (Below.refl _ _).drew
  have htl : (t.take J).length = J := by rw [List.length_take, ← HLN.out]; omega
  have hdl : (t.drop J).length ≤ 64 := by rw [List.length_drop, ← HLN.out]; omega
  obtain ⟨vA, wA, hrA, hoA, hgA, _⟩ := run_recsH recWR Wx.drew Wx.heap.size (.slice none 0 0) (.slice ao J cap) [] (t.take J) (World.ownsRow_nil _ _ _ _) (hs1.below hBd) (wrs_one _) (by rw [htl]; simp; omega) (Nat.le_refl _)
  rw [List.nil_append] at hoA
  have hBA : Below Wx.heap.size Wx wA := hBd.grown hgA (Nat.le_refl _) (fun k hk => by cases hk)
  have hAA := alloc_below13 wA (.cells (wrA x) 38)
  have hBA2 := hBA.trans (hAA.mono hBA.size)
  obtain ⟨vC, wC, hrC, hoC, hgC, _⟩ := run_recsH recWR (wA.alloc (.cells (wrA x) 38)) Wx.heap.size vA (.slice (some ⟨wA.heap.size, 0, none⟩) 1 1) (t.take J) [x] (owns_keep hoA (KeepBut.of_below (fun _ => False) hAA) (fun _ _ h => h)) (src_new (enc := wrE) wA x (wrA x) rfl 38) (wrs_one _) (by rw [htl]; simp; omega) hBA2.size
  have hBC : Below Wx.heap.size Wx wC := hBA2.grown hgC hBA2.size (fun j hj => (hoA.lt j hj).1)
  obtain ⟨vD, wD, hrD, hoD, hgD, _⟩ := run_recsH recWR wC Wx.heap.size vC (.slice af l2 cc2) (t.take J ++ [x]) (t.drop J) hoC (hs2.below hBC) (wrs_one _) (by rw [List.length_append, htl]; simp only [List.length_cons, List.length_nil]; omega) hBC.size
  have hBD : Below Wx.heap.size Wx wD := hBC.grown hgD hBC.size (fun j hj => (hoC.lt j hj).1)
  obtain ⟨wB0, hwB0⟩ : ∃ wB0, wB0 = (Wx.alloc (.cells (wrA x) 38)).drew := ⟨_, rfl⟩
  have hBB0 : Below Wx.heap.size Wx wB0 := hwB0 ▸ ((Below.refl Wx.heap.size Wx).alloc (Nat.le_refl _) _).drew
  have hsB : RSrc wrE wB0 (.slice (some ⟨Wx.heap.size, 0, none⟩) 1 1) [x] := by
    rw [hwB0]
    exact (src_new (enc := wrE) Wx x (wrA x) rfl 38).below (Below.refl _ _).drew
  obtain ⟨vE, wE, hrE, hoE, hgE, _⟩ := run_recsH recWR wB0 wB0.heap.size (.slice none 0 0) (.slice ao J cap) [] (t.take J) (World.ownsRow_nil _ _ _ _) (hs1.below hBB0) (wrs_one _) (by rw [htl]; simp; omega) (Nat.le_refl _)
  rw [List.nil_append] at hoE
  have hBE0 : Below wB0.heap.size wB0 wE := (Below.refl _ _).grown hgE (Nat.le_refl _) (fun k hk => by cases hk)
  have hBE := hBB0.trans (hBE0.mono hBB0.size)
  have hoE' : wE.ownsRow Wx.heap.size 38 21 vE (t.take J).length (flat wrE (t.take J)) := by
    obtain ⟨hl, h0 | ⟨g, cap', cur, e, hg, r⟩⟩ := hoE
    · exact ⟨hl, .inl h0⟩
    · exact ⟨hl, .inr ⟨g, cap', cur, e, Nat.le_trans hBB0.size hg, r⟩⟩
  obtain ⟨vF, wF, hrF, hoF, hgF, _⟩ := run_recsH recWR wE Wx.heap.size vE (.slice (some ⟨Wx.heap.size, 0, none⟩) 1 1) (t.take J) [x] hoE' (hsB.below hBE0) (wrs_one _) (by rw [htl]; simp; omega) hBE.size
  have hBF : Below Wx.heap.size Wx wF := hBE.grown hgF hBE.size (fun j hj => (hoE'.lt j hj).1)
  obtain ⟨vG, wG, hrG, hoG, hgG, _⟩ := run_recsH recWR wF Wx.heap.size vF (.slice af l2 cc2) (t.take J ++ [x]) (t.drop J) hoF (hs2.below hBF) (wrs_one _) (by rw [List.length_append, htl]; simp only [List.length_cons, List.length_nil]; omega) hBF.size
  have hBG : Below Wx.heap.size Wx wG := hBF.grown hgG hBF.size (fun j hj => (hoF.lt j hj).1)
  have hcl : putT t k i = t.take J ++ [x] ++ t.drop J := by rw [put_none hg i, ← HJ.out, hx]
  rw [← hcl] at hoD hoG
  have FIN : ∀ wf v, Below Wx.heap.size Wx wf → wf.ownsRow Wx.heap.size 38 21 v (putT t k i).length (flat wrE (putT t k i)) → RTid w (wf.setCell ⟨p, 0, none⟩ v) p (.slice ao LN cap) (putT t k i) := fun wf v hB ho => (hRx.put hB ho HOK.out.1 HOK.out.2).before HB.out
  have HFD := hide (FIN wD vD hBD hoD)
  have HFG := hide (FIN wG vG hBG hoG)
  have m1 : Wx.cell? ⟨p, 0, none⟩ = some (.slice ao LN cap) := hRx.box.cell 0 _ rfl
  have qA : wA.cell? ⟨p, 0, none⟩ = some (.slice ao LN cap) := (hRx.below hBA).box.cell 0 _ rfl
  have qC : wC.cell? ⟨p, 0, none⟩ = some (.slice ao LN cap) := (hRx.below hBC).box.cell 0 _ rfl
  have qB : wB0.cell? ⟨p, 0, none⟩ = some (.slice ao LN cap) := (hRx.below hBB0).box.cell 0 _ rfl
  have qE : wE.cell? ⟨p, 0, none⟩ = some (.slice ao LN cap) := (hRx.below hBE).box.cell 0 _ rfl
  have qF : wF.cell? ⟨p, 0, none⟩ = some (.slice ao LN cap) := (hRx.below hBF).box.cell 0 _ rfl
  have qD : wD.cell? ⟨p, 0, none⟩ = some (.slice ao LN cap) := (hRx.below hBD).box.cell 0 _ rfl
  have qG : wG.cell? ⟨p, 0, none⟩ = some (.slice ao LN cap) := (hRx.below hBG).box.cell 0 _ rfl
  have zD := (hRx.below hBD).box.frozen 0
  have zG := (hRx.below hBG).box.frozen 0
  have plx := hRx.box.lt
  have plA := (hRx.below hBA).box.lt
  have tkx := HXK.out.lt
  have tix := HXI.out.lt
  have tkA := (HXK.out.belowI hBA).lt
  have tiA := (HXI.out.belowI hBA).lt
  obtain ⟨xk0, xk1, xk2, xk3, xk4, xk5, xk6, xk7⟩ := box_eight5 (HXK.out)
  obtain ⟨xi0, xi1, xi2, xi3, xi4, xi5, xi6, xi7, xi8, xi9, xi10, xi11, xi12⟩ := box_item5 (HXI.out)
  obtain ⟨ak0, ak1, ak2, ak3, ak4, ak5, ak6, ak7⟩ := box_eight5 (HXK.out.belowI hBA)
  obtain ⟨ai0, ai1, ai2, ai3, ai4, ai5, ai6, ai7, ai8, ai9, ai10, ai11, ai12⟩ := box_item5 (HXI.out.belowI hBA)
  have hbw := build_wr5 k i
  have hrA' := hrA 22
  have hrC' := hrC 22
  have hrD' := hrD 22
  have hrE' := hrE 22
  have hrF' := hrF 22
  have hrG' := hrG 22
  have hwB1 := hwB0.symm
  obtain ⟨aD, cD, hvD, _⟩ := owns_shapeR hoD
  obtain ⟨aG, cG, hvG, _⟩ := owns_shapeR hoG
  subst hvD
  subst hvG
  obtain ⟨n3, hn3⟩ : ∃ n3, n3 = (putT t k i).length := ⟨_, rfl⟩
  rw [← hn3] at hrD' hrG' HFD HFG
  rw [hx, wrA_ex5] at hrC' hwB1
  clear hwB0 hn3 hrA hrC hrD hrE hrF hrG hBA hBC hBD hBB0 hBE hBE0 hBF hBG hAA hBA2 hBd hoA hoC hoD hoE hoE' hoF hoG hgA hgC hgD hgE hgF hgG hs1 hs2 hsx hRx hsB FIN hx htl hdl hcl3 haf hl2 hcc2 hcl hg hJL
  go_wp2_with fail
  go_region
  all_goals
    go_wp2_with fail
    go_ret
    first | exact ⟨rfl, HFD.out⟩ | exact ⟨rfl, HFG.out⟩
end
end Go.Proofs.Ytlngejmojpkdkaa
