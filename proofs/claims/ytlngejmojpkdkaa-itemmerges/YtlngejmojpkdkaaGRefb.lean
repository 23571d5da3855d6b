/-
  A region that draws its order, by what each operation leaves: what an operation left need not stand those that it hangs on (they have come up ahead of it). Of no program. Own work.
-/
import Derived.Test.YtlngejmojpkdkaaGRefa
import Derived.Test.YtlngejmojpkdkaaG03
import Derived.Test.YtlngejmojpkdkaaG01
namespace Go.Proofs.Ytlngejmojpkdkaa
section
open Go.RowKit Classical

/-- A row that is not empty lies in a block of its own. -/
theorem row_at {w : World} {base n : Nat} {v : Value} {xs : List Value} (h : w.ownsRow base 38 21 v n xs) (hn : 0 < n) : ∃ g cap cur, v = .slice (some ⟨g, 0, none⟩) n cap ∧ base ≤ g ∧ Box w g cur 38 ∧ cur.size = cap * 21 ∧ n ≤ cap ∧ cap ≤ maxLen ∧ cur.toList.take (n * 21) = xs := by
  obtain ⟨_, ⟨rfl, h0⟩ | ⟨g, cap, cur, rfl, hb, hh, h1, h2, h3, h4⟩⟩ := h
  · omega
  · exact ⟨g, cap, cur, rfl, hb, hh, h3, h1, h2, h4⟩
theorem take_mid13 (A I : List Value) (a N : Nat) (hI : I.length = 13) (h1 : a + 13 ≤ N) (h2 : N ≤ A.length) : (A.take a ++ I ++ A.drop (a + 13)).take N = (A.take N).take a ++ I ++ (A.take N).drop (a + 13) := by
  have e1 : (A.take N).take a = A.take a := by rw [List.take_take, Nat.min_eq_left (by omega)]
  have e2 : (A.take N).drop (a + 13) = (A.drop (a + 13)).take (N - (a + 13)) := by rw [List.drop_take]
  have e3 : (A.take a ++ I).length = a + 13 := by rw [List.length_append, List.length_take, hI]; omega
  rw [e1, e2, List.take_append, e3, List.take_of_length_le (by rw [e3]; exact h1)]
theorem it_all13 (i : ItP) : (Value.agg (itA i)).cells.toList.all (·.oneCell') = true := rfl
theorem mid_fits {n cap j : Nat} (h : n ≤ cap) (hj : j < n) : j * 21 + 8 + 13 ≤ cap * 21 := by omega
theorem row_set {w w' : World} {base n j g cap : Nat} {cur : Array Value} {t : List WrP} {k : List Int} {o i : ItP} (hn : n = t.length) (hj : j < n) (hat : t[j]? = some ⟨k, o⟩) (hbase : base ≤ g) (hc : Box w g cur 38 ∧ cur.size = cap * 21 ∧ n ≤ cap ∧ cap ≤ maxLen ∧ cur.toList.take (n * 21) = flat wrE t)
    (hb : Box w' g (cur.toList.take (j * 21 + 8) ++ (Value.agg (itA i)).cells.toList ++ cur.toList.drop (j * 21 + 8 + (Value.agg (itA i)).cells.toList.length)).toArray 38) : w'.ownsRow base 38 21 (.slice (some ⟨g, 0, none⟩) n cap) (t.set j ⟨k, i⟩).length (flat wrE (t.set j ⟨k, i⟩)) := by
  obtain ⟨_, h1, h2, h3, h4⟩ := hc
  have hjt : j < t.length := by omega
  have hk : (t[j]).key = k := by rw [List.getElem?_eq_getElem hjt] at hat; rw [Option.some.inj hat]
  have hl : (t.set j ⟨k, i⟩).length = n := by rw [List.length_set, hn]
  have hcl : (Value.agg (itA i)).cells.toList = itE i := rfl
  have hil : (itE i).length = 13 := rfl
  rw [hcl, hil] at hb
  have hcs : cur.toList.length = cap * 21 := by simpa using h1
  rw [hl]
  refine ⟨?_, .inr ⟨g, cap, _, rfl, hbase, hb, h2, h3, ?_, ?_⟩⟩
  · rw [flat_len (fun x => wrE_len x), hl]
  · simp only [List.size_toArray, List.length_append, List.length_take, List.length_drop, hcs, hil]
    omega
  · have e := flat_item t hjt i
    rw [hk] at e
    rw [← e, ← h4]
    have e1 : j * 21 + 21 = j * 21 + 8 + 13 := by omega
    rw [e1]
    exact take_mid13 _ _ _ _ hil (by omega) (by rw [hcs]; omega)
set_option maxRecDepth 100000 in
set_option maxHeartbeats 3200000 in
theorem rins_old (p : Nat) (vb : Value) (t : List WrP) (k : List Int) (i : ItP) (w : World) (h : RTb w p vb t) (hk : KeyOk k) (hi : ItOk i) (hl : i.val.length ≤ 9223372036854775807) (o : ItP) (hm : (nameF k).2 = true) (hm2 : itMayB i = true) (hg : getT t k = some o) (hv : i.ver < o.ver) :
    Calls Try.prog 13 #[.pointer (some ⟨p, 0, none⟩), .agg (eightA k), .agg (itA i)] w fun e w' => e = .returned (.int .i64 (13)) ∧ RTid w w' p vb (t) := by
  have hA := alloc_below13 w (.cells (eightA k) 31)
  have hA2 := alloc_below13 (w.alloc (.cells (eightA k) 31)) (.cells (itA i) 36)
  have hB2 : Below w.heap.size w ((w.alloc (.cells (eightA k) 31)).alloc (.cells (itA i) 36)) := hA.trans (hA2.mono hA.size)
  have HXK := hide ((box_new w (eightA k) 31).belowI hA2)
  have HXI : Hid (Box ((w.alloc (.cells (eightA k) 31)).alloc (.cells (itA i) 36)) (w.heap.size + 1) (itA i) 36) := hide (by have := box_new (w.alloc (.cells (eightA k) 31)) (itA i) 36; simpa using this)
  have HB := hide hB2
  have H0 := hide h
  have HK := hide hk
  have HI := hide hi
  have CK := hide (rkeyMay_any k hk ((w.alloc (.cells (eightA k) 31)).alloc (.cells (itA i) 36)))
  have CM := hide (fun W => ritem_any i hi hl W)
  clear hA hA2 hB2 h hk hi hl
  have v1 : (i.ver : Int) < (o.ver : Int) := by omega
  have v2 : decide ((o.ver : Int) > (i.ver : Int)) = true := decide_eq_true v1
  clear hv
  rw [hm] at CK
  rw [hm2] at CM
  have hfew := H0.out.ok.few
  obtain ⟨ao, cap, hvb, hcap, hcm⟩ := H0.out.src.shape
  obtain ⟨LN, hLN⟩ : ∃ LN, LN = t.length := ⟨_, rfl⟩
  rw [← hLN] at hvb hfew hcap
  subst hvb
  have HLN := hide hLN
  have HC : Hid (LN ≤ cap ∧ cap ≤ maxLen) := hide ⟨hcap, hcm⟩
  obtain ⟨J, hJ⟩ : ∃ J, J = (upT t k).length := ⟨_, rfl⟩
  have HJ := hide hJ
  have hJL : J ≤ LN := by
    have := congrArg List.length (up_dn t k)
    rw [List.length_append] at this
    omega
  clear hLN hcap hcm hJ hm hm2
  go_enter Try.func13, Try.ntmps13
  go_wp2_with (first | (refine wp_load_box rfl _ rfl w.heap.size rfl HXK.out Try.underlying31 rfl infoKey13 ?_))
  refine CK.out.mono ?_
  rintro e w1 ⟨rfl, hB1⟩
  replace HB := hide (HB.out.trans (hB1.mono HB.out.size))
  replace HXK := hide (HXK.out.belowI hB1)
  replace HXI := hide (HXI.out.belowI hB1)
  clear hB1 CK
  go_wp2_with (first | (refine wp_load_box_g rfl _ rfl (w.heap.size + 1) rfl HXI.out Try.underlying36 rfl infoIt13 ?_))
  refine (CM.out w1).mono ?_
  rintro e w2 ⟨rfl, hB2⟩
  replace HB := hide (HB.out.trans (hB2.mono HB.out.size))
  replace HXK := hide (HXK.out.belowI hB2)
  replace HXI := hide (HXI.out.belowI hB2)
  clear hB2 CM
  have HR2 := hide (H0.out.below HB.out)
  have CP := rplace_any p LN cap ao t k w2 (HR2.out.box.cell 0 _ rfl) HR2.out.box.lt HR2.out.src HK.out (fun x hx => (H0.out.oks x hx).1) (by rw [← HLN.out]; omega)
  rw [← HJ.out, hg] at CP
  simp only [Option.isSome_some] at CP
  have CP := hide CP
  go_wp2_with (first | (refine wp_load_box rfl _ rfl w.heap.size rfl HXK.out Try.underlying31 rfl infoKey13 ?_))
  refine CP.out.mono ?_
  rintro e Wx ⟨rfl, hB3⟩
  replace HB := hide (HB.out.trans (hB3.mono HB.out.size))
  replace HXK := hide (HXK.out.belowI hB3)
  replace HXI := hide (HXI.out.belowI hB3)
  replace HR2 := hide (HR2.out.below hB3)
  have c0 : Wx.cell? ⟨p, 0, none⟩ = some (.slice ao LN cap) := HR2.out.box.cell 0 _ rfl
  clear hB3 CP
  obtain ⟨hlt, hat⟩ := get_at hg
  rw [← HJ.out] at hlt hat
  rw [List.getElem?_eq_getElem hlt] at hat
  replace hat := Option.some.inj hat
  have hJn : J < LN := by rw [HLN.out]; exact hlt
  have hJI : (J : Int) < (LN : Int) := by omega
  have hs3 := HR2.out.src
  obtain ⟨en9, b, off, e9, hb, hcl⟩ := hs3.at recWR.len hlt
  obtain rfl := e9
  have HRI : Hid (Wx.rangeAt b (off + J * 21 + 8) (itE o)) := hide (fun m v hv => by
    have h := hcl (8 + m) v (by
      rw [hat]
      show (eightE k ++ itE o)[8 + m]? = some v
      rw [List.getElem?_append_right (by simp)]
      simpa using hv)
    rw [← Nat.add_assoc] at h
    exact h)
  have HAT : Hid (t[J]? = some ⟨k, o⟩) := hide (by rw [List.getElem?_eq_getElem hlt, hat])
  have HZ := hide (box_new Wx (itA zeroIt) 36)
  have HZB := hide (alloc_below13 Wx (.cells (itA zeroIt) 36))
  have hli := HXI.out.lt
  clear hcl hb en9 hat hlt hs3
  go_wp2_with (first | ((with_reducible show wpList _ _ _ (⟨_, .load 36 _, _, _, _, none⟩ :: _) _ _); refine wpList_load_mid rfl 36 _ rfl b (off + J * 21 + 8) rfl (itE o) _ HRI.out Try.underlying36 rfl infoIt13 ?_) | ((with_reducible show wpList _ _ _ (⟨none, .store _ _ _, _, _, _, _⟩ :: _) _ _); refine wp_store_box rfl rfl _ _ rfl Wx.heap.size rfl (cs' := itA o) rfl HZ.out rfl infoIt13 (itA_one13 _) ?_; intro w4 hb4 hk4; have HO4 := hide hb4; have HI4 := hide ((HXI.out.belowI HZB.out).keep hk4 (by omega)); have HB4 := hide (HZB.out.trans (hk4.below HZB.out.size (fun j hj => by omega))); have c1 : w4.cell? ⟨Wx.heap.size, 0, none⟩ = some (.int .u32 (o.ver : Int)) := HO4.out.cell 0 _ rfl; have c2 : w4.cell? ⟨w.heap.size + 1, 0, none⟩ = some (.int .u32 (i.ver : Int)) := HI4.out.cell 0 _ rfl; clear hb4 hk4))
  go_ret
  exact ⟨rfl, RTid.of_below H0.out (HB.out.trans (HB4.out.mono HB.out.size))⟩
set_option maxRecDepth 100000 in
set_option maxHeartbeats 3200000 in
theorem rins_other (p : Nat) (vb : Value) (t : List WrP) (k : List Int) (i : ItP) (w : World) (h : RTb w p vb t) (hk : KeyOk k) (hi : ItOk i) (hl : i.val.length ≤ 9223372036854775807) (o : ItP) (hm : (nameF k).2 = true) (hm2 : itMayB i = true) (hg : getT t k = some o) (hv : o.ver = i.ver) (hne : o ≠ i) :
    Calls Try.prog 13 #[.pointer (some ⟨p, 0, none⟩), .agg (eightA k), .agg (itA i)] w fun e w' => e = .returned (.int .i64 (7)) ∧ RTid w w' p vb (t) := by
  have v1 : ¬ (i.ver : Int) < (o.ver : Int) := by omega
  have v2 : decide ((o.ver : Int) > (i.ver : Int)) = false := decide_eq_false v1
  have v3 : ((o.ver : Int) == (i.ver : Int)) = true := by simp [hv]
  have v4 : (o.ver : Int) = (i.ver : Int) := by omega
  have HNE : Hid (∀ W, (binOp .neq 36 (.agg (itA o)) (.agg (itA i))).run Try.prog W = .ok (.bool true) W) := hide (fun W => by rw [neq_it14 (get_ok13 h.oks h.ok hg) hi W, decide_eq_false hne]; rfl)
  clear hv hne
  have hA := alloc_below13 w (.cells (eightA k) 31)
  have hA2 := alloc_below13 (w.alloc (.cells (eightA k) 31)) (.cells (itA i) 36)
  have hB2 : Below w.heap.size w ((w.alloc (.cells (eightA k) 31)).alloc (.cells (itA i) 36)) := hA.trans (hA2.mono hA.size)
  have HXK := hide ((box_new w (eightA k) 31).belowI hA2)
  have HXI : Hid (Box ((w.alloc (.cells (eightA k) 31)).alloc (.cells (itA i) 36)) (w.heap.size + 1) (itA i) 36) := hide (by have := box_new (w.alloc (.cells (eightA k) 31)) (itA i) 36; simpa using this)
  have HB := hide hB2
  have H0 := hide h
  have HK := hide hk
  have HI := hide hi
  have CK := hide (rkeyMay_any k hk ((w.alloc (.cells (eightA k) 31)).alloc (.cells (itA i) 36)))
  have CM := hide (fun W => ritem_any i hi hl W)
  clear hA hA2 hB2 h hk hi hl
  rw [hm] at CK
  rw [hm2] at CM
  have hfew := H0.out.ok.few
  obtain ⟨ao, cap, hvb, hcap, hcm⟩ := H0.out.src.shape
  obtain ⟨LN, hLN⟩ : ∃ LN, LN = t.length := ⟨_, rfl⟩
  rw [← hLN] at hvb hfew hcap
  subst hvb
  have HLN := hide hLN
  have HC : Hid (LN ≤ cap ∧ cap ≤ maxLen) := hide ⟨hcap, hcm⟩
  obtain ⟨J, hJ⟩ : ∃ J, J = (upT t k).length := ⟨_, rfl⟩
  have HJ := hide hJ
  have hJL : J ≤ LN := by
    have := congrArg List.length (up_dn t k)
    rw [List.length_append] at this
    omega
  clear hLN hcap hcm hJ hm hm2
  go_enter Try.func13, Try.ntmps13
  go_wp2_with (first | (refine wp_load_box rfl _ rfl w.heap.size rfl HXK.out Try.underlying31 rfl infoKey13 ?_))
  refine CK.out.mono ?_
  rintro e w1 ⟨rfl, hB1⟩
  replace HB := hide (HB.out.trans (hB1.mono HB.out.size))
  replace HXK := hide (HXK.out.belowI hB1)
  replace HXI := hide (HXI.out.belowI hB1)
  clear hB1 CK
  go_wp2_with (first | (refine wp_load_box_g rfl _ rfl (w.heap.size + 1) rfl HXI.out Try.underlying36 rfl infoIt13 ?_))
  refine (CM.out w1).mono ?_
  rintro e w2 ⟨rfl, hB2⟩
  replace HB := hide (HB.out.trans (hB2.mono HB.out.size))
  replace HXK := hide (HXK.out.belowI hB2)
  replace HXI := hide (HXI.out.belowI hB2)
  clear hB2 CM
  have HR2 := hide (H0.out.below HB.out)
  have CP := rplace_any p LN cap ao t k w2 (HR2.out.box.cell 0 _ rfl) HR2.out.box.lt HR2.out.src HK.out (fun x hx => (H0.out.oks x hx).1) (by rw [← HLN.out]; omega)
  rw [← HJ.out, hg] at CP
  simp only [Option.isSome_some] at CP
  have CP := hide CP
  go_wp2_with (first | (refine wp_load_box rfl _ rfl w.heap.size rfl HXK.out Try.underlying31 rfl infoKey13 ?_))
  refine CP.out.mono ?_
  rintro e Wx ⟨rfl, hB3⟩
  replace HB := hide (HB.out.trans (hB3.mono HB.out.size))
  replace HXK := hide (HXK.out.belowI hB3)
  replace HXI := hide (HXI.out.belowI hB3)
  replace HR2 := hide (HR2.out.below hB3)
  have c0 : Wx.cell? ⟨p, 0, none⟩ = some (.slice ao LN cap) := HR2.out.box.cell 0 _ rfl
  clear hB3 CP
  obtain ⟨hlt, hat⟩ := get_at hg
  rw [← HJ.out] at hlt hat
  rw [List.getElem?_eq_getElem hlt] at hat
  replace hat := Option.some.inj hat
  have hJn : J < LN := by rw [HLN.out]; exact hlt
  have hJI : (J : Int) < (LN : Int) := by omega
  have hs3 := HR2.out.src
  obtain ⟨en9, b, off, e9, hb, hcl⟩ := hs3.at recWR.len hlt
  obtain rfl := e9
  have HRI : Hid (Wx.rangeAt b (off + J * 21 + 8) (itE o)) := hide (fun m v hv => by
    have h := hcl (8 + m) v (by
      rw [hat]
      show (eightE k ++ itE o)[8 + m]? = some v
      rw [List.getElem?_append_right (by simp)]
      simpa using hv)
    rw [← Nat.add_assoc] at h
    exact h)
  have HAT : Hid (t[J]? = some ⟨k, o⟩) := hide (by rw [List.getElem?_eq_getElem hlt, hat])
  have HZ := hide (box_new Wx (itA zeroIt) 36)
  have HZB := hide (alloc_below13 Wx (.cells (itA zeroIt) 36))
  have hli := HXI.out.lt
  clear hcl hb en9 hat hlt hs3
  have hq := HNE.out
  go_wp2_with (first | ((with_reducible show wpList _ _ _ (⟨_, .load 36 _, _, _, _, none⟩ :: _) _ _); refine wpList_load_mid rfl 36 _ rfl b (off + J * 21 + 8) rfl (itE o) _ HRI.out Try.underlying36 rfl infoIt13 ?_) | ((with_reducible show wpList _ _ _ (⟨none, .store _ _ _, _, _, _, _⟩ :: _) _ _); refine wp_store_box rfl rfl _ _ rfl Wx.heap.size rfl (cs' := itA o) rfl HZ.out rfl infoIt13 (itA_one13 _) ?_; intro w4 hb4 hk4; have HO4 := hide hb4; have HI4 := hide ((HXI.out.belowI HZB.out).keep hk4 (by omega)); have HB4 := hide (HZB.out.trans (hk4.below HZB.out.size (fun j hj => by omega))); have c1 : w4.cell? ⟨Wx.heap.size, 0, none⟩ = some (.int .u32 (o.ver : Int)) := HO4.out.cell 0 _ rfl; have c2 : w4.cell? ⟨w.heap.size + 1, 0, none⟩ = some (.int .u32 (i.ver : Int)) := HI4.out.cell 0 _ rfl; clear hb4 hk4) | ((with_reducible show wpList _ _ _ (⟨_, .load 36 _, _, _, _, some _⟩ :: _) _ _); refine wp_load_box_g rfl _ rfl Wx.heap.size rfl HO4.out Try.underlying36 rfl infoIt13 ?_) | ((with_reducible show wpList _ _ _ (⟨_, .load 36 _, _, _, _, some _⟩ :: _) _ _); refine wp_load_box_g rfl _ rfl (w.heap.size + 1) rfl HI4.out Try.underlying36 rfl infoIt13 ?_))
  go_ret
  exact ⟨rfl, RTid.of_below H0.out (HB.out.trans (HB4.out.mono HB.out.size))⟩
set_option maxRecDepth 100000 in
set_option maxHeartbeats 3200000 in
theorem rins_same (p : Nat) (vb : Value) (t : List WrP) (k : List Int) (i : ItP) (w : World) (h : RTb w p vb t) (hk : KeyOk k) (hi : ItOk i) (hl : i.val.length ≤ 9223372036854775807) (o : ItP) (hm : (nameF k).2 = true) (hm2 : itMayB i = true) (hg : getT t k = some o) (hv : o.ver = i.ver) (hne : o = i) (hok : TbOk (putT t k i) ∧ ∀ x ∈ putT t k i, KeyOk x.key ∧ ItOk x.it) :
    Calls Try.prog 13 #[.pointer (some ⟨p, 0, none⟩), .agg (eightA k), .agg (itA i)] w fun e w' => e = .returned (.int .i64 (0)) ∧ RTid w w' p vb (putT t k i) := by
  have v1 : ¬ (i.ver : Int) < (o.ver : Int) := by omega
  have v2 : decide ((o.ver : Int) > (i.ver : Int)) = false := decide_eq_false v1
  have v3 : ((o.ver : Int) == (i.ver : Int)) = true := by simp [hv]
  have v4 : (o.ver : Int) = (i.ver : Int) := by omega
  have HNE : Hid (∀ W, (binOp .neq 36 (.agg (itA o)) (.agg (itA i))).run Try.prog W = .ok (.bool false) W) := hide (fun W => by rw [neq_it14 (get_ok13 h.oks h.ok hg) hi W, decide_eq_true hne]; rfl)
  clear hv hne
  have hA := alloc_below13 w (.cells (eightA k) 31)
  have hA2 := alloc_below13 (w.alloc (.cells (eightA k) 31)) (.cells (itA i) 36)
  have hB2 : Below w.heap.size w ((w.alloc (.cells (eightA k) 31)).alloc (.cells (itA i) 36)) := hA.trans (hA2.mono hA.size)
  have HXK := hide ((box_new w (eightA k) 31).belowI hA2)
  have HXI : Hid (Box ((w.alloc (.cells (eightA k) 31)).alloc (.cells (itA i) 36)) (w.heap.size + 1) (itA i) 36) := hide (by have := box_new (w.alloc (.cells (eightA k) 31)) (itA i) 36; simpa using this)
  have HB := hide hB2
  have H0 := hide h
  have HK := hide hk
  have HI := hide hi
  have CK := hide (rkeyMay_any k hk ((w.alloc (.cells (eightA k) 31)).alloc (.cells (itA i) 36)))
  have CM := hide (fun W => ritem_any i hi hl W)
  clear hA hA2 hB2 h hk hi hl
  have HOK := hide hok
  have HPS := hide (put_set hg i)
  clear hok
  rw [hm] at CK
  rw [hm2] at CM
  have hfew := H0.out.ok.few
  obtain ⟨ao, cap, hvb, hcap, hcm⟩ := H0.out.src.shape
  obtain ⟨LN, hLN⟩ : ∃ LN, LN = t.length := ⟨_, rfl⟩
  rw [← hLN] at hvb hfew hcap
  subst hvb
  have HLN := hide hLN
  have HC : Hid (LN ≤ cap ∧ cap ≤ maxLen) := hide ⟨hcap, hcm⟩
  obtain ⟨J, hJ⟩ : ∃ J, J = (upT t k).length := ⟨_, rfl⟩
  have HJ := hide hJ
  have hJL : J ≤ LN := by
    have := congrArg List.length (up_dn t k)
    rw [List.length_append] at this
    omega
  clear hLN hcap hcm hJ hm hm2
  go_enter Try.func13, Try.ntmps13
  go_wp2_with (first | (refine wp_load_box rfl _ rfl w.heap.size rfl HXK.out Try.underlying31 rfl infoKey13 ?_))
  refine CK.out.mono ?_
  rintro e w1 ⟨rfl, hB1⟩
  replace HB := hide (HB.out.trans (hB1.mono HB.out.size))
  replace HXK := hide (HXK.out.belowI hB1)
  replace HXI := hide (HXI.out.belowI hB1)
  clear hB1 CK
  go_wp2_with (first | (refine wp_load_box_g rfl _ rfl (w.heap.size + 1) rfl HXI.out Try.underlying36 rfl infoIt13 ?_))
  refine (CM.out w1).mono ?_
  rintro e w2 ⟨rfl, hB2⟩
  replace HB := hide (HB.out.trans (hB2.mono HB.out.size))
  replace HXK := hide (HXK.out.belowI hB2)
  replace HXI := hide (HXI.out.belowI hB2)
  clear hB2 CM
  have HR2 := hide (H0.out.below HB.out)
  have CP := rplace_any p LN cap ao t k w2 (HR2.out.box.cell 0 _ rfl) HR2.out.box.lt HR2.out.src HK.out (fun x hx => (H0.out.oks x hx).1) (by rw [← HLN.out]; omega)
  rw [← HJ.out, hg] at CP
  simp only [Option.isSome_some] at CP
  have CP := hide CP
  go_wp2_with (first | (refine wp_load_box rfl _ rfl w.heap.size rfl HXK.out Try.underlying31 rfl infoKey13 ?_))
  refine CP.out.mono ?_
  rintro e Wx ⟨rfl, hB3⟩
  replace HB := hide (HB.out.trans (hB3.mono HB.out.size))
  replace HXK := hide (HXK.out.belowI hB3)
  replace HXI := hide (HXI.out.belowI hB3)
  replace HR2 := hide (HR2.out.below hB3)
  have c0 : Wx.cell? ⟨p, 0, none⟩ = some (.slice ao LN cap) := HR2.out.box.cell 0 _ rfl
  clear hB3 CP
  obtain ⟨hlt, hat⟩ := get_at hg
  rw [← HJ.out] at hlt hat
  rw [List.getElem?_eq_getElem hlt] at hat
  replace hat := Option.some.inj hat
  have hJn : J < LN := by rw [HLN.out]; exact hlt
  have hJI : (J : Int) < (LN : Int) := by omega
  have hs3 := HR2.out.src
  obtain ⟨en9, b, off, e9, hb, hcl⟩ := hs3.at recWR.len hlt
  obtain rfl := e9
  have HRI : Hid (Wx.rangeAt b (off + J * 21 + 8) (itE o)) := hide (fun m v hv => by
    have h := hcl (8 + m) v (by
      rw [hat]
      show (eightE k ++ itE o)[8 + m]? = some v
      rw [List.getElem?_append_right (by simp)]
      simpa using hv)
    rw [← Nat.add_assoc] at h
    exact h)
  have HAT : Hid (t[J]? = some ⟨k, o⟩) := hide (by rw [List.getElem?_eq_getElem hlt, hat])
  have HZ := hide (box_new Wx (itA zeroIt) 36)
  have HZB := hide (alloc_below13 Wx (.cells (itA zeroIt) 36))
  have hli := HXI.out.lt
  clear hcl hb en9 hat hlt hs3
  have hq := HNE.out
  go_wp2_with (first | ((with_reducible show wpList _ _ _ (⟨_, .load 36 _, _, _, _, none⟩ :: _) _ _); refine wpList_load_mid rfl 36 _ rfl b (off + J * 21 + 8) rfl (itE o) _ HRI.out Try.underlying36 rfl infoIt13 ?_) | ((with_reducible show wpList _ _ _ (⟨none, .store _ _ _, _, _, _, _⟩ :: _) _ _); refine wp_store_box rfl rfl _ _ rfl Wx.heap.size rfl (cs' := itA o) rfl HZ.out rfl infoIt13 (itA_one13 _) ?_; intro w4 hb4 hk4; have HO4 := hide hb4; have HI4 := hide ((HXI.out.belowI HZB.out).keep hk4 (by omega)); have HB4 := hide (HZB.out.trans (hk4.below HZB.out.size (fun j hj => by omega))); have c1 : w4.cell? ⟨Wx.heap.size, 0, none⟩ = some (.int .u32 (o.ver : Int)) := HO4.out.cell 0 _ rfl; have c2 : w4.cell? ⟨w.heap.size + 1, 0, none⟩ = some (.int .u32 (i.ver : Int)) := HI4.out.cell 0 _ rfl; have HRX := hide (HR2.out.below HB4.out); have HSX := hide HRX.out.src; have c3 : w4.cell? ⟨p, 0, none⟩ = some (.slice (some ⟨b, off, none⟩) LN cap) := HRX.out.box.cell 0 _ rfl; clear hb4 hk4) | ((with_reducible show wpList _ _ _ (⟨_, .load 36 _, _, _, _, some _⟩ :: _) _ _); refine wp_load_box_g rfl _ rfl Wx.heap.size rfl HO4.out Try.underlying36 rfl infoIt13 ?_) | ((with_reducible show wpList _ _ _ (⟨_, .load 36 _, _, _, _, some _⟩ :: _) _ _); refine wp_load_box_g rfl _ rfl (w.heap.size + 1) rfl HI4.out Try.underlying36 rfl infoIt13 ?_) | ((with_reducible show wpList _ _ _ (⟨_, .call _, _, _, _, none⟩ :: _) _ _); refine wp_recs recWR _ rfl _ _ rfl w4.heap.size (.slice none 0 0) (.slice (some ⟨b, off, none⟩) LN cap) [] t rfl (World.ownsRow_nil _ _ _ _) rfl HSX.out (wrs_one _) (by simp; rw [← HLN.out]; omega) (Nat.le_refl _) ?_; intro v5 w5 ho5 hg5 _; rw [List.nil_append] at ho5; obtain ⟨gg, cap5, cur, hv5, hgb, hcur⟩ := row_at ho5 (by rw [← HLN.out]; omega); rw [← HLN.out] at hv5 hcur; subst hv5; have HCU := hide hcur; have hB5 := (Below.refl w4.heap.size w4).grown hg5 (Nat.le_refl _) (fun j hj => by cases hj); have HB5 := hide hB5; have HI5 := hide (HI4.out.belowI hB5); have HGB := hide hgb; have hgl := HCU.out.1.lt; clear ho5 hg5 hcur hB5 hgb) | ((with_reducible show wpList _ _ _ (⟨_, .load 36 _, _, _, _, none⟩ :: _) _ _); refine wp_load_box rfl _ rfl (w.heap.size + 1) rfl HI5.out Try.underlying36 rfl infoIt13 ?_) | ((with_reducible show wpList _ _ _ (⟨none, .store 36 _ _, _, _, _, _⟩ :: _) _ _); refine wp_store_mid13 rfl rfl _ _ rfl gg (J * 21 + 8) rfl (v := .agg (itA i)) rfl HCU.out.1 rfl (by rw [HCU.out.2.1]; exact mid_fits HCU.out.2.2.1 hJn) infoIt13 (it_all13 i) ?_; intro w6 hb6 hk6; have HW6 := hide (row_set (base := w4.heap.size) HLN.out hJn HAT.out HGB.out HCU.out hb6); have HB6 := hide (HB5.out.trans (hk6.below HB5.out.size (fun j hj => by rw [hj]; exact HGB.out))); have HR6 := hide (HRX.out.below HB6.out); have c4 : w6.cell? ⟨p, 0, none⟩ = some (.slice (some ⟨b, off, none⟩) LN cap) := HR6.out.box.cell 0 _ rfl; have c5 := HR6.out.box.frozen 0; clear hb6 hk6))
  go_ret
  rw [← HJ.out] at HPS
  have hw6 := HW6.out
  rw [← HPS.out] at hw6
  exact ⟨rfl, ((HRX.out.put HB6.out hw6 HOK.out.1 HOK.out.2).before HB4.out).before HB.out⟩
set_option maxRecDepth 100000 in
set_option maxHeartbeats 3200000 in
theorem rins_newer (p : Nat) (vb : Value) (t : List WrP) (k : List Int) (i : ItP) (w : World) (h : RTb w p vb t) (hk : KeyOk k) (hi : ItOk i) (hl : i.val.length ≤ 9223372036854775807) (o : ItP) (hm : (nameF k).2 = true) (hm2 : itMayB i = true) (hg : getT t k = some o) (hv : o.ver < i.ver) (hok : TbOk (putT t k i) ∧ ∀ x ∈ putT t k i, KeyOk x.key ∧ ItOk x.it) :
    Calls Try.prog 13 #[.pointer (some ⟨p, 0, none⟩), .agg (eightA k), .agg (itA i)] w fun e w' => e = .returned (.int .i64 (0)) ∧ RTid w w' p vb (putT t k i) := by
  have v1 : ¬ (i.ver : Int) < (o.ver : Int) := by omega
  have v2 : decide ((o.ver : Int) > (i.ver : Int)) = false := decide_eq_false v1
  have v3 : ((o.ver : Int) == (i.ver : Int)) = false := by simp; omega
  have v4 : ¬ (o.ver : Int) = (i.ver : Int) := by omega
  clear hv
  have hA := alloc_below13 w (.cells (eightA k) 31)
  have hA2 := alloc_below13 (w.alloc (.cells (eightA k) 31)) (.cells (itA i) 36)
  have hB2 : Below w.heap.size w ((w.alloc (.cells (eightA k) 31)).alloc (.cells (itA i) 36)) := hA.trans (hA2.mono hA.size)
  have HXK := hide ((box_new w (eightA k) 31).belowI hA2)
  have HXI : Hid (Box ((w.alloc (.cells (eightA k) 31)).alloc (.cells (itA i) 36)) (w.heap.size + 1) (itA i) 36) := hide (by have := box_new (w.alloc (.cells (eightA k) 31)) (itA i) 36; simpa using this)
  have HB := hide hB2
  have H0 := hide h
  have HK := hide hk
  have HI := hide hi
  have CK := hide (rkeyMay_any k hk ((w.alloc (.cells (eightA k) 31)).alloc (.cells (itA i) 36)))
  have CM := hide (fun W => ritem_any i hi hl W)
  clear hA hA2 hB2 h hk hi hl
  have HOK := hide hok
  have HPS := hide (put_set hg i)
  clear hok
  rw [hm] at CK
  rw [hm2] at CM
  have hfew := H0.out.ok.few
  obtain ⟨ao, cap, hvb, hcap, hcm⟩ := H0.out.src.shape
  obtain ⟨LN, hLN⟩ : ∃ LN, LN = t.length := ⟨_, rfl⟩
  rw [← hLN] at hvb hfew hcap
  subst hvb
  have HLN := hide hLN
  have HC : Hid (LN ≤ cap ∧ cap ≤ maxLen) := hide ⟨hcap, hcm⟩
  obtain ⟨J, hJ⟩ : ∃ J, J = (upT t k).length := ⟨_, rfl⟩
  have HJ := hide hJ
  have hJL : J ≤ LN := by
    have := congrArg List.length (up_dn t k)
    rw [List.length_append] at this
    omega
  clear hLN hcap hcm hJ hm hm2
  go_enter Try.func13, Try.ntmps13
  go_wp2_with (first | (refine wp_load_box rfl _ rfl w.heap.size rfl HXK.out Try.underlying31 rfl infoKey13 ?_))
  refine CK.out.mono ?_
  rintro e w1 ⟨rfl, hB1⟩
  replace HB := hide (HB.out.trans (hB1.mono HB.out.size))
  replace HXK := hide (HXK.out.belowI hB1)
  replace HXI := hide (HXI.out.belowI hB1)
  clear hB1 CK
  go_wp2_with (first | (refine wp_load_box_g rfl _ rfl (w.heap.size + 1) rfl HXI.out Try.underlying36 rfl infoIt13 ?_))
  refine (CM.out w1).mono ?_
  rintro e w2 ⟨rfl, hB2⟩
  replace HB := hide (HB.out.trans (hB2.mono HB.out.size))
  replace HXK := hide (HXK.out.belowI hB2)
  replace HXI := hide (HXI.out.belowI hB2)
  clear hB2 CM
  have HR2 := hide (H0.out.below HB.out)
  have CP := rplace_any p LN cap ao t k w2 (HR2.out.box.cell 0 _ rfl) HR2.out.box.lt HR2.out.src HK.out (fun x hx => (H0.out.oks x hx).1) (by rw [← HLN.out]; omega)
  rw [← HJ.out, hg] at CP
  simp only [Option.isSome_some] at CP
  have CP := hide CP
  go_wp2_with (first | (refine wp_load_box rfl _ rfl w.heap.size rfl HXK.out Try.underlying31 rfl infoKey13 ?_))
  refine CP.out.mono ?_
  rintro e Wx ⟨rfl, hB3⟩
  replace HB := hide (HB.out.trans (hB3.mono HB.out.size))
  replace HXK := hide (HXK.out.belowI hB3)
  replace HXI := hide (HXI.out.belowI hB3)
  replace HR2 := hide (HR2.out.below hB3)
  have c0 : Wx.cell? ⟨p, 0, none⟩ = some (.slice ao LN cap) := HR2.out.box.cell 0 _ rfl
  clear hB3 CP
  obtain ⟨hlt, hat⟩ := get_at hg
  rw [← HJ.out] at hlt hat
  rw [List.getElem?_eq_getElem hlt] at hat
  replace hat := Option.some.inj hat
  have hJn : J < LN := by rw [HLN.out]; exact hlt
  have hJI : (J : Int) < (LN : Int) := by omega
  have hs3 := HR2.out.src
  obtain ⟨en9, b, off, e9, hb, hcl⟩ := hs3.at recWR.len hlt
  obtain rfl := e9
  have HRI : Hid (Wx.rangeAt b (off + J * 21 + 8) (itE o)) := hide (fun m v hv => by
    have h := hcl (8 + m) v (by
      rw [hat]
      show (eightE k ++ itE o)[8 + m]? = some v
      rw [List.getElem?_append_right (by simp)]
      simpa using hv)
    rw [← Nat.add_assoc] at h
    exact h)
  have HAT : Hid (t[J]? = some ⟨k, o⟩) := hide (by rw [List.getElem?_eq_getElem hlt, hat])
  have HZ := hide (box_new Wx (itA zeroIt) 36)
  have HZB := hide (alloc_below13 Wx (.cells (itA zeroIt) 36))
  have hli := HXI.out.lt
  clear hcl hb en9 hat hlt hs3
  go_wp2_with (first | ((with_reducible show wpList _ _ _ (⟨_, .load 36 _, _, _, _, none⟩ :: _) _ _); refine wpList_load_mid rfl 36 _ rfl b (off + J * 21 + 8) rfl (itE o) _ HRI.out Try.underlying36 rfl infoIt13 ?_) | ((with_reducible show wpList _ _ _ (⟨none, .store _ _ _, _, _, _, _⟩ :: _) _ _); refine wp_store_box rfl rfl _ _ rfl Wx.heap.size rfl (cs' := itA o) rfl HZ.out rfl infoIt13 (itA_one13 _) ?_; intro w4 hb4 hk4; have HO4 := hide hb4; have HI4 := hide ((HXI.out.belowI HZB.out).keep hk4 (by omega)); have HB4 := hide (HZB.out.trans (hk4.below HZB.out.size (fun j hj => by omega))); have c1 : w4.cell? ⟨Wx.heap.size, 0, none⟩ = some (.int .u32 (o.ver : Int)) := HO4.out.cell 0 _ rfl; have c2 : w4.cell? ⟨w.heap.size + 1, 0, none⟩ = some (.int .u32 (i.ver : Int)) := HI4.out.cell 0 _ rfl; have HRX := hide (HR2.out.below HB4.out); have HSX := hide HRX.out.src; have c3 : w4.cell? ⟨p, 0, none⟩ = some (.slice (some ⟨b, off, none⟩) LN cap) := HRX.out.box.cell 0 _ rfl; clear hb4 hk4) | ((with_reducible show wpList _ _ _ (⟨_, .call _, _, _, _, none⟩ :: _) _ _); refine wp_recs recWR _ rfl _ _ rfl w4.heap.size (.slice none 0 0) (.slice (some ⟨b, off, none⟩) LN cap) [] t rfl (World.ownsRow_nil _ _ _ _) rfl HSX.out (wrs_one _) (by simp; rw [← HLN.out]; omega) (Nat.le_refl _) ?_; intro v5 w5 ho5 hg5 _; rw [List.nil_append] at ho5; obtain ⟨gg, cap5, cur, hv5, hgb, hcur⟩ := row_at ho5 (by rw [← HLN.out]; omega); rw [← HLN.out] at hv5 hcur; subst hv5; have HCU := hide hcur; have hB5 := (Below.refl w4.heap.size w4).grown hg5 (Nat.le_refl _) (fun j hj => by cases hj); have HB5 := hide hB5; have HI5 := hide (HI4.out.belowI hB5); have HGB := hide hgb; have hgl := HCU.out.1.lt; clear ho5 hg5 hcur hB5 hgb) | ((with_reducible show wpList _ _ _ (⟨_, .load 36 _, _, _, _, none⟩ :: _) _ _); refine wp_load_box rfl _ rfl (w.heap.size + 1) rfl HI5.out Try.underlying36 rfl infoIt13 ?_) | ((with_reducible show wpList _ _ _ (⟨none, .store 36 _ _, _, _, _, _⟩ :: _) _ _); refine wp_store_mid13 rfl rfl _ _ rfl gg (J * 21 + 8) rfl (v := .agg (itA i)) rfl HCU.out.1 rfl (by rw [HCU.out.2.1]; exact mid_fits HCU.out.2.2.1 hJn) infoIt13 (it_all13 i) ?_; intro w6 hb6 hk6; have HW6 := hide (row_set (base := w4.heap.size) HLN.out hJn HAT.out HGB.out HCU.out hb6); have HB6 := hide (HB5.out.trans (hk6.below HB5.out.size (fun j hj => by rw [hj]; exact HGB.out))); have HR6 := hide (HRX.out.below HB6.out); have c4 : w6.cell? ⟨p, 0, none⟩ = some (.slice (some ⟨b, off, none⟩) LN cap) := HR6.out.box.cell 0 _ rfl; have c5 := HR6.out.box.frozen 0; clear hb6 hk6))
  go_ret
  rw [← HJ.out] at HPS
  have hw6 := HW6.out
  rw [← HPS.out] at hw6
  exact ⟨rfl, ((HRX.out.put HB6.out hw6 HOK.out.1 HOK.out.2).before HB4.out).before HB.out⟩
theorem rins_any (p : Nat) (vb : Value) (t : List WrP) (k : List Int) (i : ItP) (w : World) (h : RTb w p vb t) (hk : KeyOk k) (hi : ItOk i) (hl : i.val.length ≤ 9223372036854775807) :
    Calls Try.prog 13 #[.pointer (some ⟨p, 0, none⟩), .agg (eightA k), .agg (itA i)] w fun e w' => e = .returned (.int .i64 (insA t k i)) ∧ RTid w w' p vb (insD t k i) := by
  have hput : insA t k i = 0 → insD t k i = putT t k i ∧ TbOk (putT t k i) ∧ ∀ x ∈ putT t k i, KeyOk x.key ∧ ItOk x.it := fun hA => ⟨by unfold insD; rw [if_pos hA], put_ok h.ok hk.l i hA, put_oks h.ok h.oks hk hi⟩
  cases hm : (nameF k).2 with
  | false =>
    obtain ⟨e1, e2⟩ := ins_arg (t := t) (j := i) hm
    rw [e1, e2]
    exact rins_arg1 p vb t k i w h hk hi hl hm
  | true =>
    cases hm2 : itMayB i with
    | false =>
      have e1 : insA t k i = 1 := by unfold insA; rw [hm, hm2]; rfl
      rw [e1, ins_same (by rw [e1]; decide)]
      exact rins_arg2 p vb t k i w h hk hi hl hm hm2
    | true =>
      cases hg : getT t k with
      | none =>
        have e0 : insA t k i = if 64 ≤ t.length then 5 else 0 := by unfold insA; rw [hm, hm2, hg]; rfl
        by_cases hf : 64 ≤ t.length
        · rw [if_pos hf] at e0
          rw [e0, ins_same (by rw [e0]; decide)]
          exact rins_many p vb t k i w h hk hi hl hm hm2 hg hf
        · rw [if_neg hf] at e0
          obtain ⟨e1, e2⟩ := hput e0
          rw [e0, e1]
          exact rins_new p vb t k i w h hk hi hl hm hm2 hg (by omega) e2
      | some o =>
        have e0 : insA t k i = if i.ver < o.ver then 13 else if o.ver = i.ver ∧ itEqB o i = false then 7 else 0 := by unfold insA; rw [hm, hm2, hg]; rfl
        by_cases h1 : i.ver < o.ver
        · rw [if_pos h1] at e0
          rw [e0, ins_same (by rw [e0]; decide)]
          exact rins_old p vb t k i w h hk hi hl o hm hm2 hg h1
        · rw [if_neg h1] at e0
          by_cases h2 : o.ver = i.ver
          · by_cases h3 : o = i
            · rw [if_neg (fun h4 => by have := (itEqB_iff o i).2 h3; rw [h4.2] at this; cases this)] at e0
              obtain ⟨e1, e2⟩ := hput e0
              rw [e0, e1]
              exact rins_same p vb t k i w h hk hi hl o hm hm2 hg h2 h3 e2
            · rw [if_pos ⟨h2, by cases h4 : itEqB o i with
                | false => rfl
                | true => exact absurd ((itEqB_iff o i).1 h4) h3⟩] at e0
              rw [e0, ins_same (by rw [e0]; decide)]
              exact rins_other p vb t k i w h hk hi hl o hm hm2 hg h2 h3
          · rw [if_neg (fun h4 => h2 h4.1)] at e0
            obtain ⟨e1, e2⟩ := hput e0
            rw [e0, e1]
            exact rins_newer p vb t k i w h hk hi hl o hm hm2 hg (by omega) e2
end
section
open Go.RowKit Classical

section
variable {D : World → Nat → (Nat → Prop) → List WrP → Prop}
structure Duo13 (D : World → Nat → (Nat → Prop) → List WrP → Prop) (w : World) (q p : Nat) (F : Nat → Prop) (vb : Value) (t s : List WrP) (W : World) : Prop where
  dd : D W q F t
  rr : RTb W p vb s
  ff : ∀ k, F k → w.heap.size ≤ k
  uu : ∀ k, usesT p vb k → w.heap.size ≤ k
  ap : ∀ k, usesT p vb k → ¬ F k
  B : Below w.heap.size w W
theorem Duo13.below (H : TableDo D) {w W w' : World} {q p : Nat} {F : Nat → Prop} {vb : Value} {t s : List WrP} (h : Duo13 D w q p F vb t s W) (hB : Below W.heap.size W w') : Duo13 D w q p F vb t s w' :=
  ⟨H.below h.dd hB, h.rr.below hB, h.ff, h.uu, h.ap, h.B.trans (hB.mono h.B.size)⟩
theorem Duo13.prog {w W w' : World} {q p : Nat} {F : Nat → Prop} {vb : Value} {t s t' : List WrP} (h : Duo13 D w q p F vb t s W) (h2 : TDid D W w' q F t') : ∃ F', Duo13 D w q p F' vb t' s w' := by
  obtain ⟨F', h1, hk, hu⟩ := h2
  refine ⟨F', h1, h.rr.keep hk h.ap, fun k hk' => ?_, h.uu, fun k hu' hf => ?_, h.B.trans (hk.below h.B.size h.ff)⟩
  · rcases hu k hk' with e | e
    · exact h.ff k e
    · exact Nat.le_trans h.B.size e
  · rcases hu k hf with e | e
    · exact h.ap k hu' e
    · have := h.rr.lt k hu'; omega
theorem Duo13.ref (H : TableDo D) {w W w' : World} {q p : Nat} {F : Nat → Prop} {vb : Value} {t s s' : List WrP} (h : Duo13 D w q p F vb t s W) (h2 : RTid W w' p vb s') : ∃ vb', Duo13 D w q p F vb' t s' w' := by
  obtain ⟨vb', h1, hk, hu⟩ := h2
  have hF : ∀ k, F k → ¬ k = p := fun k hf e => h.ap p (.inl rfl) (e ▸ hf)
  have hus : ∀ k, usesT p vb' k → usesT p vb k ∨ W.heap.size ≤ k := by
    rintro k (e | e)
    · exact .inl (.inl e)
    · rcases hu with o | o
      · exact .inl (.inr (by rw [← o]; exact e))
      · exact .inr (o k e)
  refine ⟨vb', H.keep h.dd hk hF, h1, h.ff, fun k hk' => ?_, fun k hu' hf => ?_, h.B.trans (hk.below h.B.size (fun k e => by rw [e]; exact h.uu p (.inl rfl)))⟩
  · rcases hus k hk' with e | e
    · exact h.uu k e
    · exact Nat.le_trans h.B.size e
  · rcases hus k hu' with e | e
    · exact h.ap k e hf
    · have := H.lt h.dd k hf; omega
/-- A new one of the reference's. -/
theorem duo_new (H : TableDo D) {w W : World} {q : Nat} {t : List WrP} (h : Since13 D w q t W) : ∃ F, Duo13 D w q W.heap.size F (.slice none 0 0) t [] (W.alloc (.cells #[.slice none 0 0] 26)) := by
  obtain ⟨F, hD, hF, hB⟩ := h
  have hA := alloc_below13 W (.cells #[.slice none 0 0] 26)
  refine ⟨F, H.below hD hA, ⟨box_new W _ _, RSrc.nil _, tb_nil, (fun x hx => by cases hx), fun g e => by cases e⟩, hF, ?_, ?_, hB.trans (hA.mono hB.size)⟩
  · rintro k (rfl | e)
    · exact hB.size
    · cases e
  · rintro k (rfl | e) hf
    · have := H.lt hD _ hf; omega
    · cases e
end
end
section
open Go Go.RowKit

section
variable {P : Program} {ops : Array Oper} {Q : Exit → Act → World → Prop}

def dst? (ops : Array Oper) (i : Nat) : Option Tmp := (ops[i]?).bind (·.dst)
/-- What operation number i has left in its slot. -/
def valOf (ops : Array Oper) (a : Act) (i : Nat) : Value := match dst? ops i with
  | some d => a.tmps.getD d undef
  | none => undef
/-- What is known of the listing when operation number i comes up. -/
structure Now (ops : Array Oper) (listed : Array Bool) (i : Nat) (o : Oper) : Prop where
  un : listed.getD i true = false
  cl : ∀ (j : Nat) (u : Oper), ops[j]? = some u → listed.getD j true = true → ∀ e ∈ u.after, Region.binds .any e = true → listed.getD e.on true = true
  dl : ∀ e ∈ o.after, Region.binds .any e = true → listed.getD e.on true = true
/-- Number j hangs on number i. -/
def hangs (ops : Array Oper) : Nat → Nat → Nat → Bool
  | 0, _, _ => false
  | n + 1, j, i => match ops[j]? with
    | none => false
    | some u => u.after.any fun e => Region.binds .any e && (e.on == i || hangs ops n e.on i)
theorem unlisted_of {ops : Array Oper} {listed : Array Bool} {i : Nat} (hun : listed.getD i true = false) (hcl : ∀ (j : Nat) (u : Oper), ops[j]? = some u → listed.getD j true = true → ∀ e ∈ u.after, Region.binds .any e = true → listed.getD e.on true = true) : ∀ (n j : Nat), hangs ops n j i = true → listed.getD j true = false
  | 0, _, h => by cases h
  | n + 1, j, h => by
    unfold hangs at h
    cases hu : ops[j]? with
    | none => rw [hu] at h; cases h
    | some u =>
      rw [hu] at h
      simp only [Array.any_eq_true'] at h
      obtain ⟨e, he, h2⟩ := h
      rw [Bool.and_eq_true, Bool.or_eq_true] at h2
      cases hl : listed.getD j true with
      | false => rfl
      | true =>
        have h3 := hcl j u hu hl e he h2.1
        rcases h2.2 with h4 | h4
        · have h4 : e.on = i := by simpa using h4
          rw [h4, hun] at h3
          cases h3
        · rw [unlisted_of hun hcl n e.on h4] at h3
          cases h3
structure Each3 (ops : Array Oper) (I : Nat → Value → World → Prop) (S : Array Bool → World → Prop) (a0 : Act) (listed : Array Bool) (a : Act) (w : World) : Prop where
  s : S listed w
  sz : a.tmps.size = a0.tmps.size
  df : a.defers = a0.defers
  old : ∀ t, (∀ j, j < ops.size → dst? ops j ≠ some t) → a.tmps.getD t undef = a0.tmps.getD t undef
  new : ∀ i, i < ops.size → listed.getD i true = true → I i (valOf ops a i) w
  cl : ∀ (j : Nat) (u : Oper), ops[j]? = some u → listed.getD j true = true → ∀ e ∈ u.after, Region.binds .any e = true → listed.getD e.on true = true

/-- The closed conditions, as one test. -/
def eachOk3 (ops : Array Oper) (n : Nat) : Bool :=
  (List.range ops.size).all fun i => match ops[i]? with
    | none => false
    | some o => (match o.dst with | none => true | some d => decide (d < n)) && o.after.all (fun e => !Region.binds .any e || decide (e.on < i)) && (List.range ops.size).all fun j => i == j || dst? ops i == none || dst? ops i != dst? ops j
def offOps3 (ops : Array Oper) (t : Nat) : Bool := (List.range ops.size).all fun j => dst? ops j != some t
theorem offOps3_spec {t : Nat} (h : offOps3 ops t = true) : ∀ j, j < ops.size → dst? ops j ≠ some t := by
  intro j hj
  unfold offOps3 at h
  rw [List.all_eq_true] at h
  have := h j (by simpa using hj)
  simpa using this
theorem eachOk3_spec {n : Nat} (h : eachOk3 ops n = true) :
    (∀ (i : Nat) (d : Tmp), dst? ops i = some d → d < n) ∧
    (∀ i j d, i < ops.size → j < ops.size → dst? ops i = some d → dst? ops j = some d → i = j) ∧
    (∀ (i : Nat) (o : Oper), ops[i]? = some o → ∀ e ∈ o.after, Region.binds .any e = true → e.on < i) := by
  unfold eachOk3 at h
  rw [List.all_eq_true] at h
  have key : ∀ (i : Nat) (o : Oper), ops[i]? = some o → (∀ d, o.dst = some d → d < n) ∧ (∀ e ∈ o.after, Region.binds .any e = true → e.on < i) ∧ ∀ j, j < ops.size → (i = j ∨ dst? ops i = none) ∨ dst? ops i ≠ dst? ops j := by
    intro i o ho
    have hi : i < ops.size := (Array.getElem?_eq_some_iff.1 ho).1
    have := h i (by simpa using hi)
    rw [ho] at this
    simp only [Bool.and_eq_true, beq_iff_eq, Array.all_eq_true_iff_forall_mem, List.all_eq_true, Bool.or_eq_true, bne_iff_ne, List.mem_range, Bool.not_eq_true', decide_eq_true_eq] at this
    refine ⟨fun d hd => ?_, fun e he hb => ?_, this.2⟩
    · have h1 := this.1.1
      rw [hd] at h1
      simpa using h1
    · rcases this.1.2 e he with h1 | h1
      · rw [h1] at hb; cases hb
      · exact h1
  refine ⟨fun i d hd => ?_, fun i j d hi hj h1 h2 => ?_, fun i o ho => (key i o ho).2.1⟩
  · unfold dst? at hd
    cases ho : ops[i]? with
    | none => rw [ho] at hd; cases hd
    | some o => rw [ho] at hd; exact (key i o ho).1 d hd
  · rcases (key i ops[i] (by simp [hi])).2.2 j hj with (h3 | h3) | h3
    · exact h3
    · rw [h1] at h3; cases h3
    · exact absurd (h1.trans h2.symm) h3

theorem dep3_of {I : Nat → Value → World → Prop} {o : Oper} {a : Act} {w : World} (hdeps : ∀ e ∈ o.after, Region.binds .any e = true → I e.on (valOf ops a e.on) w) (j : Nat)
    (h : (o.after.toList.any fun e => e.on == j && Region.binds .any e) = true) : I j (valOf ops a j) w := by
  rw [List.any_eq_true] at h
  obtain ⟨e, he, h2⟩ := h
  simp only [Bool.and_eq_true, beq_iff_eq] at h2
  obtain ⟨rfl, hb⟩ := h2
  exact hdeps e (by simpa using he) hb
/-- An operation with a slot that leaves a value. -/
theorem t_value {i : Nat} {o : Oper} {a : Act} {w w' : World} {v : Value} {S : World → Prop} {R : World → Prop} {I : Nat → Value → World → Prop} (hi : ops[i]? = some o) (hw : Region.wanted o (yielded ops a.tmps) = true) {d : Tmp} (hd : o.dst = some d)
    (hr : (execOp a.eval o).run P w = .ok (.value v) w') (hS : S w') (hR : R w') (hv : I i v w') : wpOp P ops Q i (fun a' w' => S w' ∧ R w' ∧ ∃ v, I i v w' ∧ a' = a.put o.dst v ∧ (o.dst = none → v = undef)) a w :=
  each_value hi hw hr ⟨hS, hR, v, hv, rfl, fun h => by rw [hd] at h; cases h⟩
theorem t_enter {i : Nat} {o : Oper} {a : Act} {w : World} {f : FuncId} {args : Array Value} {S : World → Prop} {R : World → Prop} {I : Nat → Value → World → Prop} (hi : ops[i]? = some o) (hw : Region.wanted o (yielded ops a.tmps) = true) {d : Tmp} (hd : o.dst = some d)
    (hr : (execOp a.eval o).run P w = .ok (.enter f args) w) (h : Calls P f args w fun e w' => ∃ v, e = .returned v ∧ S w' ∧ R w' ∧ I i v w') : wpOp P ops Q i (fun a' w' => S w' ∧ R w' ∧ ∃ v, I i v w' ∧ a' = a.put o.dst v ∧ (o.dst = none → v = undef)) a w :=
  each_call hi hw hr (Calls.mono h fun _ _ ⟨v, he, hS, hR, hv⟩ => ⟨v, he, hS, hR, v, hv, rfl, fun h => by rw [hd] at h; cases h⟩)
def slots (ps : List (Option Tmp × Value)) : List (Nat × Value) := ps.filterMap fun x => x.1.map fun d => (d, x.2)
theorem listed_dep {listed : Array Bool} {i : Nat} {o : Oper} (hN : Now ops listed i o) (j : Nat) (h : (o.after.toList.any fun e => e.on == j && Region.binds .any e) = true) : listed.getD j true = true := by
  rw [List.any_eq_true] at h
  obtain ⟨e, he, h2⟩ := h
  simp only [Bool.and_eq_true, beq_iff_eq] at h2
  obtain ⟨rfl, hb⟩ := h2
  exact hN.dl e (by simpa using he) hb
theorem listed_ne {l : Array Bool} {i j : Nat} (h : i ≠ j) : (l.setIfInBounds i true).getD j true = l.getD j true := by
  simp [Array.getD_eq_getD_getElem?, Array.getElem?_setIfInBounds_ne h]
theorem listed_at {l : Array Bool} {i : Nat} : (l.setIfInBounds i true).getD i true = true := by
  by_cases h : i < l.size <;> simp [Array.getD_eq_getD_getElem?, h]
end
end
section
open Go Go.RowKit

section
variable {P : Program} {ops : Array Oper} {Q : Exit → Act → World → Prop}
theorem each_any4 (a0 : Act) (I : Nat → Value → World → Prop) (S : Array Bool → World → Prop) (R : Nat → World → World → Prop)
    (hdst : ∀ (i : Nat) (d : Tmp), dst? ops i = some d → d < a0.tmps.size)
    (hinj : ∀ i j d, i < ops.size → j < ops.size → dst? ops i = some d → dst? ops j = some d → i = j)
    (hac : ∀ (i : Nat) (o : Oper), ops[i]? = some o → ∀ e ∈ o.after, Region.binds .any e = true → e.on < i)
    (hI : ∀ i j v w w', i ≠ j → hangs ops ops.size j i = false → I j v w → R i w w' → I j v w')
    (hstep : ∀ (i : Nat) (o : Oper), ops[i]? = some o → ∀ (listed : Array Bool) (a : Act) (w : World), listed.size = ops.size → Now ops listed i o → S listed w → (∀ t, (∀ j, j < ops.size → dst? ops j ≠ some t) → a.tmps.getD t undef = a0.tmps.getD t undef) →
      (∀ e ∈ o.after, Region.binds .any e = true → I e.on (valOf ops a e.on) w) →
      wpOp P ops Q i (fun a' w' => S (listed.setIfInBounds i true) w' ∧ R i w w' ∧ ∃ v, I i v w' ∧ a' = a.put o.dst v ∧ (o.dst = none → v = undef)) a w)
    (hend : ∀ (listed : Array Bool) (a : Act) (w : World), (∀ i, i < ops.size → listed.getD i true = true) → S listed w → a.tmps.size = a0.tmps.size → a.defers = a0.defers → (∀ t, (∀ j, j < ops.size → dst? ops j ≠ some t) → a.tmps.getD t undef = a0.tmps.getD t undef) →
      (∀ i, i < ops.size → I i (valOf ops a i) w) → Q .normal a w) :
    ∀ (fuel : Nat) (listed : Array Bool) (a : Act) (w : World), listed.size = ops.size → openCount ops listed ≤ fuel → Each3 ops I S a0 listed a w → wpAny P .any ops Q fuel listed a w := by
  have hfin : ∀ (listed : Array Bool) (a : Act) (w : World), openCount ops listed = 0 → Each3 ops I S a0 listed a w → Q .normal a w := fun listed a w h0 hE =>
    hend listed a w (fun i hi => open_zero h0 hi) hE.s hE.sz hE.df hE.old fun i hi => hE.new i hi (open_zero h0 hi)
  -- where nothing may come up, all has come up: the first that has not waits for earlier ones alone
  have hready : ∀ (listed : Array Bool), listed.size = ops.size → Region.ready .any ops listed = [] → openCount ops listed = 0 := by
    intro listed hs hr
    have hall : ∀ n i, i < n → i < ops.size → listed.getD i true = true := by
      intro n
      induction n with
      | zero => intro i h; omega
      | succ n ih =>
        intro i h1 h2
        by_cases hlt : i < n
        · exact ih i hlt h2
        · obtain rfl : i = n := by omega
          cases hl : listed.getD i true with
          | true => rfl
          | false =>
            exfalso
            have : i ∈ Region.ready .any ops listed := by
              unfold Region.ready
              rw [List.mem_filter]
              refine ⟨by simpa using h2, ?_⟩
              have ho : ops[i]? = some ops[i] := by simp [h2]
              rw [hl, ho]
              simp only [Bool.not_false, Option.map_some, Option.getD_some, Bool.true_and, Array.all_eq_true_iff_forall_mem]
              intro e he
              cases hbe : Region.binds .any e with
              | false => simp
              | true =>
                have hlt := hac i _ ho e he hbe
                have h3 := ih e.on hlt (by omega)
                have h4 : listed.getD e.on false = true := by
                  have hlt2 : e.on < listed.size := by omega
                  simp only [Array.getD_eq_getD_getElem?, Array.getElem?_eq_getElem hlt2, Option.getD_some] at h3 ⊢
                  exact h3
                rw [h4]
                simp
            rw [hr] at this
            cases this
    unfold openCount
    rw [List.length_eq_zero_iff, List.filter_eq_nil_iff]
    intro i hi
    have hi' : i < ops.size := by simpa using hi
    simp [hall (i + 1) i (by omega) hi']
  intro fuel
  induction fuel with
  | zero =>
    intro listed a w hs hc hE
    have h0 : openCount ops listed = 0 := by omega
    refine ⟨?_, hfin listed a w h0 hE⟩
    unfold Region.ready
    rw [List.filter_eq_nil_iff]
    intro i hi
    have hi' : i < ops.size := by simpa using hi
    simp [open_zero h0 hi']
  | succ fuel ih =>
    intro listed a w hs hc hE
    refine ⟨fun hr => hfin listed a w (hready listed hs hr) hE, fun i hi => ?_⟩
    unfold Region.ready at hi
    rw [List.mem_filter] at hi
    obtain ⟨hi1, hi2⟩ := hi
    have hin : i < ops.size := by simpa using hi1
    have ho : ops[i]? = some ops[i] := by simp [hin]
    have hdo : dst? ops i = ops[i].dst := by unfold dst?; rw [ho]; rfl
    rw [ho] at hi2
    simp only [Option.map_some, Option.getD_some, Bool.and_eq_true, Bool.not_eq_true', Array.all_eq_true_iff_forall_mem] at hi2
    obtain ⟨hl, hdeps⟩ := hi2
    have hdl : ∀ e ∈ ops[i].after, Region.binds .any e = true → listed.getD e.on true = true := fun e he hb => by
      have h1 := hdeps e he
      rw [hb] at h1
      simp only [Bool.not_true, Bool.false_or] at h1
      have hon := hac i _ ho e he hb
      have hlt2 : e.on < listed.size := by omega
      simp only [Array.getD_eq_getD_getElem?, Array.getElem?_eq_getElem hlt2, Option.getD_some] at h1 ⊢
      exact h1
    have hst := hstep i _ ho listed a w hs ⟨hl, hE.cl, hdl⟩ hE.s hE.old (fun e he hb => hE.new e.on (by have := hac i _ ho e he hb; omega) (hdl e he hb))
    refine wpOp_mono (fun a' w' h => ?_) hst
    obtain ⟨hS', hB', v, hv, rfl, hnone⟩ := h
    have hcount := open_step hin hs hl
    refine ih _ _ _ (by simp [hs]) (by omega) ⟨hS', ?_, ?_, ?_, ?_, ?_⟩
    · cases hd : ops[i].dst <;> simp [Act.put, hE.sz]
    · cases hd : ops[i].dst <;> exact hE.df
    · intro t ht
      rw [← hE.old t ht]
      have hne := ht i hin
      rw [hdo] at hne
      cases hd : ops[i].dst with
      | none => rfl
      | some d =>
        have hne : d ≠ t := fun e => hne (by rw [hd, e])
        simp [Act.put, Array.getD_eq_getD_getElem?, Array.getElem?_setIfInBounds_ne hne]
    · intro j hj hlj
      by_cases e : i = j
      · subst e
        have : valOf ops (a.put ops[i].dst v) i = v := by
          unfold valOf
          rw [hdo]
          cases hd : ops[i].dst with
          | none => exact (hnone hd).symm
          | some d =>
            have hlt := hdst i d (by rw [hdo, hd])
            simp [Act.put, Array.getD_eq_getD_getElem?, hE.sz, hlt]
        rw [this]
        exact hv
      · have h1 : valOf ops (a.put ops[i].dst v) j = valOf ops a j := by
          unfold valOf
          cases hj2 : dst? ops j with
          | none => rfl
          | some dj =>
            cases hd : ops[i].dst with
            | none => rfl
            | some d =>
              have hne : d ≠ dj := fun h => e (hinj i j d hin hj (by rw [hdo, hd]) (by rw [hj2, h]))
              simp [Act.put, Array.getD_eq_getD_getElem?, Array.getElem?_setIfInBounds_ne hne]
        rw [h1]
        have h2 : listed.getD j true = true := by
          simpa [Array.getD_eq_getD_getElem?, Array.getElem?_setIfInBounds_ne e] using hlj
        have hng : hangs ops ops.size j i = false := by
          cases hh : hangs ops ops.size j i with
          | false => rfl
          | true => rw [unlisted_of hl hE.cl ops.size j hh] at h2; cases h2
        exact hI i j _ w w' e hng (hE.new j hj h2) hB'
    · intro j u hu hlj e he hb
      by_cases ei : i = e.on
      · rw [← ei]
        by_cases h : i < listed.size <;> simp [Array.getD_eq_getD_getElem?, h]
      · have h1 : (listed.setIfInBounds i true).getD e.on true = listed.getD e.on true := by simp [Array.getD_eq_getD_getElem?, Array.getElem?_setIfInBounds_ne ei]
        rw [h1]
        by_cases ej : i = j
        · subst ej
          rw [ho] at hu
          cases hu
          exact hdl e he hb
        · exact hE.cl j u hu (by simpa [Array.getD_eq_getD_getElem?, Array.getElem?_setIfInBounds_ne ej] using hlj) e he hb

/-- THE LAW, where what an operation left is asked to stand only what comes behind it: a region that draws, by what each of its operations leaves and does. -/
theorem wp_region_each4 {id : Nat} {a0 : Act} {w : World} (hm : P.follows .mixedOrders = true) (I : Nat → Value → World → Prop) (S : Array Bool → World → Prop) (R : Nat → World → World → Prop) (hok : eachOk3 ops a0.tmps.size = true)
    (hI : ∀ i j v w w', i ≠ j → hangs ops ops.size j i = false → I j v w → R i w w' → I j v w')
    (hS : S (Array.replicate ops.size false) w.drew)
    (hstep : ∀ (i : Nat) (o : Oper), ops[i]? = some o → ∀ (listed : Array Bool) (a : Act) (w : World), listed.size = ops.size → Now ops listed i o → S listed w → (∀ t, offOps3 ops t = true → a.tmps.getD t undef = a0.tmps.getD t undef) →
      (∀ e ∈ o.after, Region.binds .any e = true → I e.on (valOf ops a e.on) w) →
      wpOp P ops Q i (fun a' w' => S (listed.setIfInBounds i true) w' ∧ R i w w' ∧ ∃ v, I i v w' ∧ a' = a.put o.dst v ∧ (o.dst = none → v = undef)) a w)
    (hend : ∀ (listed : Array Bool) (a : Act) (w : World), (∀ i, i < ops.size → listed.getD i true = true) → S listed w → a.tmps.size = a0.tmps.size → a.defers = a0.defers → (∀ t, offOps3 ops t = true → a.tmps.getD t undef = a0.tmps.getD t undef) →
      (∀ i, i < ops.size → I i (valOf ops a i) w) → Q .normal a w) :
    (Code.region id ops true).wp P Q a0 w := by
  obtain ⟨h1, h2, h3⟩ := eachOk3_spec hok
  refine wp_region_any hm (each_any4 a0 I S R h1 h2 h3 hI ?_ ?_ ops.size _ a0 _ (by simp) ?_ ⟨hS, rfl, rfl, fun _ _ => rfl, ?_, ?_⟩)
  · intro i o ho listed a w1 hs hl hS1 hold hdeps
    exact hstep i o ho listed a w1 hs hl hS1 (fun t ht => hold t (offOps3_spec ht)) hdeps
  · intro listed a w1 hall hS1 hs hd hold hnew
    exact hend listed a w1 hall hS1 hs hd (fun t ht => hold t (offOps3_spec ht)) hnew
  · unfold openCount
    exact Nat.le_trans (List.length_filter_le _ _) (by simp)
  · intro i hi h
    simp [Array.getD_eq_getD_getElem?, hi] at h
  · intro j u hu h
    have hj : j < ops.size := (Array.getElem?_eq_some_iff.1 hu).1
    simp [Array.getD_eq_getD_getElem?, hj] at h
/-- A frame is what its slots hold. -/
theorem frame_slots {a0 a : Act} (hok : eachOk3 ops a0.tmps.size = true) (hs : a.tmps.size = a0.tmps.size) (hd : a.defers = a0.defers) (hold : ∀ t, offOps3 ops t = true → a.tmps.getD t undef = a0.tmps.getD t undef) :
    a = putAll a0 (slots ((List.range ops.size).map fun i => (dst? ops i, valOf ops a i))) := by
  obtain ⟨k1, k2, _⟩ := eachOk3_spec hok
  obtain ⟨ps, hps⟩ : ∃ ps, ps = (List.range ops.size).map fun i => (dst? ops i, valOf ops a i) := ⟨_, rfl⟩
  rw [← hps]
  have hpi : ∀ i d, i < ops.size → dst? ops i = some d → (d, valOf ops a i) ∈ slots ps := by
    intro i d hi hd
    unfold slots
    rw [List.mem_filterMap]
    exact ⟨(dst? ops i, valOf ops a i), by rw [hps]; exact List.mem_map.2 ⟨i, by simpa using hi, rfl⟩, by rw [hd]; rfl⟩
  have hfst : (slots ps).map (·.1) = (List.range ops.size).filterMap (dst? ops) := by
    rw [hps]
    unfold slots
    rw [List.map_filterMap, List.filterMap_map]
    congr 1
    funext i
    cases hx : dst? ops i <;> simp [hx]
  have hnd : ((slots ps).map (·.1)).Nodup := by
    rw [hfst]
    unfold List.Nodup
    rw [List.pairwise_filterMap]
    refine (List.nodup_range (n := ops.size)).imp_of_mem (fun {i j} hi hj hne b hb b' hb' e => ?_)
    subst e
    exact hne (k2 i j b (by simpa using hi) (by simpa using hj) hb hb')
  have ht : a.tmps = (putAll a0 (slots ps)).tmps := by
    refine Array.ext (by rw [hs, putAll_size]) (fun t h1 h2 => ?_)
    have key : a.tmps.getD t undef = (putAll a0 (slots ps)).tmps.getD t undef := by
      by_cases hoff : offOps3 ops t = true
      · rw [hold t hoff, putAll_off t (slots ps) a0 (fun x hx e => ?_)]
        have hm : x.1 ∈ (slots ps).map (·.1) := List.mem_map_of_mem hx
        rw [hfst, List.mem_filterMap] at hm
        obtain ⟨j, hj, hj2⟩ := hm
        exact offOps3_spec hoff j (by simpa using hj) (by rw [hj2, e])
      · unfold offOps3 at hoff
        rw [List.all_eq_true] at hoff
        have hex : ∃ j, j < ops.size ∧ dst? ops j = some t := by
          refine Classical.byContradiction fun hno => hoff (fun j hj => ?_)
          by_cases e : dst? ops j = some t
          · exact absurd ⟨j, by simpa using hj, e⟩ hno
          · simpa using e
        obtain ⟨j, hj, hjt⟩ := hex
        have hv : a.tmps.getD t undef = valOf ops a j := by
          unfold valOf
          rw [hjt]
        rw [hv, putAll_at _ (valOf ops a j) (slots ps) a0 (by omega) hnd (hpi j t hj hjt)]
    simpa [Array.getD_eq_getD_getElem?, h1, h2] using key
  have hd2 := putAll_defers (slots ps) a0
  cases a with
  | mk t d =>
    cases hp : putAll a0 (slots ps) with
    | mk t2 d2 =>
      rw [hp] at ht hd2
      simp only at ht hd hd2
      rw [ht, hd, hd2]
/-- THE LAW, THE FRAME BEHIND IT WRITTEN OUT, WITH LETTERS FOR WHAT IS NOT KNOWN AHEAD. -/
theorem wp_region_let {id : Nat} {a0 : Act} {w : World} (hm : P.follows .mixedOrders = true) (qs : (Nat → Value) → List (Nat × Value)) (hq : ∀ f, slots ((List.range ops.size).map fun i => (dst? ops i, f i)) = qs f) (I : Nat → Value → World → Prop) (S : Array Bool → World → Prop) (R : Nat → World → World → Prop) (hok : eachOk3 ops a0.tmps.size = true)
    (hI : ∀ i j v w w', i ≠ j → hangs ops ops.size j i = false → I j v w → R i w w' → I j v w')
    (hS : S (Array.replicate ops.size false) w.drew)
    (hstep : ∀ (i : Nat) (o : Oper), ops[i]? = some o → ∀ (listed : Array Bool) (a : Act) (w : World), listed.size = ops.size → Now ops listed i o → S listed w → (∀ t, offOps3 ops t = true → a.tmps.getD t undef = a0.tmps.getD t undef) →
      (∀ e ∈ o.after, Region.binds .any e = true → I e.on (valOf ops a e.on) w) →
      wpOp P ops Q i (fun a' w' => S (listed.setIfInBounds i true) w' ∧ R i w w' ∧ ∃ v, I i v w' ∧ a' = a.put o.dst v ∧ (o.dst = none → v = undef)) a w)
    (hend : ∀ (listed : Array Bool) (w : World) (f : Nat → Value), (∀ i, i < ops.size → listed.getD i true = true) → S listed w → (∀ i, i < ops.size → I i (f i) w) → Q .normal (putAll a0 (qs f)) w) :
    (Code.region id ops true).wp P Q a0 w := by
  refine wp_region_each4 hm I S R hok hI hS hstep (fun listed a w1 hall hS1 hs hd hold hnew => ?_)
  rw [frame_slots hok hs hd hold, hq]
  exact hend listed w1 (valOf ops a) hall hS1 hnew
/-- What an operation that has come up left, at its slot. -/
theorem slot_I {I : Nat → Value → World → Prop} {o : Oper} {a : Act} {w : World} (hdeps : ∀ e ∈ o.after, Region.binds .any e = true → I e.on (valOf ops a e.on) w) (j : Nat) {d : Tmp} (hd : dst? ops j = some d)
    (h : (o.after.toList.any fun e => e.on == j && Region.binds .any e) = true) : I j (a.tmps.getD d undef) w := by
  have := dep3_of hdeps j h
  unfold valOf at this
  rw [hd] at this
  exact this
/-- What another one that has come up hangs on has come up. -/
theorem listed_hangs {listed : Array Bool} {i : Nat} {o : Oper} (hN : Now ops listed i o) (d j n : Nat) (hd : (o.after.toList.any fun e => e.on == d && Region.binds .any e) = true) (h : hangs ops n d j = true) : listed.getD j true = true := by
  have h1 := listed_dep hN d hd
  cases hl : listed.getD j true with
  | true => rfl
  | false => rw [unlisted_of hl hN.cl n d h] at h1; cases h1
/-- What is known by which of two operations has come up. -/
def Ph (a b : Nat) (A B C : World → Prop) (l : Array Bool) (W : World) : Prop := (l.getD a true = false → A W) ∧ (l.getD a true = true → l.getD b true = false → B W) ∧ (l.getD b true = true → C W)
theorem Ph.skip {a b i : Nat} {A B C : World → Prop} {l : Array Bool} {W : World} (h1 : i ≠ a) (h2 : i ≠ b) (h : Ph a b A B C l W) : Ph a b A B C (l.setIfInBounds i true) W := by
  unfold Ph
  rw [listed_ne h1, listed_ne h2]
  exact h
theorem Ph.map {a b : Nat} {A B C : World → Prop} {l : Array Bool} {W W' : World} (h : Ph a b A B C l W) (hA : A W → A W') (hB : B W → B W') (hC : C W → C W') : Ph a b A B C l W' := ⟨fun e => hA (h.1 e), fun e e2 => hB (h.2.1 e e2), fun e => hC (h.2.2 e)⟩
theorem Ph.first {a b : Nat} {A B C : World → Prop} {l : Array Bool} {W : World} (hab : a ≠ b) (hb : l.getD b true = false) (h : B W) : Ph a b A B C (l.setIfInBounds a true) W := by
  refine ⟨fun e => ?_, fun _ _ => h, fun e => ?_⟩
  · rw [listed_at] at e; cases e
  · rw [listed_ne hab, hb] at e; cases e
theorem Ph.second {a b : Nat} {A B C : World → Prop} {l : Array Bool} {W : World} (hab : b ≠ a) (ha : l.getD a true = true) (h : C W) : Ph a b A B C (l.setIfInBounds b true) W := by
  refine ⟨fun e => ?_, fun _ e => ?_, fun _ => h⟩
  · rw [listed_ne hab, ha] at e; cases e
  · rw [listed_at] at e; cases e
end
end
end Go.Proofs.Ytlngejmojpkdkaa
