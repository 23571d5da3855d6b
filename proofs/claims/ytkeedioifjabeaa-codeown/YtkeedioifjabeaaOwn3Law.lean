/-
  Proved: what was written, and what was handed in, may be written over; a nil writer and a nil reader are as the document says: whatever bytes and field come (those of more than 65536 bytes are passed by, as the law says). For every input of the form's own reach. Own work.
-/
import Derived.Test.YtkeedioifjabeaaFieldsOpen
import Derived.Test.YtkeedioifjabeaaPair
import Derived.Test.YtkeedioifjabeaaEqVals
import Derived.Test.YtkeedioifjabeaaBulk
import Derived.Deep.RegionHeld
namespace Go.Proofs.Ytkeedioifjabeaa
open Go.ChangeShapes Go.WideShapes Go.ChangeAt Go.RowKit

theorem both_new (w1 : World) : Both (cwOf w1.heap.size) ((w1.alloc (.cells #[.slice none 0 0] 27)).alloc (.cells #[.slice none 0 0] 29)) (cwF w1.heap.size (.slice none 0 0)) (w1.heap.size + 1) (.slice none 0 0) [] := by
  have hb := boxes_two w1 #[.slice none 0 0] #[.slice none 0 0] 27 29
  refine ⟨⟨.slice none 0 0, ⟨hb.1, World.ownsRow_nil _ _ _ _⟩, fun _ => Iff.rfl⟩, ⟨hb.2, World.ownsRow_nil _ _ _ _⟩, fun k hk => ⟨?_, fun e => by cases e⟩⟩
  rcases hk with e | e
  · omega
  · cases e
theorem both_new' (w1 : World) : Both (cwOf (w1.heap.size + 1)) ((w1.alloc (.cells #[.slice none 0 0] 29)).alloc (.cells #[.slice none 0 0] 27)) (cwF (w1.heap.size + 1) (.slice none 0 0)) w1.heap.size (.slice none 0 0) [] := by
  have hb := boxes_two w1 #[.slice none 0 0] #[.slice none 0 0] 29 27
  refine ⟨⟨.slice none 0 0, ⟨hb.2, World.ownsRow_nil _ _ _ _⟩, fun _ => Iff.rfl⟩, ⟨hb.1, World.ownsRow_nil _ _ _ _⟩, fun k hk => ⟨?_, fun e => by cases e⟩⟩
  rcases hk with e | e
  · omega
  · cases e
/-- A row of bytes that is written over: its cells are bytes still, all else is as it was. -/
def Over (w0 w : World) (v : Value) (n : Nat) : Prop :=
  KeepBut (fun k => v.ownBlock = some k) w0 w ∧ (n = 0 ∨ ∃ (g cap : Nat) (cur : Array Value), v = .slice (some ⟨g, 0, none⟩) n cap ∧ Box w g cur 5 ∧ ∀ t, t < n → ∃ z : Int, cur[t]? = some (.int .u8 z))
theorem Over.start {w : World} {base n : Nat} {v : Value} {xs : List Int} (h : w.ownsRow base 5 1 v n (xs.map (Value.int .u8))) : Over w w v n := by
  refine ⟨KeepBut.refl _ _, ?_⟩
  have hl : xs.length = n := by simpa using h.1
  obtain ⟨_, ⟨_, h0⟩ | ⟨g, cap, cur, rfl, _, hh, hn, _, hsz, htake⟩⟩ := h
  · exact .inl h0
  · refine .inr ⟨g, cap, cur, rfl, hh, fun t ht => ⟨xs.getD t 0, ?_⟩⟩
    have h1 : (cur.toList.take (n * 1))[t]? = (xs.map (Value.int .u8))[t]? := by rw [htake]
    rw [List.getElem?_take_of_lt (by omega)] at h1
    have h2 : cur[t]? = (xs.map (Value.int .u8))[t]? := by simpa using h1
    rw [h2]
    simp [List.getD, show t < xs.length by omega]
theorem Over.step {w0 w : World} {g n cap k : Nat} {cur : Array Value} (hk : KeepBut (fun k => (Value.slice (some ⟨g, 0, none⟩) n cap).ownBlock = some k) w0 w) (hb : Box w g cur 5) (hc : ∀ t, t < n → ∃ z : Int, cur[t]? = some (.int .u8 z)) (z : Int) :
    Over w0 (w.setCell ⟨g, k, none⟩ (.int .u8 z)) (.slice (some ⟨g, 0, none⟩) n cap) n := by
  refine ⟨hk.setCell (p := ⟨g, k, none⟩) (.inl rfl) _, .inr ⟨g, cap, _, rfl, hb.set, fun t ht => ?_⟩⟩
  obtain ⟨z', hz'⟩ := hc t ht
  by_cases e : k = t
  · subst e
    refine ⟨z, ?_⟩
    have hlt : k < cur.size := (Array.getElem?_eq_some_iff.1 hz').1
    simp [hlt]
  · exact ⟨z', by rw [Array.getElem?_setIfInBounds_ne e]; exact hz'⟩
theorem field_of_trod {H : Type} {enc : TypeId × Value → H} {W : World} {r : Reach} {base : Nat} {v : Value} {d : DataW H} {p : List MemPlace} (hv : Value.okWide Try.prog W r base 33 v)
    (h : DataW.Trod enc Try.prog W 0 (fun _ => true) true 33 v d p) : ∃ f : Fld, v = .agg (fcells f) ∧ f.ok ∧ f.s.size ∈ d.weights Try.prog 33 := by
  obtain ⟨cs, rfl, _⟩ := okWide_struct Try.underlying33 hv
  obtain ⟨fuel, hf⟩ := h
  obtain ⟨f, hcs, hok, hw⟩ := fld_of_trod hf
  refine ⟨f, ?_, hok, hw⟩
  have : cs.toList = (fcells f).toList := hcs
  rw [Array.toList_inj.1 this]

/-- What was there ahead of the copies: the writers, the field. -/
structure Kit (N pf pc pv : Nat) (vc v1 : Value) (ys : List Int) (cs : Array Value) (w : World) : Prop where
  cw : CW w pc vc ys
  rv : RWr w pv v1 ys
  bf : Box w pf cs 33
  lf : pf < N
  lc : pc < N
  lv : pv < N
  oc : ∀ g, vc.ownBlock = some g → g < N
  ov : ∀ g, v1.ownBlock = some g → g < N
theorem Kit.keep {N pf pc pv : Nat} {vc v1 : Value} {ys : List Int} {cs : Array Value} {w w' : World} {S : Nat → Prop} (h : Kit N pf pc pv vc v1 ys cs w) (hk : KeepBut S w w') (hS : ∀ k, S k → N ≤ k) : Kit N pf pc pv vc v1 ys cs w' :=
  ⟨h.cw.keep hk (fun e => Nat.lt_irrefl _ (Nat.lt_of_lt_of_le h.lc (hS _ e))) (fun g hg e => Nat.lt_irrefl _ (Nat.lt_of_lt_of_le (h.oc g hg) (hS _ e))),
    h.rv.keep hk (fun e => Nat.lt_irrefl _ (Nat.lt_of_lt_of_le h.lv (hS _ e))) (fun g hg e => Nat.lt_irrefl _ (Nat.lt_of_lt_of_le (h.ov g hg) (hS _ e))),
    h.bf.keep hk (fun e => Nat.lt_irrefl _ (Nat.lt_of_lt_of_le h.lf (hS _ e))), h.lf, h.lc, h.lv, h.oc, h.ov⟩
theorem Kit.below {N pf pc pv : Nat} {vc v1 : Value} {ys : List Int} {cs : Array Value} {w w' : World} (h : Kit N pf pc pv vc v1 ys cs w) (hB : Below w.heap.size w w') : Kit N pf pc pv vc v1 ys cs w' :=
  h.keep (KeepBut.of_below (fun _ => False) hB) (fun _ h => h.elim)
namespace own3
set_option maxRecDepth 100000 in
set_option maxHeartbeats 6400000 in
theorem walkN (v0 : Value) (f : Fld) (bs : List Int) (W : World) (hL : Lies .u8 W v0 bs) (hbb : ∀ c ∈ bs, 0 ≤ c ∧ c < 256) (hf : f.ok) :
    Calls Try.prog 7 #[v0, .agg (fcells f)] W fun e w' => e = .returned (.bool true) ∧ Below W.heap.size W w' := by
  have hef := eql_fault
  have hnk := neq_key
  have hmb := hL.len
  unfold maxLen at hmb
  obtain ⟨ab, cb, rfl⟩ := hL.shape
  have HL := hide hL
  have HFO := hide hf
  have hss := hf.s
  have CWR := hide (fun (ptr : Value) (C : CWr ptr) (w : World) (F : Nat → Prop) (p : Nat) (v : Value) (xs : List Int) (h : Both C w F p v xs) (hr : roomFor (xs.length + f.s.size)) => write_any C f hf w F p v xs h hr)
  have HFL := hide (fieldB_len f hf)
  obtain ⟨kd, nn, st, mo⟩ := f
  simp only [fcells] at CWR HFL hss ⊢
  clear hL hf
  by_cases hNb : 65536 < bs.length
  · have hdb : (65536 : Int) < (bs.length : Int) := by omega
    clear HL CWR HFO HFL
    generalize bs.length = nb at *
    go_enter Try.func7, Try.ntmps7
    go_wp2_with (go_at_call 9; refine (alive_any _).mono ?_; rintro e w2 ⟨rfl, hB2⟩; have HB2 := hide hB2; clear hB2)
    go_ret
    exact ⟨rfl, ((Below.refl _ _).alloc (Nat.le_refl _) _).trans (HB2.out.mono (by simp))⟩
  have hdb : (bs.length : Int) ≤ 65536 := by omega
  by_cases hNs : 65536 < st.size
  · have hds : (65536 : Int) < (st.size : Int) := by omega
    clear HL CWR HFO HFL
    generalize bs.length = nb at *
    go_enter Try.func7, Try.ntmps7
    go_wp2_with (go_at_call 9; refine (alive_any _).mono ?_; rintro e w2 ⟨rfl, hB2⟩; have HB2 := hide hB2; clear hB2)
    go_ret
    exact ⟨rfl, ((Below.refl _ _).alloc (Nat.le_refl _) _).trans (HB2.out.mono (by simp))⟩
  have hds : (st.size : Int) ≤ 65536 := by omega
  generalize hFB : fieldB ⟨kd, nn, st, mo⟩ = ys at *
  have hyl : ys.length ≤ 65546 := by have := HFL.out; omega
  clear hFB HFL HFO
  have HB0 := hide ((Below.refl W.heap.size W).alloc (Nat.le_refl _) (.cells #[.int .u8 (kd : Nat), .int .u64 (nn : Nat), .string st, .int .i64 mo] 33))
  have HBF0 := hide (box_new W #[.int .u8 (kd : Nat), .int .u64 (nn : Nat), .string st, .int .i64 mo] 33)
  have HA0 := hide (both_new (W.alloc (.cells #[.int .u8 (kd : Nat), .int .u64 (nn : Nat), .string st, .int .i64 mo] 33)))
  have hs0 : (W.alloc (.cells #[.int .u8 (kd : Nat), .int .u64 (nn : Nat), .string st, .int .i64 mo] 33)).heap.size = W.heap.size + 1 := by simp
  rw [hs0] at HA0
  clear hs0
  have HBF1 := hide ((HBF0.out.keep ((KeepBut.refl (fun _ => False) _).alloc (.cells #[.slice none 0 0] 27)) (fun h => h)).keep ((KeepBut.refl (fun _ => False) _).alloc (.cells #[.slice none 0 0] 29)) (fun h => h))
  have HB1 := hide ((HB0.out.alloc HB0.out.size (.cells #[.slice none 0 0] 27)).alloc (Nat.le_trans HB0.out.size (by simp)) (.cells #[.slice none 0 0] 29))
  have C1 := hide (CWR.out _ _ _ _ _ _ _ HA0.out (by unfold roomFor; simp; omega))
  clear HBF0 HB0
  go_enter Try.func7, Try.ntmps7
  go_wp2_with fail
  refine C1.out.mono ?_
  rintro e w1 ⟨rfl, F1, v1, hA1, hK1, hF1, hV1⟩
  rw [List.nil_append] at hA1
  have HW1 : Hid (Below W.heap.size W w1) := hide (HB1.out.trans (hK1.below HB1.out.size (fun k hk => by
    rcases hk with e | e | e
    · rcases e with e | e
      · omega
      · cases e
    · omega
    · cases e)))
  have HBF := hide (HBF1.out.keep hK1 (fun hk => by
    rcases hk with e | e | e
    · rcases e with e | e
      · omega
      · cases e
    · omega
    · cases e))
  have HA1 := hide hA1
  obtain ⟨vc, hcw, hcF⟩ := hA1.c
  have HCW := hide hcw
  have HRV := hide hA1.r
  have HAP : Hid ((W.heap.size + 1 ≠ W.heap.size + 1 + 1 ∧ v1.ownBlock ≠ some (W.heap.size + 1)) ∧ ∀ g, vc.ownBlock = some g → g ≠ W.heap.size + 1 + 1 ∧ v1.ownBlock ≠ some g) := hide ⟨hA1.apart _ ((hcF _).2 (.inl rfl)), fun g hg => hA1.apart g ((hcF g).2 (.inr hg))⟩
  have HVW1 : Hid (∀ g, v1.ownBlock = some g → W.heap.size + 1 ≤ g) := hide (fun g hg => (hV1 g hg).elim (fun e => by cases e) (fun h => Nat.le_trans (by simp) h))
  have HVW : Hid (∀ g, v1.ownBlock = some g → W.heap.size ≤ g) := hide (fun g hg => (hV1 g hg).elim (fun e => by cases e) (fun h => Nat.le_trans HB1.out.size h))
  have hsz1 := hide HB1.out.size
  clear hA1 hK1 hF1 hV1 hcw hcF C1 HA0 HBF1 HB1 HA1
  have CBY := hide (cwbytes_any (W.heap.size + 1) vc ys w1 HCW.out (by omega))
  have HKT : Hid (Kit w1.heap.size W.heap.size (W.heap.size + 1) (W.heap.size + 1 + 1) vc v1 ys #[.int .u8 (kd : Nat), .int .u64 (nn : Nat), .string st, .int .i64 mo] w1) := hide ⟨HCW.out, HRV.out, HBF.out, HBF.out.lt, HCW.out.box.lt, HRV.out.box.lt, fun g hg => owns_lt HCW.out.own hg, fun g hg => owns_lt HRV.out.own hg⟩
  clear HCW HRV HBF
  go_wp2_with fail
  generalize hpc : W.heap.size + 1 = pc at *
  generalize hpv : pc + 1 = pv at *
  have HPC : Hid (W.heap.size ≤ pc) := hide (by omega)
  have HPV : Hid (W.heap.size ≤ pv) := hide (by omega)
  have HPF : Hid (W.heap.size < pc ∧ W.heap.size < pv) := hide (by omega)
  have HVF : Hid (v1.ownBlock ≠ some W.heap.size) := hide (fun e => by have := HVW1.out _ e; omega)
  clear hpc hpv
  refine CBY.out.mono ?_
  rintro e w2 ⟨vx, rfl, hox, hB2⟩
  obtain ⟨ax, cx, rfl⟩ := (Lies.of_own hox).shape
  have HK2 := hide (HKT.out.below hB2)
  have HW2 := hide (HW1.out.trans (hB2.mono HW1.out.size))
  have HOX := hide (Over.start hox)
  have HXN : Hid (∀ k, (Value.slice ax ys.length cx).ownBlock = some k → w1.heap.size ≤ k) := hide (fun k hk => (hox.lt k hk).1)
  have hn1 := hide HW1.out.size
  have hNle := hide hB2.size
  clear hox hB2 CBY HW1 HKT
  generalize w1.heap.size = N at *
  go_wp2_with fail
  go_loopw [33] (fun i wr => ∃ k : Nat, k ≤ ys.length ∧ i = .int .i64 k ∧ Hid (Over w2 wr (.slice ax ys.length cx) ys.length)) (fun i _ => ys.length - (intOf i).toNat)
  case atStart => exact ⟨0, by omega, rfl, HOX⟩
  case round =>
    obtain ⟨k, hk, rfl, HO⟩ := hrel
    by_cases hlt : k < ys.length
    · obtain ⟨hkeep, h0 | ⟨g, cap', cur, e, hbx, hcur⟩⟩ := HO.out
      · omega
      · cases e
        obtain ⟨z, hz⟩ := hcur k hlt
        have hcell := hbx.cell k _ hz
        have hfro := hbx.frozen k
        have HST := hide (fun z => Over.step (k := k) hkeep hbx hcur z)
        clear hkeep hbx hcur hz HO
        go_wp2_with fail
        go_roundw
        case rel => exact ⟨k + 1, by omega, by go_num, hide (HST.out _)⟩
        case measure => simp [intOf]; omega
    · have hge : decide ((k : Int) < (ys.length : Int)) = false := by simp; omega
      have HK3 := hide (HK2.out.keep HO.out.1 HXN.out)
      have HW3 := hide (HW2.out.trans (HO.out.1.below HW2.out.size (fun k hk => Nat.le_trans hn1.out (HXN.out k hk))))
      have hN3 : Hid (N ≤ wr.heap.size) := hide (Nat.le_trans hNle.out HO.out.1.size)
      have HLB3 := hide (HL.out.below HW3.out)
      clear HO HK2 HW2 HOX HXN
      go_wp2_with (at_builtin; refine append_lies _ rfl _ _ rfl wr.heap.size _ _ 0 [] bs rfl (World.ownsRow_nil _ _ _ _) rfl HLB3.out (by omega) (Nat.le_refl _) ?_; intro v4 w4 hown4 hgrow4; simp only [Nat.zero_add, List.nil_append] at hown4; have hB4 := (Below.refl wr.heap.size wr).grown hgrow4 (Nat.le_refl _) (fun k hk => by cases hk); have H4 := hide hown4; have HB4 := hide hB4; obtain ⟨a4, c4, rfl⟩ := (Lies.of_own hown4).shape; clear hown4 hgrow4 hB4)
      have HK4 := hide (HK3.out.below HB4.out)
      have HW4 := hide (HW3.out.trans (HB4.out.mono HW3.out.size))
      have CN := hide (new_any _ bs w4 (Lies.of_own H4.out) hbb (by omega))
      go_wp2_with fail
      refine CN.out.mono ?_
      rintro e w5 ⟨p, vb, rfl, hCR, hp, hvb, hB5⟩
      have HCR5 := hide hCR
      have HK5 := hide (HK4.out.below hB5)
      have HW5 := hide (HW4.out.trans (hB5.mono HW4.out.size))
      have HOV := hide (Over.start (owns_keep H4.out (KeepBut.of_below (fun _ => False) hB5) (fun _ _ h => h)))
      have HCN : Hid (∀ k, (Value.slice a4 bs.length c4).ownBlock = some k → N ≤ k ∧ k < w4.heap.size) := hide (fun k hk => ⟨Nat.le_trans hN3.out (H4.out.lt k hk).1, owns_lt H4.out hk⟩)
      have HPN : Hid (w4.heap.size ≤ p) := hide hp
      have HVN : Hid (∀ g, vb.ownBlock = some g → w4.heap.size ≤ g) := hide hvb
      have hN4 : Hid (N ≤ w4.heap.size) := hide (Nat.le_trans hN3.out HB4.out.size)
      clear hCR hp hvb hB5 CN HK4 HW4 H4 HB4 HK3 HW3 HLB3
      go_wp2_with fail
      go_loopw [49] (fun i wr => ∃ k : Nat, k ≤ bs.length ∧ i = .int .i64 k ∧ Hid (Over w5 wr (.slice a4 bs.length c4) bs.length)) (fun i _ => bs.length - (intOf i).toNat)
      case atStart => exact ⟨0, by omega, rfl, HOV⟩
      case round =>
        obtain ⟨j, hj, rfl, HO⟩ := hrel
        by_cases hjt : j < bs.length
        · obtain ⟨hkeep, h0 | ⟨g, cap', cur, e, hbx, hcur⟩⟩ := HO.out
          · omega
          · cases e
            obtain ⟨z, hz⟩ := hcur j hjt
            have hcell := hbx.cell j _ hz
            have hfro := hbx.frozen j
            have HST := hide (fun z => Over.step (k := j) hkeep hbx hcur z)
            clear hkeep hbx hcur hz HO
            go_wp2_with fail
            go_roundw
            case rel => exact ⟨j + 1, by omega, by go_num, hide (HST.out _)⟩
            case measure => simp [intOf]; omega
        · have hge2 : decide ((j : Int) < (bs.length : Int)) = false := by simp; omega
          have HK6 := hide (HK5.out.keep HO.out.1 (fun k hk => (HCN.out k hk).1))
          have HW6 := hide (HW5.out.trans (HO.out.1.below HW5.out.size (fun k hk => Nat.le_trans hn1.out (HCN.out k hk).1)))
          have HCR6 := hide (HCR5.out.keep HO.out.1 (fun e => by have := (HCN.out _ e).2; have := HPN.out; omega) (fun g hg e => by have := (HCN.out _ e).2; have := HVN.out g hg; omega))
          have HB2 : Hid (Both cwNil wr (fun _ => False) pv v1 ys) := hide ⟨fun _ h => h, HK6.out.rv, fun _ h => h.elim⟩
          have C2 := hide (CWR.out _ cwNil wr (fun _ => False) pv v1 ys HB2.out (by unfold roomFor; omega))
          have f0 := HK6.out.bf.cell 0 _ rfl
          have f1 := HK6.out.bf.cell 1 _ rfl
          have f2 := HK6.out.bf.cell 2 _ rfl
          have f3 := HK6.out.bf.cell 3 _ rfl
          clear HO HK5 HW5 HOV HCR5 HB2
          go_wp2_with fail
          refine C2.out.mono ?_
          rintro e w7 ⟨rfl, F7, v7, hA7, hK7, _, hV7⟩
          have HCW7 := hide (HK6.out.cw.keep hK7 (fun hS => by
            rcases hS with e | e | e
            · exact e
            · exact HAP.out.1.1 e
            · exact HAP.out.1.2 e) (fun g hg hS => by
            rcases hS with e | e | e
            · exact e
            · exact (HAP.out.2 g hg).1 e
            · exact (HAP.out.2 g hg).2 e))
          have HBF7 := hide (HK6.out.bf.keep hK7 (fun hS => by
            rcases hS with e | e | e
            · exact e
            · have := HPF.out; omega
            · exact HVF.out e))
          have HCR7 := hide (HCR6.out.keep hK7 (fun hS => by
            rcases hS with e | e | e
            · exact e
            · have := HK6.out.lv; have := HPN.out; have := hN4.out; omega
            · have := HK6.out.ov _ e; have := HPN.out; have := hN4.out; omega) (fun g hg hS => by
            rcases hS with e | e | e
            · exact e
            · have := HK6.out.lv; have := HVN.out g hg; have := hN4.out; omega
            · have := HK6.out.ov _ e; have := HVN.out g hg; have := hN4.out; omega))
          have HW7 := hide (HW6.out.trans (hK7.below HW6.out.size (fun k hk => by
            rcases hk with e | e | e
            · exact e.elim
            · rw [e]; exact HPV.out
            · exact HVW.out k e)))
          have HKL : Hid (pc < N ∧ ∀ g, vc.ownBlock = some g → g < N) := hide ⟨HK6.out.lc, HK6.out.oc⟩
          clear hA7 hK7 hV7 C2 HK6 HW6 HCR6 f0 f1 f2 f3
          have HA8 := hide (both_new' w7)
          have hb7 := (Below.refl w7.heap.size w7).alloc (Nat.le_refl _) (.cells #[.slice none 0 0] 29)
          have hb8 := hb7.alloc (by simp) (.cells #[.slice none 0 0] 27)
          have HB8 := hide hb8
          have hbf8 := HBF7.out.keep (KeepBut.of_below (fun _ => False) hb8) (fun h => h)
          have f0 := hbf8.cell 0 _ rfl
          have f1 := hbf8.cell 1 _ rfl
          have f2 := hbf8.cell 2 _ rfl
          have f3 := hbf8.cell 3 _ rfl
          have C3 := hide (CWR.out _ _ _ _ _ _ _ HA8.out (by unfold roomFor; simp; omega))
          have h7W := hide HW7.out.size
          have hpw7 := HCR7.out.box.lt
          clear hb7 hb8 hbf8
          go_wp2_with fail
          refine C3.out.mono ?_
          rintro e w8 ⟨rfl, F8, v8, hA8, hK8, _, hV8⟩
          rw [List.nil_append] at hA8
          have hB8 : Below w7.heap.size w7 w8 := HB8.out.trans (hK8.below HB8.out.size (fun k hk => by
            rcases hk with e | e | e
            · rcases e with e | e
              · omega
              · cases e
            · omega
            · cases e))
          have HRU8 := hide hA8.r
          have HUN : Hid (∀ g, v8.ownBlock = some g → w7.heap.size ≤ g) := hide (fun g hg => (hV8 g hg).elim (fun e => by cases e) (fun h => Nat.le_trans HB8.out.size h))
          have HCW8 := hide (HCW7.out.below hB8)
          have HCR8 := hide (HCR7.out.below hB8)
          have hB8s := hide hB8.size
          have HW8 := hide (HW7.out.trans (hB8.mono HW7.out.size))
          clear hA8 hK8 hV8 hB8 HA8 HB8 C3 f0 f1 f2 f3 HBF7 CWR
          have HBz := hide (Below.refl w8.heap.size w8)
          generalize hpu : w7.heap.size = pu at *
          clear hpu
          go_wp2_with fail
          refine (cwbytes_nil w8).mono ?_
          rintro e w9 ⟨rfl, hw9⟩
          rw [hw9]
          clear hw9
          go_wp2_with fail
          refine (crnum_nil _ 9).mono ?_
          rintro e y0 ⟨rfl, hy0⟩
          have HY0 := hide (HBz.out.trans (hy0.mono HBz.out.size))
          clear hy0
          go_wp2_with fail
          refine (crbyte_nil _).mono ?_
          rintro e y1 ⟨rfl, hy1⟩
          have HY1 := hide (HY0.out.trans (hy1.mono HY0.out.size))
          clear hy1
          go_wp2_with fail
          refine (crbool_nil _).mono ?_
          rintro e y2 ⟨rfl, hy2⟩
          have HY2 := hide (HY1.out.trans (hy2.mono HY1.out.size))
          clear hy2
          go_wp2_with fail
          refine (crtext_nil _ 9).mono ?_
          rintro e y3 ⟨rfl, hy3⟩
          have HY3 := hide (HY2.out.trans (hy3.mono HY2.out.size))
          clear hy3
          go_wp2_with fail
          refine (crkey_nil _).mono ?_
          rintro e y4 ⟨rfl, hy4⟩
          have HY4 := hide (HY3.out.trans (hy4.mono HY3.out.size))
          clear hy4
          go_wp2_with fail
          refine (left_nil _).mono ?_
          rintro e y5 ⟨rfl, hy5⟩
          have HY5 := hide (HY4.out.trans (hy5.mono HY4.out.size))
          clear hy5
          have HYA := hide (HY5.out.alloc HY5.out.size (.cells #[.int .i64 4, .int .i64 0] 50))
          have HPG := hide (box_new y5 #[.int .i64 4, .int .i64 0] 50)
          have HCW := hide (HCW8.out.below HYA.out)
          have HRU := hide (HRU8.out.keep (KeepBut.of_below (fun _ => False) HYA.out) (fun h => h) (fun _ _ h => h))
          have HCR := hide (HCR8.out.below HYA.out)
          have HW9 := hide (HW8.out.trans (HYA.out.mono HW8.out.size))
          have hY5 := hide HY5.out.size
          have hcwp : Hid (pc ≠ p ∧ ∀ g, vc.ownBlock = some g → g ≠ p) := hide ⟨fun e => by have := HKL.out.1; have := HPN.out; have := hN4.out; omega, fun g hg e => by have := HKL.out.2 g hg; have := HPN.out; have := hN4.out; omega⟩
          have hrup : Hid (pu ≠ p ∧ ∀ g, v8.ownBlock = some g → g ≠ p) := hide ⟨fun e => by omega, fun g hg e => by have := HUN.out g hg; omega⟩
          have HPW : Hid (W.heap.size ≤ p) := hide (by have := HPN.out; have := hN4.out; have := hn1.out; omega)
          have hgp : Hid (y5.heap.size ≠ p) := hide (by have := hY5.out; have := hB8s.out; omega)
          clear HY0 HY1 HY2 HY3 HY4 HY5 HBz HW8 HRU8 HCW8 HCR8 HCW7 HCR7 HW7
          go_wp2_with fail
          generalize y5.alloc (.cells #[.int .i64 4, .int .i64 0] 50) = Y at *
          generalize y5.heap.size = pg at *
          go_loopw [102] (fun i wr => ∃ k : Nat, k ≤ bs.length ∧ i = .int .i64 k ∧ Hid (CR wr p vb bs ⟨bs.drop k, k, 0, 0⟩) ∧ Hid (KeepBut (fun k => k = p) Y wr)) (fun i _ => bs.length - (intOf i).toNat)
          case atStart => exact ⟨0, by omega, rfl, by simpa using HCR, hide (KeepBut.refl _ _)⟩
          case round =>
            obtain ⟨i, hi, rfl, HC, HK⟩ := hrel
            have HWr := hide (HW9.out.trans (HK.out.below HW9.out.size (fun k hk => by rw [hk]; exact HPW.out)))
            by_cases hit : i < bs.length
            · have hLr := HL.out.below HWr.out
              rcases HL.out with ⟨e, _⟩ | ⟨_, bb, ob, cb', e, hbb1, _, _, hbc⟩
              · rw [e] at hit; simp at hit
              · cases e
                have hcell := (HWr.out.cell (p := ⟨bb, ob + i, none⟩) hbb1).trans (hbc i hit)
                have HDR : Hid (bs.drop i = [bs.getD i 0] ++ bs.drop (i + 1)) := hide (by
                  rw [List.drop_eq_getElem_cons hit]; simp [List.getD, hit])
                have HE := byte_back (bs.getD i 0) (bs.drop (i + 1)) i 0
                rw [HDR.out] at HC
                have CRD := hide (fun w' (h' : CR w' p vb bs ⟨[bs.getD i 0] ++ bs.drop (i + 1), i, 0, 0⟩) => crbyte_any p vb _ _ w' h')
                rw [HE] at CRD
                simp only at CRD
                have HCD := hide (HC.out.below (Below.refl _ _).drew)
                have hbp : Hid (bb ≠ p) := hide (by have := HPW.out; omega)
                clear HE hbc hLr HC
                generalize bs.getD i 0 = c at *
                go_wp2_with fail
                go_region_held (fun w' => w'.cell? ⟨bb, ob + i, none⟩ = some (.int .u8 c)) (go_keep) ((go_at_call 16; refine (CRD.out _ HCD.out).mono ?_; rintro e z9 ⟨rfl, h9, hk9⟩; have hx9 := (World.cell?_of_block (hk9.block bb (Nat.lt_of_lt_of_le hbb1 HWr.out.size) hbp.out)).trans hcell; have H9 := hide h9; have HK9 := hide (HK.out.drew.trans hk9 (fun _ _ h => h)); clear h9 hk9))
                go_wp2_with fail
                go_roundw
                case rel => exact ⟨i + 1, by omega, by go_num, H9, HK9⟩
                case measure => simp [intOf]; omega
            · have hge3 : decide ((i : Int) < (bs.length : Int)) = false := by simp; omega
              have HDE : Hid (bs.drop i = []) := hide (List.drop_eq_nil_of_le (by omega))
              rw [HDE.out] at HC
              have HCWr := hide (HCW.out.keep HK.out hcwp.out.1 hcwp.out.2)
              have HCWd := hide (HCWr.out.below (Below.refl _ _).drew)
              have HRUr := hide (HRU.out.keep HK.out hrup.out.1 hrup.out.2)
              have HPGr := hide (HPG.out.keep HK.out hgp.out)
              have hu0 := HRUr.out.box.cell 0 _ rfl
              have hg0 := HPGr.out.cell 0 _ rfl
              have hg1 := HPGr.out.cell 1 _ rfl
              have hult := HRUr.out.box.lt
              have hglt := HPGr.out.lt
              have HLU := hide ((Lies.of_own HRUr.out.own).below (Below.refl _ _).drew)
              obtain ⟨au, cu, hvu⟩ := (Lies.of_own HRUr.out.own).shape
              subst hvu
              have CBY := hide (fun w' (h' : CW w' pc vc ys) => cwbytes_any pc vc ys w' h' (by omega))
              have hen : endS ⟨[], i, 0, 0⟩ = ⟨[], i, 0, 0⟩ := rfl
              have CEN := hide (fun w' (h' : CR w' p vb bs ⟨[], i, 0, 0⟩) => end_any p vb bs _ w' h')
              rw [hen] at CEN
              simp only at CEN
              have hup : ¬ pu = p := hrup.out.1
              have hgp2 : ¬ pg = p := hgp.out
              clear hen HCW HRU HPG HCR HCWr HRUr HPGr
              go_wp2_with fail
              go_region_held (fun w' => w'.cell? ⟨pu, 0, none⟩ = some (.slice au ys.length cu) ∧ w'.cell? ⟨pg, 0, none⟩ = some (.int .i64 4) ∧ w'.cell? ⟨pg, 1, none⟩ = some (.int .i64 0)) (go_keep) (first
                | (go_at_call 13; refine (CBY.out _ HCWd.out).mono ?_; rintro e z1 ⟨vy, rfl, hoy, hz1⟩; have HLY := hide (Lies.of_own hoy); have HLU1 := hide (HLU.out.below hz1); have a0 := (hz1.cell (p := ⟨pu, 0, none⟩) hult).trans hu0; have a1 := (hz1.cell (p := ⟨pg, 0, none⟩) hglt).trans hg0; have a2 := (hz1.cell (p := ⟨pg, 1, none⟩) hglt).trans hg1; have HC1 := hide ((HC.out.below (Below.refl _ _).drew).below hz1); have HW1 := hide (HWr.out.trans ((Below.refl _ wr).drew.trans hz1 |>.mono HWr.out.size)); have hs1 := hz1.size; clear hoy hz1)
                | (go_at_call 12; refine (same_any _ _ ys _ HLY.out HLU1.out).mono ?_; rintro e z2 ⟨rfl, hz2⟩; subst hz2)
                | (go_at_call_of 23 (none : Option Addr); refine (end_nil _).mono ?_; rintro e z3 ⟨rfl, hz3⟩; have b0 := (hz3.cell (p := ⟨pu, 0, none⟩) (Nat.lt_of_lt_of_le hult hs1)).trans a0; have b1 := (hz3.cell (p := ⟨pg, 0, none⟩) (Nat.lt_of_lt_of_le hglt hs1)).trans a1; have b2 := (hz3.cell (p := ⟨pg, 1, none⟩) (Nat.lt_of_lt_of_le hglt hs1)).trans a2; have HC3 := hide (HC1.out.below hz3); have HW3 := hide (HW1.out.trans (hz3.mono HW1.out.size)); have hs3 := Nat.le_trans hs1 hz3.size; clear hz3)
                | (go_at_call 21; refine (fault_nil _).mono ?_; rintro e z4 ⟨rfl, hz4⟩; have d0 := (hz4.cell (p := ⟨pu, 0, none⟩) (Nat.lt_of_lt_of_le hult hs3)).trans b0; have d1 := (hz4.cell (p := ⟨pg, 0, none⟩) (Nat.lt_of_lt_of_le hglt hs3)).trans b1; have d2 := (hz4.cell (p := ⟨pg, 1, none⟩) (Nat.lt_of_lt_of_le hglt hs3)).trans b2; have HC4 := hide (HC3.out.below hz4); have HW4 := hide (HW3.out.trans (hz4.mono HW3.out.size)); have hs4 := Nat.le_trans hs3 hz4.size; clear hz4)
                | (go_at_call_of 23 p; refine (CEN.out _ HC4.out).mono ?_; rintro e z5 ⟨rfl, _, hk5⟩; have e0 := (World.cell?_of_block (a := ⟨pu, 0, none⟩) (hk5.block pu (Nat.lt_of_lt_of_le hult hs4) hup)).trans d0; have e1 := (World.cell?_of_block (a := ⟨pg, 0, none⟩) (hk5.block pg (Nat.lt_of_lt_of_le hglt hs4) hgp2)).trans d1; have e2 := (World.cell?_of_block (a := ⟨pg, 1, none⟩) (hk5.block pg (Nat.lt_of_lt_of_le hglt hs4) hgp2)).trans d2; have HW5 := hide (HW4.out.trans (hk5.below HW4.out.size (fun k hk => by rw [hk]; exact HPW.out))); have hs5 := Nat.le_trans hs4 hk5.size; clear hk5)
                | (go_at_call 9; refine (alive_any _).mono ?_; rintro e z6 ⟨rfl, hz6⟩; have g0 := (hz6.cell (p := ⟨pu, 0, none⟩) (Nat.lt_of_lt_of_le hult hs5)).trans e0; have g1 := (hz6.cell (p := ⟨pg, 0, none⟩) (Nat.lt_of_lt_of_le hglt hs5)).trans e1; have g2 := (hz6.cell (p := ⟨pg, 1, none⟩) (Nat.lt_of_lt_of_le hglt hs5)).trans e2; have HW6 := hide (HW5.out.trans (hz6.mono HW5.out.size)); clear hz6))
              go_wp2_with fail
              go_ret
              exact ⟨rfl, HW6.out⟩
end own3
namespace own3
set_option maxRecDepth 100000 in
theorem lifted (os : Os) (started : os.Started) (H : Type) (enc : TypeId × Value → H) :
    ReturnsInHanded {} Try.checked os 7 .any (Rows.codeOwnSpec.pre6 enc Try.prog Try.f7 Rows.codeOwnRow.domain false) (Rows.codeOwnSpec.post enc Try.prog Try.f7 false true false false) := by
  refine returnsInHanded_of_change_sized (C := Try.checked) own started (by kernel_rfl) Try.func7
    (ChangeSpec.witness6 (enc := enc) (C := Try.checked) false ⟨#[], #[.slice none 0 0, .agg #[.int .u8 0, .int .u64 0, .string ⟨#[]⟩, .int .i64 0]], []⟩ 8 (by kernel_rfl) (by kernel_rfl) (by kernel_rfl) (by kernel_rfl)) ?_
  intro W base args ds gs before hval0 hW hcnd hsz _
  have hval : ∀ (j : Nat) t v, Try.f7.params[j]? = some t → args[j]? = some v → Value.okWide Try.prog W .any base t v := hval0
  have hW' := hW
  obtain ⟨p, q, hA0, hV, rfl, hfz, hnd⟩ := hW
  have hA : DataW.TrodAll enc Try.prog W 0 (fun _ => true) true Try.f7.params.toList args.toList ds p := hA0
  have hsz2 : ∀ (j : Nat) (t : TypeId) (d : DataW H), Try.f7.params.toList[j]? = some t → ds[j]? = some d → ∀ n ∈ d.weights Try.prog t, n ≤ 140737488351232 := fun j t d ht hd n hn => by
    have h1 := List.all_eq_true.1 hsz n (DataW.weights_mem_each (j := j) (t := t) (d := d) (by rw [List.getElem?_append_left (List.getElem?_eq_some_iff.1 ht).1]; exact ht) (by rw [List.getElem?_append_left (List.getElem?_eq_some_iff.1 hd).1]; exact hd) n hn)
    have h2 : n ≤ reachBytes := by simpa using h1
    have h3 : reachBytes = 140737488351232 := rfl
    omega
  rw [Try.params7] at hA hval hsz2
  obtain ⟨v0, vs0, d0, ds0, p0, q0, hargs, rfl, rfl, h0, r0⟩ := trodAll_cons hA
  obtain ⟨v1, vs1, d1, ds1, p1, q1, rfl, rfl, rfl, h1, r1⟩ := trodAll_cons r0
  obtain ⟨rfl, rfl, rfl⟩ := trodAll_nil r1
  obtain rfl : args = #[v0, v1] := by cases args; simp_all
  obtain ⟨rfl, rfl⟩ := trodVars_none hV
  obtain ⟨a0, len0, cap0, rfl⟩ := okWide_slice Try.underlying25 (hval 0 25 v0 rfl rfl)
  have k0 := h0
  have lt0 : ∀ x ∈ p0, x.block < W.heap.size := by obtain ⟨m, hm⟩ := k0; exact DataW.trod_lt m _ _ _ hm
  obtain ⟨xs0, lies0, by0⟩ := lies_of_trod h0
  have k1 := h1
  have lt1 : ∀ x ∈ p1, x.block < W.heap.size := by obtain ⟨m, hm⟩ := k1; exact DataW.trod_lt m _ _ _ hm
  obtain ⟨f1, hv1, by1, wt1⟩ := field_of_trod (hval 1 33 v1 rfl rfl) h1
  subst hv1
  have sz1 : f1.s.size ≤ 140737488351232 := hsz2 1 33 d1 rfl rfl _ wt1
  clear hA0 hval0
  refine (own3.walkN _ f1 xs0 W lies0 by0 by1).mono fun e W' ⟨he, bel⟩ => ?_
  subst he
  exact ⟨_, rfl, _, _, _, [], _, [], hW', trodAll_mk1 (shut_bool Try.underlying4 _), (trodAll_cons_mk (Below.trod laidOut (by kernel_rfl) (of_decide_eq_true (by kernel_rfl)) k0 bel lt0) (trodAll_cons_mk (Below.trod laidOut (by kernel_rfl) (of_decide_eq_true (by kernel_rfl)) k1 bel lt1) trodAll_mk0)), rfl, bel.frame _, fun h => by cases h⟩

theorem over : Rows.codeOwnRow.holds Try.pinned (OpenSpec.ofChange Rows.codeOwnSpec) :=
  OpenClaim.holds_of_wide 7 Try.f7 rfl rfl rfl rfl rfl rfl rfl ⟨rfl, rfl, rfl, rfl, rfl⟩ rfl rfl rfl rfl rfl (by kernel_rfl) Try.func7 (by kernel_rfl)
    (of_decide_eq_true (by kernel_rfl)) (by unfold Func.isWrapper; first | (rw [if_pos (by decide +kernel)]; kernel_rfl) | (rw [if_neg (by decide +kernel)]; exact ⟨rfl, rfl⟩))
    (fun os started H enc _ => lifted os started H enc)
end own3

/-- THE STATEMENT. -/
theorem codeOwn_holds : Rows.CodeOwnSaid := own3.over
#print axioms codeOwn_holds
end Go.Proofs.Ytkeedioifjabeaa
