/-
  Own texts put together: RpEnc, RpGa. Own work.
-/
import Derived.Test.YtlegliimgjmphaaGreatG34
import Derived.Test.YtlegliimgjmphaaGreatG32
namespace Go.Proofs.YtlegliimgjmphaaGreat
section
open Go.RowKit Go.Shelf Classical
attribute [local go_sem] Oper.semAt_some
theorem Calm.own {B base e sz n : Nat} {A A' : World} {v : Value} {xs : List Value} (h : Calm B A A') (ho : A.ownsRow base e sz v n xs) : A'.ownsRow base e sz v n xs := by
 refine owns_keep ho h (fun g hg ⟨_, o, hob, hoc⟩ => ?_)
 obtain ⟨_, ⟨rfl, _⟩ | ⟨g2, cap, cur, rfl, _, hh, _⟩⟩ := ho
 ·cases hg
 ·cases hg
  rw [hh] at hob
  cases hob
  cases hoc
theorem Calm.cw {B p : Nat} {A A' : World} {v : Value} {xs : List Int} (h : Calm B A A') (hw : CW A p v xs) : CW A' p v xs := ⟨h.box hw.box, h.own hw.own⟩
def upTo (kind k : Nat) : List Nat := (List.range k).filter (fun j => (fieldsR kind).contains j)
theorem upTo_succ (kind k : Nat) : upTo kind (k + 1) = upTo kind k ++ (if (fieldsR kind).contains k then [k] else []) := by
 unfold upTo
 rw [List.range_succ, List.filter_append, List.filter_cons, List.filter_nil]
theorem upTo_all (kind : Nat) : upTo kind 8 = fieldsR kind := by
 by_cases h : fieldsR kind = []
 ·unfold upTo
  rw [h]
  rfl
 ·rcases fieldsR_kind h with rfl | rfl | rfl | rfl | rfl | rfl | rfl <;> decide
theorem encRs_app (l r : List Nat) (m : RecP) : encRs (l ++ r) m = encRs l m ++ encRs r m := by unfold encRs; exact List.flatMap_append
theorem upTo_len (kind k : Nat) (hk : k ≤ 8) (m : RecP) : (encRs (upTo kind k) m).length ≤ (encRs (fieldsR kind) m).length := by
 have key : ∀ d k, k + d = 8 → (encRs (upTo kind k) m).length ≤ (encRs (upTo kind 8) m).length := by
  intro d
  induction d with
  | zero =>
   intro k h
   have : k = 8 := by omega
   rw [this]
   exact Nat.le_refl _
  | succ d ih =>
   intro k h
   have h1 := ih (k + 1) (by omega)
   rw [upTo_succ, encRs_app, List.length_append] at h1
   omega
 have := key (8 - k) k (by omega)
 rwa [upTo_all] at this
theorem may_okR {m : RecP} (hm : RecOk m) (h : mayR m = true) {k : Nat} (hk : k < 8) (hc : (fieldsR m.kind).contains k = true) : okR k m := by
 have h2 := h
 unfold mayR at h2
 rw [Bool.and_eq_true, List.all_eq_true] at h2
 exact mayR_ok hm hk (h2.2 k (by simpa using hc))
theorem mayR_kept11 {m : RecP} (h : mayR m = true) : fieldsR m.kind ≠ [] := by
 intro e
 unfold mayR at h
 rw [e] at h
 cases h
theorem mis_small {m : RecP} (hm : RecOk m) (h : mayR m = true) : m.mis.length ≤ 100 := by
 by_cases hc : (fieldsR m.kind).contains 5 = true
 ·have h5 := may_okR hm h (k := 5) (by decide) hc
  have h4 : (fieldsR m.kind).contains 4 = true := by
   have hne : fieldsR m.kind ≠ [] := fun e => by rw [e] at hc; cases hc
   revert hc
   rcases fieldsR_kind hne with e | e | e | e | e | e | e <;> rw [e] <;> decide
  have h6 := may_okR hm h (k := 4) (by decide) h4
  have h7 : m.mis.length = m.wr.length := h5.1
  have h8 : m.wr.length ≤ 16 := h6.1
  omega
 ·have hk := (mayR_iff (mayR_kept11 h)).1 h 5 (by decide)
  unfold okRn at hk
  rw [if_neg hc] at hk
  have : m.mis.isEmpty = true := hk
  rw [List.isEmpty_iff] at this
  rw [this]
  decide
structure EncI11 (w A : World) (B q br pw : Nat) (m : RecP) (p u vk : Value) (xs : List Int) : Prop where
 box : Box A q (recA m p u) 87
 b : Box A br #[.pointer (some ⟨q, 0, none⟩)] 133
 wr : CBl w A pw vk xs
 vb : ∀ g, vk.ownBlock = some g → (g < B ∨ B + 5 ≤ g) ∧ g ≠ q ∧ g ≠ br
theorem EncI11.calm {w A A' : World} {B q br pw : Nat} {m : RecP} {p u vk : Value} {xs : List Int} (h : EncI11 w A B q br pw m p u vk xs) (hc : Calm B A A') (hB : w.heap.size ≤ B) : EncI11 w A' B q br pw m p u vk xs :=
 ⟨hc.box h.box, hc.box h.b, ⟨hc.cw h.wr.wr, h.wr.bl.trans (hc.below hB h.wr.bl.size), h.wr.hp, h.wr.hv⟩, h.vb⟩
theorem EncI11.below {w A A' : World} {B q br pw : Nat} {m : RecP} {p u vk : Value} {xs : List Int} (h : EncI11 w A B q br pw m p u vk xs) (hB : Below A.heap.size A A') : EncI11 w A' B q br pw m p u vk xs :=
 ⟨h.box.belowI hB, h.b.belowI hB, h.wr.below hB, h.vb⟩
theorem EncI11.step {w A A' : World} {B q br pw : Nat} {m : RecP} {p u vk v' : Value} {xs ys : List Int} (h : EncI11 w A B q br pw m p u vk xs) (hA : B + 5 ≤ A.heap.size) (hq : q ≠ pw) (hbr : br ≠ pw) (hqB : q < B) (hbB : br < B) (h2 : CWrote A A' pw vk v' ys) : EncI11 w A' B q br pw m p u v' ys := by
 refine ⟨h.box.keep h2.keep (fun e => ?_), h.b.keep h2.keep (fun e => ?_), h.wr.step h2, fun g hg => ?_⟩
 ·rcases e with e | e
  ·exact hq e
  ·exact (h.vb _ e).2.1 rfl
 ·rcases e with e | e
  ·exact hbr e
  ·exact (h.vb _ e).2.2 rfl
 ·rcases h2.place with e | ⟨g2, e2, hg2⟩
  ·exact h.vb g (e.symm.trans hg)
  ·rw [e2] at hg
   cases hg
   exact ⟨.inr (by omega), by omega, by omega⟩
set_option maxRecDepth 100000 in
set_option maxHeartbeats 1600000 in
theorem penc11_any {w : World} {v : Value} {m : RecP} (hm : RecOk m) (hv : RcLies w v m) : Calls Tryz.prog 51 #[v] w fun e w' => ∃ u, e = .returned (.tuple #[u, .int .i64 (if mayR m then 0 else 1)]) ∧ Lies .u8 w' u (if mayR m then encRec m else []) ∧ Below w.heap.size w w' := by
 obtain ⟨ao, bo, c, d, rfl, hs, hl⟩ := hv
 have hA := alloc_below10 w (.cells (recA m (.slice ao m.wr.length c) (.slice bo m.mis.length d)) 87)
 have hX := box_new w (recA m (.slice ao m.wr.length c) (.slice bo m.mis.length d)) 87
 obtain ⟨w1, hw1⟩ : ∃ w1, w1 = w.alloc (.cells (recA m (.slice ao m.wr.length c) (.slice bo m.mis.length d)) 87) := ⟨_, rfl⟩
 rw [← hw1] at hA hX
 have hqw : w.heap.size < w1.heap.size := hX.lt
 have CM := hide (pmay11_any hm (v := .agg (recA m (.slice ao m.wr.length c) (.slice bo m.mis.length d))) (w := w1) ⟨ao, bo, c, d, rfl, hs.below hA, hl.below hA⟩)
 have HA := hide hA
 have HX := hide hX
 have HS := hide hs
 have HL := hide hl
 have HM := hide hm
 have hW := hw1.symm
 clear hA hX hw1 hs hl hm
 cases hmay : mayR m with
 | false =>
  rw [hmay] at CM
  simp only [Bool.false_eq_true, if_false]
  clear hmay
  refine callsIn_wide.1 (callsIn_of_wp_marks (n := 0) Tryz.func51 rfl trivial (wpIn_wide.2 ?_) rfl)
  simp only [Tryz.ntmps51, List.size_toArray, List.length_cons, List.length_nil, Nat.reduceAdd, Nat.reduceSub, Array.replicate_succ, Array.replicate_zero, List.push_toArray, List.append_toArray, List.nil_append, List.cons_append]
  go_wp2_with (first | (refine wp_load_box rfl _ rfl w.heap.size rfl HX.out Tryz.underlying87 rfl infoRec ?_) | (go_at_call 78; refine CM.out.mono ?_; rintro e w2 ⟨rfl, hB2⟩; have HB2 := hide hB2; clear hB2))
  exact ⟨_, results_tmp2 rfl _ _ _, _, rfl, Lies.nil _ _, HA.out.trans (HB2.out.mono HA.out.size)⟩
 | true =>
  rw [hmay] at CM
  simp only [if_true]
  have HMAY := hide hmay
  have HLN := hide (encRec_len HM.out hmay)
  have HMS := hide (mis_small HM.out hmay)
  clear hmay
  refine callsIn_wide.1 (callsIn_of_wp_marks (n := 0) Tryz.func51 rfl trivial (wpIn_wide.2 ?_) rfl)
  simp only [Tryz.ntmps51, List.size_toArray, List.length_cons, List.length_nil, Nat.reduceAdd, Nat.reduceSub, Array.replicate_succ, Array.replicate_zero, List.push_toArray, List.append_toArray, List.nil_append, List.cons_append]
  go_wp2_with (refine wp_load_box rfl _ rfl w.heap.size rfl HX.out Tryz.underlying87 rfl infoRec ?_)
  refine CM.out.mono ?_
  rintro e w2 ⟨rfl, hB2⟩
  have hBW := alloc_below10 w2 (.cells #[.slice none 0 0] 128)
  have hbw := box_new w2 #[.slice none 0 0] 128
  obtain ⟨w3, hw3⟩ : ∃ w3, w3 = w2.alloc (.cells #[.slice none 0 0] 128) := ⟨_, rfl⟩
  obtain ⟨pw, hpw⟩ : ∃ pw, pw = w2.heap.size := ⟨_, rfl⟩
  rw [← hw3] at hBW hbw
  rw [← hpw] at hbw
  have hB3 : Below w.heap.size w w3 := HA.out.trans ((hB2.trans (hBW.mono hB2.size)).mono HA.out.size)
  have hX3 : Box w3 w.heap.size (recA m (.slice ao m.wr.length c) (.slice bo m.mis.length d)) 87 := (HX.out.belowI hB2).belowI hBW
  have hqp : w.heap.size < pw := by rw [hpw]; exact Nat.lt_of_lt_of_le hqw hB2.size
  have HCB : Hid (CBl w w3 pw (.slice none 0 0) []) := hide ⟨⟨hbw, ⟨rfl, .inl ⟨rfl, rfl⟩⟩⟩, hB3, Nat.le_of_lt hqp, (fun g hg => by cases hg)⟩
  have hpl : pw < w3.heap.size := hbw.lt
  have x0 := hX3.cell 0 _ rfl
  have HX3 := hide hX3
  have hW3 := hw3.symm
  have hP := hpw.symm
  clear hB2 hBW hbw hw3 hpw hB3 hX3 CM HX HA hW hqw
  go_wp2_with fail
  refine (cwbyte_any pw _ [] (m.kind : Int) w3 HCB.out.wr (by unfold roomFor; simp)).mono ?_
  rintro e w4 ⟨rfl, v4, h4⟩
  rw [List.nil_append] at h4
  have HC4 := hide (HCB.out.step h4)
  have HX4 := hide (HX3.out.keep h4.keep (fun e => by rcases e with e | e <;> first | omega | cases e))
  have HV4 : Hid (∀ g, v4.ownBlock = some g → g < w4.heap.size ∧ g ≠ w.heap.size) := hide (fun g hg => ⟨owns_lt h4.wr.own hg, by
   rcases h4.place with e | ⟨g2, e2, hg2⟩
   ·rw [e] at hg; cases hg
   ·rw [e2] at hg; cases hg; omega⟩)
  have hs4 := h4.keep.size
  clear h4 HCB HX3 x0 hW3 hP
  go_wp2_with fail
  refine (fieldsIn11_any w.heap.size w4).mono ?_
  rintro e w5 ⟨rfl, hw5⟩
  have hA5 := alloc_below10 w4 (.cells #[.pointer (some ⟨w.heap.size, 0, none⟩)] 133)
  have hb5 := box_new w4 #[.pointer (some ⟨w.heap.size, 0, none⟩)] 133
  rw [← hw5] at hA5 hb5
  obtain ⟨br, hbr⟩ : ∃ br, br = w4.heap.size := ⟨_, rfl⟩
  rw [← hbr] at hb5 ⊢
  have hlq : w.heap.size < w5.heap.size := by have := hA5.size; omega
  have hlb := hb5.lt
  have hlp : pw < w5.heap.size := by have := hA5.size; omega
  have hbp : br ≠ pw := by omega
  have HI : Hid (EncI11 w w5 w5.heap.size w.heap.size br pw m (.slice ao m.wr.length c) (.slice bo m.mis.length d) v4 [(m.kind : Int)]) := hide ⟨HX4.out.belowI hA5, hb5, HC4.out.below hA5, fun g hg => (by have := HV4.out g hg; have := hA5.size; exact ⟨.inl (by omega), by omega, by omega⟩)⟩
  have hle : w.heap.size ≤ w5.heap.size := by omega
  clear hA5 hb5 hw5 HX4 HC4 HV4 hs4 hbr hpl
  go_wp2_with fail
  refine wpIn_wide.1 (wpIn_range11 (n := 0) (N := 8) (V := VF m.kind w.heap.size) (Pre := fun A => Box A br #[.pointer (some ⟨w.heap.size, 0, none⟩)] 133) rfl en_iter
   (fun W _ hB => iter_gives w.heap.size br m.kind W (HI.out.b.belowI hB) ((hB.cell (p := ⟨w.heap.size, 0, none⟩) hlq).trans (HI.out.box.cell 0 _ rfl)) (Nat.lt_of_lt_of_le hlq hB.size))
   (fun k H A vs ⟨fs, e, _⟩ => by rw [e]; rfl) (fun k H A A' vs ⟨fs, e, hf⟩ hc => ⟨fs, e, hf.calm hc⟩)
   (fun k A => ∃ vk, EncI11 w A w5.heap.size w.heap.size br pw m (.slice ao m.wr.length c) (.slice bo m.mis.length d) vk ((m.kind : Int) :: encRs (upTo m.kind k) m))
   (fun A => False)
   (fun k A A' ⟨vk, h⟩ hc => ⟨vk, h.calm hc hle⟩)
   (fun A A' h hc => h)
   (fun k A ⟨vk, h⟩ => h.b) ⟨v4, HI.out⟩
   (fun vs a' A => ∃ bf f0 f1 f2 f3 c0 c1 c2 c3 b, vs = #[.agg #[.func f0 #[] c0, .func f1 #[] c1, .func f2 #[] c2, .func f3 #[] c3], .bool b] ∧ Box A bf #[.func f0 #[] c0, .func f1 #[] c1, .func f2 #[] c2, .func f3 #[] c3] 137 ∧ a' = { tmps := #[.agg (recA m (.slice ao m.wr.length c) (.slice bo m.mis.length d)), .pointer (some ⟨w.heap.size, 0, none⟩), .slice none 0 0, .int .i64 0, .pointer (some ⟨pw, 0, none⟩), .pointer (some ⟨bf, 0, none⟩), .bool b, .agg (recA m (.slice ao m.wr.length c) (.slice bo m.mis.length d)), .bool true, .bool false, .pointer (some ⟨w.heap.size, 0, none⟩), .int .u8 (m.kind : Int), .tuple #[], .func (.func 108) #[] #[.pointer (some ⟨br, 0, none⟩)], .agg #[.func f0 #[] c0, .func f1 #[] c1, .func f2 #[] c2, .func f3 #[] c3], .bool b, undef, undef, undef, undef, undef], defers := [] })
   (fun vs a' A A' ⟨bf, f0, f1, f2, f3, c0, c1, c2, c3, b, e, hb, ha⟩ hc => ⟨bf, f0, f1, f2, f3, c0, c1, c2, c3, b, e, hc.box hb, ha⟩) ?assign ?body ?done ?stop)
  case assign =>
   rintro l k vs A K ⟨fs, rfl, hf⟩ hK
   obtain ⟨f0, f1, f2, f3, c0, c1, c2, c3, rfl⟩ := hf.fns
   have HZ := hide (box_new A #[.nilFunc, .nilFunc, .nilFunc, .nilFunc] 137)
   have HBA := hide (alloc_below10 A (.cells #[.nilFunc, .nilFunc, .nilFunc, .nilFunc] 137))
   have HIF := hide infoFld
   clear hf
   generalize (fieldsR m.kind).contains k = cb at *
   gi_wp2_with (refine wpIn_store_boxR rfl rfl _ _ rfl A.heap.size rfl (cs' := #[.func f0 #[] c0, .func f1 #[] c1, .func f2 #[] c2, .func f3 #[] c3]) rfl HZ.out rfl HIF.out (fld_one _ _ _ _ _ _ _ _) ?_; intro w6 hb6 hk6; have HB6 := hide hb6; have HK6 : Hid (Below A.heap.size A w6) := hide (HBA.out.trans (hk6.below HBA.out.size (fun k e => by omega))); clear hb6 hk6)
   exact hK _ _ HK6.out ⟨A.heap.size, f0, f1, f2, f3, c0, c1, c2, c3, _, rfl, HB6.out, rfl⟩
  case body =>
   rintro l k vs a' A hk hsz ⟨vk, hI⟩ ⟨fs, e1, hf⟩ ⟨bf, f0, f1, f2, f3, c0, c1, c2, c3, b, rfl, hb, rfl⟩
   obtain ⟨rfl, rfl⟩ := vf_inj e1
   have HIK := hide hI
   have z2 := hb.cell 2 _ rfl
   cases hc : (fieldsR m.kind).contains k with
   | true =>
    have hxl : ((m.kind : Int) :: encRs (upTo m.kind k) m).length ≤ 5000 := by
     have h1 := HLN.out
     have h2 := upTo_len m.kind k (by omega) m
     unfold encRec at h1
     rw [List.length_cons] at h1 ⊢
     omega
    obtain ⟨f, cap, e2, he, hC⟩ := hf.put_any HM.out hI.box HS.out HL.out hI.wr hxl HMS.out hk (may_okR HM.out HMAY.out hk hc)
    cases e2
    have HXN : Hid (((m.kind : Int) :: encRs (upTo m.kind k) m) ++ encR k m = (m.kind : Int) :: encRs (upTo m.kind (k + 1)) m) := hide (by
     rw [upTo_succ, if_pos hc, encRs_app, List.cons_append]
     congr 2
     simp [encRs])
    rw [HXN.out] at hC
    have HC := hide hC
    unfold FnOk at he
    clear hC hc hf hI hxl HXN
    gi_wp2_with fail
    refine ⟨trivial, rfl, (CallsIn.inRound l (callsIn_wide.2 HC.out)).mono ?_⟩
    rintro e w7 ⟨rfl, v7, h7⟩
    have HI7 := hide (HIK.out.step hsz (by omega) hbp hlq hlb h7)
    have HK7 : Hid (KeepBut (fun b => b < w5.heap.size ∨ w5.heap.size + 5 ≤ b) A w7) := hide (h7.keep.mono (fun b e => by
     rcases e with e | e
     ·exact .inl (by omega)
     ·exact (HIK.out.vb _ e).1))
    clear h7 HC he HIK z2 hb
    gi_wp2_with fail
    exact ⟨HK7.out, v7, HI7.out⟩
   | false =>
    have HXN : Hid ((m.kind : Int) :: encRs (upTo m.kind k) m = (m.kind : Int) :: encRs (upTo m.kind (k + 1)) m) := hide (by
     rw [upTo_succ, if_neg (by rw [hc]; simp), List.append_nil])
    clear hc hf hI z2 hb
    gi_wp2_with fail
    refine ⟨KeepBut.refl _ _, vk, ?_⟩
    rw [← HXN.out]
    exact HIK.out
  case done =>
   rintro D W hD ⟨vk, hI⟩ hK
   rw [upTo_all] at hI
   have HI8 : Hid (EncI11 w W w5.heap.size w.heap.size br pw m (.slice ao m.wr.length c) (.slice bo m.mis.length d) vk (encRec m)) := hide hI
   have HK := hide hK
   have hKl : D < W.heap.size := (Array.getElem?_eq_some_iff.1 hK).1
   clear hI hK
   go_wp2_with fail
   refine (cwbytes_any pw vk (encRec m) W HI8.out.wr.wr (by have := HLN.out; omega)).mono ?_
   rintro e w8 ⟨u, rfl, ho8, hB8⟩
   have HO8 := hide ho8
   have HB8 := hide hB8
   have hK8 : w8.heap[D]? = some (.deferred (some [])) := (hB8.block D hKl).trans HK.out
   clear ho8 hB8
   go_wp2_with fail
   refine ⟨by simp, .inl ⟨_, _, rfl, run_takeDeferred hK8, ?_⟩⟩
   have hcm := Calm.putObj (B := w.heap.size) hK8 rfl (by omega) (.deferred none)
   have h1 : Below w.heap.size w w8 := HI8.out.wr.bl.trans (HB8.out.mono HI8.out.wr.bl.size)
   exact ⟨_, results_tmp2 rfl _ _ _, u, rfl, Lies.of_own (hcm.own HO8.out), h1.trans (hcm.below (Nat.le_refl _) h1.size)⟩
  case stop =>
   rintro D W _ h
   exact h.elim
end
section
open Go.RowKit Classical
def txGot (r : RS) : TxN := if (txC.dec r).2.why ≠ 0 then (0, 0, 0) else (txC.dec r).1
def rgGot (r : RS) : Nat × Nat := if (regC.dec r).2.why ≠ 0 then (0, 0) else (regC.dec r).1
theorem pair_dec {α β : Type} (A : Codec α) (B : Codec β) (r : RS) : (pairC A B).dec r = (((A.dec r).1, (B.dec (A.dec r).2).1), (B.dec (A.dec r).2).2) := rfl
theorem txC_dec (r : RS) : txC.dec r = (((byteS r).1.toNat, (numS mxN (byteS r).2).1.toNat, (numS mxN (numS mxN (byteS r).2).2).1.toNat), (numS mxN (numS mxN (byteS r).2).2).2) := by
 unfold txC
 rw [pair_dec, pair_dec]
 rfl
theorem regC_dec (r : RS) : regC.dec r = (((numS mxN r).1.toNat, (numS mxN (numS mxN r).2).1.toNat), (numS mxN (numS mxN r).2).2) := by
 unfold regC
 rw [pair_dec]
 rfl
theorem getTx10 (p : Nat) (vb : Value) (all : List Int) (r : RS) (w : World) (h : CR w p vb all r) :
  Calls Tryz.prog 119 #[.pointer (some ⟨p, 0, none⟩)] w fun e w' => e = .returned (.agg (txE (txGot r)).toArray) ∧ CR w' p vb all (txC.dec r).2 ∧ KeepBut (fun k => k = p) w w' := by
 have hx := h.byte'
 have hb := byteS_rng hx
 obtain ⟨n1, e1, _⟩ := num_rng mxN (byteS r).2 hb.2
 obtain ⟨n2, e2, _⟩ := num_rng mxN (numS mxN (byteS r).2).2 (num_bytes mxN hb.2)
 refine (gettx_any p vb all r w h).mono ?_
 rintro e w' ⟨rfl, h1, h2⟩
 refine ⟨?_, by rw [txC_dec]; exact h1, h2⟩
 unfold txVal txGot
 rw [txC_dec]
 show Ending.returned (.agg #[.int .u8 (if (numS mxN (numS mxN (byteS r).2).2).2.why ≠ 0 then ((0, 0, 0) : TxP) else ((byteS r).1, (numS mxN (byteS r).2).1, (numS mxN (numS mxN (byteS r).2).2).1)).1, .int .u32 (if (numS mxN (numS mxN (byteS r).2).2).2.why ≠ 0 then ((0, 0, 0) : TxP) else ((byteS r).1, (numS mxN (byteS r).2).1, (numS mxN (numS mxN (byteS r).2).2).1)).2.1, .int .u32 (if (numS mxN (numS mxN (byteS r).2).2).2.why ≠ 0 then ((0, 0, 0) : TxP) else ((byteS r).1, (numS mxN (byteS r).2).1, (numS mxN (numS mxN (byteS r).2).2).1)).2.2]) = _
 by_cases hw : (numS mxN (numS mxN (byteS r).2).2).2.why ≠ 0
 ·rw [if_pos hw, if_pos hw]
  rfl
 ·rw [if_neg hw, if_neg hw]
  have hb0 : (((byteS r).1.toNat : Nat) : Int) = (byteS r).1 := (byteN_int hx).1
  show Ending.returned (.agg #[.int .u8 (byteS r).1, .int .u32 (numS mxN (byteS r).2).1, .int .u32 (numS mxN (numS mxN (byteS r).2).2).1]) = Ending.returned (.agg #[.int .u8 (((byteS r).1.toNat : Nat) : Int), .int .u32 (((numS mxN (byteS r).2).1.toNat : Nat) : Int), .int .u32 (((numS mxN (numS mxN (byteS r).2).2).1.toNat : Nat) : Int)])
  rw [hb0, e1, e2]
  rfl
theorem getReg10 (p : Nat) (vb : Value) (all : List Int) (r : RS) (w : World) (h : CR w p vb all r) :
  Calls Tryz.prog 123 #[.pointer (some ⟨p, 0, none⟩)] w fun e w' => e = .returned (.agg (rgE (rgGot r)).toArray) ∧ CR w' p vb all (regC.dec r).2 ∧ KeepBut (fun k => k = p) w w' := by
 have hx := h.byte'
 obtain ⟨n1, e1, _⟩ := num_rng mxN r hx
 obtain ⟨n2, e2, _⟩ := num_rng mxN (numS mxN r).2 (num_bytes mxN hx)
 refine (getreg_any p vb all r w h).mono ?_
 rintro e w' ⟨rfl, h1, h2⟩
 refine ⟨?_, by rw [regC_dec]; exact h1, h2⟩
 unfold regVal rgGot
 rw [regC_dec]
 show Ending.returned (.agg #[.int .u32 (if (numS mxN (numS mxN r).2).2.why ≠ 0 then ((0, 0) : Int × Int) else ((numS mxN r).1, (numS mxN (numS mxN r).2).1)).1, .int .u32 (if (numS mxN (numS mxN r).2).2.why ≠ 0 then ((0, 0) : Int × Int) else ((numS mxN r).1, (numS mxN (numS mxN r).2).1)).2]) = _
 by_cases hw : (numS mxN (numS mxN r).2).2.why ≠ 0
 ·rw [if_pos hw, if_pos hw]
  rfl
 ·rw [if_neg hw, if_neg hw]
  show Ending.returned (.agg #[.int .u32 (numS mxN r).1, .int .u32 (numS mxN (numS mxN r).2).1]) = Ending.returned (.agg #[.int .u32 (((numS mxN r).1.toNat : Nat) : Int), .int .u32 (((numS mxN (numS mxN r).2).1.toNat : Nat) : Int)])
  rw [e1, e2]
  rfl
theorem getKey10 (p : Nat) (vb : Value) (all : List Int) (r : RS) (w : World) (h : CR w p vb all r) :
  Calls Tryz.prog 133 #[.pointer (some ⟨p, 0, none⟩)] w fun e w' => e = .returned (.agg (eightE (keyC.dec r).1).toArray) ∧ CR w' p vb all (keyC.dec r).2 ∧ KeepBut (fun k => k = p) w w' := by
 have := crkey_any p vb all r w h
 rw [← eightE_map (keyS_length r)] at this
 exact this
structure GotR (w w' : World) (q pr : Nat) (vb : Value) (all : List Int) (r : RS) (m : RecP) (p u : Value) (n : Nat) (m' : RecP) (p' u' : Value) : Prop where
 box : Box w' q (recA m' p' u') 87
 src : RSrc wrE w' p' m'.wr
 lie : Lies .u64 w' u' (misI m'.mis)
 pp : p' = p ∨ ∀ g, p'.ownBlock = some g → w.heap.size ≤ g
 uu : u' = u ∨ ∀ g, u'.ownBlock = some g → w.heap.size ≤ g
 cr : CR w' pr vb all (decR n m r).2
 keep : KeepBut (fun k => k = pr ∨ k = q) w w'
 kind : m'.kind = m.kind
 val : (decR n m r).2.why = 0 → m' = (decR n m r).1
 len : m'.wr.length ≤ 16
 mis : n ≠ 5 → u' = u ∧ m'.mis = m.mis
theorem lies_keepR {S : Nat → Prop} {k : IntKind} {w w' : World} {v : Value} {xs : List Int} (h : Lies k w v xs) (hk : KeepBut S w w') (hS : ∀ g, v.ownBlock = some g → ¬ S g) : Lies k w' v xs := by
 rcases h with h | ⟨hx, b, off, cap, rfl, hb, hl, hm, hc⟩
 ·exact .inl h
 ·exact .inr ⟨hx, b, off, cap, rfl, Nat.lt_of_lt_of_le hb hk.size, hl, hm, fun t ht => (World.cell?_of_block (hk.block b hb (hS b rfl))).trans (hc t ht)⟩
theorem gotR_of {w w2 w' : World} {q pr : Nat} {vb : Value} {all : List Int} {r r' : RS} {m m' : RecP} {p u : Value} {n : Nat} (hs : RSrc wrE w p m.wr) (hl : Lies .u64 w u (misI m.mis)) (hp : ∀ g, p.ownBlock = some g → g ≠ pr ∧ g ≠ q) (hu : ∀ g, u.ownBlock = some g → g ≠ pr ∧ g ≠ q) (hpq : q ≠ pr) (hvq : vb.ownBlock ≠ some q) (h16 : m.wr.length ≤ 16) (hr : (decR n m r).2 = r')
  (h2 : CR w2 pr vb all r' ∧ KeepBut (fun k => k = pr) w w2) (hb : Box w' q (recA m' p u) 87) (hk : KeepBut (fun k => k = q) w2 w') (hw : m'.wr = m.wr) (hms : m'.mis = m.mis) (hkd : m'.kind = m.kind) (hv : r'.why = 0 → m' = (decR n m r).1) : GotR w w' q pr vb all r m p u n m' p u := by
 have hkk : KeepBut (fun k => k = pr ∨ k = q) w w' := (h2.2.mono (fun k e => .inl e)).trans (hk.mono (S' := fun k => k = pr ∨ k = q) (fun k e => .inr e)) (fun _ _ e => e)
 refine ⟨hb, ?_, ?_, .inl rfl, .inl rfl, ?_, hkk, hkd, by rw [hr]; exact hv, by rw [hw]; exact h16, fun _ => ⟨rfl, hms⟩⟩
 ·rw [hw]
  exact hs.keep hkk (fun g hg e => by have := hp g hg; omega)
 ·rw [hms]
  exact lies_keepR hl hkk (fun g hg e => by have := hu g hg; omega)
 ·rw [hr]
  exact h2.1.keep hk (fun e => hpq e.symm) (fun g hg e => hvq (by rw [hg, e]))
theorem tx_oneL (t : TxN) : (txE t).all (·.oneCell') = true := rfl
theorem rg_oneL (t : Nat × Nat) : (rgE t).all (·.oneCell') = true := rfl
theorem key_oneL (k : List Int) : (eightE k).all (·.oneCell') = true := rfl
theorem it_oneL (i : ItP) : (itE i).all (·.oneCell') = true := rfl
set_option maxRecDepth 100000 in
theorem FV.get_any {lo q pr : Nat} {w : World} {vb : Value} {all : List Int} {r : RS} {vs : List Value} {m : RecP} {p u : Value} {n : Nat} (h : FV n lo q w vs) (hb : Box w q (recA m p u) 87) (hs : RSrc wrE w p m.wr) (hl : Lies .u64 w u (misI m.mis)) (hp : ∀ g, p.ownBlock = some g → g ≠ pr ∧ g ≠ q) (hu : ∀ g, u.ownBlock = some g → g ≠ pr ∧ g ≠ q) (hcr : CR w pr vb all r) (hpr : pr < lo) (hql : q < lo) (hpq : q ≠ pr) (hvq : vb.ownBlock ≠ some q) (h16 : m.wr.length ≤ 16) (h5 : n = 5 → u = .slice none 0 0 ∧ m.mis = []) (hn : n < 8) :
  ∃ f cap, vs[3]? = some (.func (.func f) #[] cap) ∧ FnOk f ∧ Calls Tryz.prog f (#[.pointer (some ⟨pr, 0, none⟩)] ++ cap) w fun e w' => e = .returned (.tuple #[]) ∧ ∃ m' p' u', GotR w w' q pr vb all r m p u n m' p' u' := by
 have hc : n = 0 ∨ n = 1 ∨ n = 2 ∨ n = 3 ∨ n = 4 ∨ n = 5 ∨ n = 6 ∨ n = 7 := by omega
 clear hn
 rcases hc with rfl | rfl | rfl | rfl | rfl | rfl | rfl | rfl
 ·obtain ⟨hi, ba, bm, bp, bg, bz, hf⟩ := h
  rw [hf.eq]
  refine ⟨_, _, rfl, en_rc_fieldAt_uint32__4, (fa4_u32 pr bg ba q 1 (((numC mxN).dec r).1 : Int) (recA m p u) 87 _ _ (fun W => CR W pr vb all ((numC mxN).dec r).2 ∧ KeepBut (fun k => k = pr) w W) w (hf.g.cell 0 _ rfl) (hf.a.cell 0 _ rfl) hf.g.lt hf.a.lt (by show 1 + 1 ≤ 31; decide) en_rc_getCount (fun W hB => ?_) (fun W hR => ⟨(hf.a.keep hR.2 (fun e => by have := hf.lo; omega)).cell 0 _ rfl, hb.keep hR.2 hpq⟩)).mono ?_⟩
  ·rw [arr_app0]
   refine (rgetCount_any pr vb all r W (hcr.below hB)).mono ?_
   rintro e w' ⟨rfl, g1, g2⟩
   exact ⟨rfl, g1, (KeepBut.of_below _ hB).trans g2 (fun _ _ e => e)⟩
  ·rintro e w' ⟨rfl, w2, h2, hb', hk'⟩
   exact ⟨rfl, _, _, _, gotR_of (m' := { m with n := ((numC mxN).dec r).1 }) hs hl hp hu hpq hvq h16 rfl h2 hb' hk' rfl rfl rfl (fun _ => rfl)⟩
 ·obtain ⟨hi, ba, bm, bp, bg, bz, hf⟩ := h
  rw [hf.eq]
  refine ⟨_, _, rfl, en_rc_fieldAt_parrel_api_Tx__4, (fa4_tx pr bg ba q 2 (txE (txGot r)) (recA m p u) 87 _ _ (fun W => CR W pr vb all (txC.dec r).2 ∧ KeepBut (fun k => k = pr) w W) w (hf.g.cell 0 _ rfl) (hf.a.cell 0 _ rfl) rfl (tx_oneL _) hf.g.lt hf.a.lt (by show 2 + 3 ≤ 31; decide) en_i_GetTx (fun W hB => ?_) (fun W hR => ⟨(hf.a.keep hR.2 (fun e => by have := hf.lo; omega)).cell 0 _ rfl, hb.keep hR.2 hpq⟩)).mono ?_⟩
  ·rw [arr_app0]
   refine (getTx10 pr vb all r W (hcr.below hB)).mono ?_
   rintro e w' ⟨rfl, g1, g2⟩
   exact ⟨rfl, g1, (KeepBut.of_below _ hB).trans g2 (fun _ _ e => e)⟩
  ·rintro e w' ⟨rfl, w2, h2, hb', hk'⟩
   exact ⟨rfl, _, _, _, gotR_of (m' := { m with tx := txGot r }) hs hl hp hu hpq hvq h16 rfl h2 hb' hk' rfl rfl rfl (fun e => (by have e : (txC.dec r).2.why = 0 := e; show ({ m with tx := txGot r } : RecP) = { m with tx := _ }; unfold txGot; rw [if_neg (by rw [e]; simp)]))⟩
 ·obtain ⟨hi, ba, bm, bp, bg, bz, hf⟩ := h
  rw [hf.eq]
  refine ⟨_, _, rfl, en_rc_fieldAt_parrel_api_Reg__4, (fa4_reg pr bg ba q 5 (rgE (rgGot r)) (recA m p u) 87 _ _ (fun W => CR W pr vb all (regC.dec r).2 ∧ KeepBut (fun k => k = pr) w W) w (hf.g.cell 0 _ rfl) (hf.a.cell 0 _ rfl) rfl (rg_oneL _) hf.g.lt hf.a.lt (by show 5 + 2 ≤ 31; decide) en_i_GetReg (fun W hB => ?_) (fun W hR => ⟨(hf.a.keep hR.2 (fun e => by have := hf.lo; omega)).cell 0 _ rfl, hb.keep hR.2 hpq⟩)).mono ?_⟩
  ·rw [arr_app0]
   refine (getReg10 pr vb all r W (hcr.below hB)).mono ?_
   rintro e w' ⟨rfl, g1, g2⟩
   exact ⟨rfl, g1, (KeepBut.of_below _ hB).trans g2 (fun _ _ e => e)⟩
  ·rintro e w' ⟨rfl, w2, h2, hb', hk'⟩
   exact ⟨rfl, _, _, _, gotR_of (m' := { m with reg := rgGot r }) hs hl hp hu hpq hvq h16 rfl h2 hb' hk' rfl rfl rfl (fun e => (by have e : (regC.dec r).2.why = 0 := e; show ({ m with reg := rgGot r } : RecP) = { m with reg := _ }; unfold rgGot; rw [if_neg (by rw [e]; simp)]))⟩
 ·obtain ⟨hi, ba, bm, bp, bg, bz, hf⟩ := h
  rw [hf.eq]
  refine ⟨_, _, rfl, en_rc_fieldAt_uint64__4, (fa4_u64 pr bg ba q 7 (((numC 255).dec r).1 : Int) (recA m p u) 87 _ _ (fun W => CR W pr vb all ((numC 255).dec r).2 ∧ KeepBut (fun k => k = pr) w W) w (hf.g.cell 0 _ rfl) (hf.a.cell 0 _ rfl) hf.g.lt hf.a.lt (by show 7 + 1 ≤ 31; decide) en_rc_getSet (fun W hB => ?_) (fun W hR => ⟨(hf.a.keep hR.2 (fun e => by have := hf.lo; omega)).cell 0 _ rfl, hb.keep hR.2 hpq⟩)).mono ?_⟩
  ·rw [arr_app0]
   refine (getSet_any pr vb all r W (hcr.below hB)).mono ?_
   rintro e w' ⟨rfl, g1, g2⟩
   exact ⟨rfl, g1, (KeepBut.of_below _ hB).trans g2 (fun _ _ e => e)⟩
  ·rintro e w' ⟨rfl, w2, h2, hb', hk'⟩
   exact ⟨rfl, _, _, _, gotR_of (m' := { m with mem := ((numC 255).dec r).1 }) hs hl hp hu hpq hvq h16 rfl h2 hb' hk' rfl rfl rfl (fun _ => rfl)⟩
 ·obtain ⟨b1, e, hb1, hlo⟩ := h
  rw [e]
  refine ⟨_, _, rfl, en_rc_writesIn_4, (ww4_any pr b1 q vb all r m p u w hb1 hb hcr (by omega) hpq hvq).mono ?_⟩
  rintro e w' ⟨rfl, p', ws, g1, ⟨g2, g3, g4, _, g7⟩, g5, g6⟩
  exact ⟨rfl, { m with wr := ws }, p', u, ⟨g1, g2, lies_keepR hl g6 (fun g hg e => by have := hu g hg; omega), Or.inr g3, Or.inl rfl, g5, g6, rfl, fun e => (by show ({ m with wr := ws } : RecP) = { m with wr := (wsC.dec r).1 }; rw [g4 e]), g7, fun _ => ⟨rfl, rfl⟩⟩⟩
 ·obtain ⟨b1, e, hb1, hlo⟩ := h
  rw [e]
  obtain ⟨rfl, hm0⟩ := h5 rfl
  obtain ⟨ao, c, rfl, _, _⟩ := hs.shape
  refine ⟨_, _, rfl, en_rc_missingIn_4, (mm4_any pr b1 q vb all r m ao c w hb1 hm0 hb hcr (by omega) (by omega) hpq hvq (by omega)).mono ?_⟩
  rintro e w' ⟨rfl, u', g1, g2, g3, g4⟩
  exact ⟨rfl, _, _, u', ⟨g1, hs.keep g4 (fun g hg e => by have := hp g hg; omega), Lies.of_own g2, Or.inl rfl, Or.inr (fun g hg => (g2.lt g hg).1), g3, g4, rfl, fun _ => rfl, h16, fun h => absurd rfl h⟩⟩
 ·obtain ⟨hi, ba, bm, bp, bg, bz, hf⟩ := h
  rw [hf.eq]
  refine ⟨_, _, rfl, en_rc_fieldAt_parrel_api_Key__4, (fa4_key pr bg ba q 10 (eightE (keyC.dec r).1) (recA m p u) 87 _ _ (fun W => CR W pr vb all (keyC.dec r).2 ∧ KeepBut (fun k => k = pr) w W) w (hf.g.cell 0 _ rfl) (hf.a.cell 0 _ rfl) rfl (key_oneL _) hf.g.lt hf.a.lt (by show 10 + 8 ≤ 31; decide) en_cr_Key (fun W hB => ?_) (fun W hR => ⟨(hf.a.keep hR.2 (fun e => by have := hf.lo; omega)).cell 0 _ rfl, hb.keep hR.2 hpq⟩)).mono ?_⟩
  ·rw [arr_app0]
   refine (getKey10 pr vb all r W (hcr.below hB)).mono ?_
   rintro e w' ⟨rfl, g1, g2⟩
   exact ⟨rfl, g1, (KeepBut.of_below _ hB).trans g2 (fun _ _ e => e)⟩
  ·rintro e w' ⟨rfl, w2, h2, hb', hk'⟩
   exact ⟨rfl, _, _, _, gotR_of (m' := { m with key := (keyC.dec r).1 }) hs hl hp hu hpq hvq h16 rfl h2 hb' hk' rfl rfl rfl (fun _ => rfl)⟩
 ·obtain ⟨hi, ba, bm, bp, bg, bz, hf⟩ := h
  rw [hf.eq]
  refine ⟨_, _, rfl, en_rc_fieldAt_parrel_api_Item__4, (fa4_item pr bg ba q 18 (itE (itGot r)) (recA m p u) 87 _ _ (fun W => CR W pr vb all (itC.dec r).2 ∧ KeepBut (fun k => k = pr) w W) w (hf.g.cell 0 _ rfl) (hf.a.cell 0 _ rfl) rfl (it_oneL _) hf.g.lt hf.a.lt (by show 18 + 13 ≤ 31; decide) en_m_GetItem (fun W hB => ?_) (fun W hR => ⟨(hf.a.keep hR.2 (fun e => by have := hf.lo; omega)).cell 0 _ rfl, hb.keep hR.2 hpq⟩)).mono ?_⟩
  ·rw [arr_app0]
   refine (getItem_any pr vb all r W (hcr.below hB)).mono ?_
   rintro e w' ⟨rfl, g1, g2⟩
   exact ⟨rfl, g1, (KeepBut.of_below _ hB).trans g2 (fun _ _ e => e)⟩
  ·rintro e w' ⟨rfl, w2, h2, hb', hk'⟩
   exact ⟨rfl, _, _, _, gotR_of (m' := { m with item := itGot r }) hs hl hp hu hpq hvq h16 rfl h2 hb' hk' rfl rfl rfl (fun e => (by have e : (itC.dec r).2.why = 0 := e; show ({ m with item := itGot r } : RecP) = { m with item := _ }; unfold itGot; rw [if_neg (by rw [e]; simp)]))⟩
end
end Go.Proofs.YtlegliimgjmphaaGreat
