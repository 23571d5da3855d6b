/-
  Own texts put together: WlPut, WlSup, WlRec, WlOpn. Own work.
-/
import Derived.Test.YtlegliimgjmphaaGreatG12
import Derived.Test.YtlegliimgjmphaaGreatG08
namespace Go.Proofs.YtlegliimgjmphaaGreat
section
open Go.RowKit
theorem put_may {m : RecP} (hm : RecOk m) (h : mayR m = true) : putFr [] (encRec m) = (frR m, 0) := by
 unfold putFr
 rw [if_pos (encRec_len hm h)]
 rfl
theorem rows_ok {W : World} {ns : List RecV} (h : ∀ r ∈ ns, RvLie W r) : ∀ m ∈ rows ns, RecOk m := fun m hm => by
 unfold rows at hm
 obtain ⟨r, hr, rfl⟩ := List.mem_map.1 hm
 exact (h r hr).ok
theorem rows_len (ns : List RecV) : (rows ns).length = ns.length := by unfold rows; rw [List.length_map]
theorem rows_all {ns : List RecV} {k : Nat} (h : k < ns.length) (hm : mayR ns[k].m = false) : (rows ns).all mayR = false := by
 rw [List.all_eq_false]
 exact ⟨ns[k].m, by unfold rows; exact List.mem_map.2 ⟨_, List.getElem_mem h, rfl⟩, by rw [hm]; simp⟩
def frsW (l : List RecP) : List Int := if l.all mayR then framesR l else []
def errW (l : List RecP) : Int := if l.all mayR then 0 else 1
set_option maxRecDepth 100000 in
set_option maxHeartbeats 3200000 in
theorem wframes_any (E : EncOK) (P : PutOK) (v : Value) (ns : List RecV) (w : World) (h : RSrc recVE w v ns) (ho : ∀ r ∈ ns, RvLie w r) (hl : ns.length ≤ 10000) :
  Calls Tryz.prog 86 #[v] w fun e w' => ∃ u, e = .returned (.tuple #[u, .int .i64 (errW (rows ns))]) ∧ Lies .u8 w' u (frsW (rows ns)) ∧ Below w.heap.size w w' := by
 obtain ⟨ao, cap, rfl, hc, hm⟩ := h.shape
 have HH := hide h
 have HOK := hide ho
 clear h ho
 obtain ⟨LN, hLN⟩ : ∃ LN, LN = ns.length := ⟨_, rfl⟩
 have HLN := hide hLN
 have hL : LN ≤ 10000 := by omega
 rw [← hLN]
 clear hc hm hl hLN
 go_enter Tryz.func86, Tryz.ntmps86
 go_wp2_with fail
 go_loopg [4, 12] LN (fun g x i wr => ∃ (k n : Nat) (ys : List Int) (ax : Option Addr) (cx : Nat), k + g = LN ∧ x = .slice ax n cx ∧ i = .int .i64 k ∧ n ≤ k * 5000 ∧ Hid (wr.ownsRow w.heap.size 5 1 (.slice ax n cx) n (ys.map (Value.int .u8))) ∧ Hid (ys = framesR (rows (ns.take k)) ∧ n = ys.length ∧ (rows (ns.take k)).all mayR = true) ∧ Hid (Below w.heap.size w wr))
 case atStart => exact ⟨0, 0, [], none, 0, by omega, rfl, rfl, by omega, hide (World.ownsRow_nil _ _ _ _), hide ⟨by simp [rows, framesR], rfl, by simp [rows]⟩, hide (Below.refl _ _)⟩
 case round =>
  obtain ⟨k, n, ys, ax, cx, hk, rfl, rfl, hn, HO, HY, HB⟩ := hrel
  have HWS := HB.out.size
  cases gk with
  | zero =>
   obtain rfl : k = LN := by omega
   have hz : ¬ ((k : Int) < (k : Int)) := by omega
   have HT : Hid (ns.take k = ns) := hide (by rw [HLN.out]; simp)
   rw [HT.out] at HY
   have HE : Hid (errW (rows ns) = 0 ∧ frsW (rows ns) = ys) := hide ⟨by unfold errW; rw [if_pos HY.out.2.2], by unfold frsW; rw [if_pos HY.out.2.2, HY.out.1]⟩
   go_wp2_with fail
   go_ret2
   refine ⟨_, by rw [HE.out.1]; rfl, ?_, HB.out⟩
   have := HO.out
   rw [HY.out.2.1] at this
   rw [HE.out.2, HY.out.2.1]
   exact Lies.of_own this
  | succ g =>
   have hz : (k : Int) < (LN : Int) := by omega
   have hkn : k < ns.length := by rw [← HLN.out]; omega
   obtain ⟨en, b, off, rfl, hb, hcl⟩ := (HH.out.below HB.out).at recPV.len hkn
   have HRg : Hid (wr.rangeAt b (off + k * 31) (recVE ns[k])) := hide (fun j v hv => hcl j v hv)
   have HT := hide (rows_take ns hkn)
   have HX := hide ((HOK.out _ (List.getElem_mem hkn)).below HB.out)
   have HNO : Hid (mayR ns[k].m = false → (rows ns).all mayR = false) := hide (rows_all hkn)
   generalize ns[k] = x at *
   obtain ⟨m, xp, xq⟩ := x
   obtain ⟨a1, a2, c1, c2, e1, e2, hrl⟩ := HX.out.shape
   dsimp only at e1 e2 HT HNO
   subst e1; subst e2
   have HM : Hid (RecOk m) := hide HX.out.ok
   have HZ := hide (box_new wr (recA (zeroR 0) (.slice none 0 0) (.slice none 0 0)) 87)
   have HZB : Hid (Below wr.heap.size wr (wr.alloc (.cells (recA (zeroR 0) (.slice none 0 0) (.slice none 0 0)) 87))) := hide ((Below.refl _ _).alloc (Nat.le_refl _) _)
   have HRL := hide hrl
   clear hcl en hb HX hrl
   go_wp2_with (first | (refine wpList_load_mid rfl 87 _ rfl b (off + k * 31) rfl (recE m (.slice a1 m.wr.length c1) (.slice a2 m.mis.length c2)) _ HRg.out Tryz.underlying87 rfl infoRec ?_) | (refine wp_store_box rfl rfl _ _ rfl wr.heap.size rfl (cs' := recA m (.slice a1 m.wr.length c1) (.slice a2 m.mis.length c2)) rfl HZ.out rfl infoRec (rec_one _ _ _ _ _ _ _) ?_; intro w3 hb3 hk3; have HK3 : Hid (Below wr.heap.size wr w3) := hide (HZB.out.trans (hk3.below HZB.out.size (fun k hk => by omega))); have HB3 := hide hb3; clear hb3 hk3) | (refine wp_load_box rfl _ rfl wr.heap.size rfl HB3.out Tryz.underlying87 rfl infoRec ?_))
   refine (E HM.out (HRL.out.below HK3.out)).mono ?_
   rintro e w4 ⟨u4, rfl, hL4, hB4⟩
   have HK4 : Hid (Below wr.heap.size wr w4) := hide (HK3.out.trans (hB4.mono HK3.out.size))
   have HL4 := hide hL4
   obtain ⟨a4, c4, e4⟩ := hL4.shape
   subst e4
   clear hL4 hB4 HB3 HK3 HZ HZB HRg HRL
   cases hmay : mayR m with
   | false =>
    have HE : Hid (errW (rows ns) = 1 ∧ frsW (rows ns) = []) := hide ⟨by unfold errW; rw [if_neg (by rw [HNO.out hmay]; simp)], by unfold frsW; rw [if_neg (by rw [HNO.out hmay]; simp)]⟩
    have HB4 : Hid (Below w.heap.size w w4) := hide (HB.out.trans (HK4.out.mono HB.out.size))
    clear hmay HL4
    go_wp2_with fail
    go_ret2
    exact ⟨_, by rw [HE.out.1]; rfl, by rw [HE.out.2]; exact Lies.nil _ _, HB4.out⟩
   | true =>
    have hlen := encRec_len HM.out hmay
    have HPM := hide (put_may HM.out hmay)
    have HBY := hide (enc_bytesR HM.out)
    have HT2 : Hid (ys ++ frR m = framesR (rows (ns.take (k + 1))) ∧ n + (frR m).length = (ys ++ frR m).length ∧ (rows (ns.take (k + 1))).all mayR = true) := hide (by
     rw [HT.out, framesR_app, ← HY.out.1, List.all_append, HY.out.2.2]
     refine ⟨?_, ?_, ?_⟩
     ·simp [framesR]
     ·rw [List.length_append, ← HY.out.2.1]
     ·simp [hmay])
    have hfl : (frR m).length ≤ 4104 := by rw [frR_len]; omega
    rw [hmay] at HL4
    clear hmay
    simp only [if_true] at HL4 ⊢
    obtain ⟨bsE, hbs⟩ : ∃ bsE, bsE = encRec m := ⟨_, rfl⟩
    rw [← hbs] at HL4 HPM HBY ⊢
    clear hbs hlen
    go_wp2_with fail
    refine (P _ _ [] bsE w4 (Lies.nil _ _) HL4.out HBY.out (by simp)).mono ?_
    rintro e w5 ⟨v5, rfl, hO5, hB5⟩
    rw [HPM.out] at hO5 ⊢
    have HL5 := hide (Lies.of_own hO5)
    obtain ⟨a5, c5, e5⟩ := (Lies.of_own hO5).shape
    dsimp only at e5
    subst e5
    have HK5 : Hid (Below wr.heap.size wr w5) := hide (HK4.out.trans (hB5.mono HK4.out.size))
    have HO5 := hide (owns_keep HO.out (KeepBut.of_below (fun _ => False) HK5.out) (fun _ _ h => h))
    have HB5 : Hid (Below w.heap.size w w5) := hide (HB.out.trans (HK5.out.mono HB.out.size))
    dsimp only at HL5
    clear hO5 hB5 HL4 HK4 HK5 HPM HBY
    obtain ⟨fr, hfr⟩ : ∃ fr, fr = frR m := ⟨_, rfl⟩
    rw [← hfr] at HL5 HT2 hfl ⊢
    clear hfr
    go_wp2_with (at_builtin; refine append_lies _ rfl _ _ rfl w.heap.size _ _ n ys fr rfl HO5.out rfl HL5.out (by omega) HB5.out.size ?_; intro v6 w6 ho6 hg6; obtain ⟨a6, c6, hv6, _⟩ := owns_shapeR ho6; subst hv6; have HO6 := hide ho6; have HB6 : Hid (Below w.heap.size w w6) := hide (HB5.out.grown hg6 HB5.out.size (fun j hj => (HO.out.lt j hj).1)); clear ho6 hg6)
    go_roundg g
    case measure => omega
    case rel => exact ⟨k + 1, n + fr.length, ys ++ fr, a6, c6, by omega, rfl, by first | rfl | go_num, by omega, HO6, HT2, HB6⟩
section
variable {D : World → Nat → (Nat → Prop) → Dk → Prop}
def putA (d : Dk) (l : List RecP) : Int × Int := if l.all mayR then appA d (framesR l) else (0, 1)
theorem wput_any (H : DiskDo D) (E : EncOK) (P : PutOK) {w : World} {p q : Nat} {F : Nat → Prop} {d : Dk} (h : WL D w p q F d) (hbl : d.bs.length ≤ 100000000) (v : Value) (ns : List RecV) (hs : RSrc recVE w v ns) (ho : ∀ r ∈ ns, RvLie w r) (hl : ns.length ≤ 10000) :
  Calls Tryz.prog 66 #[.pointer (some ⟨p, 0, none⟩), v] w fun e w' => e = .returned (.tuple #[.int .i64 (putA d (rows ns)).1, .int .i64 (putA d (rows ns)).2]) ∧ WDid D w w' p q F (wapD d (rows ns)) := by
 have m0 := h.cell
 have C := hide (wframes_any E P v ns w hs ho hl)
 have HW := hide h
 have HGD : Hid ((rows ns).all mayR = true → GoodR (rows ns)) := hide (fun hm m hx => ⟨rows_ok ho m hx, List.all_eq_true.1 hm m hx⟩)
 obtain ⟨ao, cap, e, _⟩ := hs.shape
 subst e
 have hrl := rows_len ns
 obtain ⟨ls, hls⟩ : ∃ ls, ls = rows ns := ⟨_, rfl⟩
 obtain ⟨LN, hLN⟩ : ∃ LN, LN = ns.length := ⟨_, rfl⟩
 rw [← hls] at C HGD hrl ⊢
 rw [← hLN] at C hrl hl ⊢
 clear hs ho h hls hLN
 cases ha : ls.all mayR with
 | false =>
  have HA : Hid (putA d ls = (0, 1) ∧ wapD d ls = d ∧ errW ls = 1) := hide ⟨by unfold putA; rw [ha]; rfl, by unfold wapD; rw [ha]; rfl, by unfold errW; rw [ha]; rfl⟩
  rw [HA.out.2.2] at C
  clear ha
  go_enter Tryz.func66, Tryz.ntmps66
  go_wp2_with fail
  refine (under_any p _ w m0).mono ?_
  rintro e w1 ⟨rfl, rfl⟩
  clear m0
  go_wp2_with fail
  refine C.out.mono ?_
  rintro e w2 ⟨u, rfl, hL, hB⟩
  obtain ⟨a2, c2, e2⟩ := hL.shape
  subst e2
  have H2 : Hid (WDid D w1 w2 p q F d) := hide ⟨F, HW.out.below H hB, KeepBut.of_below F hB, fun k hk => .inl hk⟩
  clear hL hB
  go_wp2_with fail
  go_ret2
  rw [HA.out.1, HA.out.2.1]
  exact ⟨rfl, H2.out⟩
 | true =>
  have HA : Hid (putA d ls = appA d (framesR ls) ∧ wapD d ls = appD d (framesR ls) ∧ errW ls = 0 ∧ frsW ls = framesR ls) := hide ⟨by unfold putA; rw [ha]; rfl, by unfold wapD; rw [ha]; rfl, by unfold errW; rw [ha]; rfl, by unfold frsW; rw [ha]; rfl⟩
  have HG := hide (HGD.out ha)
  have HLE : Hid ((framesR ls).length ≤ 100000000000000) := hide (by have := framesR_len HG.out; rw [hrl] at this; omega)
  rw [HA.out.2.2.1, HA.out.2.2.2] at C
  clear ha
  obtain ⟨fs, hfs⟩ : ∃ fs, fs = framesR ls := ⟨_, rfl⟩
  have HFB : Hid (∀ c ∈ fs, 0 ≤ c ∧ c < 256) := hide (by rw [hfs]; exact framesR_bytes HG.out)
  rw [← hfs] at C HA HLE
  clear hfs HG HGD
  go_enter Tryz.func66, Tryz.ntmps66
  go_wp2_with fail
  refine (under_any p _ w m0).mono ?_
  rintro e w1 ⟨rfl, rfl⟩
  clear m0
  go_wp2_with fail
  refine C.out.mono ?_
  rintro e w2 ⟨u, rfl, hL, hB⟩
  have HL2 := hide hL
  obtain ⟨a2, c2, e2⟩ := hL.shape
  subst e2
  have HW2 := hide (HW.out.below H hB)
  have HB2 := hide hB
  have m2 := HW2.out.cell
  clear hL hB
  go_wp2_with fail
  refine (H.app _ fs HW2.out.dsk HL2.out HFB.out HLE.out hbl).mono ?_
  rintro e w3 ⟨rfl, h3⟩
  have H3 := hide ((HW2.out.did h3).before HB2.out)
  clear h3 m2
  go_wp2_with fail
  go_ret2
  rw [HA.out.1, HA.out.2.1]
  exact ⟨rfl, H3.out⟩
theorem putA_err (d : Dk) (l : List RecP) : (putA d l).2 = wapA d l := by
 unfold putA wapA
 split <;> rfl
theorem putA_at {d : Dk} {l : List RecP} (h : wapA d l = 0) : (putA d l).1 = (d.bs.length : Int) := by
 unfold wapA at h
 unfold putA
 by_cases hm : l.all mayR = true
 ·rw [if_pos hm] at h ⊢
  unfold appA at h ⊢
  repeat' split at h
  all_goals first
   | (exfalso; revert h; decide)
   | skip
  rename_i h1 h2
  rw [if_neg h1, if_neg h2]
 ·rw [if_neg hm] at h
  cases h
theorem wappend_any (H : DiskDo D) (E : EncOK) (P : PutOK) {w : World} {p q : Nat} {F : Nat → Prop} {d : Dk} (h : WL D w p q F d) (hbl : d.bs.length ≤ 100000000) (v : Value) (ns : List RecV) (hs : RSrc recVE w v ns) (ho : ∀ r ∈ ns, RvLie w r) (hl : ns.length ≤ 10000) :
  Calls Tryz.prog 36 #[.pointer (some ⟨p, 0, none⟩), v] w fun e w' => e = .returned (.int .i64 (wapA d (rows ns))) ∧ WDid D w w' p q F (wapD d (rows ns)) := by
 have C := hide (wput_any H E P h hbl v ns hs ho hl)
 rw [putA_err] at C
 obtain ⟨ao, cap, e, _⟩ := hs.shape
 subst e
 clear hs ho h
 go_enter Tryz.func36, Tryz.ntmps36
 go_wp2_with fail
 refine C.out.mono ?_
 rintro e w1 ⟨rfl, h1⟩
 have H1 := hide h1
 clear h1
 go_wp2_with fail
 go_ret
 exact ⟨rfl, H1.out⟩
theorem appD_len (d : Dk) (b : List Int) : (appD d b).bs.length ≤ d.bs.length + b.length := by
 unfold appD
 split
 ·omega
 ·split
  ·omega
  ·simp
theorem forD_bs (d : Dk) : (forD d).bs = d.bs := by
 unfold forD
 split
 ·rfl
 ·split <;> rfl
theorem forA_off {d : Dk} (h : forA d = 0) : (forD d).off = false := by
 unfold forA at h
 unfold forD
 split at h
 ·cases h
 ·split at h
  ·cases h
  ·rename_i h1 h2
   rw [if_neg h1, if_neg h2]
   simpa using h1
theorem cut_again {d : Dk} (hok : d.Ok) {l : List RecP} (_ : wapA d l = 0) (h2 : forA (wapD d l) = 0) : cutA (forD (wapD d l)) (d.bs.length : Int) = 0 := by
 have hoff := forA_off h2
 have hb := hok.b2
 have hbs := forD_bs (wapD d l)
 have hbase : (forD (wapD d l)).base = d.base := by
  have h1 : (wapD d l).base = d.base := by
   unfold wapD appD
   split
   ·split
    ·rfl
    ·split <;> rfl
   ·rfl
  rw [← h1]
  unfold forD
  split
  ·rfl
  ·split <;> rfl
 have hle : d.bs.length ≤ (wapD d l).bs.length := by
  unfold wapD appD
  split
  ·split
   ·exact Nat.le_refl _
   ·split
    ·exact Nat.le_refl _
    ·simp
  ·exact Nat.le_refl _
 unfold cutA
 rw [hoff]
 have hin : (forD (wapD d l)).inB (d.bs.length : Int) = true := by
  unfold Dk.inB
  rw [Bool.and_eq_true, decide_eq_true_eq, decide_eq_true_eq, hbase, hbs]
  omega
 rw [hin]
 rfl
set_option maxHeartbeats 800000 in
theorem wagain_any (H : DiskDo D) (E : EncOK) (P : PutOK) {w : World} {p q : Nat} {F : Nat → Prop} {d : Dk} (h : WL D w p q F d) (hbl : d.bs.length ≤ 100000000) (v : Value) (ns : List RecV) (hs : RSrc recVE w v ns) (ho : ∀ r ∈ ns, RvLie w r) (hl : ns.length ≤ 10000) :
  Calls Tryz.prog 38 #[.pointer (some ⟨p, 0, none⟩), v] w fun e w' => e = .returned (.int .i64 (agnA d (rows ns))) ∧ WDid D w w' p q F (agnD d (rows ns)) := by
 have C := hide (wput_any H E P h hbl v ns hs ho hl)
 rw [putA_err] at C
 have hok := H.ok h.dsk
 obtain ⟨ao, cap, e, _⟩ := hs.shape
 subst e
 obtain ⟨ls, hls⟩ : ∃ ls, ls = rows ns := ⟨_, rfl⟩
 rw [← hls] at C ⊢
 clear hs ho h hls
 have HAT := hide (putA_at (d := d) (l := ls))
 have HCU := hide (cut_again hok (l := ls))
 have HD1 : Hid (wapA d ls ≠ 0 → agnA d ls = wapA d ls ∧ agnD d ls = wapD d ls) := hide (fun h => ⟨by unfold agnA; rw [if_pos h], by unfold agnD; rw [if_pos h]⟩)
 have HD2 : Hid (wapA d ls = 0 → forA (wapD d ls) ≠ 0 → agnA d ls = forA (wapD d ls) ∧ agnD d ls = forD (wapD d ls)) := hide (fun h h2 => ⟨by unfold agnA; rw [if_neg (fun h3 => h3 h), if_pos h2], by unfold agnD; rw [if_neg (fun h3 => h3 h), if_pos h2]⟩)
 have HD3 : Hid (wapA d ls = 0 → forA (wapD d ls) = 0 → agnA d ls = forA (cutD (forD (wapD d ls)) (d.bs.length : Int)) ∧ agnD d ls = forD (cutD (forD (wapD d ls)) (d.bs.length : Int))) := hide (fun h h2 => ⟨by unfold agnA; rw [if_neg (fun h3 => h3 h), if_neg (fun h3 => h3 h2)], by unfold agnD; rw [if_neg (fun h3 => h3 h), if_neg (fun h3 => h3 h2)]⟩)
 clear hok
 obtain ⟨d1, hd1⟩ : ∃ d1, d1 = wapD d ls := ⟨_, rfl⟩
 obtain ⟨A, hA⟩ : ∃ A, A = wapA d ls := ⟨_, rfl⟩
 obtain ⟨at0, hat⟩ : ∃ at0, at0 = (putA d ls).1 := ⟨_, rfl⟩
 obtain ⟨RA, hRA⟩ : ∃ RA, RA = agnA d ls := ⟨_, rfl⟩
 obtain ⟨RD, hRD⟩ : ∃ RD, RD = agnD d ls := ⟨_, rfl⟩
 obtain ⟨LB, hLB⟩ : ∃ LB, LB = (d.bs.length : Int) := ⟨_, rfl⟩
 rw [← hd1, ← hA, ← hat] at C
 rw [← hA, ← hat, ← hLB] at HAT
 rw [← hA, ← hd1, ← hLB] at HCU
 rw [← hA, ← hd1, ← hRA, ← hRD] at HD1 HD2
 rw [← hA, ← hd1, ← hRA, ← hRD, ← hLB] at HD3
 rw [← hRA, ← hRD]
 clear hd1 hA hat hRA hRD hLB hbl
 by_cases c0 : A = 0
 ·subst c0
  replace HAT := hide (HAT.out rfl)
  replace HCU := hide (HCU.out rfl)
  replace HD2 := hide (HD2.out rfl)
  replace HD3 := hide (HD3.out rfl)
  rw [HAT.out] at C
  clear HD1 HAT
  go_enter Tryz.func38, Tryz.ntmps38
  go_wp2_with fail
  refine C.out.mono ?_
  rintro e w1 ⟨rfl, F1, hW1, hk1, hF1⟩
  have HK1 := hide hk1
  have HF1 := hide hF1
  have HW1 := hide hW1
  have m1 := hW1.cell
  clear hW1 hk1 hF1 C
  go_wp2_with fail
  refine (H.for' HW1.out.dsk).mono ?_
  rintro e w2 ⟨rfl, h2⟩
  obtain ⟨F2, hW2, hk2, hF2⟩ := (WDid.then HK1.out HF1.out (HW1.out.did h2))
  have HK2 := hide hk2
  have HF2 := hide hF2
  have HW2 := hide hW2
  have m2 := hW2.cell
  clear h2 hW2 hk2 hF2 m1 HK1 HF1 HW1
  by_cases c1 : forA d1 = 0
  ·rw [c1]
   replace HCU := hide (HCU.out c1)
   replace HD3 := hide (HD3.out c1)
   clear c1 HD2
   go_wp2_with fail
   refine (H.cut LB HW2.out.dsk).mono ?_
   rintro e w3 ⟨rfl, h3⟩
   rw [HCU.out]
   obtain ⟨F3, hW3, hk3, hF3⟩ := (WDid.then HK2.out HF2.out (HW2.out.did h3))
   have HK3 := hide hk3
   have HF3 := hide hF3
   have HW3 := hide hW3
   have m3 := hW3.cell
   clear h3 hW3 hk3 hF3 m2 HK2 HF2 HW2
   go_wp2_with fail
   refine (H.for' HW3.out.dsk).mono ?_
   rintro e w4 ⟨rfl, h4⟩
   have H4 := hide (WDid.then HK3.out HF3.out (HW3.out.did h4))
   clear h4 m3 HK3 HF3 HW3
   rw [← HD3.out.1]
   rw [← HD3.out.2] at H4
   go_wp2_with fail
   go_ret
   exact ⟨rfl, H4.out⟩
  ·replace HD2 := hide (HD2.out c1)
   have H2 : Hid (WDid D w w2 p q F (forD d1)) := hide ⟨F2, HW2.out, HK2.out, HF2.out⟩
   have hcb : (forA d1 != 0) = true := by simp [c1]
   clear HCU HD3 m2
   rw [← HD2.out.1] at hcb ⊢
   rw [← HD2.out.2] at H2
   clear c1 HD2
   go_wp2_with fail
   go_ret
   exact ⟨rfl, H2.out⟩
 ·replace HD1 := hide (HD1.out c0)
  have hcb : (A != 0) = true := by simp [c0]
  clear HAT HCU HD2 HD3 c0
  rw [← HD1.out.1] at C hcb
  rw [← HD1.out.2] at C
  clear HD1
  go_enter Tryz.func38, Tryz.ntmps38
  go_wp2_with fail
  refine C.out.mono ?_
  rintro e w1 ⟨rfl, h1⟩
  have H1 := hide h1
  clear h1 C
  go_wp2_with fail
  go_ret
  exact ⟨rfl, H1.out⟩
end
end
section
open Go.RowKit
def Sup (F : Nat → Prop) (w : World) (Φ : World → Prop) : Prop := ∃ U : Nat → Prop, (∀ k, U k → k < w.heap.size ∧ ¬ F k) ∧ ∀ w', KeepBut (fun k => ¬ U k) w w' → Φ w'
section
variable {F F' : Nat → Prop} {w w' : World} {Φ Ψ : World → Prop}
theorem Sup.now (h : Sup F w Φ) : Φ w := h.elim fun _ h => h.2 w (KeepBut.refl _ _)
theorem Sup.keep {G : Nat → Prop} (h : Sup F w Φ) (hk : KeepBut G w w') (hG : ∀ k, k < w.heap.size → G k → F k) (hF : ∀ k, F' k → F k ∨ w.heap.size ≤ k) : Sup F' w' Φ := by
 obtain ⟨U, h1, h2⟩ := h
 refine ⟨U, fun k hu => ⟨Nat.lt_of_lt_of_le (h1 k hu).1 hk.size, fun hf => ?_⟩, fun W hW => h2 W (KeepBut.trans ⟨hk.os, hk.tape, hk.output, hk.size, fun k hl hn => hk.block k hl (fun hg => ?_)⟩ hW (fun _ _ h => h))⟩
 ·rcases hF k hf with h | h
  ·exact (h1 k hu).2 h
  ·exact Nat.lt_irrefl _ (Nat.lt_of_lt_of_le (h1 k hu).1 h)
 ·exact hn (fun hu => (h1 k hu).2 (hG k hl hg))
theorem Sup.below (h : Sup F w Φ) (hB : Below w.heap.size w w') : Sup F w' Φ := h.keep (KeepBut.of_below (fun _ => False) hB) (fun _ _ h => h.elim) (fun _ h => .inl h)
theorem Sup.weak (h : Sup F w Φ) (hF : ∀ k, k < w.heap.size → F' k → F k) : Sup F' w Φ := by
 obtain ⟨U, h1, h2⟩ := h
 exact ⟨U, fun k hu => ⟨(h1 k hu).1, fun hf => (h1 k hu).2 (hF k (h1 k hu).1 hf)⟩, h2⟩
theorem Sup.and (h : Sup F w Φ) (h' : Sup F w Ψ) : Sup F w (fun W => Φ W ∧ Ψ W) := by
 obtain ⟨U, h1, h2⟩ := h
 obtain ⟨V, g1, g2⟩ := h'
 exact ⟨fun k => U k ∨ V k, fun k hu => hu.elim (h1 k) (g1 k), fun W hW => ⟨h2 W (hW.mono (fun k hn hu => hn (.inl hu))), g2 W (hW.mono (fun k hn hu => hn (.inr hu)))⟩⟩
theorem Sup.map (h : Sup F w Φ) (hm : ∀ W, Φ W → Ψ W) : Sup F w Ψ := by
 obtain ⟨U, h1, h2⟩ := h
 exact ⟨U, h1, fun W hW => hm W (h2 W hW)⟩
theorem Sup.true : Sup F w (fun _ => True) := ⟨fun _ => False, fun _ h => h.elim, fun _ _ => trivial⟩
theorem sup_row {base e sz n : Nat} {v : Value} {xs : List Value} (h : w.ownsRow base e sz v n xs) (hF : ∀ g, v.ownBlock = some g → ¬ F g) : Sup F w (fun W => W.ownsRow base e sz v n xs) :=
 ⟨fun g => v.ownBlock = some g, fun g hg => ⟨(h.lt g hg).2, hF g hg⟩, fun _ hW => owns_keep h hW (fun _ hg hn => hn hg)⟩
theorem sup_src {α : Type} {enc : α → List Value} {v : Value} {xs : List α} (h : RSrc enc w v xs) (hF : ∀ g, g < w.heap.size → v.ownBlock = some g → ¬ F g) : Sup F w (fun W => RSrc enc W v xs) := by
 refine ⟨fun g => v.ownBlock = some g ∧ g < w.heap.size, fun g hg => ⟨hg.2, hF g hg.2 hg.1⟩, fun W hW => ?_⟩
 obtain ⟨ao, c, rfl, h1, h2, h3, h4⟩ := h
 refine ⟨ao, c, rfl, h1, h2, h3, fun hne => ?_⟩
 obtain ⟨b, off, rfl, hb, hc⟩ := h4 hne
 refine ⟨b, off, rfl, Nat.lt_of_lt_of_le hb hW.size, fun j u hu => ?_⟩
 rw [← hc j u hu]
 exact World.cell?_of_block (hW.block b hb (fun hn => hn ⟨rfl, hb⟩))
theorem sup_lies {k : IntKind} {v : Value} {xs : List Int} (h : Lies k w v xs) (hF : ∀ g, g < w.heap.size → v.ownBlock = some g → ¬ F g) : Sup F w (fun W => Lies k W v xs) := by
 refine ⟨fun g => v.ownBlock = some g ∧ g < w.heap.size, fun g hg => ⟨hg.2, hF g hg.2 hg.1⟩, fun W hW => ?_⟩
 rcases h with h | ⟨hx, b, off, cap, rfl, hb, hl, hm, hc⟩
 ·exact .inl h
 ·exact .inr ⟨hx, b, off, cap, rfl, Nat.lt_of_lt_of_le hb hW.size, hl, hm, fun t ht => (World.cell?_of_block (a := ⟨b, off + t, none⟩) (hW.block b hb (fun hn => hn ⟨rfl, hb⟩))).trans (hc t ht)⟩
theorem sup_rec {B : Nat} {v : Value} {m : RecP} (h : RcNew B w v m) (hm : RecOk m) : ∃ ao bo cap dap, v = .agg (recA m (.slice ao m.wr.length cap) (.slice bo m.mis.length dap)) ∧ Sup (fun k => k < B) w (fun W => RvLie W ⟨m, .slice ao m.wr.length cap, .slice bo m.mis.length dap⟩) := by
 obtain ⟨ao, bo, cap, dap, e, hs, hl, f1, f2⟩ := h
 refine ⟨ao, bo, cap, dap, e, ((sup_src hs (fun g _ hg hB => ?_)).and (sup_lies hl (fun g _ hg hB => ?_))).map (fun W h => ⟨hm, h.1, h.2⟩)⟩
 ·exact Nat.lt_irrefl _ (Nat.lt_of_lt_of_le hB (f1 g hg))
 ·exact Nat.lt_irrefl _ (Nat.lt_of_lt_of_le hB (f2 g hg))
end
end
section
open Go.RowKit
def NewR (w : World) (v : Value) (ns : List RecV) (W : World) : Prop := Sup (fun k => k < w.heap.size ∨ v.ownBlock = some k) W (fun W => ∀ r ∈ ns, RvLie W r)
theorem NewR.nil (w : World) (v : Value) (W : World) : NewR w v [] W := Sup.true.map (fun _ _ r hr => by cases hr)
theorem NewR.weak {w w1 W : World} {v : Value} {ns : List RecV} (h : NewR w1 v ns W) (hs : w.heap.size ≤ w1.heap.size) : NewR w v ns W :=
 Sup.weak h (fun _ _ h => h.imp (fun h => Nat.lt_of_lt_of_le h hs) id)
theorem NewR.snoc {w wr w2 W W' : World} {v v' : Value} {ns : List RecV} {a : RecV} {base : Nat} {e sz n : Nat} {xs : List Value} (h : NewR w v ns wr) (hB : Below wr.heap.size wr w2) (hws : w.heap.size ≤ wr.heap.size) (hrow : wr.ownsRow base e sz v n xs) (ha : Sup (fun k => k < wr.heap.size) w2 (fun W => RvLie W a)) (hB2 : Below w2.heap.size w2 W) (hg : W.grownBy W' v.ownBlock) (hv : v'.ownBlock = v.ownBlock ∨ v'.ownBlock = some W.heap.size) : NewR w v' (ns ++ [a]) W' := by
 have h1 : Sup (fun k => k < w.heap.size ∨ v.ownBlock = some k) w2 (fun W => RvLie W a) := ha.weak (fun k _ hk => by
  rcases hk with hk | hk
  ·exact Nat.lt_of_lt_of_le hk hws
  ·exact (hrow.lt k hk).2)
 have h2 : Sup (fun k => k < w.heap.size ∨ v.ownBlock = some k) W (fun W => ∀ r ∈ ns ++ [a], RvLie W r) := (((Sup.below h hB).and h1).below hB2).map (fun W h r hr => by
  rcases List.mem_append.1 hr with hr | hr
  ·exact h.1 r hr
  ·have : r = a := by simpa using hr
   rw [this]; exact h.2)
 refine Sup.keep (G := fun k => v.ownBlock = some k) h2 ⟨hg.os, hg.tape, hg.output, hg.size, fun k hk hn => hg.block k hk (fun e => hn e.symm)⟩ (fun k _ hk => .inr hk) (fun k hk => ?_)
 rcases hk with hk | hk
 ·exact .inl (.inl hk)
 ·rcases hv with e | e
  ·rw [e] at hk
   exact .inl (.inr hk)
  ·rw [e] at hk
   cases hk
   exact .inr (Nat.le_refl _)
theorem infoFl12 : (Tryz.prog.info? 118).map (·.size) = some 2 := by kernel_rfl
set_option maxRecDepth 100000 in
set_option maxHeartbeats 3200000 in
theorem wrecs_any (S : ScanOK) (DC : DecOK) (Z : SizeOK) (v : Value) (bs : List Int) (w : World) (h : Lies .u8 w v bs) (hx : ∀ c ∈ bs, 0 ≤ c ∧ c < 256) (hl : bs.length ≤ 100000) :
  Calls Tryz.prog 41 #[v] w fun e w' => ∃ v', e = .returned (.tuple #[v', .int .i64 ((recsF bs).2 : Int)]) ∧ ∃ ns, rows ns = (recsF bs).1 ∧ w'.ownsRow w.heap.size 87 31 v' ns.length (flat recVE ns) ∧ NewR w v' ns w' ∧ ns.length ≤ bs.length ∧ Below w.heap.size w w' := by
 obtain ⟨ao, cap, rfl⟩ := h.shape
 have C := hide (S _ bs w h hx (by omega))
 have HSM := hide (scan_small bs hx)
 have HRS := hide (recs_scan bs)
 have HGD := hide (recs_good bs hx)
 have HXB := hide hx
 obtain ⟨R, hR⟩ : ∃ R, R = recsF bs := ⟨_, rfl⟩
 rw [← hR] at HRS HGD ⊢
 clear h hx hR
 generalize scanF bs = sc at *
 obtain ⟨ls, sn⟩ := sc
 dsimp only at HSM HRS C
 obtain ⟨LB, hLB⟩ : ∃ LB, LB = bs.length := ⟨_, rfl⟩
 rw [← hLB] at HSM hl C ⊢
 clear hLB HXB
 obtain ⟨LN, hLN⟩ : ∃ LN, LN = ls.length := ⟨_, rfl⟩
 have HLN := hide hLN
 have hLL : LN ≤ LB := by rw [hLN]; exact HSM.out.2
 clear hLN
 go_enter Tryz.func41, Tryz.ntmps41
 go_wp2_with fail
 refine C.out.mono ?_
 rintro e w1 ⟨v1, rfl, hL1, hB1⟩
 obtain ⟨a1, c1, e1⟩ : ∃ (a1 : Option Addr) (c1 : Nat), v1 = .slice a1 LN c1 := by
  rcases hL1 with ⟨h, ao, c, e⟩ | ⟨_, b, off, c, e, _⟩
  ·exact ⟨ao, c, by rw [e, HLN.out, h]; rfl⟩
  ·exact ⟨_, c, by rw [e, HLN.out]⟩
 subst e1
 have HL1 := hide hL1
 have HB1 := hide hB1
 clear hL1 hB1 C
 go_wp2_with fail
 go_loopg [4, 5, 19] LN (fun g x y i wr => ∃ (k S : Nat) (ns : List RecV) (ax : Option Addr) (cx : Nat), k + g = LN ∧ x = .slice ax k cx ∧ y = .int .i64 (S : Int) ∧ i = .int .i64 k ∧ S ≤ k * 5000 ∧ Hid (ns.length = k ∧ wr.ownsRow w1.heap.size 87 31 (.slice ax k cx) k (flat recVE ns)) ∧ Hid (NewR w1 x ns wr) ∧ Hid (R = (rows ns ++ (decL (ls.drop k)).1, S + (decL (ls.drop k)).2)) ∧ Hid (Below w1.heap.size w1 wr))
 case atStart => exact ⟨0, 0, [], none, 0, by omega, rfl, rfl, rfl, by omega, hide ⟨rfl, by simp [flat]; exact World.ownsRow_nil _ _ _ _⟩, hide (NewR.nil _ _ _), hide (by rw [← HRS.out]; simp [rows]), hide (Below.refl _ _)⟩
 case round =>
  obtain ⟨k, S0, ns, ax, cx, hk, rfl, rfl, rfl, hS, HO, HV, HR, HB⟩ := hrel
  have HWS := HB.out.size
  cases gk with
  | zero =>
   obtain rfl : k = LN := by omega
   have hz : ¬ ((k : Int) < (k : Int)) := by omega
   have HT : Hid (ls.drop k = []) := hide (by rw [HLN.out]; simp)
   rw [HT.out] at HR
   go_wp2_with fail
   go_ret2
   refine ⟨_, by rw [HR.out]; rfl, ns, by rw [HR.out]; simp [decL], ?_, NewR.weak HV.out HB1.out.size, by rw [HO.out.1]; omega, HB1.out.trans (HB.out.mono HB1.out.size)⟩
   have := owns_base HO.out.2 HB1.out.size
   rw [HO.out.1]
   exact this
  | succ g =>
   have hz : (k : Int) < (LN : Int) := by omega
   have hkn : k < ls.length := by rw [← HLN.out]; omega
   have hld : ∃ b off u, a1 = some ⟨b, off, none⟩ ∧ wr.cell? ⟨b, off + k, none⟩ = some u ∧ Lies .u8 wr u ls[k] := by
    rcases HL1.out.below HB.out with ⟨h, _⟩ | ⟨_, b, off, c, e, hb, _, hc⟩
    ·rw [h] at hkn; simp at hkn
    ·cases e
     obtain ⟨u, h1, h2⟩ := hc k hkn
     have e2 : ls.getD k [] = ls[k] := by simp [List.getD, hkn]
     rw [e2] at h2
     exact ⟨b, off, u, rfl, h1, h2⟩
   obtain ⟨b, off, u, rfl, hcu, hLu⟩ := hld
   have HD : Hid (ls.drop k = ls[k] :: ls.drop (k + 1)) := hide (List.drop_eq_getElem_cons hkn)
   have hsm := HSM.out.1 _ (List.getElem_mem hkn)
   have hll := hsm.1
   have HBY := hide hsm.2
   have HLU := hide hLu
   obtain ⟨au, cu, eu⟩ := hLu.shape
   subst eu
   generalize ls[k] = ld at *
   rw [HD.out] at HR
   have HR1 : Hid ((decRec ld).2.1 ≠ 0 → R = (rows ns, S0)) := hide (fun h => by rw [HR.out, decL_no h]; simp)
   have HR2 : Hid ((decRec ld).2.1 = 0 → R = ((rows ns ++ [(decRec ld).1]) ++ (decL (ls.drop (k + 1))).1, (S0 + (8 + ld.length)) + (decL (ls.drop (k + 1))).2)) := hide (fun h => by rw [HR.out, decL_ok h]; simp [Nat.add_assoc])
   have HOKM : Hid (RecOk (decRec ld).1) := hide (dec_okR HBY.out)
   clear hsm hLu HD HR
   go_wp2_with fail
   refine (DC (b := ld) (by omega) HBY.out HLU.out).mono ?_
   rintro e w2 ⟨u2, rfl, hN2, hB2⟩
   generalize decRec ld = dd at *
   obtain ⟨m, why, fat⟩ := dd
   dsimp only at HR1 HR2 HOKM hN2
   obtain ⟨xa, xb, xc, xd, rfl, hSV⟩ := sup_rec hN2 HOKM.out
   have HSV := hide hSV
   have HB2 := hide hB2
   have HLD2 := hide (HLU.out.below hB2)
   clear hN2 hB2 HLU hcu hSV
   have HZ1 : Hid (Box ((w2.alloc (.cells (recA (zeroR 0) (.slice none 0 0) (.slice none 0 0)) 87)).alloc (.cells #[.int .i64 0, .int .i64 0] 118)) w2.heap.size (recA (zeroR 0) (.slice none 0 0) (.slice none 0 0)) 87) := hide ((box_new w2 _ _).belowI (alloc_below12 _ _))
   have HZ2 : Hid (Box ((w2.alloc (.cells (recA (zeroR 0) (.slice none 0 0) (.slice none 0 0)) 87)).alloc (.cells #[.int .i64 0, .int .i64 0] 118)) (w2.heap.size + 1) #[.int .i64 0, .int .i64 0] 118) := hide (by have := box_new (w2.alloc (.cells (recA (zeroR 0) (.slice none 0 0) (.slice none 0 0)) 87)) #[.int .i64 0, .int .i64 0] 118; simpa using this)
   have HA : Hid (Below w2.heap.size w2 ((w2.alloc (.cells (recA (zeroR 0) (.slice none 0 0) (.slice none 0 0)) 87)).alloc (.cells #[.int .i64 0, .int .i64 0] 118))) := hide (((Below.refl _ _).alloc (Nat.le_refl _) _).alloc (by simp) _)
   have hfl2 : (#[.int .i64 why, .int .i64 (fat : Int)] : Array Value).all (·.oneCell') = true := by simp [Value.oneCell']
   by_cases hw : why = 0
   ·subst hw
    replace HR2 := hide (HR2.out rfl)
    have H1 : Hid (∀ u ∈ recVE ⟨m, .slice xa m.wr.length xc, .slice xb m.mis.length xd⟩, u.oneCell' = true) := hide (rv_one ⟨⟨xa, _, xc, rfl⟩, xb, _, xd, rfl⟩)
    clear HR1
    go_wp2_with (first | (refine wp_store_box rfl rfl _ _ rfl w2.heap.size rfl (cs' := recA m (.slice xa m.wr.length xc) (.slice xb m.mis.length xd)) rfl HZ1.out rfl infoRec (rec_one _ _ _ _ _ _ _) ?_; intro w3 hb3 hk3; have HM3 := hide hb3; have HZ3 := hide (HZ2.out.keep hk3 (by omega)); have HA3 := hide (HA.out.trans (hk3.below HA.out.size (fun k hk => by omega))); clear hb3 hk3) | (refine wp_store_box rfl rfl _ _ rfl (w2.heap.size + 1) rfl (cs' := #[.int .i64 0, .int .i64 (fat : Int)]) rfl HZ3.out rfl infoFl12 hfl2 ?_; intro w4 hb4 hk4; have HM4 := hide (HM3.out.keep hk4 (by omega)); have y0 := hb4.cell 0 _ rfl; have HA4 := hide (HA3.out.trans (hk4.below HA3.out.size (fun k hk => by omega))); have HO4 := hide (owns_keep (owns_keep HO.out.2 (KeepBut.of_below (fun _ => False) HB2.out) (fun _ _ h => h)) (KeepBut.of_below (fun _ => False) HA4.out) (fun _ _ h => h)); have HAN := hide (alloc_below12 w4 (.cells (recA m (.slice xa m.wr.length xc) (.slice xb m.mis.length xd)) 87)); have HO5 := hide (owns_keep HO4.out (KeepBut.of_below (fun _ => False) HAN.out) (fun _ _ h => h)); have HB5 : Hid (Below w1.heap.size w1 (w4.alloc (.cells (recA m (.slice xa m.wr.length xc) (.slice xb m.mis.length xd)) 87))) := hide (HB.out.trans ((HB2.out.trans ((HA4.out.trans (HAN.out.mono HA4.out.size)).mono HB2.out.size)).mono HB.out.size)); have HSRC := hide (src_new (enc := recVE) w4 ⟨m, .slice xa m.wr.length xc, .slice xb m.mis.length xd⟩ (recA m (.slice xa m.wr.length xc) (.slice xb m.mis.length xd)) rfl 87); clear hb4 hk4) | (refine wp_load_box rfl _ rfl w2.heap.size rfl HM4.out Tryz.underlying87 rfl infoRec ?_) | (at_builtin; refine wp_recs recPV _ rfl _ _ rfl w1.heap.size (.slice ax k cx) _ ns [⟨m, .slice xa m.wr.length xc, .slice xb m.mis.length xd⟩] rfl (by rw [HO.out.1]; exact HO5.out) rfl HSRC.out (fun y hy => by simp at hy; subst hy; exact H1.out) (by rw [HO.out.1]; simp; omega) HB5.out.size ?_; intro v6 w6 ho6 hg6 hvo6; obtain ⟨a6, c6, hv6, _⟩ := owns_shapeR ho6; subst hv6; have HO6 := hide ho6; have HN6 : Hid ((ns ++ [(RecV.mk m (.slice xa m.wr.length xc) (.slice xb m.mis.length xd))]).length = k + 1) := hide (by rw [List.length_append, HO.out.1]; rfl); rw [HN6.out] at HO6; rw [HN6.out]; have HV6 : Hid (NewR w1 (.slice a6 (ns ++ [(RecV.mk m (.slice xa m.wr.length xc) (.slice xb m.mis.length xd))]).length c6) (ns ++ [(RecV.mk m (.slice xa m.wr.length xc) (.slice xb m.mis.length xd))]) w6) := hide (NewR.snoc HV.out HB2.out HWS HO.out.2 HSV.out (HA4.out.trans (HAN.out.mono HA4.out.size)) hg6 hvo6); rw [HN6.out] at HV6; have HB6 : Hid (Below w1.heap.size w1 w6) := hide (HB5.out.grown hg6 HB5.out.size (fun j hj => (HO.out.2.lt j hj).1)); clear ho6 hg6 hvo6))
    have HR6 : Hid (R = (rows (ns ++ [(RecV.mk m (.slice xa m.wr.length xc) (.slice xb m.mis.length xd))]) ++ (decL (ls.drop (k + 1))).1, (S0 + (8 + ld.length)) + (decL (ls.drop (k + 1))).2)) := hide (by rw [HR2.out]; unfold rows; rw [List.map_append]; rfl)
    clear HR2 y0
    obtain ⟨Q, hQ⟩ : ∃ Q, Q = ld.length := ⟨_, rfl⟩
    rw [← hQ] at HR6 hll
    rw [← hQ]
    clear hQ HLD2 HM4 HO4 HO5 HSRC HB5 HAN HA4 HA3 HZ1 HZ2 HZ3 HA HM3
    refine (Z (Q : Int) w6 (by omega) (by omega)).mono ?_
    rintro e w7 ⟨rfl, hB7⟩
    rw [sizeF_small hll]
    have HB7 : Hid (Below w1.heap.size w1 w7) := hide (HB6.out.trans (hB7.mono HB6.out.size))
    have HV7 := hide (Sup.below HV6.out hB7)
    have HO7 := hide (owns_keep HO6.out (KeepBut.of_below (fun _ => False) hB7) (fun _ _ h => h))
    clear hB7
    go_wp2_with fail
    go_roundg g
    case measure => omega
    case rel => exact ⟨k + 1, S0 + (8 + Q), ns ++ [(RecV.mk m (.slice xa m.wr.length xc) (.slice xb m.mis.length xd))], a6, c6, by omega, rfl, by first | rfl | go_num, by first | rfl | go_num, by omega, hide ⟨HN6.out, HO7.out⟩, HV7, HR6, HB7⟩
   ·have hwb : (why != 0) = true := by simp [hw]
    replace HR1 := hide (HR1.out hw)
    clear HR2 hw
    go_wp2_with (first | (refine wp_store_box rfl rfl _ _ rfl w2.heap.size rfl (cs' := recA m (.slice xa m.wr.length xc) (.slice xb m.mis.length xd)) rfl HZ1.out rfl infoRec (rec_one _ _ _ _ _ _ _) ?_; intro w3 hb3 hk3; have HZ3 := hide (HZ2.out.keep hk3 (by omega)); have HA3 := hide (HA.out.trans (hk3.below HA.out.size (fun k hk => by omega))); clear hb3 hk3) | (refine wp_store_box rfl rfl _ _ rfl (w2.heap.size + 1) rfl (cs' := #[.int .i64 why, .int .i64 (fat : Int)]) rfl HZ3.out rfl infoFl12 hfl2 ?_; intro w4 hb4 hk4; have y0 := hb4.cell 0 _ rfl; have HA4 := hide (HA3.out.trans (hk4.below HA3.out.size (fun k hk => by omega))); have HK4 : Hid (Below wr.heap.size wr w4) := hide (HB2.out.trans (HA4.out.mono HB2.out.size)); have HO4 := hide (owns_keep HO.out.2 (KeepBut.of_below (fun _ => False) HK4.out) (fun _ _ h => h)); have HV4 : Hid (NewR w1 (.slice ax k cx) ns w4) := hide (Sup.below HV.out HK4.out); have HB4 : Hid (Below w1.heap.size w1 w4) := hide (HB.out.trans (HK4.out.mono HB.out.size)); clear hb4 hk4))
    go_ret2
    refine ⟨_, by rw [HR1.out]; rfl, ns, by rw [HR1.out], ?_, NewR.weak HV4.out HB1.out.size, by rw [HO.out.1]; omega, HB1.out.trans (HB4.out.mono HB1.out.size)⟩
    have := owns_base HO4.out HB1.out.size
    rw [HO.out.1]
    exact this
end
section
open Go.RowKit
theorem reaB_small {d : Dk} (h : d.Ok) : (reaB d).length ≤ 65536 := by
 unfold reaB
 have h1 := h.full
 have h2 := h.b1
 have h3 := h.r2
 split
 ·exact Nat.zero_le _
 ·simp
  omega
theorem reaB_bytes {d : Dk} (h : d.Ok) : ∀ c ∈ reaB d, 0 ≤ c ∧ c < 256 := by
 unfold reaB
 split
 ·exact fun c hc => absurd hc List.not_mem_nil
 ·exact fun c hc => h.by8 c (List.mem_of_mem_drop hc)
def HasR (w : World) (F : Nat → Prop) (v : Value) (ns : List RecV) (W : World) : Prop := Sup F W (fun W => W.ownsRow w.heap.size 87 31 v ns.length (flat recVE ns) ∧ ∀ r ∈ ns, RvLie W r)
section
variable {D : World → Nat → (Nat → Prop) → Dk → Prop}
set_option maxRecDepth 100000 in
set_option maxHeartbeats 1600000 in
theorem wopen_any (H : DiskDo D) (S : ScanOK) (DC : DecOK) (Z : SizeOK) {w : World} {q : Nat} {F : Nat → Prop} {d : Dk} (h : D w q F d) (hon : d.off = false) (hbl : d.bs.length ≤ 100000000) :
  Calls Tryz.prog 11 #[.pointer (some ⟨q, 0, none⟩)] w fun e w' => ∃ p v, e = .returned (.tuple #[.pointer (some ⟨p, 0, none⟩), v, .int .i64 0]) ∧ ∃ ns F', rows ns = (recsF (reaB d)).1 ∧ w.heap.size ≤ p ∧ WL D w' p q F' (opnD d) ∧ KeepBut F w w' ∧ (∀ k, F' k → F k ∨ w.heap.size ≤ k) ∧ HasR w F' v ns w' ∧ ns.length ≤ 65536 := by
 have hok := H.ok h
 have HT := hide (opn_tri hok hon)
 have C := hide (H.rea h)
 have hra : reaA d = 0 := by unfold reaA; rw [hon]; rfl
 rw [hra] at C
 have hsm := reaB_small hok
 have HBY := hide (reaB_bytes hok)
 have hle := recs_le (reaB d)
 have HH := hide h
 obtain ⟨bs, hbs⟩ : ∃ bs, bs = reaB d := ⟨_, rfl⟩
 rw [← hbs] at C HT hsm HBY hle ⊢
 obtain ⟨R, hR⟩ : ∃ R, R = recsF bs := ⟨_, rfl⟩
 rw [← hR] at hle HT ⊢
 have HRE := hide hR
 clear h hok hra hbs hon hR
 go_enter Tryz.func11, Tryz.ntmps11
 go_wp2_with fail
 refine C.out.mono ?_
 rintro e w1 ⟨v1, rfl, hO1, hB1⟩
 have hL1 := Lies.of_own hO1
 obtain ⟨a1, c1, e1⟩ := hL1.shape
 subst e1
 have HB1 := hide hB1
 have HBX := hide (box_new w1 #[.pointer (some ⟨q, 0, none⟩)] 69)
 have HBA := hide (alloc_below12 w1 (.cells #[.pointer (some ⟨q, 0, none⟩)] 69))
 have HL2 := hide (hL1.below HBA.out)
 have HD1 := hide (H.below HH.out hB1)
 have HD2 := hide (H.below HD1.out HBA.out)
 have HP : Hid (¬ F w1.heap.size) := hide (fun hF => by have := H.lt HD1.out _ hF; omega)
 have C2 := hide (wrecs_any S DC Z _ bs _ HL2.out HBY.out (by omega))
 rw [← HRE.out] at C2
 clear hO1 hL1 hB1 HRE HL2 C HBY
 obtain ⟨LB, hLB⟩ : ∃ LB, LB = bs.length := ⟨_, rfl⟩
 rw [← hLB] at C2 hsm hle ⊢
 clear hLB
 go_wp2_with fail
 refine C2.out.mono ?_
 rintro e w2 ⟨v2, rfl, ns, hns, hO2, hN2, hl2, hB2⟩
 obtain ⟨a2, c2, e2, _⟩ := owns_shapeR hO2
 subst e2
 have HSZ : Hid (w.heap.size ≤ w1.heap.size ∧ (w1.alloc (.cells #[.pointer (some ⟨q, 0, none⟩)] 69)).heap.size = w1.heap.size + 1) := hide ⟨HB1.out.size, by simp⟩
 have HW2 : Hid (WL D w2 w1.heap.size q F d) := hide ⟨HBX.out.belowI hB2, H.below HD2.out hB2, HP.out⟩
 have HK2 : Hid (Below w.heap.size w w2) := hide (HB1.out.trans ((HBA.out.trans (hB2.mono HBA.out.size)).mono HB1.out.size))
 have HS2 : Hid (HasR w F (.slice a2 ns.length c2) ns w2) := hide (by
  refine Sup.and (sup_row (owns_base hO2 (by have := HSZ.out; omega)) (fun g hg hF => ?_)) (Sup.weak hN2 (fun k _ hF => .inl ?_))
  ·have h1 := (hO2.lt g hg).1
   have h2 := H.lt HD2.out g hF
   omega
  ·exact H.lt HD2.out k hF)
 have HNS := hide hns
 have HLL := hide hl2
 clear hns hO2 hN2 hl2 hB2 HBX HBA HD1 HD2 HP C2
 have C3 := hide (wtrim_any H HW2.out hbl (R.2 : Int) (by omega) (by omega))
 rw [HT.out.1, HT.out.2] at C3
 go_wp2_with fail
 refine C3.out.mono ?_
 rintro e w3 ⟨rfl, F', hW3, hk3, hF3⟩
 have HW3 := hide hW3
 have HK3 : Hid (KeepBut F w w3) := hide ((KeepBut.of_below F HK2.out).trans hk3 (fun _ _ h => h))
 have HF3 : Hid (∀ k, F' k → F k ∨ w.heap.size ≤ k) := hide (fun k hk => (hF3 k hk).imp id (fun h => Nat.le_trans HK2.out.size h))
 have HS3 : Hid (HasR w F' (.slice a2 ns.length c2) ns w3) := hide (by exact Sup.keep HS2.out hk3 (fun _ _ h => h) hF3)
 clear hW3 hk3 hF3 C3 HS2 HW2 HK2
 go_wp2_with fail
 go_ret3
 exact ⟨_, _, rfl, ns, F', HNS.out, HSZ.out.1, HW3.out, HK3.out, HF3.out, HS3.out, by have := HLL.out; omega⟩
end
def NobL (w : World) (v : Value) : Prop := v = .pointer none ∨ ∃ z, v = .pointer (some ⟨z, 0, none⟩) ∧ w.cell? ⟨z, 0, none⟩ = some (.pointer none)
theorem under_no (v : Value) (w : World) (h : NobL w v) : Calls Tryz.prog 50 #[v] w fun e w' => e = .returned (.pointer none) ∧ w' = w := by
 rcases h with rfl | ⟨z, rfl, hc⟩
 ·exact under_nil w
 ·exact under_any z none w hc
theorem wopen_nil (w : World) : Calls Tryz.prog 11 #[.pointer none] w fun e w' => e = .returned (.tuple #[.pointer none, .slice none 0 0, .int .i64 2]) ∧ w' = w := by
 go_enter Tryz.func11, Tryz.ntmps11
 go_wp2_with fail
 refine (read_no _ w (.inl rfl)).mono ?_
 rintro e w1 ⟨rfl, rfl⟩
 go_wp2_with fail
 go_ret3
 exact ⟨rfl, rfl⟩
theorem wforce_no (v : Value) (w : World) (h : NobL w v) : Calls Tryz.prog 37 #[v] w fun e w' => e = .returned (.int .i64 2) ∧ w' = w := by
 have C := hide (under_no v w h)
 clear h
 go_enter Tryz.func37, Tryz.ntmps37
 go_wp2_with fail
 refine C.out.mono ?_
 rintro e w1 ⟨rfl, rfl⟩
 go_wp2_with fail
 refine (force_no _ w1 (.inl rfl)).mono ?_
 rintro e w2 ⟨rfl, rfl⟩
 go_wp2_with fail
 go_ret
 exact ⟨rfl, rfl⟩
theorem wleft_no (v : Value) (w : World) (h : NobL w v) : Calls Tryz.prog 30 #[v] w fun e w' => e = .returned (.int .i64 0) ∧ w' = w := by
 have C := hide (under_no v w h)
 clear h
 go_enter Tryz.func30, Tryz.ntmps30
 go_wp2_with fail
 refine C.out.mono ?_
 rintro e w1 ⟨rfl, rfl⟩
 go_wp2_with fail
 refine (left_no _ w1 (.inl rfl)).mono ?_
 rintro e w2 ⟨rfl, rfl⟩
 go_wp2_with fail
 go_ret
 exact ⟨rfl, rfl⟩
theorem wroom_no (v : Value) (w : World) (h : NobL w v) : Calls Tryz.prog 34 #[v] w fun e w' => e = .returned (.int .i64 0) ∧ w' = w := by
 have C := hide (under_no v w h)
 clear h
 go_enter Tryz.func34, Tryz.ntmps34
 go_wp2_with fail
 refine C.out.mono ?_
 rintro e w1 ⟨rfl, rfl⟩
 go_wp2_with fail
 refine (room_no _ w1 (.inl rfl)).mono ?_
 rintro e w2 ⟨rfl, rfl⟩
 go_wp2_with fail
 go_ret
 exact ⟨rfl, rfl⟩
theorem wpend_no (v : Value) (w : World) (h : NobL w v) : Calls Tryz.prog 32 #[v] w fun e w' => e = .returned (.int .i64 0) ∧ w' = w := by
 have C := hide (under_no v w h)
 clear h
 go_enter Tryz.func32, Tryz.ntmps32
 go_wp2_with fail
 refine C.out.mono ?_
 rintro e w1 ⟨rfl, rfl⟩
 go_wp2_with fail
 refine (forced_no _ w1 (.inl rfl)).mono ?_
 rintro e w2 ⟨rfl, rfl⟩
 go_wp2_with fail
 refine C.out.mono ?_
 rintro e w3 ⟨rfl, rfl⟩
 go_wp2_with fail
 refine (end_no _ w3 (.inl rfl)).mono ?_
 rintro e w4 ⟨rfl, rfl⟩
 go_wp2_with fail
 go_ret
 exact ⟨rfl, rfl⟩
theorem wplace_no (v : Value) (w : World) (h : NobL w v) : Calls Tryz.prog 69 #[v, .int .i64 0] w fun e w' => e = .returned (.int .i64 0) ∧ w' = w := by
 have C := hide (under_no v w h)
 clear h
 go_enter Tryz.func69, Tryz.ntmps69
 go_wp2_with fail
 refine C.out.mono ?_
 rintro e w1 ⟨rfl, rfl⟩
 go_wp2_with fail
 refine (base_no _ w1 (.inl rfl)).mono ?_
 rintro e w2 ⟨rfl, rfl⟩
 go_wp2_with fail
 refine C.out.mono ?_
 rintro e w3 ⟨rfl, rfl⟩
 go_wp2_with fail
 refine (end_no _ w3 (.inl rfl)).mono ?_
 rintro e w4 ⟨rfl, rfl⟩
 go_wp2_with fail
 go_ret
 exact ⟨rfl, rfl⟩
theorem wdrop_no (v : Value) (w : World) (h : NobL w v) : Calls Tryz.prog 39 #[v, .int .i64 0] w fun e w' => e = .returned (.int .i64 2) ∧ w' = w := by
 have C := hide (under_no v w h)
 have C2 := hide (wplace_no v w h)
 clear h
 go_enter Tryz.func39, Tryz.ntmps39
 go_wp2_with fail
 refine C.out.mono ?_
 rintro e w1 ⟨rfl, rfl⟩
 go_wp2_with fail
 refine C2.out.mono ?_
 rintro e w2 ⟨rfl, rfl⟩
 go_wp2_with fail
 refine (cut_no _ 0 w2 (.inl rfl)).mono ?_
 rintro e w3 ⟨rfl, rfl⟩
 go_wp2_with fail
 go_ret
 exact ⟨rfl, rfl⟩
theorem wtrim_no (v : Value) (w : World) (h : NobL w v) : Calls Tryz.prog 40 #[v, .int .i64 0] w fun e w' => e = .returned (.int .i64 2) ∧ w' = w := by
 have C := hide (under_no v w h)
 have C2 := hide (wplace_no v w h)
 clear h
 go_enter Tryz.func40, Tryz.ntmps40
 go_wp2_with fail
 refine C.out.mono ?_
 rintro e w1 ⟨rfl, rfl⟩
 go_wp2_with fail
 refine C2.out.mono ?_
 rintro e w2 ⟨rfl, rfl⟩
 go_wp2_with fail
 refine (trim_no _ 0 w2 (.inl rfl)).mono ?_
 rintro e w3 ⟨rfl, rfl⟩
 go_wp2_with fail
 go_ret
 exact ⟨rfl, rfl⟩
theorem wput_no (v x : Value) (w : World) (h : NobL w v) : Calls Tryz.prog 66 #[v, x] w fun e w' => e = .returned (.tuple #[.int .i64 0, .int .i64 2]) ∧ w' = w := by
 have C := hide (under_no v w h)
 clear h
 go_enter Tryz.func66, Tryz.ntmps66
 go_wp2_with fail
 refine C.out.mono ?_
 rintro e w1 ⟨rfl, rfl⟩
 go_wp2_with fail
 go_ret2
 exact ⟨rfl, rfl⟩
theorem wappend_no (v x : Value) (w : World) (h : NobL w v) : Calls Tryz.prog 36 #[v, x] w fun e w' => e = .returned (.int .i64 2) ∧ w' = w := by
 have C := hide (wput_no v x w h)
 clear h
 go_enter Tryz.func36, Tryz.ntmps36
 go_wp2_with fail
 refine C.out.mono ?_
 rintro e w1 ⟨rfl, rfl⟩
 go_wp2_with fail
 go_ret
 exact ⟨rfl, rfl⟩
theorem wagain_no (v x : Value) (w : World) (h : NobL w v) : Calls Tryz.prog 38 #[v, x] w fun e w' => e = .returned (.int .i64 2) ∧ w' = w := by
 have C := hide (wput_no v x w h)
 clear h
 go_enter Tryz.func38, Tryz.ntmps38
 go_wp2_with fail
 refine C.out.mono ?_
 rintro e w1 ⟨rfl, rfl⟩
 go_wp2_with fail
 go_ret
 exact ⟨rfl, rfl⟩
theorem wsize_no (v x : Value) (w : World) (h : NobL w v) : Calls Tryz.prog 18 #[v, x] w fun e w' => e = .returned (.int .i64 0) ∧ w' = w := by
 have C := hide (under_no v w h)
 clear h
 go_enter Tryz.func18, Tryz.ntmps18
 go_wp2_with fail
 refine C.out.mono ?_
 rintro e w1 ⟨rfl, rfl⟩
 go_wp2_with fail
 go_ret
 exact ⟨rfl, rfl⟩
end
end Go.Proofs.YtlegliimgjmphaaGreat
