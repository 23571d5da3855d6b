/-
  Own texts put together: RpIt. Own work.
-/
import Derived.Test.YtlegliimgjmphaaGreatG32
namespace Go.Proofs.YtlegliimgjmphaaGreat
section
open Go.RowKit Classical
def VF (kind q : Nat) (k H : Nat) (A : World) (vs : Array Value) : Prop := ∃ fs, vs = #[.agg fs.toArray, .bool ((fieldsR kind).contains k)] ∧ FV k H q A fs
structure ItI (l H bc cnt : Nat) (J : Nat → World → Prop) (k : Nat) (A : World) : Prop where
 j : J k A
 y : Box A H #[.func (.yield l) #[] #[]] 169
 c : Box A bc #[.int .u64 (cnt : Int)] 77
 le : H ≤ bc ∧ bc < H + 3
theorem ItI.below {l H bc cnt k : Nat} {J : Nat → World → Prop} {A B : World} (h : ItI l H bc cnt J k A) (hJ : ∀ k A B, J k A → Below A.heap.size A B → J k B) (hB : Below A.heap.size A B) : ItI l H bc cnt J k B := ⟨hJ k A B h.j hB, h.y.belowI hB, h.c.belowI hB, h.le⟩
def TNx (l H bc cnt : Nat) (J : Nat → World → Prop) (Jx : World → Prop) (k : Nat) (v : Value) (W : World) : Prop := (v = .bool true ∧ ItI l H bc cnt J (k + 1) W ∧ H + 3 ≤ W.heap.size) ∨ (v = .bool false ∧ Jx W)
theorem hand_any {kind q l H bc k : Nat} {J : Nat → World → Prop} {Jx : World → Prop} (hJ : ∀ k A B, J k A → Below A.heap.size A B → J k B)
  (hY : ∀ k A vs, k < 8 → J k A → H + 3 ≤ A.heap.size → VF kind q k H A vs → YieldAt Fence.wide 0 Tryz.prog l vs A fun e B => (e = .returned (.bool true) ∧ J (k + 1) B ∧ KeepBut (fun b => b < H ∨ H + 3 ≤ b) A B) ∨ (e = .returned (.bool false) ∧ Jx B))
  {A : World} {fs : List Value} (hk : k < 8) (hI : ItI l H bc (setN (fieldsR kind)) J k A) (hs : H + 3 ≤ A.heap.size) (hF : FV k H q A fs) :
  Calls Tryz.prog 110 #[.int .i64 (k : Int), .agg fs.toArray, .pointer (some ⟨H, 0, none⟩), .pointer (some ⟨bc, 0, none⟩)] A fun e W => ∃ v, e = .returned v ∧ TNx l H bc (setN (fieldsR kind)) J Jx k v W := by
 obtain ⟨f0, f1, f2, f3, c0, c1, c2, c3, rfl⟩ := hF.fns
 refine next_any l H bc k (setN (fieldsR kind)) f0 f1 f2 f3 c0 c1 c2 c3 _ A hI.y hI.c (setN_lt (fieldsR_facts kind).2) (by omega) (fun W hB => ?_)
 have hI2 := hI.below hJ hB
 have := hY k W _ hk hI2.j (Nat.le_trans hs hB.size) ⟨_, rfl, hF.below hB⟩
 rw [cnt_bit kind hk]
 obtain ⟨fn, tmps, assign, body, hy, hR⟩ := this
 refine ⟨fn, tmps, assign, body, hy, hR.mono ?_⟩
 rintro e B (⟨rfl, hj, hkp⟩ | ⟨rfl, hx⟩)
 ·have hle := hI2.le
  exact ⟨_, rfl, .inl ⟨rfl, ⟨hj, hI2.y.keep hkp (by omega), hI2.c.keep hkp (by omega), hle⟩, by have := hB.size; have := hkp.size; omega⟩⟩
 ·exact ⟨_, rfl, .inr ⟨rfl, hx⟩⟩
theorem en_next : ∀ args w, (callFunc 110 args).run Tryz.prog w = .ok (.enter 110 args) w := enters_of Tryz.func110 (by kernel_rfl) rfl
set_option maxRecDepth 100000 in
set_option maxHeartbeats 6400000 in
theorem iter_gives (q br kind : Nat) (W : World) (hbr : Box W br #[.pointer (some ⟨q, 0, none⟩)] 133) (hkd : W.cell? ⟨q, 0, none⟩ = some (.int .u8 (kind : Int))) (hq : q < W.heap.size) :
  Gives Tryz.prog 108 #[.pointer (some ⟨br, 0, none⟩)] 8 (VF kind q) (fun A => Box A br #[.pointer (some ⟨q, 0, none⟩)] 133) W := by
 intro l J Jx hJ hJx hPre hY h0
 have hA := alloc_below10 W (.cells #[.func (.yield l) #[] #[]] 169)
 have hX := box_new W #[.func (.yield l) #[] #[]] 169
 obtain ⟨H, hH⟩ : ∃ H, H = W.heap.size := ⟨_, rfl⟩
 obtain ⟨W1, hW1⟩ : ∃ W1, W1 = W.alloc (.cells #[.func (.yield l) #[] #[]] 169) := ⟨_, rfl⟩
 have hsz : W1.heap.size = H + 1 := by rw [hW1, hH]; simp
 rw [← hW1] at hA hX
 have x1 := (hbr.belowI hA).cell 0 _ rfl
 have x2 := (hA.cell (p := ⟨q, 0, none⟩) hq).trans hkd
 have C0 := hide (counting_any kind W1)
 have HCN : Hid (setN (fieldsR kind) = setN (fieldsR kind)) := hide rfl
 have J1 := hJ 0 W W1 h0 hA
 rw [← hH] at hX hY
 have HJ := hide hJ
 have HJX := hide hJx
 have HP := hide hPre
 have HY := hide hY
 have HX := hide hX
 have HJ1 := hide J1
 have hmf := make_fn
 have hen := en_next
 have hW := hW1.symm
 have hHH := hH.symm
 have HIU := hide infoU64k
 clear hJ hJx hPre hY hX hA h0 hbr hkd hq J1 hW1 hH HCN
 show Calls Tryz.prog 108 #[.func (.yield l) #[] #[], .pointer (some ⟨br, 0, none⟩)] W _
 go_enter Tryz.func108, Tryz.ntmps108
 go_wp2_with fail
 refine C0.out.mono ?_
 rintro e w2 ⟨rfl, hB2, hs2⟩
 obtain ⟨cnt, hcnt⟩ : ∃ cnt, cnt = setN (fieldsR kind) := ⟨_, rfl⟩
 rw [← hcnt]
 have HCN := hide hcnt
 have hb3 : Box ((w2.alloc (.cells #[.int .u64 0] 77)).setCell ⟨w2.heap.size, 0, none⟩ (.int .u64 (cnt : Int))) w2.heap.size #[.int .u64 (cnt : Int)] 77 := (box_new w2 #[.int .u64 0] 77).set
 have hB3 : Below w2.heap.size w2 ((w2.alloc (.cells #[.int .u64 0] 77)).setCell ⟨w2.heap.size, 0, none⟩ (.int .u64 (cnt : Int))) := (alloc_below10 w2 _).setCell (p := ⟨w2.heap.size, 0, none⟩) (Nat.le_refl _) _
 obtain ⟨w3, hw3⟩ : ∃ w3, w3 = (w2.alloc (.cells #[.int .u64 0] 77)).setCell ⟨w2.heap.size, 0, none⟩ (.int .u64 (cnt : Int)) := ⟨_, rfl⟩
 rw [← hw3] at hb3 hB3
 have hs2' := hB2.size
 have HI3 : Hid (ItI l H w2.heap.size (setN (fieldsR kind)) J 0 w3) := hide (by rw [HCN.out] at hb3; exact ⟨HJ.out 0 w2 w3 (HJ.out 0 W1 w2 HJ1.out hB2) hB3, (HX.out.belowI hB2).belowI hB3, hb3, by omega⟩)
 have x1 := (HP.out 0 w3 HI3.out.j).cell 0 _ rfl
 have x1' := x1
 have HS3 : Hid (H + 1 ≤ w3.heap.size) := hide (by have := hB3.size; omega)
 have hW3 := hw3.symm
 clear hb3 hB3 hw3 hcnt hB2 x2 C0 HX HJ1
 go_wp2_with fail
 clear hW3 hs2 hs2' hsz x1'
 generalize w2.heap.size = bc at *
 clear HIU
 refine (fieldAt_u32 q 1 (.func 113) (.func 114) (.func 115) #[] #[] #[] w3).mono ?_
 rintro e w4 ⟨vs, ba, bm, bp, bg, bz, rfl, hf, hB, hgr⟩
 have HF0 : Hid (FV 0 H q w4 vs) := hide ⟨_, ba, bm, bp, bg, bz, hf.mono (Nat.le_refl _) (by have := HS3.out; omega)⟩
 have hsz0 : H + 3 ≤ w4.heap.size := by have := HS3.out; omega
 have C0 := hide (hand_any HJ.out HY.out (k := 0) (by decide) (HI3.out.below HJ.out hB) hsz0 HF0.out)
 clear hB hf hgr x1 HI3
 go_wp2_with fail
 refine C0.out.mono ?_
 rintro e w5 ⟨v, rfl, (⟨rfl, hI, hz⟩ | ⟨rfl, hx⟩)⟩
 rotate_left
 ·have HE := hide hx
  clear hx C0 HF0
  go_wp2_with fail
  go_end0
  exact ⟨⟨_, rfl⟩, .inr HE.out⟩
 have HI5 := hide hI
 have x3 := (HP.out 1 w5 hI.j).cell 0 _ rfl
 have HS5 : Hid (H + 1 ≤ w5.heap.size) := hide (by have := hI.y.lt; omega)
 have HZ1 : Hid (H + 3 ≤ w5.heap.size) := hide hz
 clear hI hz C0 HF0 hsz0
 go_wp2_with fail
 refine (fieldAt_tx q 2 (.func 117) (.func 118) (.func 119) #[] #[] #[] w5).mono ?_
 rintro e w6 ⟨vs, ba, bm, bp, bg, bz, rfl, hf, hB, hgr⟩
 have HF1 : Hid (FV 1 H q w6 vs) := hide ⟨_, ba, bm, bp, bg, bz, hf.mono (Nat.le_refl _) (by have := HS5.out; omega)⟩
 have hsz1 : H + 3 ≤ w6.heap.size := Nat.le_trans HZ1.out hB.size
 have C1 := hide (hand_any HJ.out HY.out (k := 1) (by decide) (HI5.out.below HJ.out hB) hsz1 HF1.out)
 clear hB hf hgr x3 HI5
 go_wp2_with fail
 refine C1.out.mono ?_
 rintro e w7 ⟨v, rfl, (⟨rfl, hI, hz⟩ | ⟨rfl, hx⟩)⟩
 rotate_left
 ·have HE := hide hx
  clear hx C1 HF1
  go_wp2_with fail
  go_end0
  exact ⟨⟨_, rfl⟩, .inr HE.out⟩
 have HI7 := hide hI
 have x5 := (HP.out 2 w7 hI.j).cell 0 _ rfl
 have HS7 : Hid (H + 1 ≤ w7.heap.size) := hide (by have := hI.y.lt; omega)
 have HZ2 : Hid (H + 3 ≤ w7.heap.size) := hide hz
 clear hI hz C1 HF1 hsz1
 go_wp2_with fail
 refine (fieldAt_reg q 5 (.func 121) (.func 122) (.func 123) #[] #[] #[] w7).mono ?_
 rintro e w8 ⟨vs, ba, bm, bp, bg, bz, rfl, hf, hB, hgr⟩
 have HF2 : Hid (FV 2 H q w8 vs) := hide ⟨_, ba, bm, bp, bg, bz, hf.mono (Nat.le_refl _) (by have := HS7.out; omega)⟩
 have hsz2 : H + 3 ≤ w8.heap.size := Nat.le_trans HZ2.out hB.size
 have C2 := hide (hand_any HJ.out HY.out (k := 2) (by decide) (HI7.out.below HJ.out hB) hsz2 HF2.out)
 clear hB hf hgr x5 HI7
 go_wp2_with fail
 refine C2.out.mono ?_
 rintro e w9 ⟨v, rfl, (⟨rfl, hI, hz⟩ | ⟨rfl, hx⟩)⟩
 rotate_left
 ·have HE := hide hx
  clear hx C2 HF2
  go_wp2_with fail
  go_end0
  exact ⟨⟨_, rfl⟩, .inr HE.out⟩
 have HI9 := hide hI
 have x7 := (HP.out 3 w9 hI.j).cell 0 _ rfl
 have HS9 : Hid (H + 1 ≤ w9.heap.size) := hide (by have := hI.y.lt; omega)
 have HZ3 : Hid (H + 3 ≤ w9.heap.size) := hide hz
 clear hI hz C2 HF2 hsz2
 go_wp2_with fail
 refine (fieldAt_u64 q 7 (.func 125) (.func 126) (.func 127) #[] #[] #[] w9).mono ?_
 rintro e w10 ⟨vs, ba, bm, bp, bg, bz, rfl, hf, hB, hgr⟩
 have HF3 : Hid (FV 3 H q w10 vs) := hide ⟨_, ba, bm, bp, bg, bz, hf.mono (Nat.le_refl _) (by have := HS9.out; omega)⟩
 have hsz3 : H + 3 ≤ w10.heap.size := Nat.le_trans HZ3.out hB.size
 have C3 := hide (hand_any HJ.out HY.out (k := 3) (by decide) (HI9.out.below HJ.out hB) hsz3 HF3.out)
 clear hB hf hgr x7 HI9
 go_wp2_with fail
 refine C3.out.mono ?_
 rintro e w11 ⟨v, rfl, (⟨rfl, hI, hz⟩ | ⟨rfl, hx⟩)⟩
 rotate_left
 ·have HE := hide hx
  clear hx C3 HF3
  go_wp2_with fail
  go_end0
  exact ⟨⟨_, rfl⟩, .inr HE.out⟩
 have HI11 := hide hI
 have x9 := (HP.out 4 w11 hI.j).cell 0 _ rfl
 have HS11 : Hid (H + 1 ≤ w11.heap.size) := hide (by have := hI.y.lt; omega)
 have HZ4 : Hid (H + 3 ≤ w11.heap.size) := hide hz
 clear hI hz C3 HF3 hsz3
 go_wp2_with fail
 refine (writesIn_any q w11).mono ?_
 rintro e w12 ⟨b1, rfl, hb1, hl1, hB⟩
 have HF4 : Hid (FV 4 H q w12 _) := hide ⟨b1, rfl, hb1, by have := HS11.out; omega⟩
 have hsz4 : H + 3 ≤ w12.heap.size := Nat.le_trans HZ4.out hB.size
 have C4 := hide (hand_any HJ.out HY.out (k := 4) (by decide) (HI11.out.below HJ.out hB) hsz4 HF4.out)
 clear hB hb1 hl1 x9 HI11
 go_wp2_with fail
 refine C4.out.mono ?_
 rintro e w13 ⟨v, rfl, (⟨rfl, hI, hz⟩ | ⟨rfl, hx⟩)⟩
 rotate_left
 ·have HE := hide hx
  clear hx C4 HF4
  go_wp2_with fail
  go_end0
  exact ⟨⟨_, rfl⟩, .inr HE.out⟩
 have HI13 := hide hI
 have x11 := (HP.out 5 w13 hI.j).cell 0 _ rfl
 have HS13 : Hid (H + 1 ≤ w13.heap.size) := hide (by have := hI.y.lt; omega)
 have HZ5 : Hid (H + 3 ≤ w13.heap.size) := hide hz
 clear hI hz C4 HF4 hsz4
 go_wp2_with fail
 refine (missingIn_any q w13).mono ?_
 rintro e w14 ⟨b1, rfl, hb1, hl1, hB⟩
 have HF5 : Hid (FV 5 H q w14 _) := hide ⟨b1, rfl, hb1, by have := HS13.out; omega⟩
 have hsz5 : H + 3 ≤ w14.heap.size := Nat.le_trans HZ5.out hB.size
 have C5 := hide (hand_any HJ.out HY.out (k := 5) (by decide) (HI13.out.below HJ.out hB) hsz5 HF5.out)
 clear hB hb1 hl1 x11 HI13
 go_wp2_with fail
 refine C5.out.mono ?_
 rintro e w15 ⟨v, rfl, (⟨rfl, hI, hz⟩ | ⟨rfl, hx⟩)⟩
 rotate_left
 ·have HE := hide hx
  clear hx C5 HF5
  go_wp2_with fail
  go_end0
  exact ⟨⟨_, rfl⟩, .inr HE.out⟩
 have HI15 := hide hI
 have x13 := (HP.out 6 w15 hI.j).cell 0 _ rfl
 have HS15 : Hid (H + 1 ≤ w15.heap.size) := hide (by have := hI.y.lt; omega)
 have HZ6 : Hid (H + 3 ≤ w15.heap.size) := hide hz
 clear hI hz C5 HF5 hsz5
 go_wp2_with fail
 refine (fieldAt_key q 10 (.func 131) (.func 132) (.func 133) #[] #[] #[] w15).mono ?_
 rintro e w16 ⟨vs, ba, bm, bp, bg, bz, rfl, hf, hB, hgr⟩
 have HF6 : Hid (FV 6 H q w16 vs) := hide ⟨_, ba, bm, bp, bg, bz, hf.mono (Nat.le_refl _) (by have := HS15.out; omega)⟩
 have hsz6 : H + 3 ≤ w16.heap.size := Nat.le_trans HZ6.out hB.size
 have C6 := hide (hand_any HJ.out HY.out (k := 6) (by decide) (HI15.out.below HJ.out hB) hsz6 HF6.out)
 clear hB hf hgr x13 HI15
 go_wp2_with fail
 refine C6.out.mono ?_
 rintro e w17 ⟨v, rfl, (⟨rfl, hI, hz⟩ | ⟨rfl, hx⟩)⟩
 rotate_left
 ·have HE := hide hx
  clear hx C6 HF6
  go_wp2_with fail
  go_end0
  exact ⟨⟨_, rfl⟩, .inr HE.out⟩
 have HI17 := hide hI
 have x15 := (HP.out 7 w17 hI.j).cell 0 _ rfl
 have HS17 : Hid (H + 1 ≤ w17.heap.size) := hide (by have := hI.y.lt; omega)
 have HZ7 : Hid (H + 3 ≤ w17.heap.size) := hide hz
 clear hI hz C6 HF6 hsz6
 go_wp2_with fail
 refine (fieldAt_item q 18 (.func 135) (.func 136) (.func 137) #[] #[] #[] w17).mono ?_
 rintro e w18 ⟨vs, ba, bm, bp, bg, bz, rfl, hf, hB, hgr⟩
 have HF7 : Hid (FV 7 H q w18 vs) := hide ⟨_, ba, bm, bp, bg, bz, hf.mono (Nat.le_refl _) (by have := HS17.out; omega)⟩
 have hsz7 : H + 3 ≤ w18.heap.size := Nat.le_trans HZ7.out hB.size
 have C7 := hide (hand_any HJ.out HY.out (k := 7) (by decide) (HI17.out.below HJ.out hB) hsz7 HF7.out)
 clear hB hf hgr x15 HI17
 go_wp2_with fail
 refine C7.out.mono ?_
 rintro e w19 ⟨v, rfl, (⟨rfl, hI, hz⟩ | ⟨rfl, hx⟩)⟩
 rotate_left
 ·have HE := hide hx
  clear hx C7 HF7
  go_wp2_with fail
  go_end0
  exact ⟨⟨_, rfl⟩, .inr HE.out⟩
 have HE := hide hI.j
 clear hI C7 HF7
 go_wp2_with fail
 go_end0
 exact ⟨⟨_, rfl⟩, .inl HE.out⟩
end
end Go.Proofs.YtlegliimgjmphaaGreat
