/-
  Own texts put together: CrcSum, Sum2, FBegin, FLen, FNext, FPut, FScan. Own work.
-/
import Derived.Test.YtlegliimgjmphaaGreatG08
import Derived.Test.YtlegliimgjmphaaGreatG01
import Derived.Test.YtlegliimgjmphaaGreatG16
import Derived.Test.YtlegliimgjmphaaGreatG11
import Derived.Deep.RegionHeldLaw
import Derived.Laws.StructEq
import Derived.Deep.OwnRows
namespace Go.Proofs.YtlegliimgjmphaaGreat
section
open Go.RowKit
def PartsLie (w : World) (b : Nat) (vs : List Value) (xss : List (List Int)) : Prop :=
 vs.length = xss.length ∧ ∀ t, t < vs.length → w.cell? ⟨b, t, none⟩ = some (vs.getD t (.slice none 0 0)) ∧ (∃ ao len cap, vs.getD t (.slice none 0 0) = .slice ao len cap) ∧ Lies .u8 w (vs.getD t (.slice none 0 0)) (xss.getD t [])
theorem drop_conss (xss : List (List Int)) (k : Nat) (h : k < xss.length) : (xss.drop k).flatten = xss.getD k [] ++ (xss.drop (k + 1)).flatten := by
 rw [List.drop_eq_getElem_cons h, List.flatten_cons]
 simp [List.getD, h]
theorem getD_bytes {xss : List (List Int)} (hx : ∀ xs ∈ xss, ∀ c ∈ xs, 0 ≤ c ∧ c < 256) (k : Nat) : ∀ c ∈ xss.getD k [], 0 ≤ c ∧ c < 256 := by
 by_cases h : k < xss.length
 ·exact hx _ (by simp [List.getD, h])
 ·simp [List.getD, List.getElem?_eq_none (Nat.le_of_not_lt h)]
set_option maxHeartbeats 400000 in
theorem sum_any (b n : Nat) (vs : List Value) (xss : List (List Int)) (w : World) (hn : vs.length = n) (hl : n < 1000) (h : PartsLie w b vs xss) (hx : ∀ xs ∈ xss, ∀ c ∈ xs, 0 ≤ c ∧ c < 256) :
  Calls Tryz.prog 244 #[.slice (some ⟨b, 0, none⟩) n n] w fun e w' => e = .returned (.int .u32 (moreI 0 xss.flatten : Nat)) ∧ w' = w := by
 obtain ⟨hln, hP⟩ := h
 have HX := hide hx
 have H0 : Hid (moreI 0 (xss.drop 0).flatten = moreI 0 xss.flatten) := hide rfl
 have HLN := hide hln
 have HVN := hide hn
 have HP := hide hP
 clear hx hln hn hP
 go_enter Tryz.func244, Tryz.ntmps244
 go_wp2
 go_loop [3, 8] (fun x i => ∃ k m : Nat, k ≤ n ∧ i = .int .i64 k ∧ x = .int .u32 m ∧ m < 4294967296 ∧ Hid (moreI m (xss.drop k).flatten = moreI 0 xss.flatten)) (fun _ i => n - (intOf i).toNat)
 case atStart => exact ⟨0, 0, Nat.zero_le _, rfl, rfl, by decide, H0⟩
 case round =>
  obtain ⟨k, m, hk, rfl, rfl, hm, HK⟩ := hrel
  by_cases hlt : k < n
  ·obtain ⟨hcell, ⟨ao, len, cap, hv⟩, hlie⟩ := HP.out k (by rw [HVN.out]; exact hlt)
   have HE : Hid (moreI (moreI m (xss.getD k [])) (xss.drop (k + 1)).flatten = moreI 0 xss.flatten) := hide (by rw [← HK.out, drop_conss xss k (by rw [← HLN.out, HVN.out]; exact hlt), moreI_append])
   have hb := moreI_lt hm (getD_bytes HX.out k)
   rw [hv] at hcell hlie
   have HM := hide (more_any m _ _ w hm hlie (getD_bytes HX.out k))
   clear hv hlie
   generalize moreI m (xss.getD k []) = q at *
   go_wp2_with (go_at_call 255; refine HM.out.mono ?_; rintro e w1 ⟨rfl, h1⟩; rw [h1]; clear h1)
   go_round
   case rel => exact ⟨k + 1, q, by omega, by go_num, rfl, hb, HE⟩
   case measure => simp [intOf]; omega
  ·obtain rfl : k = n := by omega
   have HE : Hid (m = moreI 0 xss.flatten) := hide (by rw [← HK.out, List.drop_of_length_le (by rw [← HLN.out, HVN.out]; exact Nat.le_refl _)]; simp [moreI, moreN, nats, innerN, not_not])
   go_wp2
   go_ret
   exact ⟨ret_int (by rw [HE.out]), rfl⟩
end
section
open Go.RowKit
theorem parts_new (w : World) (vs : List Value) (xss : List (List Int)) (t : TypeId) (hl : vs.length = xss.length) (hL : ∀ k, k < vs.length → Lies .u8 w (vs.getD k (.slice none 0 0)) (xss.getD k [])) :
  PartsLie (w.alloc (.cells vs.toArray t)) w.heap.size vs xss := by
 refine ⟨hl, fun k hk => ⟨?_, ?_, (hL k hk).below ((Below.refl _ _).alloc (Nat.le_refl _) _)⟩⟩
 ·rw [cell_of_row _ _ k _ t (0, 0) (heap_alloc_last w _)]
  simp [List.getD, hk]
 ·obtain ⟨ao, cap, e⟩ := (hL k hk).shape
  exact ⟨ao, _, cap, e⟩
theorem parts_two (w : World) (v1 v2 : Value) (x1 x2 : List Int) (t : TypeId) (h1 : Lies .u8 w v1 x1) (h2 : Lies .u8 w v2 x2) : PartsLie (w.alloc (.cells #[v1, v2] t)) w.heap.size [v1, v2] [x1, x2] :=
 parts_new w [v1, v2] [x1, x2] t rfl fun k hk => by
  have : k = 0 ∨ k = 1 := by simp at hk; omega
  rcases this with rfl | rfl
  ·exact h1
  ·exact h2
theorem sum_two (w : World) (v1 v2 : Value) (x1 x2 : List Int) (t : TypeId) (h1 : Lies .u8 w v1 x1) (h2 : Lies .u8 w v2 x2) (b1 : ∀ c ∈ x1, 0 ≤ c ∧ c < 256) (b2 : ∀ c ∈ x2, 0 ≤ c ∧ c < 256) :
  Calls Tryz.prog 244 #[.slice (some ⟨w.heap.size, 0, none⟩) 2 2] (w.alloc (.cells #[v1, v2] t)) fun e w' => e = .returned (.int .u32 (moreI 0 (x1 ++ x2) : Nat)) ∧ w' = w.alloc (.cells #[v1, v2] t) := by
 have := sum_any w.heap.size 2 [v1, v2] [x1, x2] _ rfl (by decide) (parts_two w v1 v2 x1 x2 t h1 h2) (by intro xs hxs; simp at hxs; rcases hxs with rfl | rfl; exact b1; exact b2)
 simpa using this
end
section
open Go.RowKit
abbrev zero8 : List Int := [0, 0, 0, 0, 0, 0, 0, 0]
theorem infoBegin : (Tryz.prog.info? 248).map (fun i => (i.zero, i.size)) = some (some (.agg (cells8 zero8)), 8) := by kernel_rfl
theorem sizeBegin : (Tryz.prog.info? 248).map (·.size) = some 8 := (zero_of_info infoBegin).2
theorem begin1 : [167, 94, 0, 0, 0, 0, 0, 0] = zero8.take 0 ++ ((⟨#[167, 94]⟩ : ByteArray).data.toList.map fun b => (b.toNat : Int)) ++ zero8.drop (0 + (⟨#[167, 94]⟩ : ByteArray).size) := by rfl
theorem begin2 (ls : List Int) (h : ls.length = 2) : [167, 94] ++ ls ++ [0, 0, 0, 0] = List.take 2 [167, 94, 0, 0, 0, 0, 0, 0] ++ ls.take 2 ++ List.drop (2 + 2) [167, 94, 0, 0, 0, 0, 0, 0] := by
 obtain ⟨a, b, rfl⟩ := two ls h
 rfl
theorem begin3 (ls ss : List Int) (h : ls.length = 2) (hs : ss.length = 4) : [167, 94] ++ ls ++ ss = List.take 4 ([167, 94] ++ ls ++ [0, 0, 0, 0]) ++ ss.take 4 ++ List.drop (4 + 4) ([167, 94] ++ ls ++ [0, 0, 0, 0]) := by
 obtain ⟨a, b, rfl⟩ := two ls h
 obtain ⟨c, d, e, f, rfl⟩ := four ss hs
 rfl
set_option maxRecDepth 100000 in
set_option maxHeartbeats 800000 in
theorem begin_any (v : Value) (load : List Int) (w : World) (h : Lies .u8 w v load) (hx : ∀ c ∈ load, 0 ≤ c ∧ c < 256) (hl : load.length ≤ 4096) :
  Calls Tryz.prog 223 #[v] w fun e w' => e = .returned (.agg (cells8 (headF load))) ∧ Below w.heap.size w w' := by
 obtain ⟨al, cl, rfl⟩ := h.shape
 have hlI : (load.length : Int) ≤ 4096 := by omega
 have hl2 : (lenB load).length = 2 := putS_len _ _
 have HBR : Hid (Box (w.alloc (.cells #[.int .u8 0, .int .u8 0, .int .u8 0, .int .u8 0, .int .u8 0, .int .u8 0, .int .u8 0, .int .u8 0] 248)) w.heap.size (cells8 zero8) 248) := hide (box_new w _ _)
 have HBA : Hid (Below w.heap.size w (w.alloc (.cells #[.int .u8 0, .int .u8 0, .int .u8 0, .int .u8 0, .int .u8 0, .int .u8 0, .int .u8 0, .int .u8 0] 248))) := hide (below_two w _)
 have HL := hide (h.below HBA.out)
 have HS : Hid (w.heap.size < (w.alloc (.cells #[.int .u8 0, .int .u8 0, .int .u8 0, .int .u8 0, .int .u8 0, .int .u8 0, .int .u8 0, .int .u8 0] 248)).heap.size) := hide (by simp)
 have HX := hide hx
 have HXL : Hid (∀ c ∈ lenB load, 0 ≤ c ∧ c < 256) := hide (putS_bytes _ _)
 have hsl : sumF (lenB load) load < 4294967296 := sumF_lt (ls := lenB load) (putS_bytes _ _) hx
 have HSE : Hid (moreI 0 (lenB load ++ load) = sumF (lenB load) load) := hide (by unfold sumF; rw [moreI_append])
 have HH : Hid (headF load = [167, 94] ++ lenB load ++ putS (sumF (lenB load) load) 4) := hide rfl
 have HE2 := hide (begin2 (lenB load) hl2)
 have HE3 := hide (begin3 (lenB load) (putS (sumF (lenB load) load) 4) hl2 (putS_len _ _))
 obtain ⟨z2, hz2⟩ : ∃ z, z = [167, 94] ++ lenB load ++ [0, 0, 0, 0] := ⟨_, rfl⟩
 have hz2l : z2.length = 8 := by rw [hz2]; simp [hl2]
 rw [← hz2] at HE2 HE3
 clear h hx hz2
 go_enter Tryz.func223, Tryz.ntmps223
 go_wp2_with fail
 generalize w.alloc (.cells #[.int .u8 0, .int .u8 0, .int .u8 0, .int .u8 0, .int .u8 0, .int .u8 0, .int .u8 0, .int .u8 0] 248) = wa at *
 refine (put_anyG (.slice none 0 0) [] load.length 2 wa (Lies.nil _ _) (by simp)).mono ?_
 rintro e w1 ⟨vn, rfl, hon, hB1⟩
 rw [List.nil_append, show clamp8 2 = 2 from rfl] at hon
 have hLn : Lies .u8 w1 vn (lenB load) := Lies.of_own hon
 obtain ⟨an, cn, rfl⟩ := hLn.shape
 rw [hl2] at hLn ⊢
 have HLN := hide hLn
 have HB1 := hide hB1
 have HL1 := hide (HL.out.below hB1)
 clear hon hB1 hLn
 go_wp2_with fail
 refine (sum_two w1 _ _ (lenB load) load 29 HLN.out HL1.out HXL.out HX.out).mono ?_
 rintro e w2 ⟨rfl, hw2⟩
 have hB2 : Below w1.heap.size w1 w2 := by rw [hw2]; exact below_two _ _
 have HLN2 := hide (HLN.out.below hB2)
 have HB2 := hide (HB1.out.trans (hB2.mono HB1.out.size))
 rw [HSE.out]
 clear hw2 hB2 HSE HL HL1
 generalize sumF (lenB load) load = sm at *
 have HC3 : Hid (Below w2.heap.size w2 (w2.alloc (.cells #[.int .u8 0, .int .u8 0, .int .u8 0, .int .u8 0, .int .u8 0, .int .u8 0, .int .u8 0, .int .u8 0] 248))) := hide (below_two w2 _)
 have HBX : Hid (Box (w2.alloc (.cells #[.int .u8 0, .int .u8 0, .int .u8 0, .int .u8 0, .int .u8 0, .int .u8 0, .int .u8 0, .int .u8 0] 248)) w2.heap.size (cells8 zero8) 248) := hide (box_new w2 _ _)
 have HLT : Hid (w.heap.size < w2.heap.size) := hide (by have := HS.out; have := HB2.out.size; omega)
 have HR2 : Hid (Box w2 w.heap.size (cells8 zero8) 248) := hide ((HB2.out.block w.heap.size HS.out).trans HBR.out)
 have HBW := hide (HBA.out.trans (HB2.out.mono HBA.out.size))
 have hp4 : (putS sm 4).length = 4 := putS_len _ _
 have hws : IntKind.u64.wrap (sm : Int) = (sm : Int) := by rw [IntKind.wrap_u64]; omega
 clear HBR HBA HS HB1 HLN HB2
 go_wp2_with (first
  | (refine wp_copy_at _ rfl _ _ rfl w2.heap.size 2 6 6 248 _ (lenB load) z2 HBX4.out rfl _ rfl (HLN2.out.below HC4.out) 2 (by rw [hl2]; rfl) (by decide) HE2.out ?_; intro w5 hb5 hk5; have HBX5 := hide hb5; have HC5 := hide (HC4.out.trans (hk5.below HC4.out.size (fun k hk => by rw [hk]; exact Nat.le_refl _))); clear hb5 hk5)
  | (refine wp_copy_str _ rfl _ _ rfl w2.heap.size 0 8 8 248 zero8 [167, 94, 0, 0, 0, 0, 0, 0] HBX.out rfl _ rfl (by decide) (by decide) begin1 ?_; intro w4 hb4 hk4; have HBX4 := hide hb4; have HC4 := hide (HC3.out.trans (hk4.below HC3.out.size (fun k hk => by rw [hk]; exact Nat.le_refl _))); clear hb4 hk4))
 go_wp2_with fail
 go_region_held_law (fun _ => True) (trivial) ((first
  | (go_at_call 243; refine (put_anyG (.slice none 0 0) [] sm 4 _ (Lies.nil _ _) (by simp)).mono ?_; rintro e w6 ⟨v6, rfl, hon6, hB6⟩; rw [List.nil_append, show clamp8 4 = 4 from rfl] at hon6; have HL6 := hide (Lies.of_own hon6); have HBX6 := hide ((hB6.block w2.heap.size HBX5.out.lt).trans HBX5.out); have HC6 := hide (HC5.out.drew.trans (hB6.mono HC5.out.size)); obtain ⟨a6, c6, e6⟩ := (Lies.of_own hon6).shape; subst e6; rw [hp4]; clear hon6 hB6)
  | (refine step_copy_at _ rfl _ _ rfl w2.heap.size 4 4 4 248 z2 (putS sm 4) ([167, 94] ++ lenB load ++ putS sm 4) HBX6.out rfl _ rfl HL6.out 4 (by rw [hp4]; rfl) (by rw [hz2l]; decide) HE3.out ?_; intro w7 hb7 hk7; rw [← HH.out] at hb7; have HBX7 := hide hb7; have HC7 := hide (HC6.out.trans (hk7.below HC6.out.size (fun k hk => by rw [hk]; exact Nat.le_refl _))); clear hb7 hk7)))
 have HR7 := hide ((HC7.out.block w.heap.size HLT.out).trans HR2.out)
 have HI : Hid ((Tryz.prog.info? 248).map (·.size) = some (cells8 (headF load)).size) := hide (by rw [cells8_size, headF_length]; exact sizeBegin)
 have HZ : Hid ((cells8 zero8).size = (cells8 (headF load)).size) := hide (by rw [cells8_size, cells8_size, headF_length]; rfl)
 have HO := hide (cells8_one (headF load))
 have HB8 := hide (HBW.out.trans (HC7.out.mono HBW.out.size))
 clear HH HE2 HE3 HBX HC3 HC4 HC5 HC6 HBX4 HBX5 HBX6 HL6
 generalize hC : cells8 (headF load) = C at *
 have HC := hide hC
 clear hC
 go_wp2_with (first
  | (refine wp_load_box rfl _ rfl _ rfl HBX7.out Tryz.underlying248 rfl HI.out ?_)
  | (refine wp_store_box rfl rfl _ _ rfl _ rfl rfl HR7.out HZ.out HI.out HO.out ?_; intro w8 hb8 hk8; have HBX8 := hide hb8; have HB9 := hide (HB8.out.trans (hk8.below HB8.out.size (fun k hk => by rw [hk]; exact Nat.le_refl _))); clear hb8 hk8))
 exact bodyPost_ret (v := .agg C) (results_box Tryz.results223 _ _ w.heap.size rfl HBX8.out Tryz.underlying248 rfl HI.out) rfl ⟨by rw [HC.out], HB9.out⟩
end
section
open Go.RowKit
def lengthF (bs : List Int) : Nat × Int :=
 if bs.length = 0 then (0, 4)
 else if bs.getD 0 0 ≠ 167 then (0, 3)
 else if bs.length = 1 then (0, 4)
 else if bs.getD 1 0 ≠ 94 then (0, 3)
 else if bs.length < 4 then (0, 4)
 else if 4096 < lenF bs then (0, 3)
 else (lenF bs, 0)
theorem length_rest (bs : List Int) (hl : 2 ≤ bs.length) (h0 : bs.getD 0 0 = 167) (h1 : bs.getD 1 0 = 94) : lengthF bs = if bs.length < 4 then (0, 4) else if 4096 < lenF bs then (0, 3) else (lenF bs, 0) := by
 rw [lengthF, if_neg (by omega), if_neg (by rw [h0]; simp), if_neg (by omega), if_neg (by rw [h1]; simp)]
theorem drop_two_get (bs : List Int) (hl : 2 ≤ bs.length) : getS (bs.drop 2) 2 = if bs.length < 4 then (0, 4) else ((lenF bs : Int), 0) := by
 unfold getS lenF
 have e : (bs.drop 2).length = bs.length - 2 := by simp
 rw [if_neg (by omega), e]
 by_cases h : bs.length < 4
 ·rw [if_pos (by omega), if_pos h]
 ·rw [if_neg (by omega), if_neg h]; rfl
set_option maxRecDepth 100000 in
set_option maxHeartbeats 800000 in
theorem flen_any (v : Value) (bs : List Int) (w : World) (h : Lies .u8 w v bs) (hx : ∀ c ∈ bs, 0 ≤ c ∧ c < 256) :
  Calls Tryz.prog 224 #[v] w fun e w' => e = .returned (.tuple #[.int .i64 (lengthF bs).1, .int .i64 (lengthF bs).2]) ∧ Below w.heap.size w w' := by
 have hmx := h.len
 unfold maxLen at hmx
 rcases h with ⟨rfl, ao, cap, rfl, _⟩ | ⟨hne, b, off, cap, rfl, hb, hcl, hcm, hc⟩
 ·go_enter Tryz.func224, Tryz.ntmps224
  go_wp2
  go_rounds 1
  go_ret2
  exact ⟨rfl, Below.refl _ _⟩
 ·have H : Hid (Lies .u8 w (.slice (some ⟨b, off, none⟩) bs.length cap) bs) := hide (.inr ⟨hne, b, off, cap, rfl, hb, hcl, hcm, hc⟩)
  have hpos : 0 < bs.length := List.length_pos_iff.2 hne
  have HX := hide hx
  have HC : Hid (∀ wr, Below w.heap.size w wr → ∀ t, t < bs.length → wr.cell? ⟨b, off + t, none⟩ = some (.int .u8 (bs.getD t 0))) := hide fun wr hB t ht => (hB.cell (p := ⟨b, off + t, none⟩) hb).trans (hc t ht)
  clear hc hx
  go_enter Tryz.func224, Tryz.ntmps224
  go_wp2
  go_loopw [4, 7] (fun _ i wr => ∃ k : Nat, k ≤ 2 ∧ k ≤ bs.length ∧ i = .int .i64 k ∧ Hid ((0 < k → bs.getD 0 0 = 167) ∧ (1 < k → bs.getD 1 0 = 94)) ∧ Hid (Below w.heap.size w wr)) (fun _ i _ => 2 - (intOf i).toNat)
  case atStart => exact ⟨0, by omega, by omega, rfl, hide ⟨fun h => by omega, fun h => by omega⟩, hide (Below.refl _ _)⟩
  case round =>
   obtain ⟨k, hk2, hkl, rfl, HK, HR⟩ := hrel
   have hcase : k = 0 ∨ k = 1 ∨ k = 2 := by omega
   rcases hcase with rfl | rfl | rfl
   ·have hcell := HC.out _ HR.out 0 hpos
    rw [Nat.add_zero] at hcell
    have hposI : (0 : Int) < bs.length := by omega
    by_cases heq : bs.getD 0 0 = 167
    ·rw [heq] at hcell
     have HK' : Hid ((0 < 0 + 1 → bs.getD 0 0 = 167) ∧ (1 < 0 + 1 → bs.getD 1 0 = 94)) := hide ⟨fun _ => heq, fun h => by omega⟩
     clear heq
     go_wp2
     go_quiet (fail)
     go_wp2
     go_roundw
     case rel => exact ⟨0 + 1, by omega, by omega, by go_num, HK', hide (⟨HR.out.os, HR.out.tape, HR.out.output, HR.out.size, HR.out.block⟩)⟩
     case measure => simp [intOf]
    ·have HE : Hid (lengthF bs = (0, 3)) := hide (by unfold lengthF; rw [if_neg (by omega), if_pos heq])
     generalize bs.getD 0 0 = d at *
     have hcc : (d != (((⟨#[167, 94]⟩ : ByteArray)[0]'(by decide)).toNat : Int)) = true := by show (d != 167) = true; simpa using heq
     go_wp2
     go_quiet (fail)
     go_wp2
     go_ret2
     exact ⟨by rw [HE.out]; rfl, ⟨HR.out.os, HR.out.tape, HR.out.output, HR.out.size, HR.out.block⟩⟩
   ·have h0 := HK.out.1 (by omega)
    by_cases hone : bs.length = 1
    ·have HE : Hid (lengthF bs = (0, 4)) := hide (by unfold lengthF; rw [if_neg (by omega), if_neg (by rw [h0]; simp), if_pos hone])
     have hoI : (bs.length : Int) = 1 := by omega
     clear h0
     go_wp2
     go_ret2
     exact ⟨by rw [HE.out]; rfl, HR.out⟩
    ·have hcell := HC.out _ HR.out 1 (by omega)
     have hposI : (1 : Int) < bs.length := by omega
     by_cases heq : bs.getD 1 0 = 94
     ·rw [heq] at hcell
      have HK' : Hid ((0 < 1 + 1 → bs.getD 0 0 = 167) ∧ (1 < 1 + 1 → bs.getD 1 0 = 94)) := hide ⟨fun _ => h0, fun _ => heq⟩
      clear heq h0
      go_wp2
      go_quiet (fail)
      go_wp2
      go_roundw
      case rel => exact ⟨1 + 1, by omega, by omega, by go_num, HK', hide (⟨HR.out.os, HR.out.tape, HR.out.output, HR.out.size, HR.out.block⟩)⟩
      case measure => simp [intOf]
     ·have HE : Hid (lengthF bs = (0, 3)) := hide (by unfold lengthF; rw [if_neg (by omega), if_neg (by rw [h0]; simp), if_neg hone, if_pos heq])
      clear h0
      generalize bs.getD 1 0 = d at *
      have hcc : (d != (((⟨#[167, 94]⟩ : ByteArray)[1]'(by decide)).toNat : Int)) = true := by show (d != 94) = true; simpa using heq
      go_wp2
      go_quiet (fail)
      go_wp2
      go_ret2
      exact ⟨by rw [HE.out]; rfl, ⟨HR.out.os, HR.out.tape, HR.out.output, HR.out.size, HR.out.block⟩⟩
   ·have hE := length_rest bs hkl (HK.out.1 (by omega)) (HK.out.2 (by omega))
    have hG := drop_two_get bs hkl
    have HL := hide (H.out.below HR.out)
    have HX2 : Hid (∀ c ∈ bs.drop 2, 0 ≤ c ∧ c < 256) := hide fun c hc => HX.out c (List.mem_of_mem_drop hc)
    have hlf : lenF bs < 65536 := by
     unfold lenF
     have e : (bs.drop 2).length = bs.length - 2 := by simp
     by_cases h4 : bs.length < 4
     ·have : ((bs.drop 2).take 2) = (bs.drop 2) := List.take_of_length_le (by omega)
      have h2 := valB_lt (bs.drop 2) HX2.out (bs.drop 2).length (Nat.le_refl _)
      rw [List.take_of_length_le (Nat.le_refl _)] at h2
      rw [this]
      exact Nat.lt_of_lt_of_le h2 (Nat.le_trans (Nat.pow_le_pow_right (by decide) (by omega : (bs.drop 2).length ≤ 2)) (by decide))
     ·exact valB_lt (bs.drop 2) HX2.out 2 (by omega)
    clear HC HK
    by_cases h4 : bs.length < 4
    ·rw [if_pos h4] at hE hG
     have HE := hide hE
     have HG := hide hG
     clear hE hG
     go_wp2_with (refine wp_from _ rfl _ _ rfl _ bs rfl HL.out 2 rfl hkl ?_; intro a2 c2 hL2; have HL2 := hide hL2; clear hL2)
     refine (get_any _ (bs.drop 2) 2 _ HL2.out HX2.out).mono ?_
     rintro e w3 ⟨rfl, rfl⟩
     rw [HG.out]
     go_wp2
     go_ret2
     exact ⟨by rw [HE.out]; rfl, HR.out⟩
    ·rw [if_neg h4] at hE hG
     have HG := hide hG
     clear hG
     generalize lenF bs = N at *
     by_cases hbig : 4096 < N
     ·rw [if_pos hbig] at hE
      have HE := hide hE
      clear hE
      have hbI : (4096 : Int) < N := by omega
      go_wp2_with (refine wp_from _ rfl _ _ rfl _ bs rfl HL.out 2 rfl hkl ?_; intro a2 c2 hL2; have HL2 := hide hL2; clear hL2)
      refine (get_any _ (bs.drop 2) 2 _ HL2.out HX2.out).mono ?_
      rintro e w3 ⟨rfl, rfl⟩
      rw [HG.out]
      go_wp2
      go_ret2
      exact ⟨by rw [HE.out]; rfl, HR.out⟩
     ·rw [if_neg hbig] at hE
      have HE := hide hE
      clear hE
      have hbI : (N : Int) ≤ 4096 := by omega
      go_wp2_with (refine wp_from _ rfl _ _ rfl _ bs rfl HL.out 2 rfl hkl ?_; intro a2 c2 hL2; have HL2 := hide hL2; clear hL2)
      refine (get_any _ (bs.drop 2) 2 _ HL2.out HX2.out).mono ?_
      rintro e w3 ⟨rfl, rfl⟩
      rw [HG.out]
      go_wp2
      go_ret2
      exact ⟨by rw [HE.out]; rfl, HR.out⟩
end
section
open Go.RowKit
theorem fsize_any (n : Int) (w : World) (hlo : -9223372036854775808 ≤ n) (hhi : n ≤ 9223372036854775807) : Calls Tryz.prog 52 #[.int .i64 n] w fun e w' => e = .returned (.int .i64 (sizeF n)) ∧ w' = w := by
 unfold sizeF
 by_cases h : n < 0 ∨ 4096 < n
 ·rw [if_pos h]
  rcases h with h | h
  ·go_enter Tryz.func52, Tryz.ntmps52
   go_wp2_with fail
   go_ret
   exact ⟨rfl, rfl⟩
  ·have h0 : 0 ≤ n := by omega
   go_enter Tryz.func52, Tryz.ntmps52
   go_wp2_with fail
   go_ret
   exact ⟨rfl, rfl⟩
 ·rw [if_neg h]
  have h0 : 0 ≤ n := by omega
  have h1 : n ≤ 4096 := by omega
  go_enter Tryz.func52, Tryz.ntmps52
  go_wp2_with fail
  go_ret
  exact ⟨rfl, rfl⟩
theorem eq_begin (a0 a1 a2 a3 a4 a5 a6 a7 b0 b1 b2 b3 b4 b5 b6 b7 : Int) (w : World) :
  (Op.equalIn 10000 248 (.agg #[.int .u8 a0, .int .u8 a1, .int .u8 a2, .int .u8 a3, .int .u8 a4, .int .u8 a5, .int .u8 a6, .int .u8 a7]) (.agg #[.int .u8 b0, .int .u8 b1, .int .u8 b2, .int .u8 b3, .int .u8 b4, .int .u8 b5, .int .u8 b6, .int .u8 b7])).run Tryz.prog w
   = .ok (a0 == b0 && a1 == b1 && a2 == b2 && a3 == b3 && a4 == b4 && a5 == b5 && a6 == b6 && a7 == b7) w := by
 rw [show (10000 : Nat) = 9999 + 1 from rfl, Op.equalIn]
 simp only [Sem.run_bind, run_underlying Tryz.underlying248, Result.andThen_ok]
 simp only [Std.Legacy.Range.forIn_eq_forIn_range', Std.Legacy.Range.size, Nat.sub_zero, Nat.add_sub_cancel, Nat.div_one, List.range'_succ, List.range'_zero, List.forIn_cons, List.forIn_nil]
 go_simp
 by_cases h0 : a0 = b0
 ·by_cases h1 : a1 = b1
  ·by_cases h2 : a2 = b2
   ·by_cases h3 : a3 = b3
    ·by_cases h4 : a4 = b4
     ·by_cases h5 : a5 = b5
      ·by_cases h6 : a6 = b6
       ·by_cases h7 : a7 = b7 <;> simp [h0, h1, h2, h3, h4, h5, h6, h7]
       ·simp [h0, h1, h2, h3, h4, h5, h6]
      ·simp [h0, h1, h2, h3, h4, h5]
     ·simp [h0, h1, h2, h3, h4]
    ·simp [h0, h1, h2, h3]
   ·simp [h0, h1, h2]
  ·simp [h0, h1]
 ·simp [h0]
theorem neq_begin (a0 a1 a2 a3 a4 a5 a6 a7 b0 b1 b2 b3 b4 b5 b6 b7 : Int) (w : World) :
  (binOp .neq 248 (.agg #[.int .u8 a0, .int .u8 a1, .int .u8 a2, .int .u8 a3, .int .u8 a4, .int .u8 a5, .int .u8 a6, .int .u8 a7]) (.agg #[.int .u8 b0, .int .u8 b1, .int .u8 b2, .int .u8 b3, .int .u8 b4, .int .u8 b5, .int .u8 b6, .int .u8 b7])).run Tryz.prog w
   = .ok (.bool (!decide ([a0, a1, a2, a3, a4, a5, a6, a7] = [b0, b1, b2, b3, b4, b5, b6, b7]))) w := by
 rw [run_neq_struct, eq_begin]
 show Result.ok _ _ = _
 congr 2
 congr 1
 by_cases h : [a0, a1, a2, a3, a4, a5, a6, a7] = [b0, b1, b2, b3, b4, b5, b6, b7]
 ·rw [decide_eq_true h]; simp at h; simp [h]
 ·rw [decide_eq_false h]; simp at h ⊢; exact h
theorem eightF (l : List Int) (h : l.length = 8) : ∃ a b c d e f g i, l = [a, b, c, d, e, f, g, i] := by
 match l, h with
 | [a, b, c, d, e, f, g, i], _ => exact ⟨a, b, c, d, e, f, g, i, rfl⟩
theorem putS2 (a b : Int) (ha : 0 ≤ a ∧ a < 256) (hb : 0 ≤ b ∧ b < 256) : putS (valB [a, b]) 2 = [a, b] := by
 rw [valB2]
 simp only [putS]
 simp
 constructor <;> omega
theorem putS4 (a b c d : Int) (ha : 0 ≤ a ∧ a < 256) (hb : 0 ≤ b ∧ b < 256) (hc : 0 ≤ c ∧ c < 256) (hd : 0 ≤ d ∧ d < 256) : putS (valB [a, b, c, d]) 4 = [a, b, c, d] := by
 rw [valB4]
 simp only [putS]
 simp
 refine ⟨?_, ?_, ?_, ?_⟩ <;> omega
theorem head_iff (bs : List Int) (hx : ∀ c ∈ bs, 0 ≤ c ∧ c < 256) (h0 : bs.getD 0 0 = 167) (h1 : bs.getD 1 0 = 94) (hl : 8 + lenF bs ≤ bs.length) :
  bs.take 8 = headF ((bs.drop 8).take (lenF bs)) ↔ valB ((bs.drop 4).take 4) = sumF ((bs.drop 2).take 2) ((bs.drop 8).take (lenF bs)) := by
 obtain ⟨a0, a1, a2, a3, a4, a5, a6, a7, he⟩ := eightF (bs.take 8) (by simp; omega)
 have hb : bs = [a0, a1, a2, a3, a4, a5, a6, a7] ++ bs.drop 8 := by rw [← he]; simp
 have hll : ((bs.drop 8).take (lenF bs)).length = lenF bs := by simp; omega
 have d2 : (bs.drop 2).take 2 = [a2, a3] := by rw [hb]; rfl
 have d4 : (bs.drop 4).take 4 = [a4, a5, a6, a7] := by rw [hb]; rfl
 have e0 : a0 = 167 := by rw [hb] at h0; exact h0
 have e1 : a1 = 94 := by rw [hb] at h1; exact h1
 have hm : ∀ c ∈ [a0, a1, a2, a3, a4, a5, a6, a7], 0 ≤ c ∧ c < 256 := fun c hc => hx c (by rw [hb]; exact List.mem_append_left _ hc)
 have hlb : lenB ((bs.drop 8).take (lenF bs)) = [a2, a3] := by
  unfold lenB
  rw [hll]
  unfold lenF
  rw [d2, putS2 a2 a3 (hm _ (by simp)) (hm _ (by simp))]
 have hxl : ∀ c ∈ (bs.drop 8).take (lenF bs), 0 ≤ c ∧ c < 256 := fun c hc => hx c (List.mem_of_mem_drop (List.mem_of_mem_take hc))
 have hs : sumF [a2, a3] ((bs.drop 8).take (lenF bs)) < 4294967296 := sumF_lt (fun c hc => hm c (by simp at hc ⊢; rcases hc with rfl | rfl <;> simp)) hxl
 unfold headF
 rw [hlb, he, d2, d4, e0, e1]
 generalize sumF [a2, a3] ((bs.drop 8).take (lenF bs)) = s at *
 have hp := putS4 a4 a5 a6 a7 (hm _ (by simp)) (hm _ (by simp)) (hm _ (by simp)) (hm _ (by simp))
 constructor
 ·intro h
  have h4 : [a4, a5, a6, a7] = putS s 4 := by
   have := congrArg (List.drop 4) h
   simpa using this
  rw [h4, valB_putS]
  exact Nat.mod_eq_of_lt hs
 ·intro h
  rw [← h, hp]
  rfl
theorem lies_boxF {w : World} {p : Nat} {xs : List Int} {t : TypeId} (h : Box w p (cells8 xs) t) (hl : xs.length ≤ 1000000) : Lies .u8 w (.slice (some ⟨p, 0, none⟩) xs.length xs.length) xs := by
 by_cases h0 : xs = []
 ·subst h0; exact .inl ⟨rfl, _, _, rfl, fun h => by cases h⟩
 ·exact .inr ⟨h0, p, 0, xs.length, rfl, h.lt, Nat.le_refl _, by unfold maxLen; omega, fun t ht => by
   rw [Nat.zero_add]
   exact h.cell t _ (by simp [cells8, List.getD, ht])⟩
theorem owns_box {w : World} {p base : Nat} {xs : List Int} (h : Box w p (cells8 xs) 5) (hb : base ≤ p) (hl : xs.length ≤ 1000000) : w.ownsRow base 5 1 (.slice (some ⟨p, 0, none⟩) xs.length xs.length) xs.length (xs.map (Value.int .u8)) :=
 ⟨by simp, .inr ⟨p, xs.length, cells8 xs, rfl, hb, h, Nat.le_refl _, by unfold maxLen; omega, by simp [cells8], by simp only [cells8, Nat.mul_one]; exact List.take_of_length_le (by simp)⟩⟩
theorem made_zero (n : Nat) : madeCells #[Value.int .u8 0] n = cells8 (List.replicate n 0) := by
 apply Array.ext
 ·simp [madeCells, cells8]
 ·intro i h1 h2
  simp [madeCells, cells8, Nat.mod_one]
theorem wp_make_box {ops : Array Oper} {rest : List Oper} {o : Oper} {a : Act} {Q : Exit → Act → World → Prop} (w : World) (hg : o.guard = none) (l c : Operand) (hop : o.op = Op.makeSlice 29 l c) (n : Nat) (hl : a.eval l = .int .i64 n) (hc : a.eval c = .int .i64 n) (hn : n ≤ 1000000)
  (h : ∀ w', Box w' w.heap.size (cells8 (List.replicate n 0)) 5 → Below w.heap.size w w' → wpList Tryz.prog ops Q rest (a.put o.dst (.slice (some ⟨w.heap.size, 0, none⟩) n n)) w') : wpList Tryz.prog ops Q (o :: rest) a w := by
 obtain ⟨i0, hi, hz0, hz1, hz2⟩ := info_parts info5
 refine wpList_make_row w hg l c 29 hop 5 i0 (.int .u8 0) Tryz.underlying29 hi hz0 hz1 rfl .i64 .i64 n hl hc (by rw [hz2]; omega) (by omega) ?_
 rw [made_zero]
 exact h _ (box_new w _ _) (below_two w _)
theorem next_length (bs : List Int) : ((lengthF bs).2 ≠ 0 → nextF bs = ([], 0, (lengthF bs).2)) ∧ ((lengthF bs).2 = 0 → bs.getD 0 0 = 167 ∧ bs.getD 1 0 = 94 ∧ (lengthF bs).1 = lenF bs ∧ lenF bs ≤ 4096 ∧
  nextF bs = if bs.length < 8 + lenF bs then ([], 0, 4) else if valB ((bs.drop 4).take 4) ≠ sumF ((bs.drop 2).take 2) ((bs.drop 8).take (lenF bs)) then ([], 0, 8) else ((bs.drop 8).take (lenF bs), 8 + lenF bs, 0)) := by
 unfold nextF lengthF
 by_cases h0 : bs.length = 0
 ·simp only [if_pos h0]; exact ⟨fun _ => by first | rfl | trivial, fun h => absurd h (by decide)⟩
 simp only [if_neg h0]
 by_cases h1 : bs.getD 0 0 ≠ 167
 ·simp only [if_pos h1]; exact ⟨fun _ => by first | rfl | trivial, fun h => absurd h (by decide)⟩
 simp only [if_neg h1]
 by_cases h2 : bs.length = 1
 ·simp only [if_pos h2]; exact ⟨fun _ => by first | rfl | trivial, fun h => absurd h (by decide)⟩
 simp only [if_neg h2]
 by_cases h3 : bs.getD 1 0 ≠ 94
 ·simp only [if_pos h3]; exact ⟨fun _ => by first | rfl | trivial, fun h => absurd h (by decide)⟩
 simp only [if_neg h3]
 by_cases h4 : bs.length < 4
 ·simp only [if_pos h4]; exact ⟨fun _ => by first | rfl | trivial, fun h => absurd h (by decide)⟩
 simp only [if_neg h4]
 by_cases h5 : 4096 < lenF bs
 ·simp only [if_pos h5]; exact ⟨fun _ => by first | rfl | trivial, fun h => absurd h (by decide)⟩
 simp only [if_neg h5]
 exact ⟨fun h => absurd rfl h, fun _ => ⟨Classical.not_not.1 h1, Classical.not_not.1 h3, by first | rfl | trivial, Nat.le_of_not_lt h5, by first | rfl | trivial⟩⟩
theorem cells8_lit (a0 a1 a2 a3 a4 a5 a6 a7 : Int) : cells8 [a0, a1, a2, a3, a4, a5, a6, a7] = #[.int .u8 a0, .int .u8 a1, .int .u8 a2, .int .u8 a3, .int .u8 a4, .int .u8 a5, .int .u8 a6, .int .u8 a7] := rfl
set_option maxRecDepth 100000 in
set_option maxHeartbeats 1600000 in
theorem fnext_any (v : Value) (bs : List Int) (w : World) (h : Lies .u8 w v bs) (hx : ∀ c ∈ bs, 0 ≤ c ∧ c < 256) (hbl : bs.length ≤ 1000000) :
  Calls Tryz.prog 147 #[v] w fun e w' => ∃ v', e = .returned (.tuple #[v', .int .i64 (nextF bs).2.1, .int .i64 (nextF bs).2.2]) ∧ w'.ownsRow w.heap.size 5 1 v' (nextF bs).1.length ((nextF bs).1.map (Value.int .u8)) ∧ Below w.heap.size w w' := by
 have C := hide (flen_any v bs w h hx)
 obtain ⟨hA, hB⟩ := next_length bs
 obtain ⟨ao, cap, rfl⟩ := h.shape
 have H := hide h
 have HX := hide hx
 clear h hx
 by_cases hwhy : (lengthF bs).2 = 0
 ·obtain ⟨h0, h1, hN, hN4, hE⟩ := hB hwhy
  have hIff := hide (head_iff bs HX.out h0 h1)
  rw [hN, hwhy] at C
  clear hA hB hwhy hN h0 h1
  generalize hNN : lenF bs = N at *
  have hnlo : -9223372036854775808 ≤ (N : Int) := by omega
  have hnhi : (N : Int) ≤ 9223372036854775807 := by omega
  have CS := fun w => fsize_any N w hnlo hnhi
  rw [show sizeF (N : Int) = 8 + (N : Int) by unfold sizeF; rw [if_neg (by omega)]] at CS
  have CS := hide CS
  by_cases hend : bs.length < 8 + N
  ·rw [if_pos hend] at hE
   have HE := hide hE
   have hendI : (bs.length : Int) < 8 + (N : Int) := by omega
   clear hE
   go_enter Tryz.func147, Tryz.ntmps147
   go_wp2_with fail
   refine C.out.mono ?_
   rintro e w1 ⟨rfl, hB1⟩
   have HB1 := hide hB1
   clear hB1
   go_wp2_with fail
   refine (CS.out _).mono ?_
   rintro e w2 ⟨rfl, rfl⟩
   go_wp2_with fail
   go_ret3
   exact ⟨_, by rw [HE.out]; rfl, by rw [HE.out]; exact World.ownsRow_nil _ _ _ _, HB1.out⟩
  ·rw [if_neg hend] at hE
   have hendI : 8 + (N : Int) ≤ (bs.length : Int) := by omega
   have hN4I : (N : Int) ≤ 4096 := by omega
   have hIff := hide (hIff.out (by omega))
   have hll : ((bs.drop 8).take N).length = N := by simp; omega
   have HXL : Hid (∀ c ∈ (bs.drop 8).take N, 0 ≤ c ∧ c < 256) := hide fun c hc => HX.out c (List.mem_of_mem_drop (List.mem_of_mem_take hc))
   have HD8 : Hid (Nat.min (bs.drop 8).length N = N) := hide (Nat.min_eq_right (by simp; omega))
   have HM8 : Hid (Nat.min bs.length 8 = 8) := hide (Nat.min_eq_right (by omega))
   have hl8 : (bs.drop 8).length = bs.length - 8 := by simp
   obtain ⟨ld, hld⟩ : ∃ ld, ld = (bs.drop 8).take N := ⟨_, rfl⟩
   obtain ⟨hd8, hhd8⟩ : ∃ hd8, hd8 = bs.take 8 := ⟨_, rfl⟩
   have hhl : hd8.length = 8 := by rw [hhd8]; simp; omega
   have HMV : Hid (ld = (List.replicate N 0).take 0 ++ (bs.drop 8).take N ++ (List.replicate N (0 : Int)).drop (0 + N)) := hide (by rw [← hld]; simp)
   have HMH : Hid (hd8 = zero8.take 0 ++ bs.take 8 ++ zero8.drop (0 + 8)) := hide (by rw [← hhd8]; simp [zero8])
   rw [← hld] at hE hll HXL hIff
   rw [← hhd8] at hIff
   have HE := hide hE
   clear hE hld hhd8 hl8
   obtain ⟨a0, a1, a2, q3, a4, a5, a6, a7, hea⟩ := eightF hd8 hhl
   obtain ⟨b0, b1, b2, b3, b4, b5, b6, b7, heb⟩ := eightF (headF ld) (headF_length ld)
   go_enter Tryz.func147, Tryz.ntmps147
   go_wp2_with fail
   refine C.out.mono ?_
   rintro e w1 ⟨rfl, hB1⟩
   have HB1 := hide hB1
   have HL1 := hide (H.out.below hB1)
   clear hB1
   go_wp2_with fail
   refine (CS.out _).mono ?_
   rintro e w2 ⟨rfl, hw2⟩
   rw [hw2]
   clear hw2 w2
   go_wp2_with (first
    | (at_make; refine wp_make_box _ rfl _ _ rfl N rfl rfl (by omega) ?_; intro w2 hb2 hB2; have HBX2 := hide hb2; have HL2 := hide (HL1.out.below hB2); have HB2 := hide hB2; clear hb2 hB2)
    | (refine wp_from _ rfl _ _ rfl _ bs rfl HL2.out 8 rfl (by omega) ?_; intro a3 c3 hL3; have HL3 := hide hL3; clear hL3)
    | (refine wp_copy_at _ rfl _ _ rfl w1.heap.size 0 N N 5 _ (bs.drop 8) ld HBX2.out rfl _ rfl HL3.out N HD8.out (by simp) HMV.out ?_; intro w4 hb4 hk4; have HBX4 := hide hb4; have hB4 := HB2.out.trans (hk4.below HB2.out.size (fun k hk => by rw [hk]; exact Nat.le_refl _)); have HB4 := hide hB4; have HL4 : Hid (Lies .u8 (w4.alloc (.cells #[.int .u8 0, .int .u8 0, .int .u8 0, .int .u8 0, .int .u8 0, .int .u8 0, .int .u8 0, .int .u8 0] 248)) (.slice ao bs.length cap) bs) := hide ((HL1.out.below hB4).below (below_two w4 _)); have HBX5 : Hid (Box (w4.alloc (.cells #[.int .u8 0, .int .u8 0, .int .u8 0, .int .u8 0, .int .u8 0, .int .u8 0, .int .u8 0, .int .u8 0] 248)) w4.heap.size (cells8 zero8) 248) := hide (box_new w4 _ _); have HC4 : Hid (Below w4.heap.size w4 (w4.alloc (.cells #[.int .u8 0, .int .u8 0, .int .u8 0, .int .u8 0, .int .u8 0, .int .u8 0, .int .u8 0, .int .u8 0] 248))) := hide (below_two w4 _); clear hb4 hk4 hB4 HL3 HBX2 HL2 HB2)
    | (refine wp_copy_at _ rfl _ _ rfl w4.heap.size 0 8 8 248 zero8 bs hd8 HBX5.out rfl _ rfl HL4.out 8 HM8.out (by decide) HMH.out ?_; intro w5 hb5 hk5; have HBX6 := hide hb5; have HC5 := hide (HC4.out.trans (hk5.below HC4.out.size (fun k hk => by rw [hk]; exact Nat.le_refl _))); clear hb5 hk5 HBX5 HL4 HC4))
   have HBL := hide ((HC5.out.block w1.heap.size HBX4.out.lt).trans HBX4.out)
   have HLL := hide (lies_boxF (show Box w5 w1.heap.size (cells8 ld) 5 from HBL.out) (by omega))
   have HB5 := hide (HB1.out.trans ((HB4.out.trans (HC5.out.mono HB4.out.size)).mono HB1.out.size))
   rw [hea] at HBX6
   rw [hll] at HLL
   have x0 : w5.cell? ⟨w4.heap.size, 0, none⟩ = some (.int .u8 a0) := HBX6.out.cell 0 _ rfl
   have x1 : w5.cell? ⟨w4.heap.size, 1, none⟩ = some (.int .u8 a1) := HBX6.out.cell 1 _ rfl
   have x2 : w5.cell? ⟨w4.heap.size, 2, none⟩ = some (.int .u8 a2) := HBX6.out.cell 2 _ rfl
   have x3 : w5.cell? ⟨w4.heap.size, 3, none⟩ = some (.int .u8 q3) := HBX6.out.cell 3 _ rfl
   have x4 : w5.cell? ⟨w4.heap.size, 4, none⟩ = some (.int .u8 a4) := HBX6.out.cell 4 _ rfl
   have x5 : w5.cell? ⟨w4.heap.size, 5, none⟩ = some (.int .u8 a5) := HBX6.out.cell 5 _ rfl
   have x6 : w5.cell? ⟨w4.heap.size, 6, none⟩ = some (.int .u8 a6) := HBX6.out.cell 6 _ rfl
   have x7 : w5.cell? ⟨w4.heap.size, 7, none⟩ = some (.int .u8 a7) := HBX6.out.cell 7 _ rfl
   have HBG := hide (fun w => begin_any (.slice (some ⟨w1.heap.size, 0, none⟩) N N) ld w)
   rw [heb, cells8_lit] at HBG
   have HBLT : Hid (w1.heap.size < w5.heap.size) := hide (show Box w5 w1.heap.size (cells8 ld) 5 from HBL.out).lt
   have HEQ : Hid (hd8 = headF ld ↔ [a0, a1, a2, q3, a4, a5, a6, a7] = [b0, b1, b2, b3, b4, b5, b6, b7]) := hide (by rw [hea, heb])
   clear H HL1 HB4 HMH HM8 C CS HBX4 HC5 hea heb
   by_cases hq : [a0, a1, a2, q3, a4, a5, a6, a7] = [b0, b1, b2, b3, b4, b5, b6, b7]
   ·have hn : ∀ w, (binOp .neq 248 (.agg #[.int .u8 a0, .int .u8 a1, .int .u8 a2, .int .u8 q3, .int .u8 a4, .int .u8 a5, .int .u8 a6, .int .u8 a7]) (.agg #[.int .u8 b0, .int .u8 b1, .int .u8 b2, .int .u8 b3, .int .u8 b4, .int .u8 b5, .int .u8 b6, .int .u8 b7])).run Tryz.prog w = .ok (.bool false) w := fun w => by rw [neq_begin, decide_eq_true hq]; rfl
    have hs := hIff.out.1 (HEQ.out.2 hq)
    have hE := HE.out
    rw [if_neg (fun h => h hs)] at hE
    have HE := hide hE
    clear hE hs hq hIff
    go_wp2_with fail
    go_region_held (fun w' => w'.cell? ⟨w4.heap.size, 0, none⟩ = some (.int .u8 a0) ∧ w'.cell? ⟨w4.heap.size, 1, none⟩ = some (.int .u8 a1) ∧ w'.cell? ⟨w4.heap.size, 2, none⟩ = some (.int .u8 a2) ∧ w'.cell? ⟨w4.heap.size, 3, none⟩ = some (.int .u8 q3) ∧ w'.cell? ⟨w4.heap.size, 4, none⟩ = some (.int .u8 a4) ∧ w'.cell? ⟨w4.heap.size, 5, none⟩ = some (.int .u8 a5) ∧ w'.cell? ⟨w4.heap.size, 6, none⟩ = some (.int .u8 a6) ∧ w'.cell? ⟨w4.heap.size, 7, none⟩ = some (.int .u8 a7)) (go_keep) ((go_at_call 223; refine (HBG.out _ (HLL.out.below (Below.refl _ w5).drew) HXL.out (by omega)).mono ?_; rintro e w6 ⟨rfl, hB6⟩; have HBX7 : Hid (Box w6 w4.heap.size (cells8 [a0, a1, a2, q3, a4, a5, a6, a7]) 248) := hide ((hB6.block w4.heap.size HBX6.out.lt).trans HBX6.out); have y0 : w6.cell? ⟨w4.heap.size, 0, none⟩ = some (.int .u8 a0) := HBX7.out.cell 0 _ rfl; have y1 : w6.cell? ⟨w4.heap.size, 1, none⟩ = some (.int .u8 a1) := HBX7.out.cell 1 _ rfl; have y2 : w6.cell? ⟨w4.heap.size, 2, none⟩ = some (.int .u8 a2) := HBX7.out.cell 2 _ rfl; have y3 : w6.cell? ⟨w4.heap.size, 3, none⟩ = some (.int .u8 q3) := HBX7.out.cell 3 _ rfl; have y4 : w6.cell? ⟨w4.heap.size, 4, none⟩ = some (.int .u8 a4) := HBX7.out.cell 4 _ rfl; have y5 : w6.cell? ⟨w4.heap.size, 5, none⟩ = some (.int .u8 a5) := HBX7.out.cell 5 _ rfl; have y6 : w6.cell? ⟨w4.heap.size, 6, none⟩ = some (.int .u8 a6) := HBX7.out.cell 6 _ rfl; have y7 : w6.cell? ⟨w4.heap.size, 7, none⟩ = some (.int .u8 a7) := HBX7.out.cell 7 _ rfl; have HBL6 : Hid (Box w6 w1.heap.size (cells8 ld) 5) := hide ((hB6.block w1.heap.size HBLT.out).trans HBL.out); have HB6 := hide (HB5.out.drew.trans (hB6.mono HB5.out.size)); clear hB6))
    go_wp2_with fail
    go_ret3
    exact ⟨_, by rw [HE.out]; rfl, by rw [HE.out, ← hll]; exact owns_box HBL6.out HB1.out.size (by omega), HB6.out⟩
   ·have hn : ∀ w, (binOp .neq 248 (.agg #[.int .u8 a0, .int .u8 a1, .int .u8 a2, .int .u8 q3, .int .u8 a4, .int .u8 a5, .int .u8 a6, .int .u8 a7]) (.agg #[.int .u8 b0, .int .u8 b1, .int .u8 b2, .int .u8 b3, .int .u8 b4, .int .u8 b5, .int .u8 b6, .int .u8 b7])).run Tryz.prog w = .ok (.bool true) w := fun w => by rw [neq_begin, decide_eq_false hq]; rfl
    have hs := fun h => hq (HEQ.out.1 (hIff.out.2 h))
    have hE := HE.out
    rw [if_pos hs] at hE
    have HE := hide hE
    clear hE hs hq hIff
    go_wp2_with fail
    go_region_held (fun w' => w'.cell? ⟨w4.heap.size, 0, none⟩ = some (.int .u8 a0) ∧ w'.cell? ⟨w4.heap.size, 1, none⟩ = some (.int .u8 a1) ∧ w'.cell? ⟨w4.heap.size, 2, none⟩ = some (.int .u8 a2) ∧ w'.cell? ⟨w4.heap.size, 3, none⟩ = some (.int .u8 q3) ∧ w'.cell? ⟨w4.heap.size, 4, none⟩ = some (.int .u8 a4) ∧ w'.cell? ⟨w4.heap.size, 5, none⟩ = some (.int .u8 a5) ∧ w'.cell? ⟨w4.heap.size, 6, none⟩ = some (.int .u8 a6) ∧ w'.cell? ⟨w4.heap.size, 7, none⟩ = some (.int .u8 a7)) (go_keep) ((go_at_call 223; refine (HBG.out _ (HLL.out.below (Below.refl _ w5).drew) HXL.out (by omega)).mono ?_; rintro e w6 ⟨rfl, hB6⟩; have HBX7 : Hid (Box w6 w4.heap.size (cells8 [a0, a1, a2, q3, a4, a5, a6, a7]) 248) := hide ((hB6.block w4.heap.size HBX6.out.lt).trans HBX6.out); have y0 : w6.cell? ⟨w4.heap.size, 0, none⟩ = some (.int .u8 a0) := HBX7.out.cell 0 _ rfl; have y1 : w6.cell? ⟨w4.heap.size, 1, none⟩ = some (.int .u8 a1) := HBX7.out.cell 1 _ rfl; have y2 : w6.cell? ⟨w4.heap.size, 2, none⟩ = some (.int .u8 a2) := HBX7.out.cell 2 _ rfl; have y3 : w6.cell? ⟨w4.heap.size, 3, none⟩ = some (.int .u8 q3) := HBX7.out.cell 3 _ rfl; have y4 : w6.cell? ⟨w4.heap.size, 4, none⟩ = some (.int .u8 a4) := HBX7.out.cell 4 _ rfl; have y5 : w6.cell? ⟨w4.heap.size, 5, none⟩ = some (.int .u8 a5) := HBX7.out.cell 5 _ rfl; have y6 : w6.cell? ⟨w4.heap.size, 6, none⟩ = some (.int .u8 a6) := HBX7.out.cell 6 _ rfl; have y7 : w6.cell? ⟨w4.heap.size, 7, none⟩ = some (.int .u8 a7) := HBX7.out.cell 7 _ rfl; have HBL6 : Hid (Box w6 w1.heap.size (cells8 ld) 5) := hide ((hB6.block w1.heap.size HBLT.out).trans HBL.out); have HB6 := hide (HB5.out.drew.trans (hB6.mono HB5.out.size)); clear hB6))
    go_wp2_with fail
    go_ret3
    exact ⟨_, by rw [HE.out]; rfl, by rw [HE.out]; exact World.ownsRow_nil _ _ _ _, HB6.out⟩
 ·have HE := hide (hA hwhy)
  clear hA hB
  have hw1 : ((lengthF bs).2 == 0) = false := by simpa using hwhy
  generalize lengthF bs = r at *
  go_enter Tryz.func147, Tryz.ntmps147
  go_wp2_with fail
  refine C.out.mono ?_
  rintro e w1 ⟨rfl, hB1⟩
  have HB1 := hide hB1
  clear hB1
  go_wp2_with fail
  go_ret3
  exact ⟨_, by rw [HE.out]; rfl, by rw [HE.out]; exact World.ownsRow_nil _ _ _ _, HB1.out⟩
end
section
open Go.RowKit
set_option maxRecDepth 100000 in
set_option maxHeartbeats 1600000 in
theorem fput_any : PutOK := by
 intro vb vl bs load w hb hL hx hbl
 have hmx := hL.len
 unfold maxLen at hmx
 obtain ⟨al, cl, rfl⟩ := hL.shape
 obtain ⟨ab, cb, rfl⟩ := hb.shape
 by_cases h4 : load.length ≤ 4096
 ·have hput : putFr bs load = (bs ++ frameF load, 0) := by unfold putFr; rw [if_pos h4]
  rw [hput]
  have h4' : (load.length : Int) ≤ 4096 := by omega
  have hblI : (bs.length : Int) ≤ 100000 := by omega
  have C1 := hide (begin_any _ load w hL hx h4)
  have CS := fun w => fsize_any load.length w (by omega) (by omega)
  rw [show sizeF (load.length : Int) = 8 + (load.length : Int) by unfold sizeF; rw [if_neg (by omega)]] at CS
  have HCS := hide CS
  have HL := hide hL
  have HB := hide hb
  have hh8 : (headF load).length = 8 := headF_length load
  have HSZ : Hid ((Tryz.prog.info? 248).map (·.size) = some (cells8 (headF load)).size) := hide (by rw [cells8_size, hh8]; exact sizeBegin)
  have HZZ : Hid ((cells8 zero8).size = (cells8 (headF load)).size) := hide (by rw [cells8_size, cells8_size, hh8]; rfl)
  have HO := hide (cells8_one (headF load))
  obtain ⟨y4, hy4⟩ : ∃ y, y = bs ++ headF load := ⟨_, rfl⟩
  have hn4 : y4.length ≤ 100008 := by rw [hy4, List.length_append, hh8]; omega
  have HFP : Hid (bs ++ frameF load = y4 ++ load) := hide (by rw [hy4]; simp [frameF])
  have Y4 := hide hy4
  clear hb hL hx hy4 CS hput
  go_enter Tryz.func146, Tryz.ntmps146
  go_wp2_with fail
  refine C1.out.mono ?_
  rintro e w1 ⟨rfl, hB1⟩
  have HB1 := hide hB1
  have HBX1 : Hid (Box (w1.alloc (.cells #[.int .u8 0, .int .u8 0, .int .u8 0, .int .u8 0, .int .u8 0, .int .u8 0, .int .u8 0, .int .u8 0] 248)) w1.heap.size (cells8 zero8) 248) := hide (box_new w1 _ _)
  have HC1 : Hid (Below w1.heap.size w1 (w1.alloc (.cells #[.int .u8 0, .int .u8 0, .int .u8 0, .int .u8 0, .int .u8 0, .int .u8 0, .int .u8 0, .int .u8 0] 248))) := hide (below_two w1 _)
  clear hB1 C1
  go_wp2_with (refine wp_store_box rfl rfl _ _ rfl w1.heap.size rfl rfl HBX1.out HZZ.out HSZ.out HO.out ?_; intro w2 hb2 hk2; have HBX2 := hide hb2; have HC2 := hide (HC1.out.trans (hk2.below HC1.out.size (fun k hk => by rw [hk]; exact Nat.le_refl _))); clear hb2 hk2)
  have HL2 := hide ((HL.out.below HB1.out).below HC2.out)
  have HBS2 := hide ((HB.out.below HB1.out).below HC2.out)
  have HH2 := hide (lies_boxF HBX2.out (by omega))
  rw [hh8] at HH2
  have HBW := hide (HB1.out.trans (HC2.out.mono HB1.out.size))
  have HWS := hide (Nat.le_trans HB1.out.size HC2.out.size)
  obtain ⟨i0, hi, hz0, hz1, hz2⟩ := info_parts info5
  clear HC1 HBX1 HSZ HZZ HO HL HB HBX2 HC2 HB1
  refine (HCS.out _).mono ?_
  rintro e w3 ⟨rfl, hw3⟩
  rw [hw3]
  clear hw3 w3 HCS
  have HR : Hid ((bs.length : Int) + (8 + (load.length : Int)) = ((bs.length + (8 + load.length) : Nat) : Int)) := hide (by omega)
  go_wp2_with (first
   | (at_make; refine wpList_make_own _ rfl _ _ 29 rfl w2.heap.size 5 i0 (.int .u8 0) 1 Tryz.underlying29 hi hz0 hz1 _ _ _ (bs.length + (8 + load.length)) rfl rfl (by omega) (by rw [hz2]; omega) (by unfold maxLen; omega) (Nat.le_refl _) ?_; intro w4 hown4 hgrow4; have H4 : Hid (w4.ownsRow w2.heap.size 5 1 (.slice (some ⟨w2.heap.size, 0, none⟩) 0 (bs.length + (8 + load.length))) 0 (([] : List Int).map (Value.int .u8))) := hide hown4; have hB4 := (Below.refl w2.heap.size w2).grown hgrow4 (Nat.le_refl _) (fun k h => by cases h); have HB4 := hide hB4; have HS4 := hide hB4.size; have HL4 := hide (HBS2.out.below hB4); clear hown4 hgrow4 hB4)
   | (at_builtin; refine append_lies _ rfl _ _ rfl w2.heap.size _ _ _ y4 load rfl H6.out rfl (HL2.out.below HB6.out) (by omega) HS6.out ?_; intro v7 w7 hown7 hgrow7; have hown7 := owns_as hown7 HFP.out; have H7 := hide (owns_base hown7 HWS.out); have HB7 := hide (HB6.out.grown hgrow7 HS6.out (fun k hk => (H6.out.lt k hk).1)); clear hown7 hgrow7)
   | (at_builtin; refine append_lies _ rfl _ _ rfl w2.heap.size _ _ _ bs (headF load) rfl H5.out rfl (HH2.out.below HB5.out) (by omega) HS5.out ?_; intro v6 w6 hown6 hgrow6; have hown6 := owns_as hown6 Y4.out; have H6 := hide hown6; have hB6 := HB5.out.grown hgrow6 HS5.out (fun k hk => (H5.out.lt k hk).1); have HB6 := hide hB6; have HS6 := hide hB6.size; obtain ⟨a6, c6, e6⟩ := (Lies.of_own hown6).shape; subst e6; clear hown6 hgrow6 hB6)
   | (at_builtin; refine append_lies _ rfl _ _ rfl w2.heap.size _ _ 0 [] bs rfl H4.out rfl HL4.out (by omega) HS4.out ?_; intro v5 w5 hown5 hgrow5; simp only [Nat.zero_add, List.nil_append] at hown5; have H5 := hide hown5; have hB5 := HB4.out.grown hgrow5 HS4.out (fun k hk => by cases hk; exact Nat.le_refl _); have HB5 := hide hB5; have HS5 := hide hB5.size; obtain ⟨a5, c5, e5⟩ := (Lies.of_own hown5).shape; subst e5; clear hown5 hgrow5 hB5))
  go_ret2
  exact ⟨_, rfl, H7.out, HBW.out.trans (HB7.out.mono HBW.out.size)⟩
 ·have hput : putFr bs load = ([], 5) := by unfold putFr; rw [if_neg h4]
  rw [hput]
  have h4' : (4096 : Int) < (load.length : Int) := by omega
  clear hL hb hx hput
  generalize load.length = n at *
  go_enter Tryz.func146, Tryz.ntmps146
  go_wp2_with fail
  go_ret2
  exact ⟨_, rfl, World.ownsRow_nil _ _ _ _, Below.refl _ _⟩
end
section
open Go.RowKit
set_option maxRecDepth 100000 in
set_option maxHeartbeats 1600000 in
theorem fwalk_any (v : Value) (bs : List Int) (w : World) (h : Lies .u8 w v bs) (hx : ∀ c ∈ bs, 0 ≤ c ∧ c < 256) (hl : bs.length ≤ 1000000) :
  Calls Tryz.prog 89 #[v] w fun e w' => ∃ v', e = .returned (.tuple #[v', .int .i64 (scanF bs).2, .int .i64 (nextF (bs.drop (scanF bs).2)).2.2]) ∧ Rows w' w.heap.size v' (scanF bs).1 ∧ Below w.heap.size w w' := by
 obtain ⟨ao, cap, rfl⟩ := h.shape
 have H := hide h
 have HX := hide hx
 clear h hx
 go_enter Tryz.func89, Tryz.ntmps89
 go_wp2
 go_loopw [5, 6] (fun o i wr => ∃ (k : Nat) (acc : List (List Int)), k ≤ bs.length ∧ acc.length ≤ k ∧ i = .int .i64 k ∧ Hid (Rows wr w.heap.size o acc) ∧ Hid (Below w.heap.size w wr) ∧ Hid (scanF bs = (acc ++ (scanF (bs.drop k)).1, k + (scanF (bs.drop k)).2))) (fun _ i _ => bs.length - (intOf i).toNat)
 case atStart => exact ⟨0, [], Nat.zero_le _, Nat.zero_le _, rfl, hide (Rows.nil _ _), hide (Below.refl _ _), hide (by simp)⟩
 case round =>
  obtain ⟨k, acc, hk, hacc, rfl, HR, HB, HS⟩ := hrel
  have HL := hide (H.out.below HB.out)
  have HXk : Hid (∀ c ∈ bs.drop k, 0 ≤ c ∧ c < 256) := hide fun c hc => HX.out c (List.mem_of_mem_drop hc)
  have hkI : (k : Int) ≤ bs.length := by omega
  have hdk : (bs.drop k).length ≤ 1000000 := by simp; omega
  obtain ⟨ar, cr, er⟩ := HR.out.shape
  subst er
  go_wp2_with (refine wp_from _ rfl _ _ rfl _ bs rfl HL.out k rfl hk ?_; intro a2 c2 hL2; have HL2 := hide hL2; clear hL2)
  refine (fnext_any _ (bs.drop k) _ HL2.out HXk.out hdk).mono ?_
  rintro e w3 ⟨u, rfl, hu, hB3⟩
  have hok := next_ok (bs.drop k)
  have hdl : (bs.drop k).length = bs.length - k := by simp
  rw [hdl] at hok
  have HOK := hide (scan_ok (bs.drop k))
  have HNO := hide (scan_no (bs.drop k))
  have HEN : Hid (∀ code, (nextF (bs.drop k)).2.2 = code → code ≠ 0 → (nextF (bs.drop (scanF bs).2)).2.2 = code) := hide fun code hc hne => by
   rw [HS.out, scan_no (bs.drop k) (by rw [hc]; exact hne)]
   exact hc
  generalize nextF (bs.drop k) = nx at *
  obtain ⟨ld, n, code⟩ := nx
  dsimp only at hu hok HOK HNO HEN ⊢
  have HU := hide hu
  have HR3 := hide (HR.out.below hB3)
  have HB3 := hide (HB.out.trans (hB3.mono HB.out.size))
  clear hu hB3 hdl
  by_cases hc : code = 0
  ·subst hc
   have hok := hok rfl
   have HOK := hide (HOK.out rfl)
   obtain ⟨hn8, hnl⟩ := hok
   have hI : (k : Int) + n ≤ 1000000 := by omega
   clear HNO HEN
   obtain ⟨au, cu, eu⟩ := (Lies.of_own HU.out).shape
   subst eu
   have HU3 := hide (owns_base HU.out HB.out.size)
   have HS3 := hide (Nat.le_trans HB3.out.size (below_two w3 (.cells #[.slice au ld.length cu] 29)).size)
   have HBA := hide (HB3.out.trans ((below_two w3 (.cells #[.slice au ld.length cu] 29)).mono HB3.out.size))
   have HE : Hid (scanF bs = ((acc ++ [ld]) ++ (scanF (bs.drop (k + n))).1, (k + n) + (scanF (bs.drop (k + n))).2)) := hide (by
    rw [HS.out, HOK.out, List.drop_drop]
    simp [Nat.add_assoc])
   go_wp2_with (at_builtin; refine append_row _ rfl _ _ rfl w.heap.size _ acc rfl (HR3.out.below (below_two _ _)) w3.heap.size _ ld rfl (by simp) (HU3.out.alloc _) (by omega) HS3.out ?_; intro v4 w4 hR4 hgrow4; have HR4 := hide hR4; have HB4 := hide (HBA.out.grown hgrow4 HS3.out (fun k hk => (HR3.out.lt k hk).1)); clear hR4 hgrow4)
   go_roundw
   case rel => exact ⟨k + n, acc ++ [ld], by omega, by simp; omega, by go_num, HR4, HB4, HE⟩
   case measure => simp [intOf]; omega
  ·have HNO := hide (HNO.out hc)
   have HEN := hide (HEN.out code rfl hc)
   have hcb : (code == 0) = false := by simpa using hc
   clear hok HOK
   go_wp2
   go_ret3
   exact ⟨_, by rw [HEN.out, HS.out, HNO.out]; rfl, by rw [HS.out, HNO.out]; simpa using HR3.out, HB3.out⟩
set_option maxHeartbeats 800000 in
theorem fscan_any : ScanOK := by
 intro v bs w h hx hl
 have C := hide (fwalk_any v bs w h hx hl)
 obtain ⟨ao, cap, rfl⟩ := h.shape
 clear h hx
 generalize nextF (bs.drop (scanF bs).2) = nx at *
 generalize scanF bs = r at *
 go_enter Tryz.func71, Tryz.ntmps71
 go_wp2_with fail
 refine C.out.mono ?_
 rintro e w2 ⟨v2, rfl, hR2, hB2⟩
 have HL2 := hide hR2.lies
 have HB2 := hide hB2
 obtain ⟨ar, cr, er⟩ := hR2.shape
 subst er
 clear hR2 hB2 C
 go_wp2_with fail
 go_ret2
 exact ⟨_, rfl, HL2.out, HB2.out⟩
theorem size_OK : SizeOK := fun n w h1 h2 => (fsize_any n w h1 h2).mono fun _ _ ⟨e1, e2⟩ => ⟨e1, by rw [e2]; exact Below.refl _ _⟩
end
end Go.Proofs.YtlegliimgjmphaaGreat
