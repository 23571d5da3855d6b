/-
  The program's beginningOf: a frame's beginning, as an array. Own work.
-/
import Derived.Test.YtgchgbbldhpgeabCopyAt
import Derived.Test.YtgchgbbldhpgeabSum2
import Derived.Test.YtgchgbbldhpgeabFrNext
import Derived.Deep.RegionHeldLaw
namespace Go.Proofs.Ytgchgbbldhpgeab
open Go.RowKit

abbrev zero8 : List Int := [0, 0, 0, 0, 0, 0, 0, 0]
theorem infoBegin : (Try.prog.info? 39).map (fun i => (i.zero, i.size)) = some (some (.agg (cells8 zero8)), 8) := by kernel_rfl
theorem sizeBegin : (Try.prog.info? 39).map (·.size) = some 8 := (zero_of_info infoBegin).2
theorem begin1 : [167, 94, 0, 0, 0, 0, 0, 0] = zero8.take 0 ++ ((⟨#[167, 94]⟩ : ByteArray).data.toList.map fun b => (b.toNat : Int)) ++ zero8.drop (0 + (⟨#[167, 94]⟩ : ByteArray).size) := by rfl
theorem begin2 (ls : List Int) (h : ls.length = 2) : [167, 94] ++ ls ++ [0, 0, 0, 0] = List.take 2 [167, 94, 0, 0, 0, 0, 0, 0] ++ ls.take 2 ++ List.drop (2 + 2) [167, 94, 0, 0, 0, 0, 0, 0] := by
  obtain ⟨a, b, rfl⟩ := two ls h
  rfl
theorem begin3 (ls ss : List Int) (h : ls.length = 2) (hs : ss.length = 4) : [167, 94] ++ ls ++ ss = List.take 4 ([167, 94] ++ ls ++ [0, 0, 0, 0]) ++ ss.take 4 ++ List.drop (4 + 4) ([167, 94] ++ ls ++ [0, 0, 0, 0]) := by
  obtain ⟨a, b, rfl⟩ := two ls h
  obtain ⟨c, d, e, f, rfl⟩ := four ss hs
  rfl
set_option maxRecDepth 100000 in
set_option maxHeartbeats 800000 in
theorem begin_any (v : Value) (load : List Int) (w : World) (h : Lies .u8 w v load) (hx : ∀ c ∈ load, 0 ≤ c ∧ c < 256) (hl : load.length ≤ 4096) :
    Calls Try.prog 12 #[v] w fun e w' => e = .returned (.agg (cells8 (headF load))) ∧ Below w.heap.size w w' := by
  obtain ⟨al, cl, rfl⟩ := h.shape
  have hlI : (load.length : Int) ≤ 4096 := by omega
  have hl2 : (lenB load).length = 2 := putS_len _ _
  have HBR : Hid (Box (w.alloc (.cells #[.int .u8 0, .int .u8 0, .int .u8 0, .int .u8 0, .int .u8 0, .int .u8 0, .int .u8 0, .int .u8 0] 39)) w.heap.size (cells8 zero8) 39) := hide (box_new w _ _)
  have HBA : Hid (Below w.heap.size w (w.alloc (.cells #[.int .u8 0, .int .u8 0, .int .u8 0, .int .u8 0, .int .u8 0, .int .u8 0, .int .u8 0, .int .u8 0] 39))) := hide (below_two w _)
  have HL := hide (h.below HBA.out)
  have HS : Hid (w.heap.size < (w.alloc (.cells #[.int .u8 0, .int .u8 0, .int .u8 0, .int .u8 0, .int .u8 0, .int .u8 0, .int .u8 0, .int .u8 0] 39)).heap.size) := hide (by simp)
  have HX := hide hx
  have HXL : Hid (∀ c ∈ lenB load, 0 ≤ c ∧ c < 256) := hide (putS_bytes _ _)
  have hsl : sumF (lenB load) load < 4294967296 := sumF_lt (ls := lenB load) (putS_bytes _ _) hx
  have HSE : Hid (moreI 0 (lenB load ++ load) = sumF (lenB load) load) := hide (by unfold sumF; rw [moreI_append])
  have HH : Hid (headF load = [167, 94] ++ lenB load ++ putS (sumF (lenB load) load) 4) := hide rfl
  have HE2 := hide (begin2 (lenB load) hl2)
  have HE3 := hide (begin3 (lenB load) (putS (sumF (lenB load) load) 4) hl2 (putS_len _ _))
  obtain ⟨z2, hz2⟩ : ∃ z, z = [167, 94] ++ lenB load ++ [0, 0, 0, 0] := ⟨_, rfl⟩
  have hz2l : z2.length = 8 := by rw [hz2]; simp [hl2]
  rw [← hz2] at HE2 HE3
  clear h hx hz2
  go_enter Try.func12, Try.ntmps12
  go_wp2_with fail
  generalize w.alloc (.cells #[.int .u8 0, .int .u8 0, .int .u8 0, .int .u8 0, .int .u8 0, .int .u8 0, .int .u8 0, .int .u8 0] 39) = wa at *
  refine (put_any (.slice none 0 0) [] load.length 2 wa (Lies.nil _ _) (by simp)).mono ?_
  rintro e w1 ⟨vn, rfl, hon, hB1⟩
  rw [List.nil_append, show clamp8 2 = 2 from rfl] at hon
  have hLn : Lies .u8 w1 vn (lenB load) := Lies.of_own hon
  obtain ⟨an, cn, rfl⟩ := hLn.shape
  rw [hl2] at hLn ⊢
  have HLN := hide hLn
  have HB1 := hide hB1
  have HL1 := hide (HL.out.below hB1)
  clear hon hB1 hLn
  go_wp2_with fail
  refine (sum_two w1 _ _ (lenB load) load 23 HLN.out HL1.out HXL.out HX.out).mono ?_
  rintro e w2 ⟨rfl, hw2⟩
  have hB2 : Below w1.heap.size w1 w2 := by rw [hw2]; exact below_two _ _
  have HLN2 := hide (HLN.out.below hB2)
  have HB2 := hide (HB1.out.trans (hB2.mono HB1.out.size))
  rw [HSE.out]
  clear hw2 hB2 HSE HL HL1
  generalize sumF (lenB load) load = sm at *
  have HC3 : Hid (Below w2.heap.size w2 (w2.alloc (.cells #[.int .u8 0, .int .u8 0, .int .u8 0, .int .u8 0, .int .u8 0, .int .u8 0, .int .u8 0, .int .u8 0] 39))) := hide (below_two w2 _)
  have HBX : Hid (Box (w2.alloc (.cells #[.int .u8 0, .int .u8 0, .int .u8 0, .int .u8 0, .int .u8 0, .int .u8 0, .int .u8 0, .int .u8 0] 39)) w2.heap.size (cells8 zero8) 39) := hide (box_new w2 _ _)
  have HLT : Hid (w.heap.size < w2.heap.size) := hide (by have := HS.out; have := HB2.out.size; omega)
  have HR2 : Hid (Box w2 w.heap.size (cells8 zero8) 39) := hide ((HB2.out.block w.heap.size HS.out).trans HBR.out)
  have HBW := hide (HBA.out.trans (HB2.out.mono HBA.out.size))
  have hp4 : (putS sm 4).length = 4 := putS_len _ _
  have hws : IntKind.u64.wrap (sm : Int) = (sm : Int) := by rw [IntKind.wrap_u64]; omega
  clear HBR HBA HS HB1 HLN HB2
  go_wp2_with (first
    | (refine wp_copy_at _ rfl _ _ rfl w2.heap.size 2 6 6 39 _ (lenB load) z2 HBX4.out rfl _ rfl (HLN2.out.below HC4.out) 2 (by rw [hl2]; rfl) (by decide) HE2.out ?_; intro w5 hb5 hk5; have HBX5 := hide hb5; have HC5 := hide (HC4.out.trans (hk5.below HC4.out.size (fun k hk => by rw [hk]; exact Nat.le_refl _))); clear hb5 hk5)
    | (refine wp_copy_str _ rfl _ _ rfl w2.heap.size 0 8 8 39 zero8 [167, 94, 0, 0, 0, 0, 0, 0] HBX.out rfl _ rfl (by decide) (by decide) begin1 ?_; intro w4 hb4 hk4; have HBX4 := hide hb4; have HC4 := hide (HC3.out.trans (hk4.below HC3.out.size (fun k hk => by rw [hk]; exact Nat.le_refl _))); clear hb4 hk4))
  go_wp2_with fail
  go_region_held_law (fun _ => True) (trivial) ((first
    | (go_at_call 16; refine (put_any (.slice none 0 0) [] sm 4 _ (Lies.nil _ _) (by simp)).mono ?_; rintro e w6 ⟨v6, rfl, hon6, hB6⟩; rw [List.nil_append, show clamp8 4 = 4 from rfl] at hon6; have HL6 := hide (Lies.of_own hon6); have HBX6 := hide ((hB6.block w2.heap.size HBX5.out.lt).trans HBX5.out); have HC6 := hide (HC5.out.drew.trans (hB6.mono HC5.out.size)); obtain ⟨a6, c6, e6⟩ := (Lies.of_own hon6).shape; subst e6; rw [hp4]; clear hon6 hB6)
    | (refine step_copy_at _ rfl _ _ rfl w2.heap.size 4 4 4 39 z2 (putS sm 4) ([167, 94] ++ lenB load ++ putS sm 4) HBX6.out rfl _ rfl HL6.out 4 (by rw [hp4]; rfl) (by rw [hz2l]; decide) HE3.out ?_; intro w7 hb7 hk7; rw [← HH.out] at hb7; have HBX7 := hide hb7; have HC7 := hide (HC6.out.trans (hk7.below HC6.out.size (fun k hk => by rw [hk]; exact Nat.le_refl _))); clear hb7 hk7)))
  have HR7 := hide ((HC7.out.block w.heap.size HLT.out).trans HR2.out)
  have HI : Hid ((Try.prog.info? 39).map (·.size) = some (cells8 (headF load)).size) := hide (by rw [cells8_size, headF_length]; exact sizeBegin)
  have HZ : Hid ((cells8 zero8).size = (cells8 (headF load)).size) := hide (by rw [cells8_size, cells8_size, headF_length]; rfl)
  have HO := hide (cells8_one (headF load))
  have HB8 := hide (HBW.out.trans (HC7.out.mono HBW.out.size))
  clear HH HE2 HE3 HBX HC3 HC4 HC5 HC6 HBX4 HBX5 HBX6 HL6
  generalize hC : cells8 (headF load) = C at *
  have HC := hide hC
  clear hC
  go_wp2_with (first
    | (refine wp_load_box rfl _ rfl _ rfl HBX7.out Try.underlying39 rfl HI.out ?_)
    | (refine wp_store_box rfl rfl _ _ rfl _ rfl rfl HR7.out HZ.out HI.out HO.out ?_; intro w8 hb8 hk8; have HBX8 := hide hb8; have HB9 := hide (HB8.out.trans (hk8.below HB8.out.size (fun k hk => by rw [hk]; exact Nat.le_refl _))); clear hb8 hk8))
  exact bodyPost_ret (v := .agg C) (results_box Try.results12 _ _ w.heap.size rfl HBX8.out Try.underlying39 rfl HI.out) rfl ⟨by rw [HC.out], HB9.out⟩
end Go.Proofs.Ytgchgbbldhpgeab
