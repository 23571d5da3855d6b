/-
  Own texts put together: IdKey, Cuts, IdName, IdRKey, IdRName, IdRef. Own work.
-/
import Derived.Test.YtlngejmojpkdkaaG09
import Derived.Test.YtlngejmojpkdkaaG06
import Derived.Test.YtlngejmojpkdkaaG02
import Derived.Shelf.Abstract
import Derived.Lib.BytesEntry
import Derived.Deep.QuietTactic
import Derived.BigQuiet
import Derived.Deep.RegionHeldLaw
import Derived.Maps.AppendAt
namespace Go.Proofs.Ytlngejmojpkdkaa
section
open Go.RowKit

/-- A text's bytes as numbers. -/
def numsS (s : ByteArray) : List Int := s.data.toList.map fun b => (b.toNat : Int)
theorem numsS_length (s : ByteArray) : (numsS s).length = s.size := by
  obtain ⟨d⟩ := s
  simp [numsS, ByteArray.size]
theorem numsS_byte (s : ByteArray) : ∀ c ∈ numsS s, 0 ≤ c ∧ c < 256 := by
  intro c hc
  simp only [numsS, List.mem_map] at hc
  obtain ⟨b, _, rfl⟩ := hc
  have := b.toNat_lt
  omega
theorem bytesOf_numsS (s : ByteArray) : Lib.bytesOf (numsS s) = s.data.toList := by
  unfold Lib.bytesOf numsS
  rw [List.map_map]
  conv => rhs; rw [← List.map_id s.data.toList]
  apply List.map_congr_left
  intro b _
  simp
theorem infoKeyI : (Try.prog.info? 31).map (·.size) = some 8 := by kernel_rfl
theorem results_box2 {P : Program} {fn : Func} {q t1 : Tmp} {t t0 : TypeId} {d : TypeDesc} (h : fn.results = #[.cell q t, .tmp t1]) (tmps : Array Value) (w : World) (p : Nat) (hq : tmps.getD q undef = .pointer (some ⟨p, 0, none⟩)) {v1 : Value} (h1 : tmps.getD t1 undef = v1) {cs : Array Value} (hb : Box w p cs t0)
    (hu : P.underlying t = some d) (hd : d.isRow = true) (hi : (P.info? t).map (·.size) = some cs.size) : (results fn tmps).run P w = .ok (.tuple #[.agg cs, v1]) w := by
  subst h1
  have hr : w.rangeAt p 0 cs.toList := fun j v hv => by
    rw [Nat.zero_add]; exact hb.cell j v (by simpa using hv)
  have hl := run_loadVar_mid (P := P) w p 0 t cs.toList d hr hu hd (by simpa using hi)
  have hq' : tmps[q]?.getD undef = .pointer (some ⟨p, 0, none⟩) := by rw [← Array.getD_eq_getD_getElem?]; exact hq
  simp only [results, h]
  simp [hq', asAddr, hl]

set_option maxRecDepth 100000 in
theorem slidx_any (s : ByteArray) (c : Int) (w : World) : Calls Try.prog 63 #[.string s, .int .u8 c] w fun e w' => e = .returned (.int .i64 (Lib.indexByte s.data.toList c.toNat.toUInt8)) ∧ w' = w := by
  go_enter Try.func63, Try.ntmps63
  go_wp2
  rw [run_callFunc_extern Try.func78 (by kernel_rfl) (by kernel_rfl) (by kernel_rfl) (e := Extern.BytealgIndexByte.indexByte) (by kernel_rfl), Lib.run_indexByteString]
  simp only [Result.andThen]
  rw [Oper.upon_value]
  go_wp2
  go_ret
  exact ⟨rfl, rfl⟩
theorem stidx_any (s : ByteArray) (c : Int) (w : World) : Calls Try.prog 49 #[.string s, .int .u8 c] w fun e w' => e = .returned (.int .i64 (Lib.indexByte s.data.toList c.toNat.toUInt8)) ∧ w' = w := by
  go_enter Try.func49, Try.ntmps49
  go_wp2_with (go_at_call 63; refine (slidx_any _ _ _).mono ?_; rintro e w' ⟨rfl, rfl⟩)
  go_ret
  exact ⟨rfl, rfl⟩
abbrev zeroC : Array Value := #[.int .u8 0, .int .u8 0, .int .u8 0, .int .u8 0, .int .u8 0, .int .u8 0, .int .u8 0, .int .u8 0]
theorem drop_zero8 (n : Nat) : zero8i.drop n = List.replicate (8 - n) 0 := by
  rw [show zero8i = List.replicate 8 (0 : Int) from rfl, List.drop_replicate]
theorem keyOfF_bad {xs : List Int} (h : xs.length = 0 ∨ 8 < xs.length ∨ 0 ∈ xs) : keyOfF xs = (zero8i, 1) := by unfold keyOfF; rw [if_pos h]
set_option maxRecDepth 100000 in
set_option maxHeartbeats 1600000 in
theorem keyOf_any (s : ByteArray) (hs : s.size ≤ maxLen) (w : World) :
    Calls Try.prog 37 #[.string s] w fun e w' => e = .returned (.tuple #[.agg (cells8 (keyOfF (numsS s)).1), .int .i64 (keyOfF (numsS s)).2]) ∧ Below w.heap.size w w' := by
  unfold maxLen at hs
  have hlen := numsS_length s
  have hix := index_zero (numsS s) (numsS_byte s)
  rw [bytesOf_numsS] at hix
  have HI := hide infoKeyI
  have hbA := (Below.refl w.heap.size w).alloc (Nat.le_refl _) (.cells zeroC 31)
  have hbB := hbA.alloc (by simp) (.cells zeroC 31)
  have HB := hide hbB
  have HBR : Hid (Box ((w.alloc (.cells zeroC 31)).alloc (.cells zeroC 31)) w.heap.size zeroC 31) := hide ((box_new w zeroC 31).keep (KeepBut.of_below (fun _ => False) ((Below.refl _ _).alloc (Nat.le_refl _) _)) id)
  have HBK : Hid (Box ((w.alloc (.cells zeroC 31)).alloc (.cells zeroC 31)) (w.heap.size + 1) (cells8 zero8i) 31) := hide (by
    have := box_new (w.alloc (.cells zeroC 31)) zeroC 31
    rw [show cells8 zero8i = zeroC from rfl]
    simpa using this)
  have HZS : Hid ((zeroC).size = (cells8 (numsS s ++ List.replicate (8 - s.size) 0)).size ∨ ¬ s.size ≤ 8) := hide (by
    by_cases h8 : s.size ≤ 8
    · left; rw [cells8_size]; simp [hlen]; omega
    · exact .inr h8)
  clear hbA hbB
  have he0 : ∀ z : Int, z = 0 → Lib.indexByte s.data.toList z.toNat.toUInt8 = Lib.indexByte s.data.toList 0 := fun z hz => by rw [hz]; rfl
  have HCI : Hid (∀ w, Calls Try.prog 49 #[.string s, .int .u8 0] w fun e w' => e = .returned (.int .i64 (Lib.indexByte s.data.toList 0)) ∧ w' = w) := hide (fun w => stidx_any s 0 w)
  clear he0
  generalize hxs : numsS s = xs at *
  generalize Lib.indexByte s.data.toList 0 = ix at *
  by_cases hbad : xs.length = 0 ∨ 8 < xs.length ∨ 0 ∈ xs
  · rw [keyOfF_bad hbad]
    have HCE : Hid (cells8 zero8i = zeroC) := hide rfl
    by_cases h1 : s.size = 0
    · have h1' : (s.size : Int) = 0 := by omega
      clear hbad hix hlen HZS
      go_enter Try.func37, Try.ntmps37
      go_wp2_with fail
      exact bodyPost_ret (v := .tuple #[.agg zeroC, .int .i64 1]) (results_box2 (v1 := .int .i64 1) Try.results37 _ _ w.heap.size rfl rfl HBR.out Try.underlying31 rfl HI.out) rfl ⟨rfl, HB.out⟩
    · by_cases h2 : 8 < s.size
      · have h1' : ((s.size : Int) == 0) = false := beq_eq_false_iff_ne.2 (by omega)
        have h2' : (8 : Int) < (s.size : Int) := by omega
        clear hbad hix hlen HZS
        go_enter Try.func37, Try.ntmps37
        go_wp2_with fail
        exact bodyPost_ret (v := .tuple #[.agg zeroC, .int .i64 1]) (results_box2 (v1 := .int .i64 1) Try.results37 _ _ w.heap.size rfl rfl HBR.out Try.underlying31 rfl HI.out) rfl ⟨rfl, HB.out⟩
      · have h0 : (0 : Int) ∈ xs := by
          rcases hbad with h | h | h
          · omega
          · omega
          · exact h
        rw [if_pos h0] at hix
        have hix0 : 0 ≤ ix := by omega
        have h1' : ((s.size : Int) == 0) = false := beq_eq_false_iff_ne.2 (by omega)
        have h2' : decide ((8 : Int) < (s.size : Int)) = false := decide_eq_false (by omega)
        clear hbad hix hlen HZS h0 h1 h2
        go_enter Try.func37, Try.ntmps37
        go_wp2_with (go_at_call 49; refine (HCI.out _).mono ?_; rintro e w' ⟨rfl, rfl⟩)
        exact bodyPost_ret (v := .tuple #[.agg zeroC, .int .i64 1]) (results_box2 (v1 := .int .i64 1) Try.results37 _ _ w.heap.size rfl rfl HBR.out Try.underlying31 rfl HI.out) rfl ⟨rfl, HB.out⟩
  · have hE : keyOfF xs = (xs ++ List.replicate (8 - xs.length) 0, 0) := by unfold keyOfF; rw [if_neg hbad]
    simp only [not_or] at hbad
    rw [if_neg hbad.2.2] at hix
    have h1' : ((s.size : Int) == 0) = false := beq_eq_false_iff_ne.2 (by omega)
    have h2' : decide ((8 : Int) < (s.size : Int)) = false := decide_eq_false (by omega)
    have hs8 : s.size ≤ 8 := by omega
    have HZ : Hid (xs ++ List.replicate (8 - xs.length) 0 = zero8i.take 0 ++ (s.data.toList.map fun b => (b.toNat : Int)) ++ zero8i.drop (0 + s.size)) := hide (by
      have : (s.data.toList.map fun b => (b.toNat : Int)) = xs := hxs
      rw [this, ← hlen, Nat.zero_add, drop_zero8]
      rfl)
    rw [hE]
    have HL8 : Hid ((xs ++ List.replicate (8 - xs.length) 0).length = 8) := hide (by simp; omega)
    generalize xs ++ List.replicate (8 - xs.length) 0 = ks at *
    have HS8 : Hid ((cells8 ks).size = 8) := hide (by rw [cells8_size]; exact HL8.out)
    have HI2 : Hid ((Try.prog.info? 31).map (·.size) = some (cells8 ks).size) := hide (by rw [HS8.out]; exact HI.out)
    have HZZ : Hid ((zeroC : Array Value).size = (cells8 ks).size) := hide (by rw [HS8.out]; rfl)
    have HO : Hid ((cells8 ks).all (·.oneCell') = true) := hide (cells8_one ks)
    obtain ⟨h0a, h0b, h0c⟩ := hbad
    clear hlen HZS h0a h0b h0c hE hxs
    subst hix
    go_enter Try.func37, Try.ntmps37
    go_wp2_with (first
      | (go_at_call 49; refine (HCI.out _).mono ?_; rintro e w' ⟨rfl, rfl⟩)
      | (refine wp_copy_str _ rfl _ _ rfl (w.heap.size + 1) 0 8 8 31 zero8i ks HBK.out rfl s rfl hs8 (by simp [zero8i]; omega) HZ.out ?_; intro w2 hb2 hk2; have HB2 := hide hb2; have HK2 := hide hk2; have HR2 := hide (HBR.out.keep hk2 (fun e => absurd e (by omega))); clear hb2 hk2)
      | (refine wp_load_box rfl _ rfl _ rfl HB2.out Try.underlying31 rfl HI2.out ?_)
      | (refine wp_store_box rfl rfl _ _ rfl _ rfl rfl HR2.out HZZ.out HI2.out HO.out ?_; intro w3 hb3 hk3; have HB3 := hide hb3; have HK3 := hide hk3; clear hb3 hk3))
    refine bodyPost_ret (v := .tuple #[.agg (cells8 ks), .int .i64 0]) (results_box2 (v1 := .int .i64 0) Try.results37 _ _ w.heap.size rfl rfl HB3.out Try.underlying31 rfl HI2.out) rfl ⟨rfl, ?_⟩
    exact (HB.out.trans (HK2.out.below HB.out.size (fun k hk => by omega))).trans (HK3.out.below (Nat.le_trans HB.out.size HK2.out.size) (fun k hk => by omega))
end
section
open Go.RowKit

theorem Lies.cap {k : IntKind} {w : World} {ao : Option Addr} {cap : Nat} {xs : List Int} (h : Lies k w (.slice ao xs.length cap) xs) : xs.length ≤ cap := by
  rcases h with ⟨rfl, _⟩ | ⟨_, b, off, cap', e, _, hl, _⟩
  · simp
  · cases e; exact hl
theorem Lies.drop {k : IntKind} {w : World} {ao : Option Addr} {cap s : Nat} {xs : List Int} (h : Lies k w (.slice ao xs.length cap) xs) (hs : s ≤ xs.length) :
    Lies k w (.slice (if cap = s then ao else ao.map (·.add (s * 1))) (xs.length - s) (cap - s)) (xs.drop s) := by
  rcases h with ⟨rfl, ao', cap', e, h0⟩ | ⟨hne, b, off, cap', e, hb, hl, hm, hc⟩
  · cases e
    obtain rfl : s = 0 := by simpa using hs
    refine .inl ⟨by simp, _, cap, rfl, fun hn => ?_⟩
    split at hn
    · assumption
    · cases ao with
      | none => exact h0 rfl
      | some ad => cases hn
  · cases e
    by_cases hlt : s < xs.length
    · rw [if_neg (by omega)]
      have hlen : (xs.drop s).length = xs.length - s := by simp
      refine .inr ⟨fun e => by rw [e] at hlen; simp at hlen; omega, b, off + s, cap - s, by simp [Addr.add_lit], hb, by omega, by omega, fun t ht => ?_⟩
      rw [Nat.add_assoc, hc (s + t) (by omega)]
      simp [List.getD]
    · obtain rfl : s = xs.length := by omega
      refine .inl ⟨by simp, _, _, by rw [Nat.sub_self], fun hn => ?_⟩
      split at hn
      · cases hn
      · cases hn
theorem Lies.take {k : IntKind} {w : World} {ao : Option Addr} {cap n : Nat} {xs : List Int} (h : Lies k w (.slice ao xs.length cap) xs) (hn : n ≤ xs.length) : Lies k w (.slice ao n cap) (xs.take n) := by
  rcases h with ⟨rfl, ao', cap', e, h0⟩ | ⟨hne, b, off, cap', e, hb, hl, hm, hc⟩
  · cases e
    obtain rfl : n = 0 := by simpa using hn
    exact .inl ⟨by simp, ao, cap, rfl, h0⟩
  · cases e
    by_cases h0 : n = 0
    · subst h0
      exact .inl ⟨by simp, _, _, rfl, fun h => by cases h⟩
    · have hlen : (xs.take n).length = n := by simp; omega
      refine .inr ⟨fun e => by rw [e] at hlen; simp at hlen; omega, b, off, cap, by rw [hlen], hb, by omega, hm, fun t ht => ?_⟩
      rw [hc t (by omega)]
      have : t < n := by omega
      simp [List.getD, this]
/-- 'x[s:]' -/
theorem run_from (w : World) (ao : Option Addr) (n cap s : Nat) (hs : s ≤ n) : (Instr.sliceAt 52 (.slice ao n cap) (some (.int .i64 s)) none none).run Try.prog w = .ok (.slice (if cap = s then ao else ao.map (·.add (s * 1))) (n - s) (cap - s)) w := by
  simp [Instr.sliceAt, Instr.slice, run_underlying Try.underlying52, Instr.sliceBounds, Instr.sliceBound, asIntOf]
  omega
/-- 'x[:n]' -/
theorem run_to (w : World) (kd : IntKind) (ao : Option Addr) (m cap n : Nat) (hn : n ≤ cap) : (Instr.sliceAt 52 (.slice ao m cap) none (some (.int kd n)) none).run Try.prog w = .ok (.slice ao n cap) w := by
  have h2 : (if cap = 0 then ao else Option.map (fun x => x.add 0) ao) = ao := by
    split
    · rfl
    · cases ao with
      | none => rfl
      | some ad => simp [Addr.add]
  simp [Instr.sliceAt, Instr.slice, run_underlying Try.underlying52, Instr.sliceBounds, Instr.sliceBound, asIntOf, h2]
  omega
end
section
open Go.RowKit

set_option maxRecDepth 100000 in
theorem bindex_any (w : World) (b off c : Nat) (xs : List Int) (hc : ∀ t, t < xs.length → w.cell? ⟨b, off + t, none⟩ = some (.int .u8 (xs.getD t 0))) (hx : ∀ c ∈ xs, 0 ≤ c ∧ c < 256) :
    Calls Try.prog 58 #[.slice (some ⟨b, off, none⟩) xs.length c, .int .u8 0] w fun e w' => e = .returned (.int .i64 (if 0 ∈ xs then ((aheadF xs).length : Int) else -1)) ∧ w' = w := by
  have hr := Lib.run_indexByteSlice (P := Try.prog) w b off xs.length c xs rfl hc 0
  have h0 : Lib.indexByte (Lib.bytesOf xs) (0 : Int).toNat.toUInt8 = if 0 ∈ xs then ((aheadF xs).length : Int) else -1 := index_zero xs hx
  rw [h0] at hr
  generalize (if 0 ∈ xs then ((aheadF xs).length : Int) else -1) = r at *
  generalize xs.length = n at *
  clear hc hx h0
  go_enter Try.func58, Try.ntmps58
  go_wp2
  rw [run_callFunc_extern Try.func76 (by kernel_rfl) (by kernel_rfl) (by kernel_rfl) (e := Extern.BytealgIndexByte.indexByte) (by kernel_rfl), hr]
  simp only [Result.andThen]
  rw [Oper.upon_value]
  go_wp2
  go_ret
  exact ⟨rfl, rfl⟩
set_option maxRecDepth 100000 in
set_option maxHeartbeats 1600000 in
theorem index1_any (w : World) (b off c b2 c2 : Nat) (xs : List Int) (hc : ∀ t, t < xs.length → w.cell? ⟨b, off + t, none⟩ = some (.int .u8 (xs.getD t 0))) (hx : ∀ c ∈ xs, 0 ≤ c ∧ c < 256) (hs : w.cell? ⟨b2, 0, none⟩ = some (.int .u8 0)) :
    Calls Try.prog 48 #[.slice (some ⟨b, off, none⟩) xs.length c, .slice (some ⟨b2, 0, none⟩) 1 c2] w fun e w' => e = .returned (.int .i64 (if 0 ∈ xs then ((aheadF xs).length : Int) else -1)) ∧ w' = w := by
  have C := hide (bindex_any w b off c xs hc hx)
  generalize (if 0 ∈ xs then ((aheadF xs).length : Int) else -1) = r at *
  generalize xs.length = n at *
  clear hc hx
  go_enter Try.func48, Try.ntmps48
  go_wp2_with (go_at_call 58; refine C.out.mono ?_; rintro e w' ⟨rfl, rfl⟩)
  go_ret
  exact ⟨rfl, rfl⟩
set_option maxRecDepth 100000 in
set_option maxHeartbeats 1600000 in
theorem cut_any (w : World) (b b2 : Nat) (ks : List Int) (hl : ks.length = 8) (hc : ∀ t, t < ks.length → w.cell? ⟨b, 0 + t, none⟩ = some (.int .u8 (ks.getD t 0))) (hx : ∀ c ∈ ks, 0 ≤ c ∧ c < 256) (hs : w.cell? ⟨b2, 0, none⟩ = some (.int .u8 0)) :
    Calls Try.prog 36 #[.slice (some ⟨b, 0, none⟩) 8 8, .slice (some ⟨b2, 0, none⟩) 1 1] w fun e w' => ∃ x y n, e = .returned (.tuple #[.slice (some ⟨b, 0, none⟩) (aheadF ks).length 8, x, y]) ∧ w' = w.drewN n := by
  have hC := index1_any w b 0 8 b2 1 ks hc hx hs
  rw [hl] at hC
  have hle := aheadF_le ks
  rw [hl] at hle
  by_cases h0 : (0 : Int) ∈ ks
  · rw [if_pos h0] at hC
    have hlt : (aheadF ks).length < 8 := by
      rcases Nat.lt_or_ge (aheadF ks).length 8 with h | h
      · exact h
      · have e : aheadF ks = ks := by
          have := aheadF_take ks
          rw [List.take_of_length_le (by omega)] at this
          exact this
        have h1 := aheadF_no ks
        rw [e] at h1
        exact absurd h0 h1
    have C := hide hC
    have HTO := fun w => run_to w .i64 (some ⟨b, 0, none⟩) 8 8 (aheadF ks).length (by omega)
    have HFR := fun w => run_from w (some ⟨b, 0, none⟩) 8 8 ((aheadF ks).length + 1) (by omega)
    generalize (aheadF ks).length = n at *
    have hnat : (((n + 1 : Nat)) : Int) = (n : Int) + 1 := by omega
    rw [hnat] at HFR
    generalize (if 8 = n + 1 then (some ⟨b, 0, none⟩ : Option Addr) else (some ⟨b, 0, none⟩ : Option Addr).map (·.add ((n + 1) * 1))) = ao at *
    have hn0 : (0 : Int) ≤ (n : Int) := by omega
    have hnlt : (n : Int) < 8 := by omega
    clear hC hc hx hle hnat
    go_enter Try.func36, Try.ntmps36
    go_wp2_with (go_at_call 48; refine C.out.mono ?_; rintro e w' ⟨rfl, rfl⟩)
    go_quiet (fail)
    go_wp2
    go_ret3
    exact ⟨_, _, _, rfl, rfl⟩
  · rw [if_neg h0] at hC
    have C := hide hC
    have HE : Hid ((aheadF ks).length = 8) := hide (by rw [aheadF_all ks h0, hl])
    rw [HE.out]
    clear hC hc hx hle
    go_enter Try.func36, Try.ntmps36
    go_wp2_with (go_at_call 48; refine C.out.mono ?_; rintro e w' ⟨rfl, rfl⟩)
    go_ret3
    exact ⟨_, _, 0, rfl, rfl⟩
theorem strOf_len (l : List Int) : (strOfNums l).size = l.length := by simp [strOfNums, ByteArray.size]
theorem numsS_strOf (l : List Int) (hl : ∀ c ∈ l, 0 ≤ c ∧ c < 256) : numsS (strOfNums l) = l := by
  unfold numsS
  show (l.map fun n : Int => UInt8.ofNat n.toNat).map _ = l
  rw [List.map_map]
  conv => rhs; rw [← List.map_id l]
  apply List.map_congr_left
  intro c hc
  have := hl c hc
  show ((UInt8.ofNat c.toNat).toNat : Int) = c
  rw [UInt8.toNat_ofNat']
  omega
theorem eight8 (l : List Int) (h : l.length = 8) : ∃ a b c d e f g i, l = [a, b, c, d, e, f, g, i] := by
  match l, h with
  | [a, b, c, d, e, f, g, i], _ => exact ⟨a, b, c, d, e, f, g, i, rfl⟩
set_option maxRecDepth 100000 in
set_option maxHeartbeats 1600000 in
theorem name_any (ks : List Int) (hl : ks.length = 8) (hx : ∀ c ∈ ks, 0 ≤ c ∧ c < 256) (w : World) :
    Calls Try.prog 25 #[.agg (cells8 ks)] w fun e w' => e = .returned (.tuple #[.string (strOfNums (nameF ks).1), .bool (nameF ks).2]) ∧ Below w.heap.size w w' := by
  have HE := hide (nameF_by_key ks hl)
  have hbx : ∀ c ∈ aheadF ks, 0 ≤ c ∧ c < 256 := fun c hc => hx c (aheadF_sub ks c hc)
  have hle := aheadF_le ks
  have HK8 := hide (keyOfF_fst (aheadF ks))
  have hK := fun w => keyOf_any (strOfNums (aheadF ks)) (by rw [strOf_len]; unfold maxLen; omega) w
  rw [numsS_strOf _ hbx] at hK
  have CK := hide hK
  have HA0 : Hid (Box ((w.alloc (.cells (cells8 ks) 31)).alloc (.cells #[.int .u8 0] 5)) w.heap.size (cells8 ks) 31) := hide ((box_new w _ _).belowI ((Below.refl _ _).alloc (Nat.le_refl _) _))
  have HS0 : Hid (Box ((w.alloc (.cells (cells8 ks) 31)).alloc (.cells #[.int .u8 0] 5)) (w.heap.size + 1) #[.int .u8 0] 5) := hide (by
    have := box_new (w.alloc (.cells (cells8 ks) 31)) #[.int .u8 0] 5
    rw [World.size_alloc] at this
    exact this)
  have HB0 := hide (((Below.refl w.heap.size w).alloc (Nat.le_refl _) (.cells (cells8 ks) 31)).alloc (by simp) (.cells #[.int .u8 0] 5))
  have CC := hide (cut_any _ w.heap.size (w.heap.size + 1) ks hl (fun t ht => by rw [Nat.zero_add]; exact HA0.out.cell t _ (by simp [cells8, List.getD, ht])) hx (HS0.out.cell 0 _ rfl))
  have HI := hide infoKeyI
  have HS8 : Hid ((cells8 ks).size = 8) := hide (by rw [cells8_size]; exact hl)
  have HI2 : Hid ((Try.prog.info? 31).map (·.size) = some (cells8 ks).size) := hide (by rw [HS8.out]; exact HI.out)
  have HL := hide hl
  have HX := hide hx
  have HLIE : Hid (∀ W, Box W w.heap.size (cells8 ks) 31 → Lies .u8 W (.slice (some ⟨w.heap.size, 0, none⟩) (aheadF ks).length 8) (aheadF ks)) := hide (fun W hW => by
    have h8 : Lies .u8 W (.slice (some ⟨w.heap.size, 0, none⟩) ks.length 8) ks := .inr ⟨fun e => by rw [e] at hl; simp at hl, w.heap.size, 0, 8, rfl, hW.lt, by omega, by unfold maxLen; omega, fun t ht => by rw [Nat.zero_add]; exact hW.cell t _ (by simp [cells8, List.getD, ht])⟩
    have h9 := h8.take (n := (aheadF ks).length) hle
    rw [← aheadF_take ks] at h9
    exact h9)
  clear hl hx hbx hle hK
  have HEE : Hid ((keyOfF (aheadF ks)).2 = (keyOfF (aheadF ks)).2) := hide rfl
  obtain ⟨k0, k1, k2, k3, k4, k5, k6, k7, hkk⟩ := eight8 _ HK8.out
  have HEK := hide hkk
  rw [hkk] at CK
  have hcc : cells8 [k0, k1, k2, k3, k4, k5, k6, k7] = #[.int .u8 k0, .int .u8 k1, .int .u8 k2, .int .u8 k3, .int .u8 k4, .int .u8 k5, .int .u8 k6, .int .u8 k7] := rfl
  rw [hcc] at CK
  clear hkk hcc HK8
  generalize (keyOfF (aheadF ks)).2 = E at *
  generalize hca : cells8 ks = ca at *
  have HCA := hide hca
  clear hca
  go_enter Try.func25, Try.ntmps25
  go_wp2_with fail
  refine CC.out.mono ?_
  rintro e w1 ⟨x, y, n1, rfl, hw1⟩
  have hA1 : Box w1 w.heap.size ca 31 := by rw [hw1]; exact HA0.out
  have HB1 : Hid (Below w.heap.size w w1) := hide (by rw [hw1]; exact below_drewN HB0.out)
  have hcv := (HLIE.out w1 hA1).convert
  have HA1 := hide hA1
  clear hw1 hA1 HA0 HS0 HB0 CC
  generalize (aheadF ks).length = n at *
  go_wp2_with fail
  refine (CK.out _).mono ?_
  rintro e w2 ⟨rfl, hB2⟩
  have HA2 := hide (HA1.out.belowI hB2)
  have HB2 := hide (HB1.out.trans (hB2.mono HB1.out.size))
  clear hB2 hcv
  have HKE : Hid (nameF ks = if E ≠ 0 ∨ [k0, k1, k2, k3, k4, k5, k6, k7] ≠ ks then ([], false) else (aheadF ks, true)) := hide (by rw [HE.out, HEK.out])
  obtain ⟨j0, j1, j2, j3, j4, j5, j6, j7, hj⟩ := eight8 ks HL.out
  have hcj : ca = #[.int .u8 j0, .int .u8 j1, .int .u8 j2, .int .u8 j3, .int .u8 j4, .int .u8 j5, .int .u8 j6, .int .u8 j7] := by rw [← HCA.out, hj]; rfl
  rw [hcj] at HA2
  obtain ⟨y0, y1, y2, y3, y4, y5, y6, y7⟩ := HA2.out.eight
  have hylt := HA2.out.lt
  have hneq := neqi_key k0 k1 k2 k3 k4 k5 k6 k7 j0 j1 j2 j3 j4 j5 j6 j7
  have HEQ : Hid ([k0, k1, k2, k3, k4, k5, k6, k7] = ks ↔ [k0, k1, k2, k3, k4, k5, k6, k7] = [j0, j1, j2, j3, j4, j5, j6, j7]) := hide (by rw [hj])
  have HB3 := hide (HB2.out.trans (((Below.refl w2.heap.size w2).alloc (Nat.le_refl _) (.cells #[.int .u8 k0, .int .u8 k1, .int .u8 k2, .int .u8 k3, .int .u8 k4, .int .u8 k5, .int .u8 k6, .int .u8 k7] 31)).mono HB2.out.size))
  clear hcj hj CK HA1 HA2 HE
  have hst : strOfNums (aheadF ks) = strOfNums (aheadF ks) := rfl
  generalize hst0 : strOfNums (aheadF ks) = st at *
  have HST := hide hst0
  clear hst hst0
  by_cases hE : E = 0
  · subst hE
    by_cases hq : [k0, k1, k2, k3, k4, k5, k6, k7] = [j0, j1, j2, j3, j4, j5, j6, j7]
    · have hn : ∀ w, (binOp .neq 31 (.agg #[.int .u8 k0, .int .u8 k1, .int .u8 k2, .int .u8 k3, .int .u8 k4, .int .u8 k5, .int .u8 k6, .int .u8 k7]) (.agg #[.int .u8 j0, .int .u8 j1, .int .u8 j2, .int .u8 j3, .int .u8 j4, .int .u8 j5, .int .u8 j6, .int .u8 j7])).run Try.prog w = .ok (.bool false) w := fun w => by rw [hneq, decide_eq_true hq]; rfl
      have HF : Hid (nameF ks = (aheadF ks, true)) := hide (by rw [HKE.out, if_neg]; simp only [not_or, Classical.not_not]; exact ⟨by trivial, HEQ.out.2 hq⟩)
      clear hneq hq
      go_wp2_with fail
      go_ret2
      exact ⟨by rw [HF.out, HST.out]; rfl, HB3.out⟩
    · have hn : ∀ w, (binOp .neq 31 (.agg #[.int .u8 k0, .int .u8 k1, .int .u8 k2, .int .u8 k3, .int .u8 k4, .int .u8 k5, .int .u8 k6, .int .u8 k7]) (.agg #[.int .u8 j0, .int .u8 j1, .int .u8 j2, .int .u8 j3, .int .u8 j4, .int .u8 j5, .int .u8 j6, .int .u8 j7])).run Try.prog w = .ok (.bool true) w := fun w => by rw [hneq, decide_eq_false hq]; rfl
      have HF : Hid (nameF ks = ([], false)) := hide (by rw [HKE.out, if_pos]; exact .inr (fun h => hq (HEQ.out.1 h)))
      clear hneq hq
      go_wp2_with fail
      go_ret2
      exact ⟨by rw [HF.out]; rfl, HB3.out⟩
  · have hE' : (E != 0) = true := bne_iff_ne.2 hE
    have HF : Hid (nameF ks = ([], false)) := hide (by rw [HKE.out, if_pos (.inl hE)])
    clear hneq hE
    go_wp2_with fail
    go_ret2
    exact ⟨by rw [HF.out]; rfl, HB3.out⟩
end
section
open Go.RowKit

theorem ahead_ne (ks : List Int) (k : Nat) (hk : k < (aheadF ks).length) : ks.getD k 0 ≠ 0 := by
  have h1 := aheadF_le ks
  have e : (aheadF ks)[k] = ks[k]'(by omega) := by
    have := aheadF_take ks
    rw [List.getElem_of_eq this]
    simp
  intro h0
  have : ks[k]'(by omega) = 0 := by
    have h2 : k < ks.length := by omega
    simpa [List.getD, h2] using h0
  rw [← e] at this
  exact aheadF_no ks (this ▸ List.getElem_mem hk)
theorem ahead_zero : ∀ ks : List Int, (aheadF ks).length < ks.length → ks.getD (aheadF ks).length 0 = 0
  | [], h => by simp at h
  | x :: r, h => by
    have ih := ahead_zero r
    unfold aheadF at h ⊢
    split
    · rename_i h0; rw [h0]; rfl
    · rename_i h0
      rw [if_neg h0] at h
      simp only [List.length_cons, List.getD_cons_succ] at h ⊢
      exact ih (by omega)
theorem name_all (ks : List Int) (hl : ks.length = 8) (h : ∀ j, (aheadF ks).length ≤ j → j < 8 → ks.getD j 0 = 0) : ks = aheadF ks ++ List.replicate (8 - (aheadF ks).length) 0 := by
  have h1 := aheadF_le ks
  have h2 := aheadF_take ks
  have h3 : ks.drop (aheadF ks).length = List.replicate (8 - (aheadF ks).length) 0 := by
    apply List.ext_getElem
    · simp [hl]
    · intro i hi1 hi2
      have hlt : (aheadF ks).length + i < ks.length := by simp at hi1; omega
      have := h ((aheadF ks).length + i) (by omega) (by omega)
      simp only [List.getElem_drop, List.getElem_replicate]
      simpa [List.getD, hlt] using this
  rw [← h3]
  conv => lhs; rw [← List.take_append_drop (aheadF ks).length ks, ← h2]
theorem name_other (ks : List Int) (j : Nat) (h1 : (aheadF ks).length ≤ j) (h2 : ks.getD j 0 ≠ 0) : ks ≠ aheadF ks ++ List.replicate (8 - (aheadF ks).length) 0 := by
  intro e
  have h3 : (aheadF ks ++ List.replicate (8 - (aheadF ks).length) 0).getD j 0 = 0 := by
    rw [List.getD_eq_getElem?_getD, List.getElem?_append_right h1, List.getElem?_replicate]
    split <;> rfl
  rw [← e] at h3
  exact h2 h3
theorem box_lies {w : World} {q : Nat} {ks : List Int} {t : TypeId} (h : Box w q (cells8 ks) t) (hl : ks.length = 8) : Lies .u8 w (.slice (some ⟨q, 0, none⟩) ks.length 8) ks :=
  .inr ⟨fun e => by rw [e] at hl; simp at hl, q, 0, 8, rfl, h.lt, by omega, by unfold maxLen; omega, fun t ht => by rw [Nat.zero_add]; exact h.cell t _ (by simp [cells8, List.getD, ht])⟩
set_option maxRecDepth 100000 in
set_option maxHeartbeats 1600000 in
theorem rname_any (ks : List Int) (hl : ks.length = 8) (w : World) :
    Calls Try.prog 40 #[.agg (cells8 ks)] w fun e w' => e = .returned (.tuple #[.string (strOfNums (nameF ks).1), .bool (nameF ks).2]) ∧ Below w.heap.size w w' := by
  have hle := aheadF_le ks
  rw [hl] at hle
  have HNE := hide (ahead_ne ks)
  have HZE := hide (ahead_zero ks)
  have HC : Hid (∀ t, t < 8 → (w.alloc (.cells (cells8 ks) 31)).cell? ⟨w.heap.size, t, none⟩ = some (.int .u8 (ks.getD t 0))) := hide (fun t ht => (box_new w _ _).cell t _ (by
    have : t < ks.length := by omega
    simp [cells8, List.getD, this]))
  have HLT := hide ((box_lies (box_new w (cells8 ks) 31) hl).take (n := (aheadF ks).length) (aheadF_le ks))
  rw [← aheadF_take ks] at HLT
  have hcv := HLT.out.convert
  have HB0 := hide ((Below.refl w.heap.size w).alloc (Nat.le_refl _) (.cells (cells8 ks) 31))
  have HALL := hide (name_all ks hl)
  have HOTH := hide (name_other ks)
  have HL := hide hl
  have HNM : Hid (nameF ks = if aheadF ks = [] ∨ ks ≠ aheadF ks ++ List.replicate (8 - (aheadF ks).length) 0 then ([], false) else (aheadF ks, true)) := hide rfl
  have HEM : Hid ((aheadF ks).length = 0 → aheadF ks = []) := hide List.eq_nil_of_length_eq_zero
  have HEN : Hid ((aheadF ks).length ≠ 0 → aheadF ks ≠ []) := hide (fun h e => h (by rw [e]; rfl))
  rw [hl] at HZE
  clear hl HLT
  generalize cells8 ks = ca at *
  generalize hst : strOfNums (aheadF ks) = st at *
  have HST := hide hst
  clear hst
  generalize hN : (aheadF ks).length = N at *
  clear hN
  go_enter Try.func40, Try.ntmps40
  go_wp2
  go_loop [4] (fun i => ∃ k : Nat, k ≤ N ∧ i = .int .i64 k) (fun i => N - (intOf i).toNat)
  case atStart => exact ⟨0, Nat.zero_le _, rfl⟩
  case round =>
    obtain ⟨k, hk, rfl⟩ := hrel
    by_cases hlt : k < N
    · have hk8 : (k : Int) < 8 := by omega
      have hcell := HC.out k (by omega)
      have hne : (ks.getD k 0 != 0) = true := bne_iff_ne.2 (HNE.out k hlt)
      generalize ks.getD k 0 = c at *
      go_wp2
      go_round
      case rel => exact ⟨k + 1, by omega, by go_num⟩
      case measure => simp [intOf]; omega
    · obtain rfl : k = N := by omega
      by_cases h8 : k < 8
      · have hk8 : (k : Int) < 8 := by omega
        have hcell := HC.out k h8
        have hzk := HZE.out h8
        rw [hzk] at hcell
        clear hzk
        go_wp2
        go_loop [5] (fun i => ∃ j : Nat, k ≤ j ∧ j ≤ 8 ∧ i = .int .i64 j ∧ Hid (∀ t, k ≤ t → t < j → ks.getD t 0 = 0)) (fun i => 8 - (intOf i).toNat)
        case atStart => exact ⟨k, Nat.le_refl _, hle, rfl, hide (fun t h1 h2 => by omega)⟩
        case round =>
          obtain ⟨j, hj1, hj2, rfl, HZ⟩ := hrel
          by_cases hj8 : j < 8
          · have hj8I : (j : Int) < 8 := by omega
            have hcj := HC.out j hj8
            by_cases h0 : ks.getD j 0 = 0
            · rw [h0] at hcj
              have HZ2 : Hid (∀ t, k ≤ t → t < j + 1 → ks.getD t 0 = 0) := hide (fun t h1 h2 => by
                by_cases e : t = j
                · rw [e]; exact h0
                · exact HZ.out t h1 (by omega))
              clear h0
              go_wp2
              go_round
              case rel => exact ⟨j + 1, by omega, by omega, by go_num, HZ2⟩
              case measure => simp [intOf]; omega
            · have HF : Hid (nameF ks = ([], false)) := hide (by rw [HNM.out, if_pos (.inr (HOTH.out j hj1 h0))])
              have hne : (ks.getD j 0 != 0) = true := bne_iff_ne.2 h0
              clear h0
              generalize ks.getD j 0 = c at *
              go_wp2
              go_ret2
              exact ⟨by rw [HF.out]; rfl, HB0.out⟩
          · have hj8I : decide ((j : Int) < 8) = false := decide_eq_false (by omega)
            have HKS := hide (HALL.out (fun t h1 h2 => HZ.out t h1 (by omega)))
            by_cases hk0 : k = 0
            · have HF : Hid (nameF ks = ([], false)) := hide (by rw [HNM.out, if_pos (.inl (HEM.out hk0))])
              have hk0I : ((k : Int) == 0) = true := beq_iff_eq.2 (by omega)
              clear hk0
              go_wp2
              go_ret2
              exact ⟨by rw [HF.out]; rfl, HB0.out⟩
            · have HF : Hid (nameF ks = (aheadF ks, true)) := hide (by
                rw [HNM.out, if_neg]
                simp only [not_or, Classical.not_not]
                exact ⟨HEN.out hk0, HKS.out⟩)
              have hk0I : ((k : Int) == 0) = false := beq_eq_false_iff_ne.2 (by omega)
              clear hk0
              have hkI8 : (k : Int) ≤ 8 := by omega
              go_wp2
              go_ret2
              exact ⟨by rw [HF.out, HST.out]; rfl, HB0.out⟩
      · have hk8 : decide ((k : Int) < 8) = false := decide_eq_false (by omega)
        go_wp2
        go_loop [5] (fun i => ∃ j : Nat, k ≤ j ∧ j ≤ 8 ∧ i = .int .i64 j ∧ Hid (∀ t, k ≤ t → t < j → ks.getD t 0 = 0)) (fun i => 8 - (intOf i).toNat)
        case atStart => exact ⟨k, Nat.le_refl _, hle, rfl, hide (fun t h1 h2 => by omega)⟩
        case round =>
          obtain ⟨j, hj1, hj2, rfl, HZ⟩ := hrel
          by_cases hj8 : j < 8
          · have hj8I : (j : Int) < 8 := by omega
            have hcj := HC.out j hj8
            by_cases h0 : ks.getD j 0 = 0
            · rw [h0] at hcj
              have HZ2 : Hid (∀ t, k ≤ t → t < j + 1 → ks.getD t 0 = 0) := hide (fun t h1 h2 => by
                by_cases e : t = j
                · rw [e]; exact h0
                · exact HZ.out t h1 (by omega))
              clear h0
              go_wp2
              go_round
              case rel => exact ⟨j + 1, by omega, by omega, by go_num, HZ2⟩
              case measure => simp [intOf]; omega
            · have HF : Hid (nameF ks = ([], false)) := hide (by rw [HNM.out, if_pos (.inr (HOTH.out j hj1 h0))])
              have hne : (ks.getD j 0 != 0) = true := bne_iff_ne.2 h0
              clear h0
              generalize ks.getD j 0 = c at *
              go_wp2
              go_ret2
              exact ⟨by rw [HF.out]; rfl, HB0.out⟩
          · have hj8I : decide ((j : Int) < 8) = false := decide_eq_false (by omega)
            have HKS := hide (HALL.out (fun t h1 h2 => HZ.out t h1 (by omega)))
            by_cases hk0 : k = 0
            · have HF : Hid (nameF ks = ([], false)) := hide (by rw [HNM.out, if_pos (.inl (HEM.out hk0))])
              have hk0I : ((k : Int) == 0) = true := beq_iff_eq.2 (by omega)
              clear hk0
              go_wp2
              go_ret2
              exact ⟨by rw [HF.out]; rfl, HB0.out⟩
            · have HF : Hid (nameF ks = (aheadF ks, true)) := hide (by
                rw [HNM.out, if_neg]
                simp only [not_or, Classical.not_not]
                exact ⟨HEN.out hk0, HKS.out⟩)
              have hk0I : ((k : Int) == 0) = false := beq_eq_false_iff_ne.2 (by omega)
              clear hk0
              have hkI8 : (k : Int) ≤ 8 := by omega
              go_wp2
              go_ret2
              exact ⟨by rw [HF.out, HST.out]; rfl, HB0.out⟩
end
section
open Go.RowKit

theorem info32 : (Try.prog.info? 32).map (fun i => (i.zero, i.size, i.bytes)) = some (some (.int .u32 0), 1, 4) := by kernel_rfl
theorem drop_two (xs : List Int) (k : Nat) (h : k < xs.length) : xs.drop k = xs.getD k 0 :: xs.drop (k + 1) := by
  rw [List.drop_eq_getElem_cons h]; simp [List.getD, h]
set_option maxRecDepth 100000 in
set_option maxHeartbeats 800000 in
theorem first_any (xs ys : List Int) (v1 v2 : Value) (w : World) (h1 : Lies .u32 w v1 xs) (h2 : Lies .u32 w v2 ys) (hl : xs.length = ys.length) (hn : xs.length ≤ 100) :
    Calls Try.prog 52 #[v1, v2] w fun e w' => e = .returned (.int .i64 (lexF xs ys)) ∧ ∃ n, w' = w.drewN n := by
  rcases h1 with ⟨rfl, ao, cap, rfl, _⟩ | ⟨hx, b1, o1, c1, rfl, hb1, hl1, hm1, hc1⟩
  · clear h2
    go_enter Try.func52, Try.ntmps52
    go_wp2
    refine wp_loop_rounds 1 ?_
    rw [rounds_succ]
    go_wp2
    go_ret
    exact ⟨ret_int (by unfold lexF; rfl), 0, rfl⟩
  · rcases h2 with ⟨rfl, _⟩ | ⟨hy, b2, o2, c2, rfl, hb2, hl2, hm2, hc2⟩
    · exact absurd (List.eq_nil_of_length_eq_zero hl) hx
    · have HC1 := hide hc1
      have HC2 := hide hc2
      have HO : Hid (lexF xs ys = lexF (xs.drop 0) (ys.drop 0)) := hide rfl
      have HL := hide hl
      unfold maxLen at hm1 hm2
      clear hc1 hc2 hl
      generalize hn1 : xs.length = n1 at *
      generalize hn2 : ys.length = n2 at *
      have HN1 := hide hn1
      have HN2 := hide hn2
      clear hn1 hn2
      go_enter Try.func52, Try.ntmps52
      go_wp2
      go_loopw [5] (fun i wr => ∃ k n : Nat, k ≤ n1 ∧ i = .int .i64 k ∧ wr = w.drewN n ∧ Hid (lexF xs ys = lexF (xs.drop k) (ys.drop k))) (fun i _ => n1 - (intOf i).toNat)
      case atStart => exact ⟨0, 0, Nat.zero_le _, rfl, rfl, HO⟩
      case round =>
        obtain ⟨k, n, hk, rfl, hwr, HK⟩ := hrel
        have HW := hide hwr
        have hbk1 : b1 < wr.heap.size := by rw [hwr]; exact hb1
        by_cases hlt : k < n1
        · have hlt2 : k < n2 := by have := HL.out; omega
          have hcell1 : ∀ m, (wr.drewN m).cell? ⟨b1, o1 + k, none⟩ = some (.int .u32 (xs.getD k 0)) := fun m => by rw [hwr]; exact HC1.out k (by omega)
          have hcell2 : ∀ m, (wr.drewN m).cell? ⟨b2, o2 + k, none⟩ = some (.int .u32 (ys.getD k 0)) := fun m => by rw [hwr]; exact HC2.out k (by omega)
          have hcell3 := hcell1 0
          have hcell4 := hcell2 0
          have HD1 := hide (drop_two xs k (by rw [HN1.out]; exact hlt))
          have HD2 := hide (drop_two ys k (by rw [HN2.out]; exact hlt2))
          clear hwr
          generalize xs.getD k 0 = x at *
          generalize ys.getD k 0 = y at *
          rcases cmpF_rng x y with ⟨h, h2⟩ | ⟨h, h2⟩ | ⟨h, h2⟩
          · have HR : Hid (lexF xs ys = -1) := hide (by rw [HK.out, HD1.out, HD2.out]; unfold lexF orF; rw [h]; rfl)
            clear h
            go_wp2
            go_quiet (fail)
            go_wp2
            go_ret
            exact ⟨ret_int HR.out.symm, n + nq, by rw [HW.out, drewN2]⟩
          · have HR : Hid (lexF xs ys = lexF (xs.drop (k + 1)) (ys.drop (k + 1))) := hide (by rw [HK.out, HD1.out, HD2.out]; show orF (cmpF x y) _ = _; unfold orF; rw [if_pos h])
            clear h
            subst h2
            go_wp2
            go_quiet (fail)
            go_wp2
            go_quiet (fail)
            go_wp2
            go_roundw
            case rel => exact ⟨k + 1, _, by omega, by go_num, by rw [HW.out, drewN2], HR⟩
            case measure => simp [intOf]; omega
          · have HR : Hid (lexF xs ys = 1) := hide (by rw [HK.out, HD1.out, HD2.out]; unfold lexF orF; rw [h]; rfl)
            have h3 : ¬ x < y := by omega
            clear h
            go_wp2
            go_quiet (fail)
            go_wp2
            go_quiet (fail)
            go_wp2
            go_ret
            exact ⟨ret_int HR.out.symm, _, by rw [HW.out]; first | exact drewN3 _ _ _ _ | exact drewN2 _ _ _⟩
        · have hge : decide ((k : Int) < (n1 : Int)) = false := decide_eq_false (by omega)
          go_wp2
          go_ret
          exact ⟨ret_int (by rw [HK.out, List.drop_eq_nil_of_le (by have := HN1.out; omega)]; unfold lexF; rfl), n, rfl⟩
end
end Go.Proofs.Ytlngejmojpkdkaa
