/-
  Own texts put together: IdKey, Cuts, IdName, LkGet, IdNum. Own work.
-/
import Derived.Test.YtddflccjmigloaaGreatG09
import Derived.Test.YtddflccjmigloaaGreatG05
import Derived.Test.YtddflccjmigloaaGreatG10
import Derived.Test.YtddflccjmigloaaGreatG02
import Derived.Test.YtddflccjmigloaaGreatG11
import Derived.Test.YtddflccjmigloaaGreatG01
import Derived.Shelf.Abstract
import Derived.Lib.BytesEntry
import Derived.Deep.QuietTactic
import Derived.BigQuiet
import Derived.Deep.RegionHeldLaw
import Derived.Sort.Grow
namespace Go.Proofs.YtddflccjmigloaaGreat
section
open Go.RowKit

/-- A text's bytes as numbers. -/
def numsS (s : ByteArray) : List Int := s.data.toList.map fun b => (b.toNat : Int)
theorem numsS_length (s : ByteArray) : (numsS s).length = s.size := by
  obtain ⟨d⟩ := s
  simp [numsS, ByteArray.size]
theorem numsS_byte (s : ByteArray) : ∀ c ∈ numsS s, 0 ≤ c ∧ c < 256 := by
  intro c hc
  simp only [numsS, List.mem_map] at hc
  obtain ⟨b, _, rfl⟩ := hc
  have := b.toNat_lt
  omega
theorem bytesOf_numsS (s : ByteArray) : Lib.bytesOf (numsS s) = s.data.toList := by
  unfold Lib.bytesOf numsS
  rw [List.map_map]
  conv => rhs; rw [← List.map_id s.data.toList]
  apply List.map_congr_left
  intro b _
  simp
theorem infoKeyI : (Tryz.prog.info? 38).map (·.size) = some 8 := by kernel_rfl
theorem results_box2 {P : Program} {fn : Func} {q t1 : Tmp} {t t0 : TypeId} {d : TypeDesc} (h : fn.results = #[.cell q t, .tmp t1]) (tmps : Array Value) (w : World) (p : Nat) (hq : tmps.getD q undef = .pointer (some ⟨p, 0, none⟩)) {v1 : Value} (h1 : tmps.getD t1 undef = v1) {cs : Array Value} (hb : Box w p cs t0)
    (hu : P.underlying t = some d) (hd : d.isRow = true) (hi : (P.info? t).map (·.size) = some cs.size) : (results fn tmps).run P w = .ok (.tuple #[.agg cs, v1]) w := by
  subst h1
  have hr : w.rangeAt p 0 cs.toList := fun j v hv => by
    rw [Nat.zero_add]; exact hb.cell j v (by simpa using hv)
  have hl := run_loadVar_mid (P := P) w p 0 t cs.toList d hr hu hd (by simpa using hi)
  have hq' : tmps[q]?.getD undef = .pointer (some ⟨p, 0, none⟩) := by rw [← Array.getD_eq_getD_getElem?]; exact hq
  simp only [results, h]
  simp [hq', asAddr, hl]

set_option maxRecDepth 100000 in
theorem slidx_any (s : ByteArray) (c : Int) (w : World) : Calls Tryz.prog 134 #[.string s, .int .u8 c] w fun e w' => e = .returned (.int .i64 (Lib.indexByte s.data.toList c.toNat.toUInt8)) ∧ w' = w := by
  go_enter Tryz.func134, Tryz.ntmps134
  go_wp2
  rw [run_callFunc_extern Tryz.func138 (by kernel_rfl) (by kernel_rfl) (by kernel_rfl) (e := Extern.BytealgIndexByte.indexByte) (by kernel_rfl), Lib.run_indexByteString]
  simp only [Result.andThen]
  rw [Oper.upon_value]
  go_wp2
  go_ret
  exact ⟨rfl, rfl⟩
theorem stidx_any (s : ByteArray) (c : Int) (w : World) : Calls Tryz.prog 124 #[.string s, .int .u8 c] w fun e w' => e = .returned (.int .i64 (Lib.indexByte s.data.toList c.toNat.toUInt8)) ∧ w' = w := by
  go_enter Tryz.func124, Tryz.ntmps124
  go_wp2_with (go_at_call 134; refine (slidx_any _ _ _).mono ?_; rintro e w' ⟨rfl, rfl⟩)
  go_ret
  exact ⟨rfl, rfl⟩
abbrev zeroC : Array Value := #[.int .u8 0, .int .u8 0, .int .u8 0, .int .u8 0, .int .u8 0, .int .u8 0, .int .u8 0, .int .u8 0]
theorem drop_zero8 (n : Nat) : zero8i.drop n = List.replicate (8 - n) 0 := by
  rw [show zero8i = List.replicate 8 (0 : Int) from rfl, List.drop_replicate]
theorem keyOfF_bad {xs : List Int} (h : xs.length = 0 ∨ 8 < xs.length ∨ 0 ∈ xs) : keyOfF xs = (zero8i, 1) := by unfold keyOfF; rw [if_pos h]
set_option maxRecDepth 100000 in
set_option maxHeartbeats 1600000 in
theorem keyOf_any (s : ByteArray) (hs : s.size ≤ maxLen) (w : World) :
    Calls Tryz.prog 107 #[.string s] w fun e w' => e = .returned (.tuple #[.agg (cells8 (keyOfF (numsS s)).1), .int .i64 (keyOfF (numsS s)).2]) ∧ Below w.heap.size w w' := by
  unfold maxLen at hs
  have hlen := numsS_length s
  have hix := index_zero (numsS s) (numsS_byte s)
  rw [bytesOf_numsS] at hix
  have HI := hide infoKeyI
  have hbA := (Below.refl w.heap.size w).alloc (Nat.le_refl _) (.cells zeroC 38)
  have hbB := hbA.alloc (by simp) (.cells zeroC 38)
  have HB := hide hbB
  have HBR : Hid (Box ((w.alloc (.cells zeroC 38)).alloc (.cells zeroC 38)) w.heap.size zeroC 38) := hide ((box_new w zeroC 38).keep (KeepBut.of_below (fun _ => False) ((Below.refl _ _).alloc (Nat.le_refl _) _)) id)
  have HBK : Hid (Box ((w.alloc (.cells zeroC 38)).alloc (.cells zeroC 38)) (w.heap.size + 1) (cells8 zero8i) 38) := hide (by
    have := box_new (w.alloc (.cells zeroC 38)) zeroC 38
    rw [show cells8 zero8i = zeroC from rfl]
    simpa using this)
  have HZS : Hid ((zeroC).size = (cells8 (numsS s ++ List.replicate (8 - s.size) 0)).size ∨ ¬ s.size ≤ 8) := hide (by
    by_cases h8 : s.size ≤ 8
    · left; rw [cells8_size]; simp [hlen]; omega
    · exact .inr h8)
  clear hbA hbB
  have he0 : ∀ z : Int, z = 0 → Lib.indexByte s.data.toList z.toNat.toUInt8 = Lib.indexByte s.data.toList 0 := fun z hz => by rw [hz]; rfl
  have HCI : Hid (∀ w, Calls Tryz.prog 124 #[.string s, .int .u8 0] w fun e w' => e = .returned (.int .i64 (Lib.indexByte s.data.toList 0)) ∧ w' = w) := hide (fun w => stidx_any s 0 w)
  clear he0
  generalize hxs : numsS s = xs at *
  generalize Lib.indexByte s.data.toList 0 = ix at *
  by_cases hbad : xs.length = 0 ∨ 8 < xs.length ∨ 0 ∈ xs
  · rw [keyOfF_bad hbad]
    have HCE : Hid (cells8 zero8i = zeroC) := hide rfl
    by_cases h1 : s.size = 0
    · have h1' : (s.size : Int) = 0 := by omega
      clear hbad hix hlen HZS
      go_enter Tryz.func107, Tryz.ntmps107
      go_wp2_with fail
      exact bodyPost_ret (v := .tuple #[.agg zeroC, .int .i64 1]) (results_box2 (v1 := .int .i64 1) Tryz.results107 _ _ w.heap.size rfl rfl HBR.out Tryz.underlying38 rfl HI.out) rfl ⟨rfl, HB.out⟩
    · by_cases h2 : 8 < s.size
      · have h1' : ((s.size : Int) == 0) = false := beq_eq_false_iff_ne.2 (by omega)
        have h2' : (8 : Int) < (s.size : Int) := by omega
        clear hbad hix hlen HZS
        go_enter Tryz.func107, Tryz.ntmps107
        go_wp2_with fail
        exact bodyPost_ret (v := .tuple #[.agg zeroC, .int .i64 1]) (results_box2 (v1 := .int .i64 1) Tryz.results107 _ _ w.heap.size rfl rfl HBR.out Tryz.underlying38 rfl HI.out) rfl ⟨rfl, HB.out⟩
      · have h0 : (0 : Int) ∈ xs := by
          rcases hbad with h | h | h
          · omega
          · omega
          · exact h
        rw [if_pos h0] at hix
        have hix0 : 0 ≤ ix := by omega
        have h1' : ((s.size : Int) == 0) = false := beq_eq_false_iff_ne.2 (by omega)
        have h2' : decide ((8 : Int) < (s.size : Int)) = false := decide_eq_false (by omega)
        clear hbad hix hlen HZS h0 h1 h2
        go_enter Tryz.func107, Tryz.ntmps107
        go_wp2_with (go_at_call 124; refine (HCI.out _).mono ?_; rintro e w' ⟨rfl, rfl⟩)
        exact bodyPost_ret (v := .tuple #[.agg zeroC, .int .i64 1]) (results_box2 (v1 := .int .i64 1) Tryz.results107 _ _ w.heap.size rfl rfl HBR.out Tryz.underlying38 rfl HI.out) rfl ⟨rfl, HB.out⟩
  · have hE : keyOfF xs = (xs ++ List.replicate (8 - xs.length) 0, 0) := by unfold keyOfF; rw [if_neg hbad]
    simp only [not_or] at hbad
    rw [if_neg hbad.2.2] at hix
    have h1' : ((s.size : Int) == 0) = false := beq_eq_false_iff_ne.2 (by omega)
    have h2' : decide ((8 : Int) < (s.size : Int)) = false := decide_eq_false (by omega)
    have hs8 : s.size ≤ 8 := by omega
    have HZ : Hid (xs ++ List.replicate (8 - xs.length) 0 = zero8i.take 0 ++ (s.data.toList.map fun b => (b.toNat : Int)) ++ zero8i.drop (0 + s.size)) := hide (by
      have : (s.data.toList.map fun b => (b.toNat : Int)) = xs := hxs
      rw [this, ← hlen, Nat.zero_add, drop_zero8]
      rfl)
    rw [hE]
    have HL8 : Hid ((xs ++ List.replicate (8 - xs.length) 0).length = 8) := hide (by simp; omega)
    generalize xs ++ List.replicate (8 - xs.length) 0 = ks at *
    have HS8 : Hid ((cells8 ks).size = 8) := hide (by rw [cells8_size]; exact HL8.out)
    have HI2 : Hid ((Tryz.prog.info? 38).map (·.size) = some (cells8 ks).size) := hide (by rw [HS8.out]; exact HI.out)
    have HZZ : Hid ((zeroC : Array Value).size = (cells8 ks).size) := hide (by rw [HS8.out]; rfl)
    have HO : Hid ((cells8 ks).all (·.oneCell') = true) := hide (cells8_one ks)
    obtain ⟨h0a, h0b, h0c⟩ := hbad
    clear hlen HZS h0a h0b h0c hE hxs
    subst hix
    go_enter Tryz.func107, Tryz.ntmps107
    go_wp2_with (first
      | (go_at_call 124; refine (HCI.out _).mono ?_; rintro e w' ⟨rfl, rfl⟩)
      | (refine wp_copy_str _ rfl _ _ rfl (w.heap.size + 1) 0 8 8 38 zero8i ks HBK.out rfl s rfl hs8 (by simp [zero8i]; omega) HZ.out ?_; intro w2 hb2 hk2; have HB2 := hide hb2; have HK2 := hide hk2; have HR2 := hide (HBR.out.keep hk2 (fun e => absurd e (by omega))); clear hb2 hk2)
      | (refine wp_load_box rfl _ rfl _ rfl HB2.out Tryz.underlying38 rfl HI2.out ?_)
      | (refine wp_store_box rfl rfl _ _ rfl _ rfl rfl HR2.out HZZ.out HI2.out HO.out ?_; intro w3 hb3 hk3; have HB3 := hide hb3; have HK3 := hide hk3; clear hb3 hk3))
    refine bodyPost_ret (v := .tuple #[.agg (cells8 ks), .int .i64 0]) (results_box2 (v1 := .int .i64 0) Tryz.results107 _ _ w.heap.size rfl rfl HB3.out Tryz.underlying38 rfl HI2.out) rfl ⟨rfl, ?_⟩
    exact (HB.out.trans (HK2.out.below HB.out.size (fun k hk => by omega))).trans (HK3.out.below (Nat.le_trans HB.out.size HK2.out.size) (fun k hk => by omega))
end
section
open Go.RowKit

theorem Lies.cap {k : IntKind} {w : World} {ao : Option Addr} {cap : Nat} {xs : List Int} (h : Lies k w (.slice ao xs.length cap) xs) : xs.length ≤ cap := by
  rcases h with ⟨rfl, _⟩ | ⟨_, b, off, cap', e, _, hl, _⟩
  · simp
  · cases e; exact hl
theorem Lies.drop {k : IntKind} {w : World} {ao : Option Addr} {cap s : Nat} {xs : List Int} (h : Lies k w (.slice ao xs.length cap) xs) (hs : s ≤ xs.length) :
    Lies k w (.slice (if cap = s then ao else ao.map (·.add (s * 1))) (xs.length - s) (cap - s)) (xs.drop s) := by
  rcases h with ⟨rfl, ao', cap', e, h0⟩ | ⟨hne, b, off, cap', e, hb, hl, hm, hc⟩
  · cases e
    obtain rfl : s = 0 := by simpa using hs
    refine .inl ⟨by simp, _, cap, rfl, fun hn => ?_⟩
    split at hn
    · assumption
    · cases ao with
      | none => exact h0 rfl
      | some ad => cases hn
  · cases e
    by_cases hlt : s < xs.length
    · rw [if_neg (by omega)]
      have hlen : (xs.drop s).length = xs.length - s := by simp
      refine .inr ⟨fun e => by rw [e] at hlen; simp at hlen; omega, b, off + s, cap - s, by simp [Addr.add_lit], hb, by omega, by omega, fun t ht => ?_⟩
      rw [Nat.add_assoc, hc (s + t) (by omega)]
      simp [List.getD]
    · obtain rfl : s = xs.length := by omega
      refine .inl ⟨by simp, _, _, by rw [Nat.sub_self], fun hn => ?_⟩
      split at hn
      · cases hn
      · cases hn
theorem Lies.take {k : IntKind} {w : World} {ao : Option Addr} {cap n : Nat} {xs : List Int} (h : Lies k w (.slice ao xs.length cap) xs) (hn : n ≤ xs.length) : Lies k w (.slice ao n cap) (xs.take n) := by
  rcases h with ⟨rfl, ao', cap', e, h0⟩ | ⟨hne, b, off, cap', e, hb, hl, hm, hc⟩
  · cases e
    obtain rfl : n = 0 := by simpa using hn
    exact .inl ⟨by simp, ao, cap, rfl, h0⟩
  · cases e
    by_cases h0 : n = 0
    · subst h0
      exact .inl ⟨by simp, _, _, rfl, fun h => by cases h⟩
    · have hlen : (xs.take n).length = n := by simp; omega
      refine .inr ⟨fun e => by rw [e] at hlen; simp at hlen; omega, b, off, cap, by rw [hlen], hb, by omega, hm, fun t ht => ?_⟩
      rw [hc t (by omega)]
      have : t < n := by omega
      simp [List.getD, this]
/-- 'x[s:]' -/
theorem run_from (w : World) (ao : Option Addr) (n cap s : Nat) (hs : s ≤ n) : (Instr.sliceAt 147 (.slice ao n cap) (some (.int .i64 s)) none none).run Tryz.prog w = .ok (.slice (if cap = s then ao else ao.map (·.add (s * 1))) (n - s) (cap - s)) w := by
  simp [Instr.sliceAt, Instr.slice, run_underlying Tryz.underlying147, Instr.sliceBounds, Instr.sliceBound, asIntOf]
  omega
/-- 'x[:n]' -/
theorem run_to (w : World) (kd : IntKind) (ao : Option Addr) (m cap n : Nat) (hn : n ≤ cap) : (Instr.sliceAt 147 (.slice ao m cap) none (some (.int kd n)) none).run Tryz.prog w = .ok (.slice ao n cap) w := by
  have h2 : (if cap = 0 then ao else Option.map (fun x => x.add 0) ao) = ao := by
    split
    · rfl
    · cases ao with
      | none => rfl
      | some ad => simp [Addr.add]
  simp [Instr.sliceAt, Instr.slice, run_underlying Tryz.underlying147, Instr.sliceBounds, Instr.sliceBound, asIntOf, h2]
  omega
end
section
open Go.RowKit

set_option maxRecDepth 100000 in
theorem bindex_any (w : World) (b off c : Nat) (xs : List Int) (hc : ∀ t, t < xs.length → w.cell? ⟨b, off + t, none⟩ = some (.int .u8 (xs.getD t 0))) (hx : ∀ c ∈ xs, 0 ≤ c ∧ c < 256) :
    Calls Tryz.prog 129 #[.slice (some ⟨b, off, none⟩) xs.length c, .int .u8 0] w fun e w' => e = .returned (.int .i64 (if 0 ∈ xs then ((aheadF xs).length : Int) else -1)) ∧ w' = w := by
  have hr := Lib.run_indexByteSlice (P := Tryz.prog) w b off xs.length c xs rfl hc 0
  have h0 : Lib.indexByte (Lib.bytesOf xs) (0 : Int).toNat.toUInt8 = if 0 ∈ xs then ((aheadF xs).length : Int) else -1 := index_zero xs hx
  rw [h0] at hr
  generalize (if 0 ∈ xs then ((aheadF xs).length : Int) else -1) = r at *
  generalize xs.length = n at *
  clear hc hx h0
  go_enter Tryz.func129, Tryz.ntmps129
  go_wp2
  rw [run_callFunc_extern Tryz.func136 (by kernel_rfl) (by kernel_rfl) (by kernel_rfl) (e := Extern.BytealgIndexByte.indexByte) (by kernel_rfl), hr]
  simp only [Result.andThen]
  rw [Oper.upon_value]
  go_wp2
  go_ret
  exact ⟨rfl, rfl⟩
set_option maxRecDepth 100000 in
set_option maxHeartbeats 1600000 in
theorem index1_any (w : World) (b off c b2 c2 : Nat) (xs : List Int) (hc : ∀ t, t < xs.length → w.cell? ⟨b, off + t, none⟩ = some (.int .u8 (xs.getD t 0))) (hx : ∀ c ∈ xs, 0 ≤ c ∧ c < 256) (hs : w.cell? ⟨b2, 0, none⟩ = some (.int .u8 0)) :
    Calls Tryz.prog 123 #[.slice (some ⟨b, off, none⟩) xs.length c, .slice (some ⟨b2, 0, none⟩) 1 c2] w fun e w' => e = .returned (.int .i64 (if 0 ∈ xs then ((aheadF xs).length : Int) else -1)) ∧ w' = w := by
  have C := hide (bindex_any w b off c xs hc hx)
  generalize (if 0 ∈ xs then ((aheadF xs).length : Int) else -1) = r at *
  generalize xs.length = n at *
  clear hc hx
  go_enter Tryz.func123, Tryz.ntmps123
  go_wp2_with (go_at_call 129; refine C.out.mono ?_; rintro e w' ⟨rfl, rfl⟩)
  go_ret
  exact ⟨rfl, rfl⟩
set_option maxRecDepth 100000 in
set_option maxHeartbeats 1600000 in
theorem cut_any (w : World) (b b2 : Nat) (ks : List Int) (hl : ks.length = 8) (hc : ∀ t, t < ks.length → w.cell? ⟨b, 0 + t, none⟩ = some (.int .u8 (ks.getD t 0))) (hx : ∀ c ∈ ks, 0 ≤ c ∧ c < 256) (hs : w.cell? ⟨b2, 0, none⟩ = some (.int .u8 0)) :
    Calls Tryz.prog 106 #[.slice (some ⟨b, 0, none⟩) 8 8, .slice (some ⟨b2, 0, none⟩) 1 1] w fun e w' => ∃ x y n, e = .returned (.tuple #[.slice (some ⟨b, 0, none⟩) (aheadF ks).length 8, x, y]) ∧ w' = w.drewN n := by
  have hC := index1_any w b 0 8 b2 1 ks hc hx hs
  rw [hl] at hC
  have hle := aheadF_le ks
  rw [hl] at hle
  by_cases h0 : (0 : Int) ∈ ks
  · rw [if_pos h0] at hC
    have hlt : (aheadF ks).length < 8 := by
      rcases Nat.lt_or_ge (aheadF ks).length 8 with h | h
      · exact h
      · have e : aheadF ks = ks := by
          have := aheadF_take ks
          rw [List.take_of_length_le (by omega)] at this
          exact this
        have h1 := aheadF_no ks
        rw [e] at h1
        exact absurd h0 h1
    have C := hide hC
    have HTO := fun w => run_to w .i64 (some ⟨b, 0, none⟩) 8 8 (aheadF ks).length (by omega)
    have HFR := fun w => run_from w (some ⟨b, 0, none⟩) 8 8 ((aheadF ks).length + 1) (by omega)
    generalize (aheadF ks).length = n at *
    have hnat : (((n + 1 : Nat)) : Int) = (n : Int) + 1 := by omega
    rw [hnat] at HFR
    generalize (if 8 = n + 1 then (some ⟨b, 0, none⟩ : Option Addr) else (some ⟨b, 0, none⟩ : Option Addr).map (·.add ((n + 1) * 1))) = ao at *
    have hn0 : (0 : Int) ≤ (n : Int) := by omega
    have hnlt : (n : Int) < 8 := by omega
    clear hC hc hx hle hnat
    go_enter Tryz.func106, Tryz.ntmps106
    go_wp2_with (go_at_call 123; refine C.out.mono ?_; rintro e w' ⟨rfl, rfl⟩)
    go_quiet (fail)
    go_wp2
    go_ret3
    exact ⟨_, _, _, rfl, rfl⟩
  · rw [if_neg h0] at hC
    have C := hide hC
    have HE : Hid ((aheadF ks).length = 8) := hide (by rw [aheadF_all ks h0, hl])
    rw [HE.out]
    clear hC hc hx hle
    go_enter Tryz.func106, Tryz.ntmps106
    go_wp2_with (go_at_call 123; refine C.out.mono ?_; rintro e w' ⟨rfl, rfl⟩)
    go_ret3
    exact ⟨_, _, 0, rfl, rfl⟩
theorem strOf_len (l : List Int) : (strOfNums l).size = l.length := by simp [strOfNums, ByteArray.size]
theorem numsS_strOf (l : List Int) (hl : ∀ c ∈ l, 0 ≤ c ∧ c < 256) : numsS (strOfNums l) = l := by
  unfold numsS
  show (l.map fun n : Int => UInt8.ofNat n.toNat).map _ = l
  rw [List.map_map]
  conv => rhs; rw [← List.map_id l]
  apply List.map_congr_left
  intro c hc
  have := hl c hc
  show ((UInt8.ofNat c.toNat).toNat : Int) = c
  rw [UInt8.toNat_ofNat']
  omega
theorem eight8 (l : List Int) (h : l.length = 8) : ∃ a b c d e f g i, l = [a, b, c, d, e, f, g, i] := by
  match l, h with
  | [a, b, c, d, e, f, g, i], _ => exact ⟨a, b, c, d, e, f, g, i, rfl⟩
set_option maxRecDepth 100000 in
set_option maxHeartbeats 1600000 in
theorem name_any (ks : List Int) (hl : ks.length = 8) (hx : ∀ c ∈ ks, 0 ≤ c ∧ c < 256) (w : World) :
    Calls Tryz.prog 82 #[.agg (cells8 ks)] w fun e w' => e = .returned (.tuple #[.string (strOfNums (nameF ks).1), .bool (nameF ks).2]) ∧ Below w.heap.size w w' := by
  have HE := hide (nameF_by_key ks hl)
  have hbx : ∀ c ∈ aheadF ks, 0 ≤ c ∧ c < 256 := fun c hc => hx c (aheadF_sub ks c hc)
  have hle := aheadF_le ks
  have HK8 := hide (keyOfF_fst (aheadF ks))
  have hK := fun w => keyOf_any (strOfNums (aheadF ks)) (by rw [strOf_len]; unfold maxLen; omega) w
  rw [numsS_strOf _ hbx] at hK
  have CK := hide hK
  have HA0 : Hid (Box ((w.alloc (.cells (cells8 ks) 38)).alloc (.cells #[.int .u8 0] 5)) w.heap.size (cells8 ks) 38) := hide ((box_new w _ _).belowI ((Below.refl _ _).alloc (Nat.le_refl _) _))
  have HS0 : Hid (Box ((w.alloc (.cells (cells8 ks) 38)).alloc (.cells #[.int .u8 0] 5)) (w.heap.size + 1) #[.int .u8 0] 5) := hide (by
    have := box_new (w.alloc (.cells (cells8 ks) 38)) #[.int .u8 0] 5
    rw [World.size_alloc] at this
    exact this)
  have HB0 := hide (((Below.refl w.heap.size w).alloc (Nat.le_refl _) (.cells (cells8 ks) 38)).alloc (by simp) (.cells #[.int .u8 0] 5))
  have CC := hide (cut_any _ w.heap.size (w.heap.size + 1) ks hl (fun t ht => by rw [Nat.zero_add]; exact HA0.out.cell t _ (by simp [cells8, List.getD, ht])) hx (HS0.out.cell 0 _ rfl))
  have HI := hide infoKeyI
  have HS8 : Hid ((cells8 ks).size = 8) := hide (by rw [cells8_size]; exact hl)
  have HI2 : Hid ((Tryz.prog.info? 38).map (·.size) = some (cells8 ks).size) := hide (by rw [HS8.out]; exact HI.out)
  have HL := hide hl
  have HX := hide hx
  have HLIE : Hid (∀ W, Box W w.heap.size (cells8 ks) 38 → Lies .u8 W (.slice (some ⟨w.heap.size, 0, none⟩) (aheadF ks).length 8) (aheadF ks)) := hide (fun W hW => by
    have h8 : Lies .u8 W (.slice (some ⟨w.heap.size, 0, none⟩) ks.length 8) ks := .inr ⟨fun e => by rw [e] at hl; simp at hl, w.heap.size, 0, 8, rfl, hW.lt, by omega, by unfold maxLen; omega, fun t ht => by rw [Nat.zero_add]; exact hW.cell t _ (by simp [cells8, List.getD, ht])⟩
    have h9 := h8.take (n := (aheadF ks).length) hle
    rw [← aheadF_take ks] at h9
    exact h9)
  clear hl hx hbx hle hK
  have HEE : Hid ((keyOfF (aheadF ks)).2 = (keyOfF (aheadF ks)).2) := hide rfl
  obtain ⟨k0, k1, k2, k3, k4, k5, k6, k7, hkk⟩ := eight8 _ HK8.out
  have HEK := hide hkk
  rw [hkk] at CK
  have hcc : cells8 [k0, k1, k2, k3, k4, k5, k6, k7] = #[.int .u8 k0, .int .u8 k1, .int .u8 k2, .int .u8 k3, .int .u8 k4, .int .u8 k5, .int .u8 k6, .int .u8 k7] := rfl
  rw [hcc] at CK
  clear hkk hcc HK8
  generalize (keyOfF (aheadF ks)).2 = E at *
  generalize hca : cells8 ks = ca at *
  have HCA := hide hca
  clear hca
  go_enter Tryz.func82, Tryz.ntmps82
  go_wp2_with fail
  refine CC.out.mono ?_
  rintro e w1 ⟨x, y, n1, rfl, hw1⟩
  have hA1 : Box w1 w.heap.size ca 38 := by rw [hw1]; exact HA0.out
  have HB1 : Hid (Below w.heap.size w w1) := hide (by rw [hw1]; exact below_drewN HB0.out)
  have hcv := (HLIE.out w1 hA1).convert
  have HA1 := hide hA1
  clear hw1 hA1 HA0 HS0 HB0 CC
  generalize (aheadF ks).length = n at *
  go_wp2_with fail
  refine (CK.out _).mono ?_
  rintro e w2 ⟨rfl, hB2⟩
  have HA2 := hide (HA1.out.belowI hB2)
  have HB2 := hide (HB1.out.trans (hB2.mono HB1.out.size))
  clear hB2 hcv
  have HKE : Hid (nameF ks = if E ≠ 0 ∨ [k0, k1, k2, k3, k4, k5, k6, k7] ≠ ks then ([], false) else (aheadF ks, true)) := hide (by rw [HE.out, HEK.out])
  obtain ⟨j0, j1, j2, j3, j4, j5, j6, j7, hj⟩ := eight8 ks HL.out
  have hcj : ca = #[.int .u8 j0, .int .u8 j1, .int .u8 j2, .int .u8 j3, .int .u8 j4, .int .u8 j5, .int .u8 j6, .int .u8 j7] := by rw [← HCA.out, hj]; rfl
  rw [hcj] at HA2
  obtain ⟨y0, y1, y2, y3, y4, y5, y6, y7⟩ := HA2.out.eight
  have hylt := HA2.out.lt
  have hneq := neqi_key k0 k1 k2 k3 k4 k5 k6 k7 j0 j1 j2 j3 j4 j5 j6 j7
  have HEQ : Hid ([k0, k1, k2, k3, k4, k5, k6, k7] = ks ↔ [k0, k1, k2, k3, k4, k5, k6, k7] = [j0, j1, j2, j3, j4, j5, j6, j7]) := hide (by rw [hj])
  have HB3 := hide (HB2.out.trans (((Below.refl w2.heap.size w2).alloc (Nat.le_refl _) (.cells #[.int .u8 k0, .int .u8 k1, .int .u8 k2, .int .u8 k3, .int .u8 k4, .int .u8 k5, .int .u8 k6, .int .u8 k7] 38)).mono HB2.out.size))
  clear hcj hj CK HA1 HA2 HE
  have hst : strOfNums (aheadF ks) = strOfNums (aheadF ks) := rfl
  generalize hst0 : strOfNums (aheadF ks) = st at *
  have HST := hide hst0
  clear hst hst0
  by_cases hE : E = 0
  · subst hE
    by_cases hq : [k0, k1, k2, k3, k4, k5, k6, k7] = [j0, j1, j2, j3, j4, j5, j6, j7]
    · have hn : ∀ w, (binOp .neq 38 (.agg #[.int .u8 k0, .int .u8 k1, .int .u8 k2, .int .u8 k3, .int .u8 k4, .int .u8 k5, .int .u8 k6, .int .u8 k7]) (.agg #[.int .u8 j0, .int .u8 j1, .int .u8 j2, .int .u8 j3, .int .u8 j4, .int .u8 j5, .int .u8 j6, .int .u8 j7])).run Tryz.prog w = .ok (.bool false) w := fun w => by rw [hneq, decide_eq_true hq]; rfl
      have HF : Hid (nameF ks = (aheadF ks, true)) := hide (by rw [HKE.out, if_neg]; simp only [not_or, Classical.not_not]; exact ⟨by trivial, HEQ.out.2 hq⟩)
      clear hneq hq
      go_wp2_with fail
      go_ret2
      exact ⟨by rw [HF.out, HST.out]; rfl, HB3.out⟩
    · have hn : ∀ w, (binOp .neq 38 (.agg #[.int .u8 k0, .int .u8 k1, .int .u8 k2, .int .u8 k3, .int .u8 k4, .int .u8 k5, .int .u8 k6, .int .u8 k7]) (.agg #[.int .u8 j0, .int .u8 j1, .int .u8 j2, .int .u8 j3, .int .u8 j4, .int .u8 j5, .int .u8 j6, .int .u8 j7])).run Tryz.prog w = .ok (.bool true) w := fun w => by rw [hneq, decide_eq_false hq]; rfl
      have HF : Hid (nameF ks = ([], false)) := hide (by rw [HKE.out, if_pos]; exact .inr (fun h => hq (HEQ.out.1 h)))
      clear hneq hq
      go_wp2_with fail
      go_ret2
      exact ⟨by rw [HF.out]; rfl, HB3.out⟩
  · have hE' : (E != 0) = true := bne_iff_ne.2 hE
    have HF : Hid (nameF ks = ([], false)) := hide (by rw [HKE.out, if_pos (.inl hE)])
    clear hneq hE
    go_wp2_with fail
    go_ret2
    exact ⟨by rw [HF.out]; rfl, HB3.out⟩
end
section
open Go.RowKit Go.Maps Classical

theorem field0_us (e : E15) (w : World) : (Instr.field 83 (usV e) 0).run Tryz.prog w = .ok (.agg #[.int .u32 (e.1 : Int), .int .u8 (e.2.1.1 : Int), .int .u32 (e.2.1.2.1 : Int), .int .u32 (e.2.1.2.2 : Int)]) w := by kernel_rfl
theorem field1_us (e : E15) (w : World) : (Instr.field 83 (usV e) 1).run Tryz.prog w = .ok (.bool e.2.2.1) w := by kernel_rfl
theorem field2_us (e : E15) (w : World) : (Instr.field 83 (usV e) 2).run Tryz.prog w = .ok (.map e.2.2.2.1) w := by kernel_rfl
theorem field3_us (e : E15) (w : World) : (Instr.field 83 (usV e) 3).run Tryz.prog w = .ok (.map e.2.2.2.2) w := by kernel_rfl
set_option maxRecDepth 100000 in
set_option maxHeartbeats 1600000 in
theorem lkMode_any (q b C : Nat) (p : TxN → Nat × Nat) (l : List (UsP KeyT)) (t : TxN) (k : KeyT) (w : World) (h : PLk w q b C p l) (ht : TxB t) :
    Calls Tryz.prog 19 #[.pointer (some ⟨q, 0, none⟩), txVN t, .agg (eightA k.1)] w fun e w' => e = .returned (.int .u8 ((getU l t).h k : Int)) ∧ Below w.heap.size w w' := by
  have hA := alloc_below14 w (.cells #[.int .u8 (t.1 : Int), .int .u32 (t.2.1 : Int), .int .u32 (t.2.2 : Int)] 34)
  have hA2 := alloc_below14 (w.alloc (.cells #[.int .u8 (t.1 : Int), .int .u32 (t.2.1 : Int), .int .u32 (t.2.2 : Int)] 34)) (.cells (eightA k.1) 38)
  have hB2 := hA.trans (hA2.mono hA.size)
  have HXT := hide ((box_new w #[.int .u8 (t.1 : Int), .int .u32 (t.2.1 : Int), .int .u32 (t.2.2 : Int)] 34).belowI hA2)
  have HXK : Hid (Box ((w.alloc (.cells #[.int .u8 (t.1 : Int), .int .u32 (t.2.1 : Int), .int .u32 (t.2.2 : Int)] 34)).alloc (.cells (eightA k.1) 38)) (w.heap.size + 1) (eightA k.1) 38) := hide (by have := box_new (w.alloc (.cells #[.int .u8 (t.1 : Int), .int .u32 (t.2.1 : Int), .int .u32 (t.2.2 : Int)] 34)) (eightA k.1) 38; simpa using this)
  obtain ⟨w1, hw1⟩ : ∃ w1, w1 = (w.alloc (.cells #[.int .u8 (t.1 : Int), .int .u32 (t.2.1 : Int), .int .u32 (t.2.2 : Int)] 34)).alloc (.cells (eightA k.1) 38) := ⟨_, rfl⟩
  obtain ⟨p1, hp1⟩ : ∃ p1, p1 = w.heap.size := ⟨_, rfl⟩
  obtain ⟨p2, hp2⟩ : ∃ p2, p2 = p1 + 1 := ⟨_, rfl⟩
  rw [← hw1, ← hp1] at HXT
  rw [← hw1, ← hp1, ← hp2] at HXK
  rw [← hw1] at hB2
  have HW1 := hide hw1
  have HP1 := hide hp1
  have HP2 := hide hp2
  have H1 := hide (h.below hB2)
  have HB := hide hB2
  obtain ⟨⟨tm, ⟨ta, tb, tc⟩, pr, hb, wb⟩, hE⟩ : ∃ E : E15, E = (gU l p ⟨t, ht⟩).getD zE := ⟨_, rfl⟩
  have CF : Hid (∀ W, PLk W q b C p l → Calls Tryz.prog 43 #[.pointer (some ⟨q, 0, none⟩), txVN t] W fun e w' => e = .returned (usV (tm, (ta, tb, tc), pr, hb, wb)) ∧ Below W.heap.size W w') := hide (fun W hW => by
    have := lkFind_any q b C p l t W hW ht
    rw [← hE] at this
    exact this)
  have HRD : Hid (∀ W, PLk W q b C p l → MRead W hb (getU l t).h) := hide (fun W hW => by
    have := (hW.read ⟨t, ht⟩).1
    rw [← hE] at this
    exact this)
  obtain ⟨k0, k1, k2⟩ := HXT.out.three
  obtain ⟨x0, x1, x2, x3, x4, x5, x6, x7⟩ := box_eight14 HXK.out
  obtain ⟨f, hf⟩ : ∃ f, f = (getU l t).h := ⟨_, rfl⟩
  rw [← hf] at HRD ⊢
  clear h hA hA2 hB2 hw1 hp1 hp2 hE hf
  have hf2 := field2_us (tm, (ta, tb, tc), pr, hb, wb)
  go_enter Tryz.func19, Tryz.ntmps19
  go_wp2_with fail
  rw [← HW1.out, ← HP1.out, ← HP2.out]
  go_region_held (fun w' => w'.cell? ⟨p1, 0, none⟩ = some (.int .u8 (t.1 : Int)) ∧ w'.cell? ⟨p1, 1, none⟩ = some (.int .u32 (t.2.1 : Int)) ∧ w'.cell? ⟨p1, 2, none⟩ = some (.int .u32 (t.2.2 : Int)) ∧ w'.cell? ⟨p2, 0, none⟩ = some (.int .u8 (at8 k.1 0)) ∧ w'.cell? ⟨p2, 1, none⟩ = some (.int .u8 (at8 k.1 1)) ∧ w'.cell? ⟨p2, 2, none⟩ = some (.int .u8 (at8 k.1 2)) ∧ w'.cell? ⟨p2, 3, none⟩ = some (.int .u8 (at8 k.1 3)) ∧ w'.cell? ⟨p2, 4, none⟩ = some (.int .u8 (at8 k.1 4)) ∧ w'.cell? ⟨p2, 5, none⟩ = some (.int .u8 (at8 k.1 5)) ∧ w'.cell? ⟨p2, 6, none⟩ = some (.int .u8 (at8 k.1 6)) ∧ w'.cell? ⟨p2, 7, none⟩ = some (.int .u8 (at8 k.1 7))) (go_keep) (first
    | (go_at_call 43; refine (CF.out _ (H1.out.below (below_drew14 w1))).mono ?_; rintro e w3 ⟨rfl, hB3⟩; have HB3 := hide (HB.out.trans (((below_drew14 w1).trans hB3).mono HB.out.size)); have L3 := (HRD.out _ (H1.out.below ((below_drew14 w1).trans hB3))).look k; have ss : _ ∧ _ ∧ _ := (HXT.out.belowI ((below_drew14 w1).trans hB3)).three; have ss2 := box_eight14 (HXK.out.belowI ((below_drew14 w1).trans hB3)); clear hB3))
  all_goals go_wp2_with fail
  all_goals go_ret
  all_goals exact ⟨rfl, HB3.out⟩
set_option maxRecDepth 100000 in
set_option maxHeartbeats 1600000 in
theorem lkWaits_any (q b C : Nat) (p : TxN → Nat × Nat) (l : List (UsP KeyT)) (t : TxN) (w : World) (h : PLk w q b C p l) (ht : TxB t) :
    Calls Tryz.prog 21 #[.pointer (some ⟨q, 0, none⟩), txVN t] w fun e w' => ∃ B, e = .returned (.bool B) ∧ (B = true ↔ ∃ k, (getU l t).w k ≠ 0) ∧ Below w.heap.size w w' := by
  have hA := alloc_below14 w (.cells #[.int .u8 (t.1 : Int), .int .u32 (t.2.1 : Int), .int .u32 (t.2.2 : Int)] 34)
  have HXT := hide (box_new w #[.int .u8 (t.1 : Int), .int .u32 (t.2.1 : Int), .int .u32 (t.2.2 : Int)] 34)
  have H1 := hide (h.below hA)
  have HB := hide hA
  obtain ⟨⟨tm, ⟨ta, tb, tc⟩, pr, hb, wb⟩, hE⟩ : ∃ E : E15, E = (gU l p ⟨t, ht⟩).getD zE := ⟨_, rfl⟩
  have CF := hide (lkFind_any q b C p l t _ H1.out ht)
  have HRD : Hid (∀ W, PLk W q b C p l → MRead W wb (getU l t).w) := hide (fun W hW => by
    have := (hW.read ⟨t, ht⟩).2.1
    rw [← hE] at this
    exact this)
  rw [← hE] at CF
  have hf3 := field3_us (tm, (ta, tb, tc), pr, hb, wb)
  clear h hA hE
  go_enter Tryz.func21, Tryz.ntmps21
  go_wp2_with (refine wp_load_box rfl _ rfl w.heap.size rfl HXT.out Tryz.underlying34 rfl infoTx15 ?_)
  refine CF.out.mono ?_
  rintro e w3 ⟨rfl, hB3⟩
  obtain ⟨n, hn, hnk⟩ := (HRD.out _ (H1.out.below hB3)).len
  have HN := hide hnk
  have HB3 := hide (HB.out.trans (hB3.mono HB.out.size))
  clear hB3 hnk CF
  go_wp2_with fail
  go_ret
  exact ⟨_, rfl, by rw [← HN.out]; simp, HB3.out⟩
set_option maxRecDepth 100000 in
set_option maxHeartbeats 1600000 in
theorem lkPrepared_any (q b C : Nat) (p : TxN → Nat × Nat) (l : List (UsP KeyT)) (t : TxN) (w : World) (h : PLk w q b C p l) (ht : TxB t) :
    Calls Tryz.prog 23 #[.pointer (some ⟨q, 0, none⟩), txVN t] w fun e w' => e = .returned (.bool (getU l t).pr) ∧ Below w.heap.size w w' := by
  have hA := alloc_below14 w (.cells #[.int .u8 (t.1 : Int), .int .u32 (t.2.1 : Int), .int .u32 (t.2.2 : Int)] 34)
  have HXT := hide (box_new w #[.int .u8 (t.1 : Int), .int .u32 (t.2.1 : Int), .int .u32 (t.2.2 : Int)] 34)
  have H1 := hide (h.below hA)
  have HB := hide hA
  obtain ⟨⟨tm, ⟨ta, tb, tc⟩, pr, hb, wb⟩, hE⟩ : ∃ E : E15, E = (gU l p ⟨t, ht⟩).getD zE := ⟨_, rfl⟩
  have CF := hide (lkFind_any q b C p l t _ H1.out ht)
  have hpr : pr = (getU l t).pr := by
    have := (h.read ⟨t, ht⟩).2.2
    rw [← hE] at this
    exact this
  rw [← hE] at CF
  rw [← hpr]
  have hf1 := field1_us (tm, (ta, tb, tc), pr, hb, wb)
  clear h hA hE hpr
  go_enter Tryz.func23, Tryz.ntmps23
  go_wp2_with (refine wp_load_box rfl _ rfl w.heap.size rfl HXT.out Tryz.underlying34 rfl infoTx15 ?_)
  refine CF.out.mono ?_
  rintro e w3 ⟨rfl, hB3⟩
  have HB3 := hide (HB.out.trans (hB3.mono HB.out.size))
  clear hB3 CF
  go_wp2_with fail
  go_ret
  exact ⟨rfl, HB3.out⟩
set_option maxRecDepth 100000 in
theorem keyMay15 (k : List Int) (hk : KeyOk k) (w : World) : Calls Tryz.prog 54 #[.agg (eightA k)] w fun e w' => e = .returned (.bool (nameF k).2) ∧ Below w.heap.size w w' := by
  have hA := alloc_below14 w (.cells (eightA k) 38)
  have hX := box_new w (eightA k) 38
  obtain ⟨w1, hw1⟩ : ∃ w1, w1 = w.alloc (.cells (eightA k) 38) := ⟨_, rfl⟩
  rw [← hw1] at hA hX
  have C := name_any k hk.l hk.b w1
  have hc8 : cells8 k = eightA k := by unfold cells8; rw [← eightE_map hk.l]
  rw [hc8] at C
  have HC := hide C
  have HA := hide hA
  have hW := hw1.symm
  have HX := hide hX
  generalize (nameF k).1 = nm at *
  generalize (nameF k).2 = r at *
  clear hA hX hw1 C hc8
  go_enter Tryz.func54, Tryz.ntmps54
  go_wp2_with (first | (refine wp_load_box rfl _ rfl _ rfl HX.out Tryz.underlying38 rfl infoKey15 ?_) | (go_at_call 82; refine HC.out.mono ?_; rintro e w2 ⟨rfl, hB2⟩; have HB2 := hide hB2; clear hB2))
  go_ret
  exact ⟨rfl, HA.out.trans (HB2.out.mono HA.out.size)⟩
theorem apart15 (a b : Nat) (w : World) : Calls Tryz.prog 81 #[.int .u8 (a : Int), .int .u8 (b : Int)] w fun e w' => e = .returned (.bool (decide (Apart a b))) ∧ w' = w := by
  obtain ⟨R, hR⟩ : ∃ R, R = decide (Apart a b) := ⟨_, rfl⟩
  rw [← hR]
  have HR := hide hR
  clear hR
  by_cases a0 : a = 0
  · subst a0
    have HF : Hid (R = false) := hide (by rw [HR.out]; simp [Apart])
    go_enter Tryz.func81, Tryz.ntmps81
    go_wp2
    go_ret
    exact ⟨by rw [HF.out]; rfl, rfl⟩
  by_cases b0 : b = 0
  · subst b0
    have HF : Hid (R = false) := hide (by rw [HR.out]; simp [Apart])
    go_enter Tryz.func81, Tryz.ntmps81
    go_wp2
    go_ret
    exact ⟨by rw [HF.out]; rfl, rfl⟩
  have ha0 : ((a : Int) != 0) = true := by simpa using a0
  have hb0 : ((b : Int) != 0) = true := by simpa using b0
  by_cases a2 : a = 2
  · subst a2
    have HF : Hid (R = true) := hide (by rw [HR.out]; simp [Apart, b0])
    go_enter Tryz.func81, Tryz.ntmps81
    go_wp2
    go_ret
    exact ⟨by rw [HF.out]; rfl, rfl⟩
  have ha2 : ((a : Int) == 2) = false := by simp; omega
  by_cases b2 : b = 2
  · subst b2
    have HF : Hid (R = true) := hide (by rw [HR.out]; simp [Apart, a0])
    go_enter Tryz.func81, Tryz.ntmps81
    go_wp2
    go_ret
    exact ⟨by rw [HF.out]; rfl, rfl⟩
  have hb2 : ((b : Int) == 2) = false := by simp; omega
  have HF : Hid (R = false) := hide (by rw [HR.out]; simp [Apart, a2, b2])
  go_enter Tryz.func81, Tryz.ntmps81
  go_wp2
  go_ret
  exact ⟨by rw [HF.out]; rfl, rfl⟩
end
section
open Go.RowKit

theorem counts_any (n : Int) (w : World) : Calls Tryz.prog 83 #[.int .u32 n] w fun e w' => e = .returned (.bool (countB n)) ∧ w' = w := by
  unfold countB
  by_cases h : 1 ≤ n
  · have h1 : decide (1 ≤ n) = true := by simpa using h
    rw [h1, Bool.true_and]
    go_enter Tryz.func83, Tryz.ntmps83
    go_wp2
    go_ret
    exact ⟨rfl, rfl⟩
  · have h1 : decide (1 ≤ n) = false := by simpa using h
    rw [h1, Bool.false_and]
    go_enter Tryz.func83, Tryz.ntmps83
    go_wp2
    go_ret
    exact ⟨rfl, rfl⟩
theorem txMay_any (n b m : Int) (w : World) : Calls Tryz.prog 55 #[.agg #[.int .u8 n, .int .u32 b, .int .u32 m]] w fun e w' => e = .returned (.bool (txMayB (n, b, m))) ∧ Below w.heap.size w w' := by
  unfold txMayB
  by_cases h : n < 8
  · have h1 : decide (n < 8) = true := by simpa using h
    rw [h1, Bool.true_and]
    cases hb : countB b
    all_goals
      go_enter Tryz.func55, Tryz.ntmps55
      go_wp2_with (go_at_call 83; refine (counts_any _ _).mono ?_; rintro e w' ⟨rfl, rfl⟩)
      go_ret
      exact ⟨rfl, (Below.refl _ _).alloc (Nat.le_refl _) _⟩
  · have h1 : decide (n < 8) = false := by simpa using h
    rw [h1, Bool.false_and]
    go_enter Tryz.func55, Tryz.ntmps55
    go_wp2
    go_ret
    exact ⟨rfl, (Below.refl _ _).alloc (Nat.le_refl _) _⟩
theorem stMay_any (t n b m : Int) (w : World) : Calls Tryz.prog 80 #[.agg #[.int .u32 t, .int .u8 n, .int .u32 b, .int .u32 m]] w fun e w' => e = .returned (.bool (stMayB (t, n, b, m))) ∧ Below w.heap.size w w' := by
  unfold stMayB
  have C := fun w => txMay_any n b m w
  by_cases h : t ≤ 2147483647
  · have h1 : decide (t ≤ 2147483647) = true := by simpa using h
    rw [h1, Bool.true_and]
    go_enter Tryz.func80, Tryz.ntmps80
    go_wp2_with (go_at_call 55; refine (C _).mono ?_; rintro e w' ⟨rfl, hB⟩)
    go_ret
    exact ⟨rfl, ((Below.refl _ _).alloc (Nat.le_refl _) _).trans (hB.mono (by simp))⟩
  · have h1 : decide (t ≤ 2147483647) = false := by simpa using h
    rw [h1, Bool.false_and]
    go_enter Tryz.func80, Tryz.ntmps80
    go_wp2
    go_ret
    exact ⟨rfl, (Below.refl _ _).alloc (Nat.le_refl _) _⟩
end
end Go.Proofs.YtddflccjmigloaaGreat
