/-
  The program's KeyOf. Own work.
-/
import Derived.Test.YtkdccigcpcchlaaIdVals
import Derived.Test.YtkdccigcpcchlaaIdKeyP
import Derived.Test.YtkdccigcpcchlaaCopyAt
import Derived.Shelf.Abstract
namespace Go.Proofs.Ytkdccigcpcchlaa
open Go.RowKit

/-- A text's bytes as numbers. -/
def numsS (s : ByteArray) : List Int := s.data.toList.map fun b => (b.toNat : Int)
theorem numsS_length (s : ByteArray) : (numsS s).length = s.size := by
  obtain ⟨d⟩ := s
  simp [numsS, ByteArray.size]
theorem numsS_byte (s : ByteArray) : ∀ c ∈ numsS s, 0 ≤ c ∧ c < 256 := by
  intro c hc
  simp only [numsS, List.mem_map] at hc
  obtain ⟨b, _, rfl⟩ := hc
  have := b.toNat_lt
  omega
theorem bytesOf_numsS (s : ByteArray) : Lib.bytesOf (numsS s) = s.data.toList := by
  unfold Lib.bytesOf numsS
  rw [List.map_map]
  conv => rhs; rw [← List.map_id s.data.toList]
  apply List.map_congr_left
  intro b _
  simp
theorem infoKeyI : (Try.prog.info? 23).map (·.size) = some 8 := by kernel_rfl
theorem results_box2 {P : Program} {fn : Func} {q t1 : Tmp} {t t0 : TypeId} {d : TypeDesc} (h : fn.results = #[.cell q t, .tmp t1]) (tmps : Array Value) (w : World) (p : Nat) (hq : tmps.getD q undef = .pointer (some ⟨p, 0, none⟩)) {v1 : Value} (h1 : tmps.getD t1 undef = v1) {cs : Array Value} (hb : Box w p cs t0)
    (hu : P.underlying t = some d) (hd : d.isRow = true) (hi : (P.info? t).map (·.size) = some cs.size) : (results fn tmps).run P w = .ok (.tuple #[.agg cs, v1]) w := by
  subst h1
  have hr : w.rangeAt p 0 cs.toList := fun j v hv => by
    rw [Nat.zero_add]; exact hb.cell j v (by simpa using hv)
  have hl := run_loadVar_mid (P := P) w p 0 t cs.toList d hr hu hd (by simpa using hi)
  have hq' : tmps[q]?.getD undef = .pointer (some ⟨p, 0, none⟩) := by rw [← Array.getD_eq_getD_getElem?]; exact hq
  simp only [results, h]
  simp [hq', asAddr, hl]

set_option maxRecDepth 100000 in
theorem slidx_any (s : ByteArray) (c : Int) (w : World) : Calls Try.prog 77 #[.string s, .int .u8 c] w fun e w' => e = .returned (.int .i64 (Lib.indexByte s.data.toList c.toNat.toUInt8)) ∧ w' = w := by
  go_enter Try.func77, Try.ntmps77
  go_wp2
  rw [run_callFunc_extern Try.func93 (by kernel_rfl) (by kernel_rfl) (by kernel_rfl) (e := Extern.BytealgIndexByte.indexByte) (by kernel_rfl), Lib.run_indexByteString]
  simp only [Result.andThen]
  rw [Oper.upon_value]
  go_wp2
  go_ret
  exact ⟨rfl, rfl⟩
theorem stidx_any (s : ByteArray) (c : Int) (w : World) : Calls Try.prog 52 #[.string s, .int .u8 c] w fun e w' => e = .returned (.int .i64 (Lib.indexByte s.data.toList c.toNat.toUInt8)) ∧ w' = w := by
  go_enter Try.func52, Try.ntmps52
  go_wp2_with (go_at_call 77; refine (slidx_any _ _ _).mono ?_; rintro e w' ⟨rfl, rfl⟩)
  go_ret
  exact ⟨rfl, rfl⟩
abbrev zeroC : Array Value := #[.int .u8 0, .int .u8 0, .int .u8 0, .int .u8 0, .int .u8 0, .int .u8 0, .int .u8 0, .int .u8 0]
theorem drop_zero8 (n : Nat) : zero8i.drop n = List.replicate (8 - n) 0 := by
  rw [show zero8i = List.replicate 8 (0 : Int) from rfl, List.drop_replicate]
theorem keyOfF_bad {xs : List Int} (h : xs.length = 0 ∨ 8 < xs.length ∨ 0 ∈ xs) : keyOfF xs = (zero8i, 1) := by unfold keyOfF; rw [if_pos h]
set_option maxRecDepth 100000 in
set_option maxHeartbeats 1600000 in
theorem keyOf_any (s : ByteArray) (hs : s.size ≤ maxLen) (w : World) :
    Calls Try.prog 9 #[.string s] w fun e w' => e = .returned (.tuple #[.agg (cells8 (keyOfF (numsS s)).1), .int .i64 (keyOfF (numsS s)).2]) ∧ Below w.heap.size w w' := by
  unfold maxLen at hs
  have hlen := numsS_length s
  have hix := index_zero (numsS s) (numsS_byte s)
  rw [bytesOf_numsS] at hix
  have HI := hide infoKeyI
  have hbA := (Below.refl w.heap.size w).alloc (Nat.le_refl _) (.cells zeroC 23)
  have hbB := hbA.alloc (by simp) (.cells zeroC 23)
  have HB := hide hbB
  have HBR : Hid (Box ((w.alloc (.cells zeroC 23)).alloc (.cells zeroC 23)) w.heap.size zeroC 23) := hide ((box_new w zeroC 23).keep (KeepBut.of_below (fun _ => False) ((Below.refl _ _).alloc (Nat.le_refl _) _)) id)
  have HBK : Hid (Box ((w.alloc (.cells zeroC 23)).alloc (.cells zeroC 23)) (w.heap.size + 1) (cells8 zero8i) 23) := hide (by
    have := box_new (w.alloc (.cells zeroC 23)) zeroC 23
    rw [show cells8 zero8i = zeroC from rfl]
    simpa using this)
  have HZS : Hid ((zeroC).size = (cells8 (numsS s ++ List.replicate (8 - s.size) 0)).size ∨ ¬ s.size ≤ 8) := hide (by
    by_cases h8 : s.size ≤ 8
    · left; rw [cells8_size]; simp [hlen]; omega
    · exact .inr h8)
  clear hbA hbB
  have he0 : ∀ z : Int, z = 0 → Lib.indexByte s.data.toList z.toNat.toUInt8 = Lib.indexByte s.data.toList 0 := fun z hz => by rw [hz]; rfl
  have HCI : Hid (∀ w, Calls Try.prog 52 #[.string s, .int .u8 0] w fun e w' => e = .returned (.int .i64 (Lib.indexByte s.data.toList 0)) ∧ w' = w) := hide (fun w => stidx_any s 0 w)
  clear he0
  generalize hxs : numsS s = xs at *
  generalize Lib.indexByte s.data.toList 0 = ix at *
  by_cases hbad : xs.length = 0 ∨ 8 < xs.length ∨ 0 ∈ xs
  · rw [keyOfF_bad hbad]
    have HCE : Hid (cells8 zero8i = zeroC) := hide rfl
    by_cases h1 : s.size = 0
    · have h1' : (s.size : Int) = 0 := by omega
      clear hbad hix hlen HZS
      go_enter Try.func9, Try.ntmps9
      go_wp2_with fail
      exact bodyPost_ret (v := .tuple #[.agg zeroC, .int .i64 1]) (results_box2 (v1 := .int .i64 1) Try.results9 _ _ w.heap.size rfl rfl HBR.out Try.underlying23 rfl HI.out) rfl ⟨rfl, HB.out⟩
    · by_cases h2 : 8 < s.size
      · have h1' : ((s.size : Int) == 0) = false := beq_eq_false_iff_ne.2 (by omega)
        have h2' : (8 : Int) < (s.size : Int) := by omega
        clear hbad hix hlen HZS
        go_enter Try.func9, Try.ntmps9
        go_wp2_with fail
        exact bodyPost_ret (v := .tuple #[.agg zeroC, .int .i64 1]) (results_box2 (v1 := .int .i64 1) Try.results9 _ _ w.heap.size rfl rfl HBR.out Try.underlying23 rfl HI.out) rfl ⟨rfl, HB.out⟩
      · have h0 : (0 : Int) ∈ xs := by
          rcases hbad with h | h | h
          · omega
          · omega
          · exact h
        rw [if_pos h0] at hix
        have hix0 : 0 ≤ ix := by omega
        have h1' : ((s.size : Int) == 0) = false := beq_eq_false_iff_ne.2 (by omega)
        have h2' : decide ((8 : Int) < (s.size : Int)) = false := decide_eq_false (by omega)
        clear hbad hix hlen HZS h0 h1 h2
        go_enter Try.func9, Try.ntmps9
        go_wp2_with (go_at_call 52; refine (HCI.out _).mono ?_; rintro e w' ⟨rfl, rfl⟩)
        exact bodyPost_ret (v := .tuple #[.agg zeroC, .int .i64 1]) (results_box2 (v1 := .int .i64 1) Try.results9 _ _ w.heap.size rfl rfl HBR.out Try.underlying23 rfl HI.out) rfl ⟨rfl, HB.out⟩
  · have hE : keyOfF xs = (xs ++ List.replicate (8 - xs.length) 0, 0) := by unfold keyOfF; rw [if_neg hbad]
    simp only [not_or] at hbad
    rw [if_neg hbad.2.2] at hix
    have h1' : ((s.size : Int) == 0) = false := beq_eq_false_iff_ne.2 (by omega)
    have h2' : decide ((8 : Int) < (s.size : Int)) = false := decide_eq_false (by omega)
    have hs8 : s.size ≤ 8 := by omega
    have HZ : Hid (xs ++ List.replicate (8 - xs.length) 0 = zero8i.take 0 ++ (s.data.toList.map fun b => (b.toNat : Int)) ++ zero8i.drop (0 + s.size)) := hide (by
      have : (s.data.toList.map fun b => (b.toNat : Int)) = xs := hxs
      rw [this, ← hlen, Nat.zero_add, drop_zero8]
      rfl)
    rw [hE]
    have HL8 : Hid ((xs ++ List.replicate (8 - xs.length) 0).length = 8) := hide (by simp; omega)
    generalize xs ++ List.replicate (8 - xs.length) 0 = ks at *
    have HS8 : Hid ((cells8 ks).size = 8) := hide (by rw [cells8_size]; exact HL8.out)
    have HI2 : Hid ((Try.prog.info? 23).map (·.size) = some (cells8 ks).size) := hide (by rw [HS8.out]; exact HI.out)
    have HZZ : Hid ((zeroC : Array Value).size = (cells8 ks).size) := hide (by rw [HS8.out]; rfl)
    have HO : Hid ((cells8 ks).all (·.oneCell') = true) := hide (cells8_one ks)
    obtain ⟨h0a, h0b, h0c⟩ := hbad
    clear hlen HZS h0a h0b h0c hE hxs
    subst hix
    go_enter Try.func9, Try.ntmps9
    go_wp2_with (first
      | (go_at_call 52; refine (HCI.out _).mono ?_; rintro e w' ⟨rfl, rfl⟩)
      | (refine wp_copy_str _ rfl _ _ rfl (w.heap.size + 1) 0 8 8 23 zero8i ks HBK.out rfl s rfl hs8 (by simp [zero8i]; omega) HZ.out ?_; intro w2 hb2 hk2; have HB2 := hide hb2; have HK2 := hide hk2; have HR2 := hide (HBR.out.keep hk2 (fun e => absurd e (by omega))); clear hb2 hk2)
      | (refine wp_load_box rfl _ rfl _ rfl HB2.out Try.underlying23 rfl HI2.out ?_)
      | (refine wp_store_box rfl rfl _ _ rfl _ rfl rfl HR2.out HZZ.out HI2.out HO.out ?_; intro w3 hb3 hk3; have HB3 := hide hb3; have HK3 := hide hk3; clear hb3 hk3))
    refine bodyPost_ret (v := .tuple #[.agg (cells8 ks), .int .i64 0]) (results_box2 (v1 := .int .i64 0) Try.results9 _ _ w.heap.size rfl rfl HB3.out Try.underlying23 rfl HI2.out) rfl ⟨rfl, ?_⟩
    exact (HB.out.trans (HK2.out.below HB.out.size (fun k hk => by omega))).trans (HK3.out.below (Nat.le_trans HB.out.size HK2.out.size) (fun k hk => by omega))
end Go.Proofs.Ytkdccigcpcchlaa
