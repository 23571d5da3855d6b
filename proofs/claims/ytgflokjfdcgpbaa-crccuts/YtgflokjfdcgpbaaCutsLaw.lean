/-
  For every []byte b and int at, the statement CrcCuts returns true: a sum hangs on no cuts, and the probe 'alive' holds; nothing that was there is written.
  Conditions: none.
-/
import Derived.Test.YtgflokjfdcgpbaaCrcTop
import Derived.Test.YtgflokjfdcgpbaaFramePlain
import Derived.Deep.RegionHeld
namespace Go.Proofs.Ytgflokjfdcgpbaa
open Go.ChangeShapes Go.WideShapes Go.ChangeAt Go.RowKit

namespace cuts
theorem at_index (p : Int) (n : Nat) (h1 : 1 ≤ n) (h2 : n ≤ 5001) : ∃ k : Nat, k < n ∧ (wrap64 (p.tmod n + n)).tmod n = k := by
  have hn : (0 : Int) < (n : Int) := by omega
  have ha := Int.tmod_lt_of_pos p hn
  have hb := Int.lt_tmod_of_pos p hn
  generalize p.tmod n = q at *
  have hw : wrap64 (q + n) = q + n := by unfold wrap64; omega
  rw [hw, Int.tmod_eq_emod_of_nonneg (by omega)]
  have h0 := Int.emod_nonneg (q + n) (by omega : (n : Int) ≠ 0)
  have h3 := Int.emod_lt_of_pos (q + n) hn
  exact ⟨((q + n) % n).toNat, by omega, by omega⟩
theorem Lies.cap {k : IntKind} {w : World} {ao : Option Addr} {len cap : Nat} {xs : List Int} (h : Lies k w (.slice ao len cap) xs) : xs.length ≤ cap := by
  rcases h with ⟨rfl, _⟩ | ⟨_, b, off, cap', e, _, hl, _, _⟩
  · simp
  · cases e
    exact hl
/-- What is ahead of a cut, and behind it. -/
theorem cut_lies {w : World} {ao : Option Addr} {cap k : Nat} {xs : List Int} (h : Lies .u8 w (.slice ao xs.length cap) xs) (hk : k ≤ xs.length) :
    Lies .u8 w (.slice ao k cap) (xs.take k) ∧ Lies .u8 w (.slice (if cap = k then ao else Option.map (fun x => x.add k) ao) (xs.length - k) (cap - k)) (xs.drop k) := by
  rcases h with ⟨rfl, ao', cap', e, hn⟩ | ⟨hne, b, off, cap', e, hb, hl, hm, hc⟩
  · cases e
    obtain rfl : k = 0 := by simpa using hk
    refine ⟨.inl ⟨by simp, ao, cap, rfl, hn⟩, .inl ⟨by simp, _, _, rfl, fun h => ?_⟩⟩
    split at h
    · have := hn h; omega
    · have := hn (by simpa using h); omega
  · cases e
    refine ⟨?_, ?_⟩
    · by_cases h0 : k = 0
      · subst h0
        exact .inl ⟨by simp, _, _, rfl, fun h => by cases h⟩
      · have hlen : (xs.take k).length = k := by simp; omega
        refine .inr ⟨?_, b, off, cap, by rw [hlen], hb, by omega, hm, fun t ht => ?_⟩
        · intro e; rw [e] at hlen; simp at hlen; omega
        · rw [hc t (by omega)]
          have : t < k := by omega
          simp [List.getD, this]
    · by_cases h0 : k = xs.length
      · subst h0
        rw [Nat.sub_self]
        refine .inl ⟨by simp, _, _, rfl, fun h => ?_⟩
        split at h
        · cases h
        · simp at h
      · have hlen : (xs.drop k).length = xs.length - k := by simp
        rw [if_neg (by omega)]
        refine .inr ⟨?_, b, off + k, cap - k, by rw [hlen, Option.map_some, Addr.add_lit], hb, by omega, by omega, fun t ht => ?_⟩
        · intro e; rw [e] at hlen; simp at hlen; omega
        · rw [Nat.add_assoc, hc (k + t) (by omega)]
          simp [List.getD]
theorem parts_world {w w' : World} {b : Nat} {vs : List Value} {xss : List (List Int)} (h : PartsLie w b vs xss) (hB : Below w.heap.size w w') : PartsLie w' b vs xss :=
  ⟨h.1, fun t ht => by
    obtain ⟨h1, h2, h3⟩ := h.2 t ht
    exact ⟨(hB.cell (p := ⟨b, t, none⟩) (World.block_lt_of_cell? w _ h1)).trans h1, h2, h3.below hB⟩⟩
set_option maxHeartbeats 1600000 in
theorem walkN (v : Value) (xs : List Int) (p : Int) (w : World) (hL : Lies .u8 w v xs) (hx : ∀ c ∈ xs, 0 ≤ c ∧ c < 256) :
    Calls Try.prog 7 #[v, .int .i64 p] w fun e w' => e = .returned (.bool true) ∧ Below w.heap.size w w' := by
  have HX := hide hx
  clear hx
  by_cases hlong : 5000 < xs.length
  · obtain ⟨ao, cap, rfl⟩ := hL.shape
    clear hL
    have d1 : decide ((5000 : Int) < (xs.length : Int)) = true := by simp; omega
    generalize xs.length = la at *
    go_enter Try.func7, Try.ntmps7
    go_wp2_with fail
    refine (long_any _ _ _ _).mono ?_
    rintro e w1 ⟨rfl, h1⟩
    rw [h1]
    clear h1
    go_wp2_with fail
    refine (alive_any _).mono ?_
    rintro e w2 ⟨rfl, hB2⟩
    go_wp2_with fail
    go_ret
    exact ⟨rfl, hB2⟩
  · have d1 : decide ((5000 : Int) < (xs.length : Int)) = false := by simp; omega
    have HL := hide hL
    obtain ⟨ao, cap, rfl⟩ := hL.shape
    clear hL
    have S1 := hide (sum_one w _ _ 22 HL.out HX.out)
    obtain ⟨k, hk, hat⟩ := at_index p (xs.length + 1) (by omega) (by omega)
    simp only [Int.natCast_add, Int.cast_ofNat_Int] at hat
    have hcap : xs.length ≤ cap := Lies.cap HL.out
    have hk0 : (0 : Int) ≤ (k : Int) := by omega
    have hk1 : (k : Int) ≤ (xs.length : Int) := by omega
    have hk2 : (k : Int) ≤ (cap : Int) := by omega
    obtain ⟨l1, l2⟩ := cut_lies HL.out (show k ≤ xs.length by omega)
    have b1 : Hid (∀ c ∈ xs.take k, 0 ≤ c ∧ c < 256) := hide (fun c hc => HX.out c (List.mem_of_mem_take hc))
    have b2 : Hid (∀ c ∈ xs.drop k, 0 ≤ c ∧ c < 256) := hide (fun c hc => HX.out c (List.mem_of_mem_drop hc))
    have E1 : Hid (moreI 0 ([xs.take k, [], xs.drop k].flatten) = moreI 0 xs) := hide (by simp)
    have E2 : Hid (moreI (moreI 0 (xs.take k)) (xs.drop k) = moreI 0 xs) := hide (by rw [← moreI_append, List.take_append_drop])
    have hm1 := moreI_lt (s := 0) (by decide) b1.out
    obtain ⟨a2, ha2⟩ : ∃ a2, (if cap = k then ao else Option.map (fun x => x.add k) ao) = a2 := ⟨_, rfl⟩
    rw [ha2] at l2
    generalize xs.take k = x1 at *
    generalize xs.drop k = x2 at *
    generalize moreI 0 xs = tt at *
    generalize xs.length = la at *
    go_enter Try.func7, Try.ntmps7
    go_wp2_with fail
    refine (long_any _ _ _ _).mono ?_
    rintro e w1 ⟨rfl, h1⟩
    rw [h1]
    clear h1
    go_wp2_with fail
    refine S1.out.mono ?_
    rintro e w1 ⟨rfl, h1⟩
    rw [h1]
    clear h1 S1 hat
    have hB1 : Below w.heap.size w (w.alloc (.cells #[.slice ao la cap] 22)) := (Below.refl _ _).alloc (Nat.le_refl _) _
    generalize w.alloc (.cells #[.slice ao la cap] 22) = W1 at *
    have HB1 := hide hB1
    have L1 := hide (l1.below hB1)
    have L2 := hide (l2.below hB1)
    clear l1 l2 hB1
    have P1 : Hid (PartsLie (W1.alloc (.cells #[.slice ao k cap, .slice none 0 0, .slice a2 (la - k) (cap - k)] 22)).drew W1.heap.size [.slice ao k cap, .slice none 0 0, .slice a2 (la - k) (cap - k)] [x1, [], x2]) :=
      hide (parts_world (parts_three W1 _ _ _ x1 [] x2 22 L1.out (Lies.nil _ _) L2.out) (Below.refl _ _).drew)
    have B1 : Hid (Below W1.heap.size W1 (W1.alloc (.cells #[.slice ao k cap, .slice none 0 0, .slice a2 (la - k) (cap - k)] 22))) := hide ((Below.refl _ _).alloc (Nat.le_refl _) _)
    have X1 : Hid (∀ xs ∈ [x1, [], x2], ∀ c ∈ xs, 0 ≤ c ∧ c < 256) := hide (by intro xs hxs; simp at hxs; rcases hxs with rfl | rfl | rfl; exact b1.out; simp; exact b2.out)
    have P2 : Hid (PartsLie ((W1.alloc (.cells #[.slice ao k cap, .slice none 0 0, .slice a2 (la - k) (cap - k)] 22)).alloc (.cells #[.slice ao k cap] 22)).drew (W1.heap.size + 1) [.slice ao k cap] [x1]) := by
      have := parts_one (W1.alloc (.cells #[.slice ao k cap, .slice none 0 0, .slice a2 (la - k) (cap - k)] 22)) (.slice ao k cap) x1 22 (L1.out.below B1.out)
      simp only [World.size_alloc] at this
      exact hide (parts_world this (Below.refl _ _).drew)
    have BX : Below W1.heap.size W1 ((W1.alloc (.cells #[.slice ao k cap, .slice none 0 0, .slice a2 (la - k) (cap - k)] 22)).alloc (.cells #[.slice ao k cap] 22)).drew := (B1.out.alloc (by simp) _).drew
    have LM := hide (L2.out.below BX)
    have HBX := hide (HB1.out.trans (BX.mono HB1.out.size))
    clear BX
    have X2 : Hid (∀ xs ∈ [x1], ∀ c ∈ xs, 0 ≤ c ∧ c < 256) := hide (by intro xs hxs; simp at hxs; subst hxs; exact b1.out)
    go_wp2_with fail
    clear HX HL d1 hlong
    go_region_held (fun _ => True) (trivial) (first
      | (go_at_call 11; refine (sum_any W1.heap.size 3 _ _ _ rfl (by decide) P1.out X1.out).mono ?_; rintro e w2 ⟨rfl, h2⟩; rw [h2, E1.out]; clear h2 P1)
      | (go_at_call 11; refine (sum_any (W1.heap.size + 1) 1 _ _ _ rfl (by decide) P2.out X2.out).mono ?_; rintro e w2 ⟨rfl, h2⟩; rw [h2]; simp only [List.flatten_cons, List.flatten_nil, List.append_nil]; clear h2 P2)
      | (go_at_call 13; refine (more_any _ _ x2 _ hm1 LM.out b2.out).mono ?_; rintro e w2 ⟨rfl, h2⟩; rw [h2, E2.out]; clear h2)
      | (go_at_call 10; refine (alive_any _).mono ?_; rintro e w4 ⟨rfl, hB4⟩))
    go_wp2_with fail
    go_ret
    exact ⟨rfl, HBX.out.trans (hB4.mono HBX.out.size)⟩
end cuts
namespace cutsRow
set_option maxRecDepth 100000 in
theorem lifted (os : Os) (started : os.Started) (H : Type) (enc : TypeId × Value → H) :
    ReturnsInHanded {} Try.checked os 7 .any (Rows.crcCutsSpec.pre6 enc Try.prog Try.f7 Rows.crcCutsRow.domain false) (Rows.crcCutsSpec.post enc Try.prog Try.f7 false true false false) := by
  refine returnsInHanded_of_change (C := Try.checked) own started (by kernel_rfl) Try.func7
    (ChangeSpec.witness6 (enc := enc) (C := Try.checked) false ⟨#[], #[.slice none 0 0, .int .i64 0], []⟩ 8 (by kernel_rfl) (by kernel_rfl) (by kernel_rfl) (by kernel_rfl)) ?_
  intro W base args ds gs before hval0 hW hcnd _
  have hval : ∀ (j : Nat) t v, Try.f7.params[j]? = some t → args[j]? = some v → Value.okWide Try.prog W .any base t v := hval0
  have hW' := hW
  obtain ⟨p, q, hA0, hV, rfl, hfz, hnd⟩ := hW
  have hA : DataW.TrodAll enc Try.prog W 0 (fun _ => true) true Try.f7.params.toList args.toList ds p := hA0
  rw [Try.params7] at hA hval
  obtain ⟨v0, vs0, d0, ds0, p0, q0, hargs, rfl, rfl, h0, r0⟩ := trodAll_cons hA
  obtain ⟨v1, vs1, d1, ds1, p1, q1, rfl, rfl, rfl, h1, r1⟩ := trodAll_cons r0
  obtain ⟨rfl, rfl, rfl⟩ := trodAll_nil r1
  obtain rfl : args = #[v0, v1] := by cases args; simp_all
  obtain ⟨rfl, rfl⟩ := trodVars_none hV
  obtain ⟨a0, len0, cap0, rfl⟩ := okWide_slice Try.underlying22 (hval 0 22 v0 rfl rfl)
  have k0 := h0
  have lt0 : ∀ x ∈ p0, x.block < W.heap.size := by obtain ⟨m, hm⟩ := k0; exact DataW.trod_lt m _ _ _ hm
  obtain ⟨xs0, lies0, by0⟩ := lies_of_trod h0
  obtain ⟨a1, rfl, rfl, rfl, w1⟩ := open_int Try.underlying3 (hval 1 3 v1 rfl rfl) h1
  have b1 := bounds_i64 w1
  clear hA0 hval0
  refine (cuts.walkN _ xs0 a1 W lies0 by0).mono fun e W' ⟨he, bel⟩ => ?_
  subst he
  exact ⟨_, rfl, _, _, _, [], _, [], hW', trodAll_mk1 (shut_bool Try.underlying4 _), (trodAll_cons_mk (Below.trod laidOut (by kernel_rfl) (of_decide_eq_true (by kernel_rfl)) k0 bel lt0) (trodAll_cons_mk (shut_int Try.underlying3 w1) trodAll_mk0)), rfl, bel.frame _, fun h => by cases h⟩

theorem over : Rows.crcCutsRow.holds Try.pinned (OpenSpec.ofChange Rows.crcCutsSpec) :=
  OpenClaim.holds_of_wide 7 Try.f7 rfl rfl rfl rfl rfl rfl rfl ⟨rfl, rfl, rfl, rfl, rfl⟩ rfl rfl rfl rfl rfl (by kernel_rfl) Try.func7 (by kernel_rfl)
    (of_decide_eq_true (by kernel_rfl)) (by unfold Func.isWrapper; first | (rw [if_pos (by decide +kernel)]; kernel_rfl) | (rw [if_neg (by decide +kernel)]; exact ⟨rfl, rfl⟩))
    (fun os started H enc _ => lifted os started H enc)
end cutsRow

/-- THE STATEMENT. -/
theorem crcCuts_holds : Rows.CrcCutsSaid := cutsRow.over
#print axioms crcCuts_holds
end Go.Proofs.Ytgflokjfdcgpbaa
