/-
  For every uint64 n, uint8 size and []byte behind, the statement BitsBack returns true: what was put is got, what was made short is made long, whatever stands behind; what was unfolded is folded again, what was turned is turned back; and the probe 'alive' holds; nothing that was there is written.
  Conditions: the library's table math/bits.deBruijn64tab holds what its initialiser lays (the card ties that to the program's text); else none.
-/
import Derived.Test.YtdfoclmkhhmdbaaDoorSetWalks
import Derived.Test.YtdfoclmkhhmdbaaDoorPutGet
import Derived.Test.YtdfoclmkhhmdbaaDoorGets
import Derived.Test.YtdfoclmkhhmdbaaDoorFrame
namespace Go.Proofs.YtdfoclmkhhmdbaaDoor
open Go.ChangeShapes Go.WideShapes Go.ChangeAt Go.RowKit

namespace back
theorem shape {k : IntKind} {w : World} {v : Value} {xs : List Int} (h : Lies k w v xs) : ∃ (ao : Option Addr) (cap : Nat), v = .slice ao xs.length cap := by
  obtain ⟨ao, cap, e, _⟩ := h.appendable
  exact ⟨ao, cap, e⟩
theorem get_back (n k : Nat) (xs : List Int) (h1 : 1 ≤ k) (h8 : k ≤ 8) : getS (putS n k ++ xs) (k : Int) = (((n % 256 ^ k : Nat) : Int), 0) := by
  unfold getS
  rw [if_neg (by omega), if_neg (by simp [putS_len]; omega), Int.toNat_natCast]
  have : (putS n k ++ xs).take k = putS n k := by
    have := List.take_left (l₁ := putS n k) (l₂ := xs)
    rwa [putS_len] at this
  rw [this, valB_putS]
theorem long_back (n : Nat) (xs : List Int) (hn : n < 18446744073709551616) : longS (shortS n ++ xs) = ((n : Int), ((shortS n).length : Int), 0) := by
  have hs := size_short n xs
  have hl10 := shortS_len10 hn
  have hl0 : (shortS n).length ≠ 0 := by rw [shortS_eq]; split <;> simp
  have hg : ∀ i, i < (shortS n).length → (shortS n ++ xs).getD i 0 = (shortS n).getD i 0 := by
    intro i hi; simp [List.getD, List.getElem?_append_left hi]
  unfold longS
  rw [hs, if_neg hl0, if_neg, if_neg]
  · rw [List.take_left, val_short]
  · rintro (h | ⟨h, h'⟩)
    · omega
    · rw [hg _ (by omega)] at h'
      have := short_tenth n hn h
      rw [h] at h'
      simp only [Nat.add_one_sub_one] at h'
      omega
  · rintro ⟨h, h'⟩
    rw [hg _ (by omega)] at h'
    refine short_last n ?_ h'
    intro e
    subst e
    rw [shortS_lt (by decide)] at h
    simp at h
theorem pow_low (n k : Nat) (hk : k < 8) : (n : Int).tmod (IntKind.u64.wrap (2 ^ (8 * k))) = ((n % 256 ^ k : Nat) : Int) := by
  have e : IntKind.u64.wrap ((2 : Int) ^ (8 * k)) = ((256 ^ k : Nat) : Int) := by
    rw [IntKind.wrap_u64]
    exact pw8 k hk
  rw [e, Int.tmod_eq_emod_of_nonneg (by omega)]
  simp

set_option maxRecDepth 100000 in
set_option maxHeartbeats 2000000 in
theorem walkN (n : Nat) (sz : Nat) (v : Value) (xs : List Int) (hn : n < 18446744073709551616) (hsz : sz < 256) (w : World) (hL : Lies .u8 w v xs) (hx : ∀ c ∈ xs, 0 ≤ c ∧ c < 256) (hT : Tab w) :
    Calls Tryd.prog 7 #[.int .u64 n, .int .u8 sz, v] w fun e w' => e = .returned (.bool true) ∧ Below w.heap.size w w' := by
  have hTp := hT.pos
  obtain ⟨ao, cap, rfl⟩ := shape hL
  have HT := hide hT
  have HX := hide hx
  have HL := hide hL
  have hlen := hL.len
  unfold maxLen at hlen
  clear hT hx hL
  by_cases hbig : 10000 < xs.length
  · go_enter Tryd.func7, Tryd.ntmps7
    go_wp2_with (go_at_call 9; refine (alive_any _ HT.out).mono ?_; rintro e w9 ⟨rfl, hB⟩)
    go_ret
    exact ⟨rfl, hB⟩
  · obtain ⟨r, hr, hr8⟩ : ∃ r : Nat, (sz : Int) % 8 = (r : Int) ∧ r < 8 := ⟨sz % 8, by omega, by omega⟩
    have hlong := hide (long_back n xs hn)
    have hfu := hide (fold_unfold (n : Int) (by omega))
    have hl10 := shortS_len10 hn
    have qn : ((n : Int) == (n : Int)) = true := by simp
    by_cases hk8 : r < 7
    · have hcl : clamp8 ((r : Int) + 1) = r + 1 := by unfold clamp8; omega
      have hget : Hid (getS (putS n (r + 1) ++ xs) ((r : Int) + 1) = (((n % 256 ^ (r + 1) : Nat) : Int), 0)) := by
        have := get_back n (r + 1) xs (by omega) (by omega)
        exact this
      have hturn : Hid (rotl (rotl n (places ((r : Int) + 1))) (places (-((r : Int) + 1))) = n) := by
        have e1 : places ((r : Int) + 1) = r + 1 := by unfold places; omega
        have e2 : places (-((r : Int) + 1)) = 64 - (r + 1) := by unfold places; omega
        rw [e1, e2]
        exact rotl_back n (r + 1) hn (by omega)
      have hw : IntKind.u64.wrap ((2 : Int) ^ (8 * (r + 1))) = ((256 ^ (r + 1) : Nat) : Int) := by
        rw [IntKind.wrap_u64]
        exact pw8 (r + 1) (by omega)
      have hpos : 0 < 256 ^ (r + 1) := Nat.pow_pos (by decide)
      have hlow : (n : Int) % ((256 ^ (r + 1) : Nat) : Int) = ((n % 256 ^ (r + 1) : Nat) : Int) := by simp
      generalize n % 256 ^ (r + 1) = low at *
      generalize 256 ^ (r + 1) = P at *
      have hP0 : ((P : Int) == 0) = false := by simp; omega
      have q1 : ((low : Int) == (low : Int)) = true := by simp
      have hPne : ¬ (P : Int) = 0 := by omega
      go_enter Tryd.func7, Tryd.ntmps7
      go_wp2_with fail
      refine (put_any (.slice none 0 0) [] n ((r : Int) + 1) w (Lies.nil _ _) (by simp)).mono ?_
      rintro e w1 ⟨v1, rfl, hown1, hB1⟩
      rw [hcl, List.nil_append] at hown1
      go_wp2_with (at_builtin; refine append_lies _ rfl _ _ rfl w.heap.size v1 _ _ (putS n (r + 1)) xs rfl hown1 rfl (HL.out.below hB1) (by rw [putS_len]; omega) hB1.size ?_; intro v2 w2 hown2 hgrow2)
      have hB2 : Below w.heap.size w w2 := hB1.grown hgrow2 hB1.size (fun k hk => (hown1.lt k hk).1)
      have L2 := Lies.of_own hown2
      clear hown1 hgrow2 hown2
      refine (get_any v2 (putS n (r + 1) ++ xs) ((r : Int) + 1) w2 L2 (fun c hc => by rcases List.mem_append.1 hc with h | h; exact putS_bytes n _ c h; exact HX.out c h)).mono ?_
      rintro e w3 ⟨rfl, h3⟩
      rw [h3, hget.out]
      clear h3 L2
      go_wp2_with fail
      refine (short_any (.slice none 0 0) [] n w2 (Lies.nil _ _) (by decide) hn).mono ?_
      rintro e w4 ⟨v4, rfl, hown4, hB4⟩
      rw [List.nil_append] at hown4
      have L4 := Lies.of_own hown4
      obtain ⟨ao4, cap4, rfl⟩ := shape L4
      have hB24 : Below w.heap.size w w4 := hB2.trans (hB4.mono hB2.size)
      clear hown4 L4 hB4
      go_wp2_with fail
      refine (short_any (.slice none 0 0) [] n w4 (Lies.nil _ _) (by decide) hn).mono ?_
      rintro e w5 ⟨v5, rfl, hown5, hB5⟩
      rw [List.nil_append] at hown5
      have hB25 : Below w.heap.size w w5 := hB24.trans (hB5.mono hB24.size)
      go_wp2_with (at_builtin; refine append_lies _ rfl _ _ rfl w4.heap.size v5 _ _ (shortS n) xs rfl hown5 rfl (HL.out.below hB25) (by omega) hB5.size ?_; intro v6 w6 hown6 hgrow6)
      have hB6' : Below w4.heap.size w4 w6 := hB5.grown hgrow6 hB5.size (fun k hk => (hown5.lt k hk).1)
      have hB6 : Below w.heap.size w w6 := hB24.trans (hB6'.mono hB24.size)
      have L6 := Lies.of_own hown6
      clear hown5 hgrow6 hown6 hB6' hB5 hB25
      refine (long_any v6 (shortS n ++ xs) w6 L6 (fun c hc => by rcases List.mem_append.1 hc with h | h; exact shortS_bytes n c h; exact HX.out c h)).mono ?_
      rintro e w7 ⟨rfl, h7⟩
      rw [h7, hlong.out]
      clear h7 L6
      generalize (shortS n).length = L at *
      have q3 : ((L : Int) == (L : Int)) = true := by simp
      go_wp2_with fail
      refine (unfold_any (n : Int) (by omega) (by omega) _).mono ?_
      rintro e w8 ⟨rfl, h8⟩
      rw [h8]
      clear h8
      go_wp2_with fail
      refine (fold_any (unfoldS (n : Int)) (unfoldS_bd _ (by omega) (by omega)).1 (unfoldS_bd _ (by omega) (by omega)).2 _).mono ?_
      rintro e w9 ⟨rfl, h9⟩
      rw [h9, hfu.out]
      clear h9
      go_wp2_with fail
      refine (turn_any n ((r : Int) + 1) hn _).mono ?_
      rintro e w10 ⟨rfl, h10⟩
      rw [h10]
      clear h10
      go_wp2_with fail
      refine (turn_any (rotl n (places ((r : Int) + 1))) (-((r : Int) + 1)) (rotl_lt n _ hn (by have := places_lt ((r : Int) + 1); omega)) _).mono ?_
      rintro e w11 ⟨rfl, h11⟩
      rw [h11, hturn.out]
      clear h11
      go_wp2_with fail
      refine (alive_any _ (HT.out.below hB6 hTp)).mono ?_
      rintro e w12 ⟨rfl, hB12⟩
      go_wp2_with fail
      go_ret
      exact ⟨rfl, hB6.trans (hB12.mono hB6.size)⟩
    · obtain rfl : r = 7 := by omega
      have hr7 : (sz : Int) % 8 = 7 := hr
      have hcl : clamp8 8 = 8 := by decide
      have hget : Hid (getS (putS n 8 ++ xs) 8 = ((n : Int), 0)) := by
        have := get_back n 8 xs (by omega) (by omega)
        rw [Nat.mod_eq_of_lt (show n < 256 ^ 8 from hn)] at this
        exact this
      have hturn : Hid (rotl (rotl n (places 8)) (places (-8)) = n) := by
        have e1 : places 8 = 8 := by decide
        have e2 : places (-8) = 64 - 8 := by decide
        rw [e1, e2]
        exact rotl_back n 8 hn (by omega)
      clear hr
      go_enter Tryd.func7, Tryd.ntmps7
      go_wp2_with fail
      refine (put_any (.slice none 0 0) [] n (8) w (Lies.nil _ _) (by simp)).mono ?_
      rintro e w1 ⟨v1, rfl, hown1, hB1⟩
      rw [hcl, List.nil_append] at hown1
      go_wp2_with (at_builtin; refine append_lies _ rfl _ _ rfl w.heap.size v1 _ _ (putS n (8)) xs rfl hown1 rfl (HL.out.below hB1) (by rw [putS_len]; omega) hB1.size ?_; intro v2 w2 hown2 hgrow2)
      have hB2 : Below w.heap.size w w2 := hB1.grown hgrow2 hB1.size (fun k hk => (hown1.lt k hk).1)
      have L2 := Lies.of_own hown2
      clear hown1 hgrow2 hown2
      refine (get_any v2 (putS n (8) ++ xs) (8) w2 L2 (fun c hc => by rcases List.mem_append.1 hc with h | h; exact putS_bytes n _ c h; exact HX.out c h)).mono ?_
      rintro e w3 ⟨rfl, h3⟩
      rw [h3, hget.out]
      clear h3 L2
      go_wp2_with fail
      refine (short_any (.slice none 0 0) [] n w2 (Lies.nil _ _) (by decide) hn).mono ?_
      rintro e w4 ⟨v4, rfl, hown4, hB4⟩
      rw [List.nil_append] at hown4
      have L4 := Lies.of_own hown4
      obtain ⟨ao4, cap4, rfl⟩ := shape L4
      have hB24 : Below w.heap.size w w4 := hB2.trans (hB4.mono hB2.size)
      clear hown4 L4 hB4
      go_wp2_with fail
      refine (short_any (.slice none 0 0) [] n w4 (Lies.nil _ _) (by decide) hn).mono ?_
      rintro e w5 ⟨v5, rfl, hown5, hB5⟩
      rw [List.nil_append] at hown5
      have hB25 : Below w.heap.size w w5 := hB24.trans (hB5.mono hB24.size)
      go_wp2_with (at_builtin; refine append_lies _ rfl _ _ rfl w4.heap.size v5 _ _ (shortS n) xs rfl hown5 rfl (HL.out.below hB25) (by omega) hB5.size ?_; intro v6 w6 hown6 hgrow6)
      have hB6' : Below w4.heap.size w4 w6 := hB5.grown hgrow6 hB5.size (fun k hk => (hown5.lt k hk).1)
      have hB6 : Below w.heap.size w w6 := hB24.trans (hB6'.mono hB24.size)
      have L6 := Lies.of_own hown6
      clear hown5 hgrow6 hown6 hB6' hB5 hB25
      refine (long_any v6 (shortS n ++ xs) w6 L6 (fun c hc => by rcases List.mem_append.1 hc with h | h; exact shortS_bytes n c h; exact HX.out c h)).mono ?_
      rintro e w7 ⟨rfl, h7⟩
      rw [h7, hlong.out]
      clear h7 L6
      generalize (shortS n).length = L at *
      have q3 : ((L : Int) == (L : Int)) = true := by simp
      go_wp2_with fail
      refine (unfold_any (n : Int) (by omega) (by omega) _).mono ?_
      rintro e w8 ⟨rfl, h8⟩
      rw [h8]
      clear h8
      go_wp2_with fail
      refine (fold_any (unfoldS (n : Int)) (unfoldS_bd _ (by omega) (by omega)).1 (unfoldS_bd _ (by omega) (by omega)).2 _).mono ?_
      rintro e w9 ⟨rfl, h9⟩
      rw [h9, hfu.out]
      clear h9
      go_wp2_with fail
      refine (turn_any n (8) hn _).mono ?_
      rintro e w10 ⟨rfl, h10⟩
      rw [h10]
      clear h10
      go_wp2_with fail
      refine (turn_any (rotl n (places (8))) (-8) (rotl_lt n _ hn (by have := places_lt (8); omega)) _).mono ?_
      rintro e w11 ⟨rfl, h11⟩
      rw [h11, hturn.out]
      clear h11
      go_wp2_with fail
      refine (alive_any _ (HT.out.below hB6 hTp)).mono ?_
      rintro e w12 ⟨rfl, hB12⟩
      go_wp2_with fail
      go_ret
      exact ⟨rfl, hB6.trans (hB12.mono hB6.size)⟩
end back
namespace back
theorem contract (H : Type) (enc : TypeId × Value → H) (W : World) (base : Nat) (args : Array Value) (ds gs : List (DataW H)) (before : List MemPlace)
    (hval : ∀ (j : Nat) t v, Tryd.f7.params[j]? = some t → args[j]? = some v → Value.okWide Tryd.prog W .any base t v)
    (hW : DataW.Whole enc Tryd.prog Tryd.f7.params.toList Rows.bitsBackSpec.vars false W args.toList ds gs before) (hL : laidMet Tryd.prog laidList W) :
    Calls Tryd.prog 7 args W fun e W' => ∃ v, e = .returned v ∧ Rows.bitsBackSpec.post enc Tryd.prog Tryd.f7 false true false false W args v W' := by
  have hW' := hW
  obtain ⟨p, q, hA0, hV, rfl, hfz, hnd⟩ := hW
  have hA : DataW.TrodAll enc Tryd.prog W 0 (fun _ => true) true Tryd.f7.params.toList args.toList ds p := hA0
  rw [Tryd.params7] at hA hval
  obtain ⟨v0, vs0, d0, ds0, p0, q0, hargs, rfl, rfl, h0, r0⟩ := trodAll_cons hA
  obtain ⟨v1, vs1, d1, ds1, p1, q1, rfl, rfl, rfl, h1, r1⟩ := trodAll_cons r0
  obtain ⟨v2, vs2, d2, ds2, p2, q2, rfl, rfl, rfl, h2, r2⟩ := trodAll_cons r1
  obtain ⟨rfl, rfl, rfl⟩ := trodAll_nil r2
  obtain rfl : args = #[v0, v1, v2] := by cases args; simp_all
  obtain ⟨rfl, rfl⟩ := trodVars_none hV
  obtain ⟨a0, rfl, rfl, rfl, w0⟩ := open_int Tryd.underlying23 (hval 0 23 v0 rfl rfl) h0
  have b0 := bounds_u64 w0
  obtain ⟨m0, rfl⟩ := Int.eq_ofNat_of_zero_le b0.1
  obtain ⟨a1, rfl, rfl, rfl, w1⟩ := open_int Tryd.underlying5 (hval 1 5 v1 rfl rfl) h1
  have b1 := bounds_u8 w1
  obtain ⟨m1, rfl⟩ := Int.eq_ofNat_of_zero_le b1.1
  obtain ⟨a2, len2, cap2, rfl⟩ := okWide_slice Tryd.underlying22 (hval 2 22 v2 rfl rfl)
  have k2 := h2
  have lt2 : ∀ x ∈ p2, x.block < W.heap.size := by obtain ⟨m, hm⟩ := k2; exact DataW.trod_lt m _ _ _ hm
  obtain ⟨xs2, lies2, by2⟩ := lies_of_trod h2
  clear hA0
  refine (walkN m0 m1 _ xs2 (by omega) (by omega) W lies2 by2 (tab_of_laid hL)).mono fun e W' ⟨he, bel⟩ => ?_
  subst he
  exact ⟨_, rfl, _, _, _, [], _, [], hW', trodAll_mk1 (shut_bool Tryd.underlying4 _), (trodAll_cons_mk (shut_int Tryd.underlying23 w0) (trodAll_cons_mk (shut_int Tryd.underlying5 w1) (trodAll_cons_mk (Below.trod laidOut (by kernel_rfl) (of_decide_eq_true (by kernel_rfl)) k2 bel lt2) trodAll_mk0))), rfl, bel.frame _, fun h => by cases h⟩

theorem laid_met (os : Os) : laidMet Tryd.prog laidList ((layTab (World.holding Tryd.prog os ⟨#[], #[], []⟩)).forCall (fun _ _ => 0) ⟨#[], #[.int .u64 0, .int .u8 0, .slice none 0 0], []⟩).memory :=
  laidMet_of_run' 8 (by kernel_rfl) (by kernel_rfl)
theorem reads (os : Os) {H : Type} (enc : TypeId × Value → H) : ∃ places, DataW.whole enc Tryd.prog ((layTab (World.holding Tryd.prog os ⟨#[], #[], []⟩)).forCall (fun _ _ => 0) ⟨#[], #[.int .u64 0, .int .u8 0, .slice none 0 0], []⟩).memory Tryd.f7.params.toList Rows.bitsBackSpec.vars false #[Value.int .u64 0, Value.int .u8 0, Value.slice none 0 0].toList 8 = some ([.lit (.int .u64 0), .lit (.int .u8 0), .nil], [], places) :=
  ⟨[], by kernel_rfl⟩

set_option maxRecDepth 100000 in
theorem lifted (os : Os) (started : os.Started) (H : Type) (enc : TypeId × Value → H) (F : Stop.Interp) :
    ReturnsInHanded {} Tryd.checked os 7 .any ((OpenSpec.ofChange Rows.bitsBackSpec).preRow enc Tryd.prog Tryd.f7 Rows.bitsBackRow.domain false Rows.bitsBackRow.laid) (((OpenSpec.ofChange Rows.bitsBackSpec).at F).post enc Tryd.prog Tryd.f7 false true false false) := by
  obtain ⟨places, hx⟩ := reads os enc
  refine returnsInHanded_of_row (C := Tryd.checked) (s := OpenSpec.ofChange Rows.bitsBackSpec) own started (by kernel_rfl) Tryd.func7
    (witness_row_at (enc := enc) (C := Tryd.checked) false (layTab (World.holding Tryd.prog os ⟨#[], #[], []⟩)) #[.int .u64 0, .int .u8 0, .slice none 0 0] rfl (by kernel_rfl) (by kernel_rfl) (by kernel_rfl)
      (OpenSpec.preRow_of_cond 8 hx (by kernel_rfl) (fun k hk => by cases hk) (by kernel_rfl) (laid_met os))) ?_
  intro W base args ds gs before hval hW _ _ _ hL _ _
  exact contract H enc W base args ds gs before hval hW hL

theorem said : Rows.BitsBackSaid :=
  OpenClaim.holds_of_cond 7 Tryd.f7 rfl rfl rfl rfl rfl rfl rfl ⟨rfl, rfl, rfl, rfl, rfl⟩ rfl rfl rfl rfl rfl (by kernel_rfl) Tryd.func7 (by kernel_rfl)
    (of_decide_eq_true (by kernel_rfl)) (by unfold Func.isWrapper; first | (rw [if_pos (by decide +kernel)]; kernel_rfl) | (rw [if_neg (by decide +kernel)]; exact ⟨rfl, rfl⟩))
    (fun os started H enc _ F => by rw [OpenClaim.pre_eq_preRow]; exact lifted os started H enc F)

theorem plain (f : FuncId) (fn : Func) (hf : Tryd.pinned.checked.prog.funcNamed Tryd.f7.name = some f) (hfn : Tryd.pinned.checked.prog.funcs[f]? = some fn) :
    false = Tryd.pinned.checked.prog.looks [] ∧ ∀ (j : Nat) t, fn.params[j]? = some t → Tryd.pinned.checked.prog.wantsStandIn t = false := by
  obtain rfl : f = 7 := Option.some.inj ((show Tryd.prog.funcNamed Tryd.f7.name = some 7 by kernel_rfl).symm.trans hf) |>.symm
  obtain rfl : fn = Tryd.f7 := (Option.some.inj (Tryd.func7.symm.trans hfn)).symm
  refine ⟨by kernel_rfl, fun j t ht => ?_⟩
  rw [Tryd.params7] at ht
  have : t = 23 ∨ t = 5 ∨ t = 22 := by simpa using Array.mem_of_getElem? ht
  rcases this with rfl | rfl | rfl
  · exact (show Tryd.prog.wantsStandIn 23 = false by kernel_rfl)
  · exact (show Tryd.prog.wantsStandIn 5 = false by kernel_rfl)
  · exact (show Tryd.prog.wantsStandIn 22 = false by kernel_rfl)
end back

/-- THE CARD. -/
theorem bitsBack_card : Rows.BitsBackCardSaid :=
  Claim7.holds_tied_plain_at .later [] _ _ _ _ back.said (fun _ h => by cases h) (by kernel_rfl) (fun _ h => by cases h) bitsBack_row_tie rfl ⟨rfl, rfl⟩ (by kernel_rfl) rfl back.plain (by kernel_rfl)
#print axioms bitsBack_card
end Go.Proofs.YtdfoclmkhhmdbaaDoor
