/-
  For every []byte b, the statement BitsOne returns true: a text that is long is the short one of its number, and with an error the other answers are 0; and the probe 'alive' holds; nothing that was there is written.
  Conditions: the library's table math/bits.deBruijn64tab holds what its initialiser lays (the card ties that to the program's text); else none.
-/
import Derived.Test.YtdfoclmkhhmdbaaDoorSetWalks
import Derived.Test.YtdfoclmkhhmdbaaDoorFrame
import Derived.Deep.RegionHeld
namespace Go.Proofs.YtdfoclmkhhmdbaaDoor
open Go.ChangeShapes Go.WideShapes Go.ChangeAt Go.RowKit

namespace one
theorem shape {k : IntKind} {w : World} {v : Value} {xs : List Int} (h : Lies k w v xs) : ∃ (ao : Option Addr) (cap : Nat), v = .slice ao xs.length cap := by
  obtain ⟨ao, cap, e, _⟩ := h.appendable
  exact ⟨ao, cap, e⟩
theorem long_cases (xs : List Int) (hx : ∀ c ∈ xs, 0 ≤ c ∧ c < 256) :
    (∃ e : Int, longS xs = (0, 0, e) ∧ e ≠ 0) ∨ (∃ N s : Nat, longS xs = ((N : Int), (s : Int), 0) ∧ 1 ≤ s ∧ s ≤ xs.length ∧ N < 18446744073709551616 ∧ shortS N = xs.take s) := by
  unfold longS
  by_cases h0 : sizeS xs = 0
  · rw [if_pos h0]; exact .inl ⟨4, rfl, by decide⟩
  · rw [if_neg h0]
    by_cases hA : 1 < sizeS xs ∧ xs.getD (sizeS xs - 1) 0 = 0
    · rw [if_pos hA]; exact .inl ⟨3, rfl, by decide⟩
    · rw [if_neg hA]
      by_cases hB : 10 < sizeS xs ∨ sizeS xs = 10 ∧ 1 < xs.getD (sizeS xs - 1) 0
      · rw [if_pos hB]; exact .inl ⟨3, rfl, by decide⟩
      · rw [if_neg hB]
        refine .inr ⟨_, _, rfl, by omega, sizeS_le xs, ?_, ?_⟩
        · have hl := sizeS_le xs
          have hlt := valS_lt (xs.take (sizeS xs))
          have hlen : (xs.take (sizeS xs)).length = sizeS xs := by simp; omega
          rw [hlen] at hlt
          by_cases h10 : sizeS xs = 10
          · have hlast : xs.getD 9 0 ≤ 1 := by
              have : ¬ 1 < xs.getD (sizeS xs - 1) 0 := fun h' => hB (.inr ⟨h10, h'⟩)
              rw [h10] at this
              simpa using this
            have hb := hx (xs.getD 9 0) (by simp [List.getD, show 9 < xs.length by omega])
            rw [h10, take_snoc xs 9 (by omega), valS_snoc]
            have h9 := valS_lt (xs.take 9)
            have hl9 : (xs.take 9).length = 9 := by simp; omega
            rw [hl9] at h9 ⊢
            have e63 : (2 : Nat) ^ (7 * 9) = 9223372036854775808 := by decide
            rw [e63] at h9 ⊢
            have : (xs.getD 9 0 % 128).toNat ≤ 1 := by omega
            have := Nat.mul_le_mul_right 9223372036854775808 this
            omega
          · have : (2 : Nat) ^ (7 * sizeS xs) ≤ 2 ^ 63 := Nat.pow_le_pow_right (by decide) (by omega)
            have e63 : (2 : Nat) ^ 63 = 9223372036854775808 := by decide
            omega
        · exact shortS_val xs hx h0 (fun h => fun h' => hA ⟨h, h'⟩)
theorem lies_take {w : World} {b off cap : Nat} {xs : List Int} (s : Nat) (h1 : 1 ≤ s) (hs : s ≤ xs.length) (hb : b < w.heap.size) (hl : xs.length ≤ cap) (hm : cap ≤ maxLen)
    (hc : ∀ t, t < xs.length → w.cell? ⟨b, off + t, none⟩ = some (.int .u8 (xs.getD t 0))) : Lies .u8 w (.slice (some ⟨b, off, none⟩) s cap) (xs.take s) := by
  have hlen : (xs.take s).length = s := by simp; omega
  refine .inr ⟨?_, b, off, cap, by rw [hlen], hb, by omega, hm, fun t ht => ?_⟩
  · intro e; rw [e] at hlen; simp at hlen; omega
  · rw [hc t (by omega)]
    have : t < s := by omega
    simp [List.getD, this]

set_option maxRecDepth 100000 in
set_option maxHeartbeats 800000 in
theorem walkN (v : Value) (xs : List Int) (w : World) (hL : Lies .u8 w v xs) (hx : ∀ c ∈ xs, 0 ≤ c ∧ c < 256) (hT : Tab w) :
    Calls Tryd.prog 8 #[v] w fun e w' => e = .returned (.bool true) ∧ Below w.heap.size w w' := by
  have hTp := hT.pos
  have HT := hide hT
  have hlong := hide (long_any v xs w hL hx)
  have hlen := hL.len
  clear hT
  rcases long_cases xs hx with ⟨e, hl, he⟩ | ⟨N, s, hl, h1, hs, hN, hS⟩
  · rw [hl] at hlong
    have he' : (e != 0) = true := by simpa using he
    clear hx hL he hl hlen
    go_enter Tryd.func8, Tryd.ntmps8
    go_wp2_with fail
    refine hlong.out.mono ?_
    rintro e1 w1 ⟨rfl, h1⟩
    rw [h1]
    clear h1
    go_wp2_with fail
    refine (alive_any _ HT.out).mono ?_
    rintro e2 w2 ⟨rfl, hB2⟩
    go_wp2_with fail
    go_ret
    exact ⟨rfl, hB2⟩
  · rw [hl] at hlong
    rcases hL with ⟨rfl, _⟩ | ⟨_, b, off, cap, rfl, hb, hcl, hcm, hc⟩
    · simp at hs; omega
    have L := hide (lies_take s h1 hs hb hcl hcm hc)
    have HS := hide hS
    clear hx hl hc hS
    unfold maxLen at hlen hcm
    have hsI : decide ((s : Int) ≤ (xs.length : Int)) = true := by simp; omega
    have hs1 : decide ((1 : Int) ≤ (s : Int)) = true := by simp; omega
    have hs0 : (0 : Int) ≤ (s : Int) := by omega
    have hsc : (s : Int) ≤ (cap : Int) := by omega
    have hslc : s ≤ cap := by omega
    generalize xs.length = len at *
    go_enter Tryd.func8, Tryd.ntmps8
    go_wp2_with fail
    refine hlong.out.mono ?_
    rintro e1 w1 ⟨rfl, h1⟩
    rw [h1]
    clear h1
    go_wp2_with fail
    go_region_held (fun _ => True) (trivial) (first | (go_at_call 17; refine (short_any (.slice none 0 0) [] N _ (Lies.nil _ _) (by decide) hN).mono ?_; rintro e2 w2 ⟨v2, rfl, hown2, hB2⟩; rw [List.nil_append, HS.out] at hown2; have L2 := hide (Lies.of_own hown2); have hB2' : Below w.heap.size w w2 := ((Below.refl w.heap.size w).drew).trans hB2; clear hown2 hB2) | (go_at_call 12; refine (same_any _ _ (xs.take s) _ L2.out (L.out.below hB2')).mono ?_; rintro e3 w3 ⟨rfl, h3⟩; rw [h3]; clear h3 L2) | (go_at_call 9; refine (alive_any _ (HT.out.below hB2' hTp)).mono ?_; rintro e4 w4 ⟨rfl, hB4⟩))
    go_wp2_with fail
    go_ret
    exact ⟨rfl, hB2'.trans (hB4.mono hB2'.size)⟩
end one
namespace one
theorem contract (H : Type) (enc : TypeId × Value → H) (W : World) (base : Nat) (args : Array Value) (ds gs : List (DataW H)) (before : List MemPlace)
    (hval : ∀ (j : Nat) t v, Tryd.f8.params[j]? = some t → args[j]? = some v → Value.okWide Tryd.prog W .any base t v)
    (hW : DataW.Whole enc Tryd.prog Tryd.f8.params.toList Rows.bitsOneSpec.vars false W args.toList ds gs before) (hL : laidMet Tryd.prog laidList W) :
    Calls Tryd.prog 8 args W fun e W' => ∃ v, e = .returned v ∧ Rows.bitsOneSpec.post enc Tryd.prog Tryd.f8 false true false false W args v W' := by
  have hW' := hW
  obtain ⟨p, q, hA0, hV, rfl, hfz, hnd⟩ := hW
  have hA : DataW.TrodAll enc Tryd.prog W 0 (fun _ => true) true Tryd.f8.params.toList args.toList ds p := hA0
  rw [Tryd.params8] at hA hval
  obtain ⟨v0, vs0, d0, ds0, p0, q0, hargs, rfl, rfl, h0, r0⟩ := trodAll_cons hA
  obtain ⟨rfl, rfl, rfl⟩ := trodAll_nil r0
  obtain rfl : args = #[v0] := by cases args; simp_all
  obtain ⟨rfl, rfl⟩ := trodVars_none hV
  obtain ⟨a0, len0, cap0, rfl⟩ := okWide_slice Tryd.underlying22 (hval 0 22 v0 rfl rfl)
  have k0 := h0
  have lt0 : ∀ x ∈ p0, x.block < W.heap.size := by obtain ⟨m, hm⟩ := k0; exact DataW.trod_lt m _ _ _ hm
  obtain ⟨xs0, lies0, by0⟩ := lies_of_trod h0
  clear hA0
  refine (walkN _ xs0 W lies0 by0 (tab_of_laid hL)).mono fun e W' ⟨he, bel⟩ => ?_
  subst he
  exact ⟨_, rfl, _, _, _, [], _, [], hW', trodAll_mk1 (shut_bool Tryd.underlying4 _), (trodAll_cons_mk (Below.trod laidOut (by kernel_rfl) (of_decide_eq_true (by kernel_rfl)) k0 bel lt0) trodAll_mk0), rfl, bel.frame _, fun h => by cases h⟩

theorem laid_met (os : Os) : laidMet Tryd.prog laidList ((layTab (World.holding Tryd.prog os ⟨#[], #[], []⟩)).forCall (fun _ _ => 0) ⟨#[], #[.slice none 0 0], []⟩).memory :=
  laidMet_of_run' 8 (by kernel_rfl) (by kernel_rfl)
theorem reads (os : Os) {H : Type} (enc : TypeId × Value → H) : ∃ places, DataW.whole enc Tryd.prog ((layTab (World.holding Tryd.prog os ⟨#[], #[], []⟩)).forCall (fun _ _ => 0) ⟨#[], #[.slice none 0 0], []⟩).memory Tryd.f8.params.toList Rows.bitsOneSpec.vars false #[Value.slice none 0 0].toList 8 = some ([.nil], [], places) :=
  ⟨[], by kernel_rfl⟩

set_option maxRecDepth 100000 in
theorem lifted (os : Os) (started : os.Started) (H : Type) (enc : TypeId × Value → H) (F : Stop.Interp) :
    ReturnsInHanded {} Tryd.checked os 8 .any ((OpenSpec.ofChange Rows.bitsOneSpec).preRow enc Tryd.prog Tryd.f8 Rows.bitsOneRow.domain false Rows.bitsOneRow.laid) (((OpenSpec.ofChange Rows.bitsOneSpec).at F).post enc Tryd.prog Tryd.f8 false true false false) := by
  obtain ⟨places, hx⟩ := reads os enc
  refine returnsInHanded_of_row (C := Tryd.checked) (s := OpenSpec.ofChange Rows.bitsOneSpec) own started (by kernel_rfl) Tryd.func8
    (witness_row_at (enc := enc) (C := Tryd.checked) false (layTab (World.holding Tryd.prog os ⟨#[], #[], []⟩)) #[.slice none 0 0] rfl (by kernel_rfl) (by kernel_rfl) (by kernel_rfl)
      (OpenSpec.preRow_of_cond 8 hx (by kernel_rfl) (fun k hk => by cases hk) (by kernel_rfl) (laid_met os))) ?_
  intro W base args ds gs before hval hW _ _ _ hL _ _
  exact contract H enc W base args ds gs before hval hW hL

theorem said : Rows.BitsOneSaid :=
  OpenClaim.holds_of_cond 8 Tryd.f8 rfl rfl rfl rfl rfl rfl rfl ⟨rfl, rfl, rfl, rfl, rfl⟩ rfl rfl rfl rfl rfl (by kernel_rfl) Tryd.func8 (by kernel_rfl)
    (of_decide_eq_true (by kernel_rfl)) (by unfold Func.isWrapper; first | (rw [if_pos (by decide +kernel)]; kernel_rfl) | (rw [if_neg (by decide +kernel)]; exact ⟨rfl, rfl⟩))
    (fun os started H enc _ F => by rw [OpenClaim.pre_eq_preRow]; exact lifted os started H enc F)

theorem plain (f : FuncId) (fn : Func) (hf : Tryd.pinned.checked.prog.funcNamed Tryd.f8.name = some f) (hfn : Tryd.pinned.checked.prog.funcs[f]? = some fn) :
    false = Tryd.pinned.checked.prog.looks [] ∧ ∀ (j : Nat) t, fn.params[j]? = some t → Tryd.pinned.checked.prog.wantsStandIn t = false := by
  obtain rfl : f = 8 := Option.some.inj ((show Tryd.prog.funcNamed Tryd.f8.name = some 8 by kernel_rfl).symm.trans hf) |>.symm
  obtain rfl : fn = Tryd.f8 := (Option.some.inj (Tryd.func8.symm.trans hfn)).symm
  refine ⟨by kernel_rfl, fun j t ht => ?_⟩
  rw [Tryd.params8] at ht
  have : t = 22 := by simpa using Array.mem_of_getElem? ht
  rcases this with rfl
  · exact (show Tryd.prog.wantsStandIn 22 = false by kernel_rfl)
end one

/-- THE CARD. -/
theorem bitsOne_card : Rows.BitsOneCardSaid :=
  Claim7.holds_tied_plain_at .later [] _ _ _ _ one.said (fun _ h => by cases h) (by kernel_rfl) (fun _ h => by cases h) bitsOne_row_tie rfl ⟨rfl, rfl⟩ (by kernel_rfl) rfl one.plain (by kernel_rfl)
#print axioms bitsOne_card
end Go.Proofs.YtdfoclmkhhmdbaaDoor
