/-
  For every []byte b, int at and byte by, the statement CrcTurned returns true: texts that differ in one byte have unlike sums, Flip tells the one from the other, and the probe 'alive' holds; nothing that was there is written.
  Conditions: none.
-/
import Derived.Test.YtgflokjfdcgpbabCrcTop
import Derived.Test.YtgflokjfdcgpbabAppLies
import Derived.Test.YtgflokjfdcgpbabFramePlain
namespace Go.Proofs.Ytgflokjfdcgpbab
open Go.ChangeShapes Go.WideShapes Go.ChangeAt Go.RowKit

namespace turned
theorem at_index (p : Int) (n : Nat) (h1 : 1 ≤ n) (h2 : n ≤ 5001) : ∃ k : Nat, k < n ∧ (wrap64 (p.tmod n + n)).tmod n = k := by
  have hn : (0 : Int) < (n : Int) := by omega
  have ha := Int.tmod_lt_of_pos p hn
  have hb := Int.lt_tmod_of_pos p hn
  generalize p.tmod n = q at *
  have hw : wrap64 (q + n) = q + n := by unfold wrap64; omega
  rw [hw, Int.tmod_eq_emod_of_nonneg (by omega)]
  have h0 := Int.emod_nonneg (q + n) (by omega : (n : Int) ≠ 0)
  have h3 := Int.emod_lt_of_pos (q + n) hn
  exact ⟨((q + n) % n).toNat, by omega, by omega⟩
/-- One byte turned. -/
def turnI (xs : List Int) (k x : Nat) : List Int := xs.set k (((xs.getD k 0).toNat ^^^ x : Nat) : Int)
theorem turn_sum (xs : List Int) (k x : Nat) (hk : k < xs.length) : moreI 0 (turnI xs k x) = flipN (moreI 0 xs) (xs.length - 1 - k) x := by
  have hl : k < (nats xs).length := by simpa [nats] using hk
  have hg : (nats xs)[k] = (xs.getD k 0).toNat := by simp [nats, List.getD, hk]
  have e1 : nats xs = (nats xs).take k ++ (xs.getD k 0).toNat :: (nats xs).drop (k + 1) := by
    rw [← hg, List.getElem_cons_drop, List.take_append_drop]
  have e2 : nats (turnI xs k x) = (nats xs).take k ++ ((xs.getD k 0).toNat ^^^ x) :: (nats xs).drop (k + 1) := by
    unfold nats turnI
    rw [List.map_set, List.set_eq_take_append_cons_drop, if_pos (by simpa using hk)]
    rfl
  have e3 : ((nats xs).drop (k + 1)).length = xs.length - 1 - k := by simp [nats]; omega
  unfold moreI
  rw [e2, more_turn, ← e1, e3]
  rfl
theorem turn_bytes {xs : List Int} {k x : Nat} (hx : ∀ c ∈ xs, 0 ≤ c ∧ c < 256) (h : x < 256) : ∀ c ∈ turnI xs k x, 0 ≤ c ∧ c < 256 := by
  intro c hc
  unfold turnI at hc
  rcases List.mem_or_eq_of_mem_set hc with h1 | h1
  · exact hx c h1
  · have hb := getD_byte hx k
    have : (xs.getD k 0).toNat ^^^ x < 256 := Nat.xor_lt_two_pow (n := 8) (by omega) h
    subst h1
    omega
theorem turn_like (s n x : Nat) (h : x < 256) : (s = flipN s n x) ↔ x = 0 := by
  unfold flipN
  rw [xor_eq_self]
  exact turn_zero n x h
/-- The turned text lies where the copy lay. -/
theorem lies_set {w : World} {g cap k : Nat} {xs : List Int} {z : Int} (h : Lies .u8 w (.slice (some ⟨g, 0, none⟩) xs.length cap) xs) (hk : k < xs.length) :
    Lies .u8 (w.setCell ⟨g, k, none⟩ (.int .u8 z)) (.slice (some ⟨g, 0, none⟩) xs.length cap) (xs.set k z) := by
  rcases h with ⟨rfl, _⟩ | ⟨hne, b, off, cap', e, hb, hl, hm, hc⟩
  · simp at hk
  · cases e
    refine .inr ⟨?_, g, 0, cap, by simp, by simpa using hb, by simpa using hl, hm, fun t ht => ?_⟩
    · intro e
      have := congrArg List.length e
      simp at this
      rw [this] at hk
      simp at hk
    · rw [List.length_set] at ht
      have hct := hc t ht
      rw [Nat.zero_add] at hct ⊢
      by_cases e : k = t
      · subst e
        rw [World.cell?_setCell_same _ _ _ hct]
        simp [List.getD, hk]
      · rw [World.cell?_setCell_other _ _ _ _ (by intro hh; cases hh; exact e rfl), hct]
        simp [List.getD, e]

theorem own_facts {w0 : World} {base k : Nat} {v0 : Value} {xs : List Int} (h : w0.ownsRow base 5 1 v0 (0 + xs.length) (List.map (Value.int .u8) ([] ++ xs))) (hk : k < xs.length) :
    ∃ g cap0 : Nat, v0 = .slice (some ⟨g, 0, none⟩) xs.length cap0 ∧ Hid (base ≤ g) ∧ w0.cell? ⟨g, k, none⟩ = some (.int .u8 (xs.getD k 0)) ∧ w0.frozen? ⟨g, k, none⟩ = false ∧ Hid (Lies .u8 w0 v0 xs) := by
  rw [List.nil_append, Nat.zero_add] at h
  have hlie := Lies.of_own h
  obtain ⟨_, ⟨_, h0⟩ | ⟨g, c0, cur, rfl, hg, hh, hn, hcap, hsz, htake⟩⟩ := h
  · omega
  · refine ⟨g, c0, rfl, hide hg, ?_, ?_, hide hlie⟩
    · rcases hlie with ⟨rfl, _⟩ | ⟨_, b, off, cap', e, _, _, _, hc⟩
      · simp at hk
      · cases e
        have := hc k hk
        rwa [Nat.zero_add] at this
    · unfold World.frozen?
      rw [hh]
      simp
set_option maxHeartbeats 1600000 in
theorem walkN (v : Value) (xs : List Int) (p : Int) (x : Nat) (w : World) (hxb : x < 256) (hL : Lies .u8 w v xs) (hx : ∀ c ∈ xs, 0 ≤ c ∧ c < 256) :
    Calls Try.prog 3 #[v, .int .i64 p, .int .u8 x] w fun e w' => e = .returned (.bool true) ∧ Below w.heap.size w w' := by
  obtain ⟨ao, cap, rfl⟩ := hL.shape
  by_cases h0 : xs.length = 0
  · rw [h0]
    go_enter Try.func3, Try.ntmps3
    go_wp2_with fail
    refine (alive_any _).mono ?_
    rintro e w2 ⟨rfl, hB2⟩
    go_wp2_with fail
    go_ret
    exact ⟨rfl, hB2⟩
  have d0 : ((xs.length : Int) == 0) = false := by simp; intro h; simp [h] at h0
  by_cases hlong : 5000 < xs.length
  · clear hL
    have d1 : decide ((5000 : Int) < (xs.length : Int)) = true := by simp; omega
    generalize xs.length = la at *
    go_enter Try.func3, Try.ntmps3
    go_wp2_with fail
    refine (long_any _ _ _ _).mono ?_
    rintro e w1 ⟨rfl, h1⟩
    rw [h1]
    clear h1
    go_wp2_with fail
    refine (alive_any _).mono ?_
    rintro e w2 ⟨rfl, hB2⟩
    go_wp2_with fail
    go_ret
    exact ⟨rfl, hB2⟩
  have d1 : decide ((5000 : Int) < (xs.length : Int)) = false := by simp; omega
  obtain ⟨k, hk, hat⟩ := at_index p xs.length (by omega) (by omega)
  have HL := hide hL
  have HX := hide hx
  clear hL hx
  go_enter Try.func3, Try.ntmps3
  go_wp2_with fail
  refine (long_any _ _ _ _).mono ?_
  rintro e w1 ⟨rfl, h1⟩
  rw [h1]
  clear h1
  have hb := getD_byte HX.out k
  have hxor : bits .xor .u8 (xs.getD k 0) (x : Int) = (((xs.getD k 0).toNat ^^^ x : Nat) : Int) := by
    rw [u8_xor _ _ hb.1 hb.2 (by omega) (by omega)]
    rfl
  have HS := hide (turn_sum xs k x hk)
  have HXT := hide (turn_bytes (k := k) HX.out hxb)
  have HTL := hide (turn_like (moreI 0 xs) (xs.length - 1 - k) x hxb)
  have hX := moreI_lt (s := 0) (by decide) HX.out
  have HT : Hid (turnI xs k x = xs.set k (((xs.getD k 0).toNat ^^^ x : Nat) : Int)) := hide rfl
  generalize hz : ((((xs.getD k 0).toNat ^^^ x : Nat)) : Int) = z at *
  generalize hcc : xs.getD k 0 = c at *
  have HC := hide hcc
  clear hz hb hcc
  go_wp2_with (at_builtin; refine append_lies _ rfl _ _ rfl w.heap.size (.slice none 0 0) _ 0 [] xs rfl (World.ownsRow_nil _ _ _ _) rfl HL.out (by omega) (Nat.le_refl _) ?_; intro v0 w0 hown0 hgrow0; have B0 := hide ((Below.refl w.heap.size w).grown hgrow0 (Nat.le_refl _) (fun k hk => by cases hk)); obtain ⟨g, cap0, rfl, hg, hcell, hfro, L0⟩ := own_facts hown0 hk; rw [HC.out] at hcell; clear hown0 hgrow0)
  have B1 := hide (B0.out.setCell (p := ⟨g, k, none⟩) hg.out (.int .u8 z))
  have L1 := hide (lies_set (z := z) L0.out hk)
  rw [← HT.out] at L1
  have LB := hide (HL.out.below B1.out)
  clear L0 B0 hcell hfro hxor
  have hz2 : w0.heap.size = (w0.setCell ⟨g, k, none⟩ (.int .u8 z)).heap.size := by simp
  rw [hz2]
  clear hz2
  generalize w0.setCell ⟨g, k, none⟩ (.int .u8 z) = w2 at *
  have S1 := hide (sum_one w2 _ _ 22 LB.out HX.out)
  have BA : Below w2.heap.size w2 (w2.alloc (.cells #[.slice ao xs.length cap] 22)) := (Below.refl _ _).alloc (Nat.le_refl _) _
  have S2 := hide (sum_one (w2.alloc (.cells #[.slice ao xs.length cap] 22)) _ _ 22 (L1.out.below BA) HXT.out)
  have BB : Below w2.heap.size w2 ((w2.alloc (.cells #[.slice ao xs.length cap] 22)).alloc (.cells #[.slice (some ⟨g, 0, none⟩) xs.length cap0] 22)) := BA.alloc (by simp) _
  have HBB := hide (B1.out.trans (BB.mono B1.out.size))
  simp only [World.size_alloc] at S2
  rw [HS.out] at S2
  clear BA BB LB L1 B1 HL HX HXT HT HC hat d1
  have HF := hide (flip_any (moreI 0 xs) (xs.length - 1 - k) x hX (by omega) hxb)
  obtain ⟨f, hfd⟩ : ∃ f : Nat, f = xs.length - 1 - k := ⟨_, rfl⟩
  have hf0 : Hid ((xs.length : Int) - 1 - (k : Int) = (f : Int)) := hide (by omega)
  rw [← hfd] at HF HTL S2
  clear hfd HS
  generalize moreI 0 xs = X at *
  generalize flipN X f x = Y at *
  generalize xs.length = la at *
  refine S1.out.mono ?_
  rintro e w3 ⟨rfl, h3⟩
  rw [h3]
  clear h3 S1
  go_wp2_with fail
  refine S2.out.mono ?_
  rintro e w3 ⟨rfl, h3⟩
  rw [h3]
  clear h3 S2
  have hq : ((X : Int) == (Y : Int)) = ((x : Int) == 0) := by
    rw [Bool.eq_iff_iff]
    simp only [beq_iff_eq]
    have := HTL.out
    omega
  have q2 : ((Y : Int) == (Y : Int)) = true := by simp
  go_wp2_with fail
  rw [hf0.out]
  refine (HF.out _).mono ?_
  rintro e w4 ⟨rfl, hB4⟩
  clear HF
  go_wp2_with fail
  refine (alive_any _).mono ?_
  rintro e w5 ⟨rfl, hB5⟩
  go_wp2_with fail
  go_ret
  have hB6 := HBB.out.trans (hB4.mono HBB.out.size)
  exact ⟨rfl, hB6.trans (hB5.mono hB6.size)⟩
end turned
namespace turnedRow
set_option maxRecDepth 100000 in
theorem lifted (os : Os) (started : os.Started) (H : Type) (enc : TypeId × Value → H) :
    ReturnsInHanded {} Try.checked os 3 .any (Rows.crcTurnedSpec.pre6 enc Try.prog Try.f3 Rows.crcTurnedRow.domain false) (Rows.crcTurnedSpec.post enc Try.prog Try.f3 false true false false) := by
  refine returnsInHanded_of_change (C := Try.checked) own started (by kernel_rfl) Try.func3
    (ChangeSpec.witness6 (enc := enc) (C := Try.checked) false ⟨#[], #[.slice none 0 0, .int .i64 0, .int .u8 0], []⟩ 8 (by kernel_rfl) (by kernel_rfl) (by kernel_rfl) (by kernel_rfl)) ?_
  intro W base args ds gs before hval0 hW hcnd _
  have hval : ∀ (j : Nat) t v, Try.f3.params[j]? = some t → args[j]? = some v → Value.okWide Try.prog W .any base t v := hval0
  have hW' := hW
  obtain ⟨p, q, hA0, hV, rfl, hfz, hnd⟩ := hW
  have hA : DataW.TrodAll enc Try.prog W 0 (fun _ => true) true Try.f3.params.toList args.toList ds p := hA0
  rw [Try.params3] at hA hval
  obtain ⟨v0, vs0, d0, ds0, p0, q0, hargs, rfl, rfl, h0, r0⟩ := trodAll_cons hA
  obtain ⟨v1, vs1, d1, ds1, p1, q1, rfl, rfl, rfl, h1, r1⟩ := trodAll_cons r0
  obtain ⟨v2, vs2, d2, ds2, p2, q2, rfl, rfl, rfl, h2, r2⟩ := trodAll_cons r1
  obtain ⟨rfl, rfl, rfl⟩ := trodAll_nil r2
  obtain rfl : args = #[v0, v1, v2] := by cases args; simp_all
  obtain ⟨rfl, rfl⟩ := trodVars_none hV
  obtain ⟨a0, len0, cap0, rfl⟩ := okWide_slice Try.underlying22 (hval 0 22 v0 rfl rfl)
  have k0 := h0
  have lt0 : ∀ x ∈ p0, x.block < W.heap.size := by obtain ⟨m, hm⟩ := k0; exact DataW.trod_lt m _ _ _ hm
  obtain ⟨xs0, lies0, by0⟩ := lies_of_trod h0
  obtain ⟨a1, rfl, rfl, rfl, w1⟩ := open_int Try.underlying3 (hval 1 3 v1 rfl rfl) h1
  have b1 := bounds_i64 w1
  obtain ⟨a2, rfl, rfl, rfl, w2⟩ := open_int Try.underlying5 (hval 2 5 v2 rfl rfl) h2
  have b2 := bounds_u8 w2
  obtain ⟨m2, rfl⟩ := Int.eq_ofNat_of_zero_le b2.1
  clear hA0 hval0
  refine (turned.walkN _ xs0 a1 m2 W (by omega) lies0 by0).mono fun e W' ⟨he, bel⟩ => ?_
  subst he
  exact ⟨_, rfl, _, _, _, [], _, [], hW', trodAll_mk1 (shut_bool Try.underlying4 _), (trodAll_cons_mk (Below.trod laidOut (by kernel_rfl) (of_decide_eq_true (by kernel_rfl)) k0 bel lt0) (trodAll_cons_mk (shut_int Try.underlying3 w1) (trodAll_cons_mk (shut_int Try.underlying5 w2) trodAll_mk0))), rfl, bel.frame _, fun h => by cases h⟩

theorem over : Rows.crcTurnedRow.holds Try.pinned (OpenSpec.ofChange Rows.crcTurnedSpec) :=
  OpenClaim.holds_of_wide 3 Try.f3 rfl rfl rfl rfl rfl rfl rfl ⟨rfl, rfl, rfl, rfl, rfl⟩ rfl rfl rfl rfl rfl (by kernel_rfl) Try.func3 (by kernel_rfl)
    (of_decide_eq_true (by kernel_rfl)) (by unfold Func.isWrapper; first | (rw [if_pos (by decide +kernel)]; kernel_rfl) | (rw [if_neg (by decide +kernel)]; exact ⟨rfl, rfl⟩))
    (fun os started H enc _ => lifted os started H enc)
end turnedRow

/-- THE STATEMENT. -/
theorem crcTurned_holds : Rows.CrcTurnedSaid := turnedRow.over
#print axioms crcTurned_holds
end Go.Proofs.Ytgflokjfdcgpbab
