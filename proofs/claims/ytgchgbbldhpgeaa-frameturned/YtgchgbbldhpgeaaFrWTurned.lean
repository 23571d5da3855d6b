/-
  Walk of the law FrameTurned, from what package frame must answer. Own work.
-/
import Derived.Test.YtgchgbbldhpgeaaFrFacts
namespace Go.Proofs.Ytgchgbbldhpgeaa
open Go.RowKit

namespace turned4
theorem turnB_bytes {xs : List Int} {k x : Nat} (hx : ∀ c ∈ xs, 0 ≤ c ∧ c < 256) (h : x < 256) : ∀ c ∈ turnB xs k x, 0 ≤ c ∧ c < 256 := by
  intro c hc
  unfold turnB at hc
  rcases List.mem_or_eq_of_mem_set hc with h1 | h1
  · exact hx c h1
  · have hb := getD_byte hx k
    have : (xs.getD k 0).toNat ^^^ x < 256 := Nat.xor_lt_two_pow (n := 8) (by omega) h
    subst h1
    omega
theorem lies_set {w : World} {g cap k : Nat} {xs : List Int} {z : Int} (h : Lies .u8 w (.slice (some ⟨g, 0, none⟩) xs.length cap) xs) (hk : k < xs.length) :
    Lies .u8 (w.setCell ⟨g, k, none⟩ (.int .u8 z)) (.slice (some ⟨g, 0, none⟩) xs.length cap) (xs.set k z) := by
  rcases h with ⟨rfl, _⟩ | ⟨hne, b, off, cap', e, hb, hl, hm, hc⟩
  · simp at hk
  · cases e
    refine .inr ⟨?_, g, 0, cap, by simp, by simpa using hb, by simpa using hl, hm, fun t ht => ?_⟩
    · intro e
      have := congrArg List.length e
      simp at this
      rw [this] at hk
      simp at hk
    · rw [List.length_set] at ht
      have hct := hc t ht
      rw [Nat.zero_add] at hct ⊢
      by_cases e : k = t
      · subst e
        rw [World.cell?_setCell_same _ _ _ hct]
        simp [List.getD, hk]
      · rw [World.cell?_setCell_other _ _ _ _ (by intro hh; cases hh; exact e rfl), hct]
        simp [List.getD, e]
theorem own_facts {w0 : World} {base k : Nat} {v0 : Value} {xs : List Int} (h : w0.ownsRow base 5 1 v0 xs.length (xs.map (Value.int .u8))) (hk : k < xs.length) :
    ∃ g cap0 : Nat, v0 = .slice (some ⟨g, 0, none⟩) xs.length cap0 ∧ Hid (base ≤ g) ∧ w0.cell? ⟨g, k, none⟩ = some (.int .u8 (xs.getD k 0)) ∧ w0.frozen? ⟨g, k, none⟩ = false ∧ Hid (Lies .u8 w0 v0 xs) := by
  have hlie := Lies.of_own h
  obtain ⟨_, ⟨_, h0⟩ | ⟨g, c0, cur, rfl, hg, hh, hn, hcap, hsz, htake⟩⟩ := h
  · omega
  · refine ⟨g, c0, rfl, hide hg, ?_, ?_, hide hlie⟩
    · rcases hlie with ⟨rfl, _⟩ | ⟨_, b, off, cap', e, _, _, _, hc⟩
      · simp at hk
      · cases e
        have := hc k hk
        rwa [Nat.zero_add] at this
    · unfold World.frozen?
      rw [hh]
      simp
set_option maxRecDepth 100000 in
set_option maxHeartbeats 3200000 in
theorem walkN (F : FrameOK) (vl : Value) (ys : List Int) (p : Int) (x : Nat) (w : World) (hxb : x < 256) (hL : Lies .u8 w vl ys) (hy : ∀ c ∈ ys, 0 ≤ c ∧ c < 256) :
    Calls Try.prog 8 #[vl, .int .i64 p, .int .u8 x] w fun e w' => e = .returned (.bool true) ∧ Below w.heap.size w w' := by
  obtain ⟨al, cl, rfl⟩ := hL.shape
  have HL := hide hL
  have HY := hide hy
  clear hL hy
  by_cases hll : 6000 < ys.length
  · have d1 : decide ((6000 : Int) < (ys.length : Int)) = true := by simp; omega
    go_enter Try.func8, Try.ntmps8
    go_wp2_with fail
    refine (frlong_any _ _ _ _).mono ?_
    rintro e w1 ⟨rfl, h1⟩
    rw [h1, d1]
    clear h1
    go_wp2_with fail
    refine (fralive_any F _).mono ?_
    rintro e w2 ⟨rfl, hB2⟩
    have HB2 := hide (hB2)
    clear hB2
    go_wp2_with fail
    go_ret
    exact ⟨rfl, HB2.out⟩
  · have d1 : decide ((6000 : Int) < (ys.length : Int)) = false := by simp; omega
    by_cases hx0 : x = 0
    · subst hx0
      go_enter Try.func8, Try.ntmps8
      go_wp2_with fail
      refine (frlong_any _ _ _ _).mono ?_
      rintro e w1 ⟨rfl, h1⟩
      rw [h1, d1]
      clear h1
      go_wp2_with fail
      refine (fralive_any F _).mono ?_
      rintro e w2 ⟨rfl, hB2⟩
      have HB2 := hide (hB2)
      clear hB2
      go_wp2_with fail
      go_ret
      exact ⟨rfl, HB2.out⟩
    · have hx0' : ¬ ((x : Int) = 0) := by omega
      go_enter Try.func8, Try.ntmps8
      go_wp2_with fail
      refine (frlong_any _ _ _ _).mono ?_
      rintro e w1 ⟨rfl, h1⟩
      rw [h1, d1]
      clear h1
      go_wp2_with fail
      refine (F.put _ _ [] ys _ (Lies.nil _ _) HL.out HY.out (by simp)).mono ?_
      rintro e w1 ⟨v1, rfl, ho1, hB1⟩
      have HB1 := hide hB1
      clear hB1
      by_cases h4 : ys.length ≤ 4096
      · rw [put_ok ys h4] at ho1 ⊢
        have HFB := hide (frameF_bytes ys HY.out)
        have hfl := frameF_length ys
        dsimp only at ho1 ⊢
        obtain ⟨k, hk, hat⟩ := at_index4 p (frameF ys).length (by omega) (by omega)
        have HN := hide (next_turned ys h4 HY.out k x (by omega) hx0 hxb)
        have HTB := hide (turnB_bytes (k := k) HFB.out hxb)
        have hfr : (frameF ys).length ≤ 4104 := by omega
        have hfr0 : 8 ≤ (frameF ys).length := by omega
        clear hfl
        generalize frameF ys = fr at *
        have hne : ¬ ((fr.length : Int) = 0) := by omega
        obtain ⟨g, cap0, e1, hg, hcell, hfro, L0⟩ := own_facts ho1 hk
        subst e1
        clear ho1
        have hb := getD_byte HFB.out k
        have hxor : bits .xor .u8 (fr.getD k 0) (x : Int) = (((fr.getD k 0).toNat ^^^ x : Nat) : Int) := by
          rw [u8_xor _ _ hb.1 hb.2 (by omega) (by omega)]
          rfl
        have HT : Hid (turnB fr k x = fr.set k (((fr.getD k 0).toNat ^^^ x : Nat) : Int)) := hide rfl
        have htl : (turnB fr k x).length = fr.length := by unfold turnB; simp
        generalize ((((fr.getD k 0).toNat ^^^ x : Nat)) : Int) = z at *
        generalize fr.getD k 0 = c at *
        clear hb
        have B1 := hide (HB1.out.setCell (p := ⟨g, k, none⟩) hg.out (.int .u8 z))
        have L1 := hide (lies_set (z := z) L0.out hk)
        rw [← HT.out] at L1
        have hkI : (k : Int) < fr.length := by omega
        go_wp2_with fail
        clear hcell hfro hxor hat HT HFB HB1 L0
        generalize w1.setCell ⟨g, k, none⟩ (.int .u8 z) = w2 at *
        refine (F.next _ (turnB fr k x) _ L1.out HTB.out (by omega)).mono ?_
        rintro e w3 ⟨v3, rfl, hL3, hB3⟩
        obtain ⟨a3, c3, e3⟩ := hL3.shape
        subst e3
        have HB3 := hide (B1.out.trans (hB3.mono B1.out.size))
        have hcd := next_code (turnB fr k x)
        clear hL3 hB3
        generalize nextF (turnB fr k x) = nx at *
        obtain ⟨ld, n, code⟩ := nx
        dsimp only at *
        clear htl L1 HTB hkI hk
        by_cases hc : code = 0
        · subst hc
          have hlen : ¬ ((ld.length : Int) = (ys.length : Int)) := by have := HN.out rfl; omega
          go_wp2_with fail
          refine (fralive_any F _).mono ?_
          rintro e w6 ⟨rfl, hB6⟩
          have HB6 := hide (HB3.out.trans (hB6.mono HB3.out.size))
          clear hB6
          go_wp2_with fail
          go_ret
          exact ⟨ret_bool (by simpa using hlen), HB6.out⟩
        · go_wp2_with fail
          refine (fralive_any F _).mono ?_
          rintro e w6 ⟨rfl, hB6⟩
          have HB6 := hide (HB3.out.trans (hB6.mono HB3.out.size))
          clear hB6
          go_wp2_with fail
          go_ret
          exact ⟨rfl, HB6.out⟩
      · rw [put_no [] ys h4] at ho1 ⊢
        dsimp only at ho1 ⊢
        obtain ⟨a1, c1, e1⟩ := (Lies.of_own ho1).shape
        subst e1
        clear ho1
        go_wp2_with fail
        refine (fralive_any F _).mono ?_
        rintro e w6 ⟨rfl, hB6⟩
        have HB6 := hide (HB1.out.trans (hB6.mono HB1.out.size))
        clear hB6
        go_wp2_with fail
        go_ret
        exact ⟨rfl, HB6.out⟩
end turned4
end Go.Proofs.Ytgchgbbldhpgeaa
