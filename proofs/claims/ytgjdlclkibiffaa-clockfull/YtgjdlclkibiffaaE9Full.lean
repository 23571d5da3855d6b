/-
  ClockFull: no more than 1024 timers are there; a clock that nobody made answers an error. Over any clock that fulfils the bundle. Own work.
-/
import Derived.Test.YtgjdlclkibiffaaCkLaw
import Derived.Test.YtgjdlclkibiffaaE9Apart
import Derived.BigQuiet
import Derived.Deep.RegionHeld
import Derived.Deep.LoopGhost
namespace Go.Proofs.Ytgjdlclkibiffaa
open Go.RowKit

section
variable {D : World → Nat → (Nat → Prop) → Ck → Prop}
/-- What a clock that nobody made must answer. -/
structure NobDo9 (Nb : World → Value → Prop) : Prop where
  below : ∀ {w w' : World} {v : Value}, Nb w v → Below w.heap.size w w' → Nb w' v
  tick : ∀ {w : World} {v : Value}, Nb w v → Calls Try.prog 11 #[v] w fun e w' => ∃ u, e = .returned (.tuple #[u, .int .i64 2]) ∧ RSrc nmE w' u [] ∧ Below w.heap.size w w'
  next : ∀ {w : World} {v : Value}, Nb w v → Calls Try.prog 22 #[v] w fun e w' => e = .returned (.tuple #[.agg (nmA nilN), .int .u32 0, .bool false]) ∧ Below w.heap.size w w'
  unt : ∀ {w : World} {v : Value} (n : NmP), Nb w v → Calls Try.prog 20 #[v, .agg (nmA n)] w fun e w' => e = .returned (.tuple #[.int .u32 0, .bool false]) ∧ Below w.heap.size w w'
  set : ∀ {w : World} {v : Value} (n : NmP) (after : Int), Nb w v → Calls Try.prog 18 #[v, .agg (nmA n), .int .u32 after] w fun e w' => e = .returned (.int .i64 2) ∧ Below w.heap.size w w'
  stop : ∀ {w : World} {v : Value} (n : NmP), Nb w v → Calls Try.prog 15 #[v, .agg (nmA n)] w fun e w' => e = .returned (.bool false) ∧ Below w.heap.size w w'
  now : ∀ {w : World} {v : Value}, Nb w v → Calls Try.prog 24 #[v] w fun e w' => e = .returned (.int .u32 0) ∧ Below w.heap.size w w'
  len : ∀ {w : World} {v : Value}, Nb w v → Calls Try.prog 25 #[v] w fun e w' => e = .returned (.int .i64 0) ∧ Below w.heap.size w w'
/-- The i-th name. -/
def nmI (i : Nat) : NmP := (0, 0, 0, (i : Int))
theorem nmI_ok {i : Nat} (h : i < 2000) : nmOk (nmI i) := by unfold nmOk txOk nmI; simp; omega
theorem nmI_inj {i j : Nat} (h : nmI i = nmI j) : i = j := by unfold nmI at h; simp at h; omega
def FullAt (i : Nat) (c : Ck) : Prop := c.now = 0 ∧ c.l.length = min i 1024 ∧ ∀ j, c.has (nmI j) = true ↔ (1 ≤ j ∧ j ≤ min i 1024)
theorem full_new : FullAt 0 newC := by
  refine ⟨rfl, rfl, fun j => ?_⟩
  constructor
  · intro h; simp [Ck.has, newC] at h
  · intro h; omega
theorem full_A {i : Nat} {c : Ck} (h : FullAt i c) : setA c (nmI (i + 1)) 5 = if i < 1024 then 0 else 5 := by
  obtain ⟨h1, h2, h3⟩ := h
  have hf : c.has (nmI (i + 1)) = false := by
    cases hh : c.has (nmI (i + 1))
    · rfl
    · have := (h3 _).1 hh; omega
  unfold setA
  rw [if_neg (by decide), if_neg (by rw [h1]; decide)]
  by_cases e : i < 1024
  · rw [if_pos e, if_neg (by rintro ⟨_, h⟩; omega)]
  · rw [if_neg e, if_pos ⟨hf, by omega⟩]
theorem full_step {i : Nat} {c : Ck} (hok : c.Ok) (h : FullAt i c) : FullAt (i + 1) (setD c (nmI (i + 1)) 5) := by
  have hA := full_A h
  obtain ⟨h1, h2, h3⟩ := h
  have hf : c.has (nmI (i + 1)) = false := by
    cases hh : c.has (nmI (i + 1))
    · rfl
    · have := (h3 _).1 hh; omega
  by_cases e : i < 1024
  · rw [if_pos e] at hA
    refine ⟨by rw [set_now]; exact h1, by rw [set_len_yes hok hA, hf, h2]; simp; omega, fun j => ?_⟩
    rw [has_iff]
    constructor
    · rintro ⟨x, hx⟩
      rcases (mem_set hA _).1 hx with hx | ⟨hx, _⟩
      · have := nmI_inj (congrArg Prod.fst hx)
        omega
      · have := (h3 j).1 ((has_iff _ _).2 ⟨x, hx⟩)
        omega
    · intro hj
      by_cases ej : j = i + 1
      · subst ej
        exact ⟨_, (mem_set hA _).2 (.inl rfl)⟩
      · obtain ⟨x, hx⟩ := (has_iff _ _).1 ((h3 j).2 (by omega))
        exact ⟨x, (mem_set hA _).2 (.inr ⟨hx, fun e2 => ej (nmI_inj e2)⟩)⟩
  · rw [if_neg e] at hA
    have hD : setD c (nmI (i + 1)) 5 = c := by unfold setD; rw [if_neg (by rw [hA]; decide)]
    rw [hD]
    refine ⟨h1, by omega, fun j => ?_⟩
    rw [h3 j]
    omega
theorem full_again {i : Nat} {c : Ck} (hok : c.Ok) (h : FullAt i c) (hi : 0 < i) : setA c (nmI 1) 9 = 0 ∧ (setD c (nmI 1) 9).l.length = min i 1024 := by
  obtain ⟨h1, h2, h3⟩ := h
  have ht : c.has (nmI 1) = true := (h3 1).2 (by omega)
  have hA : setA c (nmI 1) 9 = 0 := by
    unfold setA
    rw [if_neg (by decide), if_neg (by rw [h1]; decide), if_neg (by rintro ⟨hf, _⟩; rw [ht] at hf; cases hf)]
  exact ⟨hA, by rw [set_len_yes hok hA, ht, h2]; rfl⟩
set_option maxRecDepth 100000 in
set_option maxHeartbeats 6400000 in
theorem walkF9 (H : ClockDo D) {Nb : World → Value → Prop} (HNB : NobDo9 Nb) (hnil : ∀ w, Nb w (.pointer none)) (hzero : ∀ w z, Box w z #[.int .u32 0, .map none, .slice none 0 0, .slice none 0 0, .slice none 0 0, .slice none 0 0, .slice none 0 0, .slice none 0 0, .slice none 0 0, .slice none 0 0, .slice none 0 0, .slice none 0 0, .slice none 0 0, .slice none 0 0, .slice none 0 0, .slice none 0 0, .slice none 0 0, .slice none 0 0, .slice none 0 0, .slice none 0 0, .slice none 0 0, .slice none 0 0, .slice none 0 0, .slice none 0 0, .slice none 0 0, .slice none 0 0, .slice none 0 0, .slice none 0 0, .slice none 0 0, .slice none 0 0, .slice none 0 0, .slice none 0 0, .slice none 0 0, .slice none 0 0, .slice none 0 0, .slice none 0 0, .slice none 0 0, .slice none 0 0, .slice none 0 0, .slice none 0 0, .slice none 0 0, .slice none 0 0, .slice none 0 0, .slice none 0 0, .slice none 0 0, .slice none 0 0, .slice none 0 0, .slice none 0 0, .slice none 0 0, .slice none 0 0, .slice none 0 0, .slice none 0 0, .slice none 0 0, .slice none 0 0, .slice none 0 0, .slice none 0 0, .slice none 0 0, .slice none 0 0, .slice none 0 0, .slice none 0 0, .slice none 0 0, .slice none 0 0, .slice none 0 0, .slice none 0 0, .slice none 0 0, .slice none 0 0] 69 → Nb w (.pointer (some ⟨z, 0, none⟩))) (m : Nat) (n : NmP) (w : World) (hm : m < 65536) (hn : nmOk n) :
    Calls Try.prog 7 #[.int .u16 (m : Int), .agg (nmA n)] w fun e w' => e = .returned (.bool true) ∧ Below w.heap.size w w' := by
  have hzv : ∀ W, (zeroValue 69).run Try.prog W = .ok (.agg #[.int .u32 0, .map none, .slice none 0 0, .slice none 0 0, .slice none 0 0, .slice none 0 0, .slice none 0 0, .slice none 0 0, .slice none 0 0, .slice none 0 0, .slice none 0 0, .slice none 0 0, .slice none 0 0, .slice none 0 0, .slice none 0 0, .slice none 0 0, .slice none 0 0, .slice none 0 0, .slice none 0 0, .slice none 0 0, .slice none 0 0, .slice none 0 0, .slice none 0 0, .slice none 0 0, .slice none 0 0, .slice none 0 0, .slice none 0 0, .slice none 0 0, .slice none 0 0, .slice none 0 0, .slice none 0 0, .slice none 0 0, .slice none 0 0, .slice none 0 0, .slice none 0 0, .slice none 0 0, .slice none 0 0, .slice none 0 0, .slice none 0 0, .slice none 0 0, .slice none 0 0, .slice none 0 0, .slice none 0 0, .slice none 0 0, .slice none 0 0, .slice none 0 0, .slice none 0 0, .slice none 0 0, .slice none 0 0, .slice none 0 0, .slice none 0 0, .slice none 0 0, .slice none 0 0, .slice none 0 0, .slice none 0 0, .slice none 0 0, .slice none 0 0, .slice none 0 0, .slice none 0 0, .slice none 0 0, .slice none 0 0, .slice none 0 0, .slice none 0 0, .slice none 0 0, .slice none 0 0, .slice none 0 0]) W := fun W => by kernel_rfl
  have hX0 := box_new w (nmA n) 34
  have hA0 := alloc_below9 w (.cells (nmA n) 34)
  obtain ⟨w0, hw0⟩ : ∃ w0, w0 = w.alloc (.cells (nmA n) 34) := ⟨_, rfl⟩
  rw [← hw0] at hX0 hA0
  have hW0 := hw0.symm
  have HXN := hide hX0
  have HB0 := hide hA0
  have HON := hide hn
  have HNIL := hide hnil
  have HZERO := hide hzero
  clear hX0 hA0 hw0 hn hnil hzero
  obtain ⟨kk, hkk⟩ : ∃ kk, kk = m % 1100 := ⟨_, rfl⟩
  have hk1 : kk < 1100 := by omega
  have hmod : (m : Int) % 1100 = (kk : Int) := by omega
  have htmod : (m : Int).tmod 1100 = (kk : Int) := by rw [Int.tmod_eq_emod_of_nonneg (by omega)]; omega
  clear hkk
  go_enter Try.func7, Try.ntmps7
  go_wp2_with fail
  refine (H.new w0).mono ?_
  rintro e W1 ⟨q, F, rfl, hD1, hF1, hB1⟩
  have HS : Hid (Since9 D w0 q newC W1 F) := hide ⟨hD1, hF1, hB1⟩
  have heq := fun W => eq_ptr9 W ⟨q, 0, none⟩
  clear hD1 hF1 hB1 hW0
  have HS0 := HS
  clear HS
  go_wp2_with fail
  go_loopg [25] kk (fun g i wr => ∃ (k : Nat) (c : Ck) (F : Nat → Prop), k + g = kk ∧ i = .int .i64 k ∧ Hid (Since9 D w0 q c wr F) ∧ Hid (FullAt k c))
  case atStart => exact ⟨0, newC, F, by omega, rfl, HS0, hide full_new⟩
  case round =>
    obtain ⟨i, c, F, hi, rfl, HS, HR⟩ := hrel
    clear HS0
    have HOC := hide (H.ok HS.out.dd)
    cases gk with
    | succ g =>
      have hz : (i : Int) < (kk : Int) := by omega
      have HST := hide (full_step HOC.out HR.out)
      have hwr1 : IntKind.u32.wrap (i : Int) = (i : Int) := by rw [IntKind.wrap_u32]; omega
      have hwr2 : IntKind.u32.wrap ((i : Int) + 1) = (i : Int) + 1 := by rw [IntKind.wrap_u32]; omega
      have C := H.set (nmI (i + 1)) 5 HS.out.dd (nmI_ok (by omega)) (by decide) (by decide)
      rw [full_A HR.out] at C
      have hnv : nmA (nmI (i + 1)) = #[.int .u8 0, .int .u8 0, .int .u32 0, .int .u32 ((i : Int) + 1)] := by unfold nmI; simp
      rw [hnv] at C
      by_cases hlt : i < 1024
      · rw [if_pos hlt] at C
        have d1 : decide ((i : Int) < 1024) = true := decide_eq_true (by omega)
        have HC := hide C
        clear C hnv
        go_wp2_with fail
        refine HC.out.mono ?_
        rintro e W2 ⟨rfl, h2⟩
        obtain ⟨F2, hS2⟩ := HS.out.did h2
        replace HS := hide hS2
        clear h2 hS2 HC
        go_wp2_with fail
        go_roundg g
        case measure => omega
        case rel => exact ⟨i + 1, _, F2, by omega, by first | rfl | go_num, HS, HST⟩
      · rw [if_neg hlt] at C
        have d1 : decide ((i : Int) < 1024) = false := decide_eq_false (by omega)
        have HC := hide C
        clear C hnv
        go_wp2_with fail
        refine HC.out.mono ?_
        rintro e W2 ⟨rfl, h2⟩
        obtain ⟨F2, hS2⟩ := HS.out.did h2
        replace HS := hide hS2
        clear h2 hS2 HC
        go_wp2_with fail
        go_roundg g
        case measure => omega
        case rel => exact ⟨i + 1, _, F2, by omega, by first | rfl | go_num, HS, HST⟩
    | zero =>
      obtain rfl : i = kk := by omega
      have hz : ¬ ((i : Int) < (i : Int)) := by omega
      by_cases hpos : 0 < i
      · obtain ⟨hA, hlen⟩ := full_again HOC.out HR.out hpos
        have d0 : decide ((i : Int) > 0) = true := decide_eq_true (by omega)
        have C := H.set (nmI 1) 9 HS.out.dd (nmI_ok (by omega)) (by decide) (by decide)
        rw [hA] at C
        have hnv : nmA (nmI 1) = #[.int .u8 0, .int .u8 0, .int .u32 0, .int .u32 1] := by unfold nmI; simp
        rw [hnv] at C
        have HC := hide C
        have HLN := hide hlen
        clear C hnv hA hlen
        go_wp2_with fail
        refine HC.out.mono ?_
        rintro e W2 ⟨rfl, h2⟩
        obtain ⟨F2, hS2⟩ := HS.out.did h2
        replace HS := hide hS2
        have C := H.len HS.out.dd
        rw [HLN.out] at C
        have HC := hide C
        clear C h2 hS2
        go_wp2_with fail
        refine HC.out.mono ?_
        rintro e WL ⟨rfl, mL, hwL⟩
        have hBL : Below W2.heap.size W2 WL := hwL ▸ below_drewN9 W2 mL
        replace HS := hide (HS.out.below H hBL)
        clear hwL hBL HC
        by_cases hbig : i ≤ 1024
        · rw [Nat.min_eq_left hbig]
          have dm : ¬ ((1024 : Int) < (i : Int)) := by omega
          have hXZ := box_new WL #[.int .u32 0, .map none, .slice none 0 0, .slice none 0 0, .slice none 0 0, .slice none 0 0, .slice none 0 0, .slice none 0 0, .slice none 0 0, .slice none 0 0, .slice none 0 0, .slice none 0 0, .slice none 0 0, .slice none 0 0, .slice none 0 0, .slice none 0 0, .slice none 0 0, .slice none 0 0, .slice none 0 0, .slice none 0 0, .slice none 0 0, .slice none 0 0, .slice none 0 0, .slice none 0 0, .slice none 0 0, .slice none 0 0, .slice none 0 0, .slice none 0 0, .slice none 0 0, .slice none 0 0, .slice none 0 0, .slice none 0 0, .slice none 0 0, .slice none 0 0, .slice none 0 0, .slice none 0 0, .slice none 0 0, .slice none 0 0, .slice none 0 0, .slice none 0 0, .slice none 0 0, .slice none 0 0, .slice none 0 0, .slice none 0 0, .slice none 0 0, .slice none 0 0, .slice none 0 0, .slice none 0 0, .slice none 0 0, .slice none 0 0, .slice none 0 0, .slice none 0 0, .slice none 0 0, .slice none 0 0, .slice none 0 0, .slice none 0 0, .slice none 0 0, .slice none 0 0, .slice none 0 0, .slice none 0 0, .slice none 0 0, .slice none 0 0, .slice none 0 0, .slice none 0 0, .slice none 0 0, .slice none 0 0] 69
          have hBz := alloc_below9 WL (.cells #[.int .u32 0, .map none, .slice none 0 0, .slice none 0 0, .slice none 0 0, .slice none 0 0, .slice none 0 0, .slice none 0 0, .slice none 0 0, .slice none 0 0, .slice none 0 0, .slice none 0 0, .slice none 0 0, .slice none 0 0, .slice none 0 0, .slice none 0 0, .slice none 0 0, .slice none 0 0, .slice none 0 0, .slice none 0 0, .slice none 0 0, .slice none 0 0, .slice none 0 0, .slice none 0 0, .slice none 0 0, .slice none 0 0, .slice none 0 0, .slice none 0 0, .slice none 0 0, .slice none 0 0, .slice none 0 0, .slice none 0 0, .slice none 0 0, .slice none 0 0, .slice none 0 0, .slice none 0 0, .slice none 0 0, .slice none 0 0, .slice none 0 0, .slice none 0 0, .slice none 0 0, .slice none 0 0, .slice none 0 0, .slice none 0 0, .slice none 0 0, .slice none 0 0, .slice none 0 0, .slice none 0 0, .slice none 0 0, .slice none 0 0, .slice none 0 0, .slice none 0 0, .slice none 0 0, .slice none 0 0, .slice none 0 0, .slice none 0 0, .slice none 0 0, .slice none 0 0, .slice none 0 0, .slice none 0 0, .slice none 0 0, .slice none 0 0, .slice none 0 0, .slice none 0 0, .slice none 0 0, .slice none 0 0] 69)
          obtain ⟨WZ, hwz⟩ : ∃ WZ, WZ = WL.alloc (.cells #[.int .u32 0, .map none, .slice none 0 0, .slice none 0 0, .slice none 0 0, .slice none 0 0, .slice none 0 0, .slice none 0 0, .slice none 0 0, .slice none 0 0, .slice none 0 0, .slice none 0 0, .slice none 0 0, .slice none 0 0, .slice none 0 0, .slice none 0 0, .slice none 0 0, .slice none 0 0, .slice none 0 0, .slice none 0 0, .slice none 0 0, .slice none 0 0, .slice none 0 0, .slice none 0 0, .slice none 0 0, .slice none 0 0, .slice none 0 0, .slice none 0 0, .slice none 0 0, .slice none 0 0, .slice none 0 0, .slice none 0 0, .slice none 0 0, .slice none 0 0, .slice none 0 0, .slice none 0 0, .slice none 0 0, .slice none 0 0, .slice none 0 0, .slice none 0 0, .slice none 0 0, .slice none 0 0, .slice none 0 0, .slice none 0 0, .slice none 0 0, .slice none 0 0, .slice none 0 0, .slice none 0 0, .slice none 0 0, .slice none 0 0, .slice none 0 0, .slice none 0 0, .slice none 0 0, .slice none 0 0, .slice none 0 0, .slice none 0 0, .slice none 0 0, .slice none 0 0, .slice none 0 0, .slice none 0 0, .slice none 0 0, .slice none 0 0, .slice none 0 0, .slice none 0 0, .slice none 0 0, .slice none 0 0] 69) := ⟨_, rfl⟩
          rw [← hwz] at hXZ hBz
          have hXs := box_new WZ #[.pointer none, .pointer (some ⟨WL.heap.size, 0, none⟩)] 23
          have hBs := alloc_below9 WZ (.cells #[.pointer none, .pointer (some ⟨WL.heap.size, 0, none⟩)] 23)
          obtain ⟨WS, hws⟩ : ∃ WS, WS = WZ.alloc (.cells #[.pointer none, .pointer (some ⟨WL.heap.size, 0, none⟩)] 23) := ⟨_, rfl⟩
          rw [← hws] at hXs hBs
          have hWZ := hwz.symm
          have hWS := hws.symm
          have HXZ := hide (hXZ.belowI hBs)
          have HXS := hide hXs
          have HXN2 := hide (HXN.out.belowI ((HS.out.bb.trans ((hBz.trans (hBs.mono hBz.size)).mono HS.out.bb.size))))
          have HBS := hide (HB0.out.trans ((HS.out.bb.trans ((hBz.trans (hBs.mono hBz.size)).mono HS.out.bb.size)).mono HB0.out.size))
          clear hXZ hBz hwz hXs hBs hws
          go_wp2_with fail
          clear hWZ hWS
          go_loopg [69] 2 (fun g i wr => ∃ k : Nat, k + g = 2 ∧ i = .int .i64 k ∧ Hid (Below WS.heap.size WS wr))
          case atStart => exact ⟨0, by omega, rfl, hide (Below.refl _ _)⟩
          case round =>
            obtain ⟨k, hk, rfl, HB⟩ := hrel
            cases gk with
            | zero =>
              obtain rfl : k = 2 := by omega
              go_wp2_with fail
              refine (alive_by9 H _).mono ?_
              rintro e Z9 ⟨rfl, hB⟩
              have HB9 := hide (HBS.out.trans ((HB.out.trans (hB.mono HB.out.size)).mono HBS.out.size))
              clear hB
              go_wp2_with fail
              go_ret
              exact ⟨rfl, HB9.out⟩
            | succ g =>
              have hgp : ∃ gp, wr.cell? ⟨WZ.heap.size, 0 + k, none⟩ = some gp ∧ Nb wr gp := by
                have hx := HXS.out.belowI HB.out
                rcases (show k = 0 ∨ k = 1 by omega) with rfl | rfl
                · exact ⟨_, hx.cell 0 _ rfl, HNIL.out _⟩
                · exact ⟨_, hx.cell 1 _ rfl, HZERO.out _ _ (HXZ.out.belowI HB.out)⟩
              obtain ⟨gp, hgc, hnb⟩ := hgp
              rw [Nat.zero_add] at hgc
              have HNBd := hide hnb
              have hzk : (k : Int) < 2 := by omega
              clear hnb
              go_wp2_with fail
              refine (HNB.tick HNBd.out).mono ?_
              rintro e Z1 ⟨u1, rfl, hL1, hB⟩
              obtain ⟨a1, c1, hu1, _⟩ := hL1.shape
              subst hu1
              replace HNBd := hide (HNB.below HNBd.out hB)
              replace HB := hide (HB.out.trans (hB.mono HB.out.size))
              clear hB hL1 hgc
              go_wp2_with fail
              refine (HNB.next HNBd.out).mono ?_
              rintro e Z2 ⟨rfl, hB⟩
              have hA := alloc_below9 Z2 (.cells (nmA nilN) 47)
              have hB2 := hB.trans (hA.mono hB.size)
              obtain ⟨Z3, hz3⟩ : ∃ Z3, Z3 = Z2.alloc (.cells (nmA nilN) 47) := ⟨_, rfl⟩
              rw [← hz3] at hB2
              have hZ3 := hz3.symm
              replace HNBd := hide (HNB.below HNBd.out hB2)
              replace HB := hide (HB.out.trans (hB2.mono HB.out.size))
              clear hB hA hB2 hz3
              have x0 := (HXN2.out.belowI HB.out).cell 0 _ rfl
              have x1 := (HXN2.out.belowI HB.out).cell 1 _ rfl
              have x2 := (HXN2.out.belowI HB.out).cell 2 _ rfl
              have x3 := (HXN2.out.belowI HB.out).cell 3 _ rfl
              go_wp2_with fail
              refine (theirs_any n _).mono ?_
              rintro e ZT ⟨rfl, hB⟩
              replace HNBd := hide (HNB.below HNBd.out hB)
              replace HB := hide (HB.out.trans (hB.mono HB.out.size))
              clear hB x0 x1 x2 x3
              go_wp2_with fail
              refine (HNB.unt n HNBd.out).mono ?_
              rintro e ZC ⟨rfl, hB⟩
              replace HNBd := hide (HNB.below HNBd.out hB)
              replace HB := hide (HB.out.trans (hB.mono HB.out.size))
              clear hB
              clear hZ3
              have x0 := (HXN2.out.belowI HB.out).cell 0 _ rfl
              have x1 := (HXN2.out.belowI HB.out).cell 1 _ rfl
              have x2 := (HXN2.out.belowI HB.out).cell 2 _ rfl
              have x3 := (HXN2.out.belowI HB.out).cell 3 _ rfl
              go_wp2_with fail
              refine (theirs_any n _).mono ?_
              rintro e ZT ⟨rfl, hB⟩
              replace HNBd := hide (HNB.below HNBd.out hB)
              replace HB := hide (HB.out.trans (hB.mono HB.out.size))
              clear hB x0 x1 x2 x3
              go_wp2_with fail
              refine (HNB.set n 1 HNBd.out).mono ?_
              rintro e ZC ⟨rfl, hB⟩
              replace HNBd := hide (HNB.below HNBd.out hB)
              replace HB := hide (HB.out.trans (hB.mono HB.out.size))
              clear hB
              have x0 := (HXN2.out.belowI HB.out).cell 0 _ rfl
              have x1 := (HXN2.out.belowI HB.out).cell 1 _ rfl
              have x2 := (HXN2.out.belowI HB.out).cell 2 _ rfl
              have x3 := (HXN2.out.belowI HB.out).cell 3 _ rfl
              go_wp2_with fail
              refine (theirs_any n _).mono ?_
              rintro e ZT ⟨rfl, hB⟩
              replace HNBd := hide (HNB.below HNBd.out hB)
              replace HB := hide (HB.out.trans (hB.mono HB.out.size))
              clear hB x0 x1 x2 x3
              go_wp2_with fail
              refine (HNB.stop n HNBd.out).mono ?_
              rintro e ZC ⟨rfl, hB⟩
              replace HNBd := hide (HNB.below HNBd.out hB)
              replace HB := hide (HB.out.trans (hB.mono HB.out.size))
              clear hB
              go_wp2_with fail
              refine (HNB.now HNBd.out).mono ?_
              rintro e ZC ⟨rfl, hB⟩
              replace HNBd := hide (HNB.below HNBd.out hB)
              replace HB := hide (HB.out.trans (hB.mono HB.out.size))
              clear hB
              go_wp2_with fail
              refine (HNB.len HNBd.out).mono ?_
              rintro e ZC ⟨rfl, hB⟩
              replace HNBd := hide (HNB.below HNBd.out hB)
              replace HB := hide (HB.out.trans (hB.mono HB.out.size))
              clear hB
              go_wp2_with fail
              go_roundg g
              case measure => omega
              case rel => exact ⟨k + 1, by omega, by first | rfl | go_num, HB⟩
        · rw [Nat.min_eq_right (by omega)]
          have dm : (1024 : Int) < (i : Int) := by omega
          have hXZ := box_new WL #[.int .u32 0, .map none, .slice none 0 0, .slice none 0 0, .slice none 0 0, .slice none 0 0, .slice none 0 0, .slice none 0 0, .slice none 0 0, .slice none 0 0, .slice none 0 0, .slice none 0 0, .slice none 0 0, .slice none 0 0, .slice none 0 0, .slice none 0 0, .slice none 0 0, .slice none 0 0, .slice none 0 0, .slice none 0 0, .slice none 0 0, .slice none 0 0, .slice none 0 0, .slice none 0 0, .slice none 0 0, .slice none 0 0, .slice none 0 0, .slice none 0 0, .slice none 0 0, .slice none 0 0, .slice none 0 0, .slice none 0 0, .slice none 0 0, .slice none 0 0, .slice none 0 0, .slice none 0 0, .slice none 0 0, .slice none 0 0, .slice none 0 0, .slice none 0 0, .slice none 0 0, .slice none 0 0, .slice none 0 0, .slice none 0 0, .slice none 0 0, .slice none 0 0, .slice none 0 0, .slice none 0 0, .slice none 0 0, .slice none 0 0, .slice none 0 0, .slice none 0 0, .slice none 0 0, .slice none 0 0, .slice none 0 0, .slice none 0 0, .slice none 0 0, .slice none 0 0, .slice none 0 0, .slice none 0 0, .slice none 0 0, .slice none 0 0, .slice none 0 0, .slice none 0 0, .slice none 0 0, .slice none 0 0] 69
          have hBz := alloc_below9 WL (.cells #[.int .u32 0, .map none, .slice none 0 0, .slice none 0 0, .slice none 0 0, .slice none 0 0, .slice none 0 0, .slice none 0 0, .slice none 0 0, .slice none 0 0, .slice none 0 0, .slice none 0 0, .slice none 0 0, .slice none 0 0, .slice none 0 0, .slice none 0 0, .slice none 0 0, .slice none 0 0, .slice none 0 0, .slice none 0 0, .slice none 0 0, .slice none 0 0, .slice none 0 0, .slice none 0 0, .slice none 0 0, .slice none 0 0, .slice none 0 0, .slice none 0 0, .slice none 0 0, .slice none 0 0, .slice none 0 0, .slice none 0 0, .slice none 0 0, .slice none 0 0, .slice none 0 0, .slice none 0 0, .slice none 0 0, .slice none 0 0, .slice none 0 0, .slice none 0 0, .slice none 0 0, .slice none 0 0, .slice none 0 0, .slice none 0 0, .slice none 0 0, .slice none 0 0, .slice none 0 0, .slice none 0 0, .slice none 0 0, .slice none 0 0, .slice none 0 0, .slice none 0 0, .slice none 0 0, .slice none 0 0, .slice none 0 0, .slice none 0 0, .slice none 0 0, .slice none 0 0, .slice none 0 0, .slice none 0 0, .slice none 0 0, .slice none 0 0, .slice none 0 0, .slice none 0 0, .slice none 0 0, .slice none 0 0] 69)
          obtain ⟨WZ, hwz⟩ : ∃ WZ, WZ = WL.alloc (.cells #[.int .u32 0, .map none, .slice none 0 0, .slice none 0 0, .slice none 0 0, .slice none 0 0, .slice none 0 0, .slice none 0 0, .slice none 0 0, .slice none 0 0, .slice none 0 0, .slice none 0 0, .slice none 0 0, .slice none 0 0, .slice none 0 0, .slice none 0 0, .slice none 0 0, .slice none 0 0, .slice none 0 0, .slice none 0 0, .slice none 0 0, .slice none 0 0, .slice none 0 0, .slice none 0 0, .slice none 0 0, .slice none 0 0, .slice none 0 0, .slice none 0 0, .slice none 0 0, .slice none 0 0, .slice none 0 0, .slice none 0 0, .slice none 0 0, .slice none 0 0, .slice none 0 0, .slice none 0 0, .slice none 0 0, .slice none 0 0, .slice none 0 0, .slice none 0 0, .slice none 0 0, .slice none 0 0, .slice none 0 0, .slice none 0 0, .slice none 0 0, .slice none 0 0, .slice none 0 0, .slice none 0 0, .slice none 0 0, .slice none 0 0, .slice none 0 0, .slice none 0 0, .slice none 0 0, .slice none 0 0, .slice none 0 0, .slice none 0 0, .slice none 0 0, .slice none 0 0, .slice none 0 0, .slice none 0 0, .slice none 0 0, .slice none 0 0, .slice none 0 0, .slice none 0 0, .slice none 0 0, .slice none 0 0] 69) := ⟨_, rfl⟩
          rw [← hwz] at hXZ hBz
          have hXs := box_new WZ #[.pointer none, .pointer (some ⟨WL.heap.size, 0, none⟩)] 23
          have hBs := alloc_below9 WZ (.cells #[.pointer none, .pointer (some ⟨WL.heap.size, 0, none⟩)] 23)
          obtain ⟨WS, hws⟩ : ∃ WS, WS = WZ.alloc (.cells #[.pointer none, .pointer (some ⟨WL.heap.size, 0, none⟩)] 23) := ⟨_, rfl⟩
          rw [← hws] at hXs hBs
          have hWZ := hwz.symm
          have hWS := hws.symm
          have HXZ := hide (hXZ.belowI hBs)
          have HXS := hide hXs
          have HXN2 := hide (HXN.out.belowI ((HS.out.bb.trans ((hBz.trans (hBs.mono hBz.size)).mono HS.out.bb.size))))
          have HBS := hide (HB0.out.trans ((HS.out.bb.trans ((hBz.trans (hBs.mono hBz.size)).mono HS.out.bb.size)).mono HB0.out.size))
          clear hXZ hBz hwz hXs hBs hws
          go_wp2_with fail
          clear hWZ hWS
          go_loopg [69] 2 (fun g i wr => ∃ k : Nat, k + g = 2 ∧ i = .int .i64 k ∧ Hid (Below WS.heap.size WS wr))
          case atStart => exact ⟨0, by omega, rfl, hide (Below.refl _ _)⟩
          case round =>
            obtain ⟨k, hk, rfl, HB⟩ := hrel
            cases gk with
            | zero =>
              obtain rfl : k = 2 := by omega
              go_wp2_with fail
              refine (alive_by9 H _).mono ?_
              rintro e Z9 ⟨rfl, hB⟩
              have HB9 := hide (HBS.out.trans ((HB.out.trans (hB.mono HB.out.size)).mono HBS.out.size))
              clear hB
              go_wp2_with fail
              go_ret
              exact ⟨rfl, HB9.out⟩
            | succ g =>
              have hgp : ∃ gp, wr.cell? ⟨WZ.heap.size, 0 + k, none⟩ = some gp ∧ Nb wr gp := by
                have hx := HXS.out.belowI HB.out
                rcases (show k = 0 ∨ k = 1 by omega) with rfl | rfl
                · exact ⟨_, hx.cell 0 _ rfl, HNIL.out _⟩
                · exact ⟨_, hx.cell 1 _ rfl, HZERO.out _ _ (HXZ.out.belowI HB.out)⟩
              obtain ⟨gp, hgc, hnb⟩ := hgp
              rw [Nat.zero_add] at hgc
              have HNBd := hide hnb
              have hzk : (k : Int) < 2 := by omega
              clear hnb
              go_wp2_with fail
              refine (HNB.tick HNBd.out).mono ?_
              rintro e Z1 ⟨u1, rfl, hL1, hB⟩
              obtain ⟨a1, c1, hu1, _⟩ := hL1.shape
              subst hu1
              replace HNBd := hide (HNB.below HNBd.out hB)
              replace HB := hide (HB.out.trans (hB.mono HB.out.size))
              clear hB hL1 hgc
              go_wp2_with fail
              refine (HNB.next HNBd.out).mono ?_
              rintro e Z2 ⟨rfl, hB⟩
              have hA := alloc_below9 Z2 (.cells (nmA nilN) 47)
              have hB2 := hB.trans (hA.mono hB.size)
              obtain ⟨Z3, hz3⟩ : ∃ Z3, Z3 = Z2.alloc (.cells (nmA nilN) 47) := ⟨_, rfl⟩
              rw [← hz3] at hB2
              have hZ3 := hz3.symm
              replace HNBd := hide (HNB.below HNBd.out hB2)
              replace HB := hide (HB.out.trans (hB2.mono HB.out.size))
              clear hB hA hB2 hz3
              have x0 := (HXN2.out.belowI HB.out).cell 0 _ rfl
              have x1 := (HXN2.out.belowI HB.out).cell 1 _ rfl
              have x2 := (HXN2.out.belowI HB.out).cell 2 _ rfl
              have x3 := (HXN2.out.belowI HB.out).cell 3 _ rfl
              go_wp2_with fail
              refine (theirs_any n _).mono ?_
              rintro e ZT ⟨rfl, hB⟩
              replace HNBd := hide (HNB.below HNBd.out hB)
              replace HB := hide (HB.out.trans (hB.mono HB.out.size))
              clear hB x0 x1 x2 x3
              go_wp2_with fail
              refine (HNB.unt n HNBd.out).mono ?_
              rintro e ZC ⟨rfl, hB⟩
              replace HNBd := hide (HNB.below HNBd.out hB)
              replace HB := hide (HB.out.trans (hB.mono HB.out.size))
              clear hB
              clear hZ3
              have x0 := (HXN2.out.belowI HB.out).cell 0 _ rfl
              have x1 := (HXN2.out.belowI HB.out).cell 1 _ rfl
              have x2 := (HXN2.out.belowI HB.out).cell 2 _ rfl
              have x3 := (HXN2.out.belowI HB.out).cell 3 _ rfl
              go_wp2_with fail
              refine (theirs_any n _).mono ?_
              rintro e ZT ⟨rfl, hB⟩
              replace HNBd := hide (HNB.below HNBd.out hB)
              replace HB := hide (HB.out.trans (hB.mono HB.out.size))
              clear hB x0 x1 x2 x3
              go_wp2_with fail
              refine (HNB.set n 1 HNBd.out).mono ?_
              rintro e ZC ⟨rfl, hB⟩
              replace HNBd := hide (HNB.below HNBd.out hB)
              replace HB := hide (HB.out.trans (hB.mono HB.out.size))
              clear hB
              have x0 := (HXN2.out.belowI HB.out).cell 0 _ rfl
              have x1 := (HXN2.out.belowI HB.out).cell 1 _ rfl
              have x2 := (HXN2.out.belowI HB.out).cell 2 _ rfl
              have x3 := (HXN2.out.belowI HB.out).cell 3 _ rfl
              go_wp2_with fail
              refine (theirs_any n _).mono ?_
              rintro e ZT ⟨rfl, hB⟩
              replace HNBd := hide (HNB.below HNBd.out hB)
              replace HB := hide (HB.out.trans (hB.mono HB.out.size))
              clear hB x0 x1 x2 x3
              go_wp2_with fail
              refine (HNB.stop n HNBd.out).mono ?_
              rintro e ZC ⟨rfl, hB⟩
              replace HNBd := hide (HNB.below HNBd.out hB)
              replace HB := hide (HB.out.trans (hB.mono HB.out.size))
              clear hB
              go_wp2_with fail
              refine (HNB.now HNBd.out).mono ?_
              rintro e ZC ⟨rfl, hB⟩
              replace HNBd := hide (HNB.below HNBd.out hB)
              replace HB := hide (HB.out.trans (hB.mono HB.out.size))
              clear hB
              go_wp2_with fail
              refine (HNB.len HNBd.out).mono ?_
              rintro e ZC ⟨rfl, hB⟩
              replace HNBd := hide (HNB.below HNBd.out hB)
              replace HB := hide (HB.out.trans (hB.mono HB.out.size))
              clear hB
              go_wp2_with fail
              go_roundg g
              case measure => omega
              case rel => exact ⟨k + 1, by omega, by first | rfl | go_num, HB⟩
      · obtain rfl : i = 0 := by omega
        have hlen : c.l.length = 0 := HR.out.2.1
        have C := H.len HS.out.dd
        rw [hlen] at C
        have HC := hide C
        clear C hlen
        go_wp2_with fail
        refine HC.out.mono ?_
        rintro e WL ⟨rfl, mL, hwL⟩
        have hBL : Below wr.heap.size wr WL := hwL ▸ below_drewN9 wr mL
        replace HS := hide (HS.out.below H hBL)
        clear hwL hBL HC
        have hXZ := box_new WL #[.int .u32 0, .map none, .slice none 0 0, .slice none 0 0, .slice none 0 0, .slice none 0 0, .slice none 0 0, .slice none 0 0, .slice none 0 0, .slice none 0 0, .slice none 0 0, .slice none 0 0, .slice none 0 0, .slice none 0 0, .slice none 0 0, .slice none 0 0, .slice none 0 0, .slice none 0 0, .slice none 0 0, .slice none 0 0, .slice none 0 0, .slice none 0 0, .slice none 0 0, .slice none 0 0, .slice none 0 0, .slice none 0 0, .slice none 0 0, .slice none 0 0, .slice none 0 0, .slice none 0 0, .slice none 0 0, .slice none 0 0, .slice none 0 0, .slice none 0 0, .slice none 0 0, .slice none 0 0, .slice none 0 0, .slice none 0 0, .slice none 0 0, .slice none 0 0, .slice none 0 0, .slice none 0 0, .slice none 0 0, .slice none 0 0, .slice none 0 0, .slice none 0 0, .slice none 0 0, .slice none 0 0, .slice none 0 0, .slice none 0 0, .slice none 0 0, .slice none 0 0, .slice none 0 0, .slice none 0 0, .slice none 0 0, .slice none 0 0, .slice none 0 0, .slice none 0 0, .slice none 0 0, .slice none 0 0, .slice none 0 0, .slice none 0 0, .slice none 0 0, .slice none 0 0, .slice none 0 0, .slice none 0 0] 69
        have hBz := alloc_below9 WL (.cells #[.int .u32 0, .map none, .slice none 0 0, .slice none 0 0, .slice none 0 0, .slice none 0 0, .slice none 0 0, .slice none 0 0, .slice none 0 0, .slice none 0 0, .slice none 0 0, .slice none 0 0, .slice none 0 0, .slice none 0 0, .slice none 0 0, .slice none 0 0, .slice none 0 0, .slice none 0 0, .slice none 0 0, .slice none 0 0, .slice none 0 0, .slice none 0 0, .slice none 0 0, .slice none 0 0, .slice none 0 0, .slice none 0 0, .slice none 0 0, .slice none 0 0, .slice none 0 0, .slice none 0 0, .slice none 0 0, .slice none 0 0, .slice none 0 0, .slice none 0 0, .slice none 0 0, .slice none 0 0, .slice none 0 0, .slice none 0 0, .slice none 0 0, .slice none 0 0, .slice none 0 0, .slice none 0 0, .slice none 0 0, .slice none 0 0, .slice none 0 0, .slice none 0 0, .slice none 0 0, .slice none 0 0, .slice none 0 0, .slice none 0 0, .slice none 0 0, .slice none 0 0, .slice none 0 0, .slice none 0 0, .slice none 0 0, .slice none 0 0, .slice none 0 0, .slice none 0 0, .slice none 0 0, .slice none 0 0, .slice none 0 0, .slice none 0 0, .slice none 0 0, .slice none 0 0, .slice none 0 0, .slice none 0 0] 69)
        obtain ⟨WZ, hwz⟩ : ∃ WZ, WZ = WL.alloc (.cells #[.int .u32 0, .map none, .slice none 0 0, .slice none 0 0, .slice none 0 0, .slice none 0 0, .slice none 0 0, .slice none 0 0, .slice none 0 0, .slice none 0 0, .slice none 0 0, .slice none 0 0, .slice none 0 0, .slice none 0 0, .slice none 0 0, .slice none 0 0, .slice none 0 0, .slice none 0 0, .slice none 0 0, .slice none 0 0, .slice none 0 0, .slice none 0 0, .slice none 0 0, .slice none 0 0, .slice none 0 0, .slice none 0 0, .slice none 0 0, .slice none 0 0, .slice none 0 0, .slice none 0 0, .slice none 0 0, .slice none 0 0, .slice none 0 0, .slice none 0 0, .slice none 0 0, .slice none 0 0, .slice none 0 0, .slice none 0 0, .slice none 0 0, .slice none 0 0, .slice none 0 0, .slice none 0 0, .slice none 0 0, .slice none 0 0, .slice none 0 0, .slice none 0 0, .slice none 0 0, .slice none 0 0, .slice none 0 0, .slice none 0 0, .slice none 0 0, .slice none 0 0, .slice none 0 0, .slice none 0 0, .slice none 0 0, .slice none 0 0, .slice none 0 0, .slice none 0 0, .slice none 0 0, .slice none 0 0, .slice none 0 0, .slice none 0 0, .slice none 0 0, .slice none 0 0, .slice none 0 0, .slice none 0 0] 69) := ⟨_, rfl⟩
        rw [← hwz] at hXZ hBz
        have hXs := box_new WZ #[.pointer none, .pointer (some ⟨WL.heap.size, 0, none⟩)] 23
        have hBs := alloc_below9 WZ (.cells #[.pointer none, .pointer (some ⟨WL.heap.size, 0, none⟩)] 23)
        obtain ⟨WS, hws⟩ : ∃ WS, WS = WZ.alloc (.cells #[.pointer none, .pointer (some ⟨WL.heap.size, 0, none⟩)] 23) := ⟨_, rfl⟩
        rw [← hws] at hXs hBs
        have hWZ := hwz.symm
        have hWS := hws.symm
        have HXZ := hide (hXZ.belowI hBs)
        have HXS := hide hXs
        have HXN2 := hide (HXN.out.belowI ((HS.out.bb.trans ((hBz.trans (hBs.mono hBz.size)).mono HS.out.bb.size))))
        have HBS := hide (HB0.out.trans ((HS.out.bb.trans ((hBz.trans (hBs.mono hBz.size)).mono HS.out.bb.size)).mono HB0.out.size))
        clear hXZ hBz hwz hXs hBs hws
        go_wp2_with fail
        clear hWZ hWS
        go_loopg [69] 2 (fun g i wr => ∃ k : Nat, k + g = 2 ∧ i = .int .i64 k ∧ Hid (Below WS.heap.size WS wr))
        case atStart => exact ⟨0, by omega, rfl, hide (Below.refl _ _)⟩
        case round =>
          obtain ⟨k, hk, rfl, HB⟩ := hrel
          cases gk with
          | zero =>
            obtain rfl : k = 2 := by omega
            go_wp2_with fail
            refine (alive_by9 H _).mono ?_
            rintro e Z9 ⟨rfl, hB⟩
            have HB9 := hide (HBS.out.trans ((HB.out.trans (hB.mono HB.out.size)).mono HBS.out.size))
            clear hB
            go_wp2_with fail
            go_ret
            exact ⟨rfl, HB9.out⟩
          | succ g =>
            have hgp : ∃ gp, wr.cell? ⟨WZ.heap.size, 0 + k, none⟩ = some gp ∧ Nb wr gp := by
              have hx := HXS.out.belowI HB.out
              rcases (show k = 0 ∨ k = 1 by omega) with rfl | rfl
              · exact ⟨_, hx.cell 0 _ rfl, HNIL.out _⟩
              · exact ⟨_, hx.cell 1 _ rfl, HZERO.out _ _ (HXZ.out.belowI HB.out)⟩
            obtain ⟨gp, hgc, hnb⟩ := hgp
            rw [Nat.zero_add] at hgc
            have HNBd := hide hnb
            have hzk : (k : Int) < 2 := by omega
            clear hnb
            go_wp2_with fail
            refine (HNB.tick HNBd.out).mono ?_
            rintro e Z1 ⟨u1, rfl, hL1, hB⟩
            obtain ⟨a1, c1, hu1, _⟩ := hL1.shape
            subst hu1
            replace HNBd := hide (HNB.below HNBd.out hB)
            replace HB := hide (HB.out.trans (hB.mono HB.out.size))
            clear hB hL1 hgc
            go_wp2_with fail
            refine (HNB.next HNBd.out).mono ?_
            rintro e Z2 ⟨rfl, hB⟩
            have hA := alloc_below9 Z2 (.cells (nmA nilN) 47)
            have hB2 := hB.trans (hA.mono hB.size)
            obtain ⟨Z3, hz3⟩ : ∃ Z3, Z3 = Z2.alloc (.cells (nmA nilN) 47) := ⟨_, rfl⟩
            rw [← hz3] at hB2
            have hZ3 := hz3.symm
            replace HNBd := hide (HNB.below HNBd.out hB2)
            replace HB := hide (HB.out.trans (hB2.mono HB.out.size))
            clear hB hA hB2 hz3
            have x0 := (HXN2.out.belowI HB.out).cell 0 _ rfl
            have x1 := (HXN2.out.belowI HB.out).cell 1 _ rfl
            have x2 := (HXN2.out.belowI HB.out).cell 2 _ rfl
            have x3 := (HXN2.out.belowI HB.out).cell 3 _ rfl
            go_wp2_with fail
            refine (theirs_any n _).mono ?_
            rintro e ZT ⟨rfl, hB⟩
            replace HNBd := hide (HNB.below HNBd.out hB)
            replace HB := hide (HB.out.trans (hB.mono HB.out.size))
            clear hB x0 x1 x2 x3
            go_wp2_with fail
            refine (HNB.unt n HNBd.out).mono ?_
            rintro e ZC ⟨rfl, hB⟩
            replace HNBd := hide (HNB.below HNBd.out hB)
            replace HB := hide (HB.out.trans (hB.mono HB.out.size))
            clear hB
            clear hZ3
            have x0 := (HXN2.out.belowI HB.out).cell 0 _ rfl
            have x1 := (HXN2.out.belowI HB.out).cell 1 _ rfl
            have x2 := (HXN2.out.belowI HB.out).cell 2 _ rfl
            have x3 := (HXN2.out.belowI HB.out).cell 3 _ rfl
            go_wp2_with fail
            refine (theirs_any n _).mono ?_
            rintro e ZT ⟨rfl, hB⟩
            replace HNBd := hide (HNB.below HNBd.out hB)
            replace HB := hide (HB.out.trans (hB.mono HB.out.size))
            clear hB x0 x1 x2 x3
            go_wp2_with fail
            refine (HNB.set n 1 HNBd.out).mono ?_
            rintro e ZC ⟨rfl, hB⟩
            replace HNBd := hide (HNB.below HNBd.out hB)
            replace HB := hide (HB.out.trans (hB.mono HB.out.size))
            clear hB
            have x0 := (HXN2.out.belowI HB.out).cell 0 _ rfl
            have x1 := (HXN2.out.belowI HB.out).cell 1 _ rfl
            have x2 := (HXN2.out.belowI HB.out).cell 2 _ rfl
            have x3 := (HXN2.out.belowI HB.out).cell 3 _ rfl
            go_wp2_with fail
            refine (theirs_any n _).mono ?_
            rintro e ZT ⟨rfl, hB⟩
            replace HNBd := hide (HNB.below HNBd.out hB)
            replace HB := hide (HB.out.trans (hB.mono HB.out.size))
            clear hB x0 x1 x2 x3
            go_wp2_with fail
            refine (HNB.stop n HNBd.out).mono ?_
            rintro e ZC ⟨rfl, hB⟩
            replace HNBd := hide (HNB.below HNBd.out hB)
            replace HB := hide (HB.out.trans (hB.mono HB.out.size))
            clear hB
            go_wp2_with fail
            refine (HNB.now HNBd.out).mono ?_
            rintro e ZC ⟨rfl, hB⟩
            replace HNBd := hide (HNB.below HNBd.out hB)
            replace HB := hide (HB.out.trans (hB.mono HB.out.size))
            clear hB
            go_wp2_with fail
            refine (HNB.len HNBd.out).mono ?_
            rintro e ZC ⟨rfl, hB⟩
            replace HNBd := hide (HNB.below HNBd.out hB)
            replace HB := hide (HB.out.trans (hB.mono HB.out.size))
            clear hB
            go_wp2_with fail
            go_roundg g
            case measure => omega
            case rel => exact ⟨k + 1, by omega, by first | rfl | go_num, HB⟩
end
end Go.Proofs.Ytgjdlclkibiffaa
