/-
  The reference's reader: Key, New. Own work.
-/
import Derived.Test.YtkeedioifjabeaaRReader2
namespace Go.Proofs.Ytkeedioifjabeaa
open Go.RowKit

/-- What stands in the loop over a key's bytes. -/
structure RKey (w wr : World) (q : Nat) (vb : Value) (all ks : List Int) : Prop where
  len : ks.length = 8
  bk : Box wr (w.heap.size + 1) (ks.map (Value.int .u8)).toArray 45
  bt : Box wr w.heap.size #[.int .u8 0, .int .u8 0, .int .u8 0, .int .u8 0, .int .u8 0, .int .u8 0, .int .u8 0, .int .u8 0] 45
  rx : RX wr q vb all
  keep : KeepBut (fun k => k = q) w wr
theorem RKey.next {w wr w1 : World} {q : Nat} {vb : Value} {all ks : List Int} (h : RKey w wr q vb all ks) (hq : q < w.heap.size) (hx : RX w1 q vb all) (hk : KeepBut (fun k => k = q) wr w1) (k : Nat) (c : Int) :
    RKey w (w1.setCell ⟨w.heap.size + 1, k, none⟩ (.int .u8 c)) q vb all (ks.set k c) := by
  have hk2 := (KeepBut.refl (fun k => k = w.heap.size + 1) w1).setCell (p := ⟨w.heap.size + 1, k, none⟩) (.inl rfl) (.int .u8 c)
  obtain ⟨a, y, f, hrd⟩ := hx
  have hrd' := h.rx
  refine ⟨by simpa using h.len, ?_, (h.bt.keep hk (by omega)).keep hk2 (by omega), ⟨a, y, f, hrd.keep hk2 (by omega) (fun g hg e => ?_)⟩, (h.keep.trans hk (fun _ _ h => h)).trans (S' := fun k => k = w.heap.size + 1) hk2 (fun k hk e => by omega)⟩
  · have := (h.bk.keep hk (by omega)).set (i := k) (v := .int .u8 c)
    rw [List.setIfInBounds_toArray, ← List.map_set] at this
    exact this
  · subst e
    obtain ⟨_, ⟨rfl, _⟩ | ⟨g, cap, cur, rfl, _, hh, _⟩⟩ := hrd.own
    · cases hg
    · cases hg
      have hb := h.bk.keep hk (by omega)
      unfold Box at hb
      rw [hh] at hb
      cases hb

set_option maxRecDepth 100000 in
set_option maxHeartbeats 6400000 in
theorem rkey_any (q : Nat) (vb : Value) (all : List Int) (a : Nat) (y f : Int) (w : World) (h : RD w q vb all a y f) :
    Calls Try.prog 53 #[.pointer (some ⟨q, 0, none⟩)] w fun e w' => (∃ ks : List Int, ks.length = 8 ∧ e = .returned (.agg (ks.map (Value.int .u8)).toArray)) ∧ RX w' q vb all ∧ KeepBut (fun k => k = q) w w' := by
  have hle := h.le
  have hroom := h.room
  have hqlt := h.box.lt
  obtain ⟨ao, cap, rfl⟩ := (Lies.of_own h.own).shape
  have hB0 := ((Below.refl w.heap.size w).alloc (Nat.le_refl _) (.cells #[.int .u8 0, .int .u8 0, .int .u8 0, .int .u8 0, .int .u8 0, .int .u8 0, .int .u8 0, .int .u8 0] 45)).alloc (by simp) (.cells #[.int .u8 0, .int .u8 0, .int .u8 0, .int .u8 0, .int .u8 0, .int .u8 0, .int .u8 0, .int .u8 0] 45)
  have hb2 := boxes_two w #[.int .u8 0, .int .u8 0, .int .u8 0, .int .u8 0, .int .u8 0, .int .u8 0, .int .u8 0, .int .u8 0] #[.int .u8 0, .int .u8 0, .int .u8 0, .int .u8 0, .int .u8 0, .int .u8 0, .int .u8 0, .int .u8 0] 45 45
  have h0 := h.below hB0
  have m0 := h0.box.cell 0 _ rfl
  have m1 := h0.box.cell 1 _ rfl
  have m2 := h0.box.cell 2 _ rfl
  have H0 := hide h0
  have HB0 := hide hB0
  have HB2 := hide hb2
  have HK0 : Hid (∀ n, RKey w (((w.alloc (.cells #[.int .u8 0, .int .u8 0, .int .u8 0, .int .u8 0, .int .u8 0, .int .u8 0, .int .u8 0, .int .u8 0] 45)).alloc (.cells #[.int .u8 0, .int .u8 0, .int .u8 0, .int .u8 0, .int .u8 0, .int .u8 0, .int .u8 0, .int .u8 0] 45)).drewN n) q (.slice ao all.length cap) all [0, 0, 0, 0, 0, 0, 0, 0]) := hide (fun n => by
    have hbn : Below ((w.alloc (.cells #[.int .u8 0, .int .u8 0, .int .u8 0, .int .u8 0, .int .u8 0, .int .u8 0, .int .u8 0, .int .u8 0] 45)).alloc (.cells #[.int .u8 0, .int .u8 0, .int .u8 0, .int .u8 0, .int .u8 0, .int .u8 0, .int .u8 0, .int .u8 0] 45)).heap.size ((w.alloc (.cells #[.int .u8 0, .int .u8 0, .int .u8 0, .int .u8 0, .int .u8 0, .int .u8 0, .int .u8 0, .int .u8 0] 45)).alloc (.cells #[.int .u8 0, .int .u8 0, .int .u8 0, .int .u8 0, .int .u8 0, .int .u8 0, .int .u8 0, .int .u8 0] 45)) (((w.alloc (.cells #[.int .u8 0, .int .u8 0, .int .u8 0, .int .u8 0, .int .u8 0, .int .u8 0, .int .u8 0, .int .u8 0] 45)).alloc (.cells #[.int .u8 0, .int .u8 0, .int .u8 0, .int .u8 0, .int .u8 0, .int .u8 0, .int .u8 0, .int .u8 0] 45)).drewN n) := below_drewN (Below.refl _ _) n
    exact ⟨rfl, hb2.2.keep (KeepBut.of_below (fun _ => False) hbn) (fun h => h), hb2.1.keep (KeepBut.of_below (fun _ => False) hbn) (fun h => h), ⟨a, y, f, h0.below hbn⟩, KeepBut.of_below _ (below_drewN hB0 n)⟩)
  have CWG := hide (fun w' (h' : RD w' q (.slice ao all.length cap) all a y f) => rwrong_any q _ all a y f w' h' 4 (a : Nat))
  have HI := hide ((zero_of_info infoKey).2)
  have HVN : Hid ((Value.slice ao all.length cap).ownBlock ≠ some w.heap.size) := hide (fun e => Nat.lt_irrefl _ (owns_lt h.own e))
  clear h h0 hB0 hb2
  by_cases hy : y = 0
  · subst hy
    by_cases h8 : all.length - a < 8
    · have h8b : decide ((all.length : Int) - (a : Int) < 8) = true := by simp; omega
      go_enter Try.func53, Try.ntmps53
      go_wp2_with fail
      go_quiet (fail)
      have HQ := hide (H0.out.below (below_drewN (Below.refl _ _) nq))
      have q1 := HQ.out.box.cell 1 _ rfl
      go_wp2_with fail
      refine (CWG.out _ HQ.out).mono ?_
      rintro e w2 ⟨rfl, ⟨y2, f2, h2⟩, hk2⟩
      have hk0 := HK0.out nq
      have HS : Hid (RKey w w2 q (.slice ao all.length cap) all [0, 0, 0, 0, 0, 0, 0, 0]) := hide ⟨rfl, hk0.bk.keep hk2 (by omega), hk0.bt.keep hk2 (by omega), ⟨_, _, _, h2⟩, hk0.keep.trans hk2 (fun _ _ h => h)⟩
      clear h2 hk2 hk0
      go_wp2_with fail
      go_loopw [4] (fun i wr => ∃ (k : Nat) (ks : List Int), k ≤ 8 ∧ i = .int .i64 k ∧ Hid (RKey w wr q (.slice ao all.length cap) all ks)) (fun i _ => 8 - (intOf i).toNat)
      case atStart => exact ⟨0, _, by omega, rfl, HS⟩
      case round =>
        obtain ⟨k, ks, hk, rfl, HR⟩ := hrel
        obtain ⟨a2, y2, f2, hrd⟩ := HR.out.rx
        have n2 := hrd.box.cell 2 _ rfl
        have CB := hide (rbyte_any q _ all a2 y2 f2 wr hrd)
        clear hrd
        by_cases hgo : k < 8 ∧ y2 = 0
        · obtain ⟨hk8, rfl⟩ := hgo
          have hk8' : (k : Int) < 8 := by omega
          go_wp2_with fail
          refine CB.out.mono ?_
          rintro e w5 ⟨⟨c, rfl⟩, hx5, hk5⟩
          have hbk5 := HR.out.bk.keep hk5 (by omega)
          obtain ⟨z, hz⟩ : ∃ z : Int, (ks.map (Value.int .u8)).toArray[k]? = some (.int .u8 z) := ⟨ks.getD k 0, by
            have := HR.out.len
            simp [List.getD, show k < ks.length by omega]⟩
          have c5 := hbk5.cell k _ hz
          have g5 := hbk5.frozen k
          have HN := hide (HR.out.next hqlt hx5 hk5 k c)
          clear hx5 hk5 hbk5 hz CB n2
          go_wp2_with fail
          go_roundw
          case rel => exact ⟨k + 1, _, by omega, by go_num, HN⟩
          case measure => simp [intOf]; omega
        · have hstop : decide ((k : Int) < 8) = false ∨ decide ((k : Int) < 8) = true ∧ (y2 == 0) = false := by
            by_cases h : k < 8
            · exact .inr ⟨by simp; omega, by simp; omega⟩
            · exact .inl (by simp; omega)
          have HSZ : Hid ((ks.map (Value.int .u8)).toArray.size = 8) := hide (by simpa using HR.out.len)
          have HI2 : Hid ((Try.prog.info? 45).map (·.size) = some (ks.map (Value.int .u8)).toArray.size) := hide (by rw [HSZ.out]; exact HI.out)
          have HZ : Hid ((#[.int .u8 0, .int .u8 0, .int .u8 0, .int .u8 0, .int .u8 0, .int .u8 0, .int .u8 0, .int .u8 0] : Array Value).size = (ks.map (Value.int .u8)).toArray.size) := hide (by rw [HSZ.out]; rfl)
          have HO : Hid (((ks.map (Value.int .u8)).toArray).all (·.oneCell') = true) := hide (by simp [Value.oneCell'])
          have HBK := hide HR.out.bk
          have HBT := hide HR.out.bt
          obtain ⟨C, hC⟩ : ∃ C, (ks.map (Value.int .u8)).toArray = C := ⟨_, rfl⟩
          rw [hC] at HBK HI2 HZ HO
          have HC := hide hC
          clear hC HSZ CB hgo
          rcases hstop with hst | ⟨hst, hst2⟩
          all_goals
            go_wp2_with (first
              | (refine wp_load_box rfl _ rfl _ rfl HBK.out Try.underlying45 rfl HI2.out ?_)
              | (refine wp_store_box rfl rfl _ _ rfl _ rfl rfl HBT.out HZ.out HI2.out HO.out ?_; intro w6 hb6 hk6; have HB6 := hide hb6; have HK6 := hide hk6; clear hb6 hk6))
            refine bodyPost_ret (v := .agg C) (results_box Try.results53 _ _ w.heap.size rfl HB6.out Try.underlying45 rfl HI2.out) rfl ⟨⟨ks, HR.out.len, by rw [HC.out]⟩, ?_, HR.out.keep.trans HK6.out (fun k hk e => absurd hk (by omega))⟩
            obtain ⟨a6, y6, f6, h6⟩ := HR.out.rx
            refine ⟨a6, y6, f6, h6.keep HK6.out (by omega) (fun g hg e => ?_)⟩
            subst e
            exact HVN.out hg
    · have h8b : decide ((all.length : Int) - (a : Int) < 8) = false := by simp; omega
      go_enter Try.func53, Try.ntmps53
      go_wp2_with fail
      go_quiet (fail)
      have HS := hide (HK0.out nq)
      go_wp2_with fail
      go_loopw [4] (fun i wr => ∃ (k : Nat) (ks : List Int), k ≤ 8 ∧ i = .int .i64 k ∧ Hid (RKey w wr q (.slice ao all.length cap) all ks)) (fun i _ => 8 - (intOf i).toNat)
      case atStart => exact ⟨0, _, by omega, rfl, HS⟩
      case round =>
        obtain ⟨k, ks, hk, rfl, HR⟩ := hrel
        obtain ⟨a2, y2, f2, hrd⟩ := HR.out.rx
        have n2 := hrd.box.cell 2 _ rfl
        have CB := hide (rbyte_any q _ all a2 y2 f2 wr hrd)
        clear hrd
        by_cases hgo : k < 8 ∧ y2 = 0
        · obtain ⟨hk8, rfl⟩ := hgo
          have hk8' : (k : Int) < 8 := by omega
          go_wp2_with fail
          refine CB.out.mono ?_
          rintro e w5 ⟨⟨c, rfl⟩, hx5, hk5⟩
          have hbk5 := HR.out.bk.keep hk5 (by omega)
          obtain ⟨z, hz⟩ : ∃ z : Int, (ks.map (Value.int .u8)).toArray[k]? = some (.int .u8 z) := ⟨ks.getD k 0, by
            have := HR.out.len
            simp [List.getD, show k < ks.length by omega]⟩
          have c5 := hbk5.cell k _ hz
          have g5 := hbk5.frozen k
          have HN := hide (HR.out.next hqlt hx5 hk5 k c)
          clear hx5 hk5 hbk5 hz CB n2
          go_wp2_with fail
          go_roundw
          case rel => exact ⟨k + 1, _, by omega, by go_num, HN⟩
          case measure => simp [intOf]; omega
        · have hstop : decide ((k : Int) < 8) = false ∨ decide ((k : Int) < 8) = true ∧ (y2 == 0) = false := by
            by_cases h : k < 8
            · exact .inr ⟨by simp; omega, by simp; omega⟩
            · exact .inl (by simp; omega)
          have HSZ : Hid ((ks.map (Value.int .u8)).toArray.size = 8) := hide (by simpa using HR.out.len)
          have HI2 : Hid ((Try.prog.info? 45).map (·.size) = some (ks.map (Value.int .u8)).toArray.size) := hide (by rw [HSZ.out]; exact HI.out)
          have HZ : Hid ((#[.int .u8 0, .int .u8 0, .int .u8 0, .int .u8 0, .int .u8 0, .int .u8 0, .int .u8 0, .int .u8 0] : Array Value).size = (ks.map (Value.int .u8)).toArray.size) := hide (by rw [HSZ.out]; rfl)
          have HO : Hid (((ks.map (Value.int .u8)).toArray).all (·.oneCell') = true) := hide (by simp [Value.oneCell'])
          have HBK := hide HR.out.bk
          have HBT := hide HR.out.bt
          obtain ⟨C, hC⟩ : ∃ C, (ks.map (Value.int .u8)).toArray = C := ⟨_, rfl⟩
          rw [hC] at HBK HI2 HZ HO
          have HC := hide hC
          clear hC HSZ CB hgo
          rcases hstop with hst | ⟨hst, hst2⟩
          all_goals
            go_wp2_with (first
              | (refine wp_load_box rfl _ rfl _ rfl HBK.out Try.underlying45 rfl HI2.out ?_)
              | (refine wp_store_box rfl rfl _ _ rfl _ rfl rfl HBT.out HZ.out HI2.out HO.out ?_; intro w6 hb6 hk6; have HB6 := hide hb6; have HK6 := hide hk6; clear hb6 hk6))
            refine bodyPost_ret (v := .agg C) (results_box Try.results53 _ _ w.heap.size rfl HB6.out Try.underlying45 rfl HI2.out) rfl ⟨⟨ks, HR.out.len, by rw [HC.out]⟩, ?_, HR.out.keep.trans HK6.out (fun k hk e => absurd hk (by omega))⟩
            obtain ⟨a6, y6, f6, h6⟩ := HR.out.rx
            refine ⟨a6, y6, f6, h6.keep HK6.out (by omega) (fun g hg e => ?_)⟩
            subst e
            exact HVN.out hg
  · have hyb : (y == 0) = false := by simpa using hy
    go_enter Try.func53, Try.ntmps53
    go_wp2_with fail
    go_quiet (fail)
    have HS := hide (HK0.out nq)
    go_wp2_with fail
    go_loopw [4] (fun i wr => ∃ (k : Nat) (ks : List Int), k ≤ 8 ∧ i = .int .i64 k ∧ Hid (RKey w wr q (.slice ao all.length cap) all ks)) (fun i _ => 8 - (intOf i).toNat)
    case atStart => exact ⟨0, _, by omega, rfl, HS⟩
    case round =>
      obtain ⟨k, ks, hk, rfl, HR⟩ := hrel
      obtain ⟨a2, y2, f2, hrd⟩ := HR.out.rx
      have n2 := hrd.box.cell 2 _ rfl
      have CB := hide (rbyte_any q _ all a2 y2 f2 wr hrd)
      clear hrd
      by_cases hgo : k < 8 ∧ y2 = 0
      · obtain ⟨hk8, rfl⟩ := hgo
        have hk8' : (k : Int) < 8 := by omega
        go_wp2_with fail
        refine CB.out.mono ?_
        rintro e w5 ⟨⟨c, rfl⟩, hx5, hk5⟩
        have hbk5 := HR.out.bk.keep hk5 (by omega)
        obtain ⟨z, hz⟩ : ∃ z : Int, (ks.map (Value.int .u8)).toArray[k]? = some (.int .u8 z) := ⟨ks.getD k 0, by
          have := HR.out.len
          simp [List.getD, show k < ks.length by omega]⟩
        have c5 := hbk5.cell k _ hz
        have g5 := hbk5.frozen k
        have HN := hide (HR.out.next hqlt hx5 hk5 k c)
        clear hx5 hk5 hbk5 hz CB n2
        go_wp2_with fail
        go_roundw
        case rel => exact ⟨k + 1, _, by omega, by go_num, HN⟩
        case measure => simp [intOf]; omega
      · have hstop : decide ((k : Int) < 8) = false ∨ decide ((k : Int) < 8) = true ∧ (y2 == 0) = false := by
          by_cases h : k < 8
          · exact .inr ⟨by simp; omega, by simp; omega⟩
          · exact .inl (by simp; omega)
        have HSZ : Hid ((ks.map (Value.int .u8)).toArray.size = 8) := hide (by simpa using HR.out.len)
        have HI2 : Hid ((Try.prog.info? 45).map (·.size) = some (ks.map (Value.int .u8)).toArray.size) := hide (by rw [HSZ.out]; exact HI.out)
        have HZ : Hid ((#[.int .u8 0, .int .u8 0, .int .u8 0, .int .u8 0, .int .u8 0, .int .u8 0, .int .u8 0, .int .u8 0] : Array Value).size = (ks.map (Value.int .u8)).toArray.size) := hide (by rw [HSZ.out]; rfl)
        have HO : Hid (((ks.map (Value.int .u8)).toArray).all (·.oneCell') = true) := hide (by simp [Value.oneCell'])
        have HBK := hide HR.out.bk
        have HBT := hide HR.out.bt
        obtain ⟨C, hC⟩ : ∃ C, (ks.map (Value.int .u8)).toArray = C := ⟨_, rfl⟩
        rw [hC] at HBK HI2 HZ HO
        have HC := hide hC
        clear hC HSZ CB hgo
        rcases hstop with hst | ⟨hst, hst2⟩
        all_goals
          go_wp2_with (first
            | (refine wp_load_box rfl _ rfl _ rfl HBK.out Try.underlying45 rfl HI2.out ?_)
            | (refine wp_store_box rfl rfl _ _ rfl _ rfl rfl HBT.out HZ.out HI2.out HO.out ?_; intro w6 hb6 hk6; have HB6 := hide hb6; have HK6 := hide hk6; clear hb6 hk6))
          refine bodyPost_ret (v := .agg C) (results_box Try.results53 _ _ w.heap.size rfl HB6.out Try.underlying45 rfl HI2.out) rfl ⟨⟨ks, HR.out.len, by rw [HC.out]⟩, ?_, HR.out.keep.trans HK6.out (fun k hk e => absurd hk (by omega))⟩
          obtain ⟨a6, y6, f6, h6⟩ := HR.out.rx
          refine ⟨a6, y6, f6, h6.keep HK6.out (by omega) (fun g hg e => ?_)⟩
          subst e
          exact HVN.out hg
end Go.Proofs.Ytkeedioifjabeaa
