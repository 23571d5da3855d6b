/-
  The reference's reader: that it answers, whatever its bytes, and turns nothing but itself. Own work.
-/
import Derived.Test.YtkeedioifjabeaaCMethods
import Derived.Deep.RegionHeld
namespace Go.Proofs.Ytkeedioifjabeaa
open Go.RowKit

theorem wrap64_bd (x : Int) : 0 ≤ IntKind.u64.wrap x ∧ IntKind.u64.wrap x < 18446744073709551616 := by
  rw [IntKind.wrap_u64]; omega
theorem wrapi_le (x : Int) : IntKind.i64.wrap x ≤ 9223372036854775807 := by
  rw [IntKind.wrap_i64]; omega
set_option maxRecDepth 100000 in
set_option maxHeartbeats 3200000 in
/-- The reference's Long answers some number, and no more bytes than there are. -/
theorem rlong_total (v : Value) (xs : List Int) (w : World) (h : Lies .u8 w v xs) (hx : ∀ c ∈ xs, 0 ≤ c ∧ c < 256) (hl : xs.length ≤ 65536) :
    Calls Try.prog 57 #[v] w fun e w' => ∃ (n : Int) (k : Nat) (y : Int), e = .returned (.tuple #[.int .u64 n, .int .i64 k, .int .i64 y]) ∧ 0 ≤ n ∧ n < 18446744073709551616 ∧ k ≤ xs.length ∧ Below w.heap.size w w' := by
  obtain ⟨ao, cap, rfl⟩ := h.shape
  have HL := hide h
  clear h
  go_enter Try.func57, Try.ntmps57
  go_wp2_with fail
  go_loopw [5, 6] (fun n i wr => ∃ (k : Nat) (m : Int), k ≤ xs.length ∧ i = .int .i64 k ∧ n = .int .u64 m ∧ 0 ≤ m ∧ m < 18446744073709551616 ∧ Hid (Below w.heap.size w wr)) (fun _ i _ => xs.length - (intOf i).toNat)
  case atStart => exact ⟨0, 0, by omega, rfl, rfl, by decide, by decide, hide (Below.refl _ _)⟩
  case round =>
    obtain ⟨k, m, hk, rfl, rfl, hm0, hm1, HB⟩ := hrel
    by_cases hlt : k < xs.length
    · rcases HL.out with ⟨e, _⟩ | ⟨_, b, off, cap', e, hb, hlc, hcm, hc⟩
      · rw [e] at hlt; simp at hlt
      · cases e
        have hcell := (HB.out.cell (p := ⟨b, off + k, none⟩) hb).trans (hc k hlt)
        have hcb := hx (xs.getD k 0) (by simp [List.getD, hlt])
        generalize xs.getD k 0 = x at *
        have hbd := hide (fun y => wrap64_bd y)
        clear hc
        by_cases h9 : k = 9 ∧ 1 < x
        · obtain ⟨rfl, h1⟩ := h9
          go_wp2_with fail
          go_ret3
          exact ⟨0, 0, 3, rfl, by decide, by decide, by omega, HB.out⟩
        · have h9b : ((k : Int) == 9) = false ∨ ((k : Int) == 9) = true ∧ decide (1 < x) = false := by
            by_cases h : k = 9
            · exact .inr ⟨by simp; omega, by simp; omega⟩
            · exact .inl (by simp; omega)
          have hpw := hide (fun (w' : World) => power_any (7 * (k : Int)) (by omega) w')
          have hkm : (k : Int) < (xs.length : Int) := by omega
          by_cases h128 : x < 128
          · by_cases hz : x = 0 ∧ 0 < k
            · obtain ⟨rfl, hk0⟩ := hz
              have hk0' : (0 : Int) < (k : Int) := by omega
              rcases h9b with h9b | ⟨h9b, h9c⟩
              all_goals
                go_wp2_with fail
                go_quiet ((go_at_call 60; exact Calls.quiet_of_same (hpw.out _)))
                go_wp2_with fail
                go_ret3
                exact ⟨0, 0, 3, rfl, by decide, by decide, by omega, below_drewN HB.out _⟩
            · have hzb : (x == 0) = false ∨ (x == 0) = true ∧ (k : Int) ≤ 0 := by
                by_cases h : x = 0
                · exact .inr ⟨by simpa using h, by omega⟩
                · exact .inl (by simpa using h)
              rcases h9b with h9b | ⟨h9b, h9c⟩
              all_goals
                rcases hzb with hzb | ⟨hzb, hzc⟩
                all_goals
                  go_wp2_with fail
                  go_quiet ((go_at_call 60; exact Calls.quiet_of_same (hpw.out _)))
                  go_wp2_with fail
                  go_ret3
                  exact ⟨_, k + 1, 0, rfl, (hbd.out _).1, (hbd.out _).2, by omega, below_drewN HB.out _⟩
          · rcases h9b with h9b | ⟨h9b, h9c⟩
            all_goals
              go_wp2_with fail
              go_quiet ((go_at_call 60; exact Calls.quiet_of_same (hpw.out _)))
              go_wp2_with fail
              go_roundw
              case rel => exact ⟨k + 1, _, by omega, by go_num, rfl, (hbd.out _).1, (hbd.out _).2, hide (below_drewN HB.out _)⟩
              case measure => simp [intOf]; omega
    · have hge : decide ((k : Int) < (xs.length : Int)) = false := by simp; omega
      go_wp2_with fail
      go_ret3
      exact ⟨0, 0, 4, rfl, by decide, by decide, by omega, HB.out⟩
/-- The reference's reader: a variable of its own; its bytes a row of their own that nobody writes. -/
structure RD (w : World) (q : Nat) (vb : Value) (all : List Int) (a : Nat) (y f : Int) : Prop where
  box : Box w q #[vb, .int .i64 (a : Nat), .int .i64 y, .int .i64 f] 60
  own : w.ownsRow 0 5 1 vb all.length (all.map (Value.int .u8))
  byte : ∀ c ∈ all, 0 ≤ c ∧ c < 256
  le : a ≤ all.length
  room : all.length ≤ 65536
theorem RD.apart {w : World} {q : Nat} {vb : Value} {all : List Int} {a : Nat} {y f : Int} (h : RD w q vb all a y f) : vb.ownBlock ≠ some q := by
  intro e
  obtain ⟨_, ⟨rfl, _⟩ | ⟨g, cap, cur, rfl, _, hh, _⟩⟩ := h.own
  · cases e
  · cases e
    have := h.box
    unfold Box at this
    rw [hh] at this
    cases this
theorem RD.keep {S : Nat → Prop} {w w' : World} {q : Nat} {vb : Value} {all : List Int} {a : Nat} {y f : Int} (h : RD w q vb all a y f) (hk : KeepBut S w w') (hp : ¬ S q) (hg : ∀ g, vb.ownBlock = some g → ¬ S g) : RD w' q vb all a y f :=
  ⟨h.box.keep hk hp, owns_keep h.own hk hg, h.byte, h.le, h.room⟩
theorem RD.below {w w' : World} {q : Nat} {vb : Value} {all : List Int} {a : Nat} {y f : Int} (h : RD w q vb all a y f) (hB : Below w.heap.size w w') : RD w' q vb all a y f :=
  h.keep (KeepBut.of_below (fun _ => False) hB) (fun h => h) (fun _ _ h => h)
theorem RD.failed {w : World} {q : Nat} {vb : Value} {all : List Int} {a : Nat} {y f : Int} (h : RD w q vb all a y f) (y' f' : Int) :
    RD ((w.setCell ⟨q, 2, none⟩ (.int .i64 y')).setCell ⟨q, 3, none⟩ (.int .i64 f')) q vb all a y' f' ∧ KeepBut (fun k => k = q) w ((w.setCell ⟨q, 2, none⟩ (.int .i64 y')).setCell ⟨q, 3, none⟩ (.int .i64 f')) := by
  have hk := ((KeepBut.refl (fun k => k = q) w).setCell (p := ⟨q, 2, none⟩) (.inl rfl) (.int .i64 y')).setCell (p := ⟨q, 3, none⟩) (.inl rfl) (.int .i64 f')
  refine ⟨⟨?_, owns_keep h.own hk (fun _ hg e => h.apart (e ▸ hg)), h.byte, h.le, h.room⟩, hk⟩
  have := (h.box.set (i := 2) (v := .int .i64 y')).set (i := 3) (v := .int .i64 f')
  simpa using this
theorem RD.moved {w : World} {q : Nat} {vb : Value} {all : List Int} {a : Nat} {y f : Int} (h : RD w q vb all a y f) (b : Nat) (hb : b ≤ all.length) :
    RD (w.setCell ⟨q, 1, none⟩ (.int .i64 (b : Nat))) q vb all b y f ∧ KeepBut (fun k => k = q) w (w.setCell ⟨q, 1, none⟩ (.int .i64 (b : Nat))) := by
  have hk := (KeepBut.refl (fun k => k = q) w).setCell (p := ⟨q, 1, none⟩) (.inl rfl) (.int .i64 (b : Nat))
  refine ⟨⟨?_, owns_keep h.own hk (fun _ hg e => h.apart (e ▸ hg)), h.byte, hb, h.room⟩, hk⟩
  have := h.box.set (i := 1) (v := .int .i64 (b : Nat))
  simpa using this
/-- A reader, however far it is. -/
def RX (w : World) (q : Nat) (vb : Value) (all : List Int) : Prop := ∃ a y f, RD w q vb all a y f
set_option maxHeartbeats 800000 in
theorem rwrong_any (q : Nat) (vb : Value) (all : List Int) (a : Nat) (y f : Int) (w : World) (h : RD w q vb all a y f) (e t : Int) :
    Calls Try.prog 58 #[.pointer (some ⟨q, 0, none⟩), .int .i64 e, .int .i64 t] w fun r w' => r = .returned (.tuple #[]) ∧ (∃ y' f', RD w' q vb all a y' f') ∧ KeepBut (fun k => k = q) w w' := by
  have m2 := h.box.cell 2 _ rfl
  have m3 := h.box.cell 3 _ rfl
  have f2 := h.box.frozen 2
  have f3 := h.box.frozen 3
  have HG := hide (h.failed e t)
  have HH := hide h
  clear h
  by_cases hy : y = 0
  · subst hy
    go_enter Try.func58, Try.ntmps58
    go_wp2_with fail
    go_end0
    exact ⟨rfl, ⟨_, _, HG.out.1⟩, HG.out.2⟩
  · have hyb : (y == 0) = false := by simpa using hy
    go_enter Try.func58, Try.ntmps58
    go_wp2_with fail
    go_end0
    exact ⟨rfl, ⟨_, _, HH.out⟩, KeepBut.refl _ _⟩
theorem RD.lies {w : World} {q : Nat} {vb : Value} {all : List Int} {a : Nat} {y f : Int} (h : RD w q vb all a y f) : ∃ ao cap av cv, vb = .slice ao all.length cap ∧ (∀ w', (Instr.sliceAt 25 (.slice ao all.length cap) (some (.int .i64 (a : Nat))) none none).run Try.prog w' = .ok (.slice av (all.length - a) cv) w') ∧
    ∀ w', RD w' q vb all a y f → Lies .u8 w' (.slice av (all.length - a) cv) (all.drop a) := by
  obtain ⟨ao, cap, e⟩ := (Lies.of_own h.own).shape
  refine ⟨ao, cap, _, _, e, fun w' => run_from w' ao all.length cap a h.le, fun w' h' => ?_⟩
  have := Lies.of_own h'.own
  rw [e] at this
  exact this.drop h.le
set_option maxRecDepth 100000 in
set_option maxHeartbeats 3200000 in
theorem rnum_any (q : Nat) (vb : Value) (all : List Int) (a : Nat) (y f : Int) (w : World) (h : RD w q vb all a y f) (most : Int) :
    Calls Try.prog 49 #[.pointer (some ⟨q, 0, none⟩), .int .u64 most] w fun e w' => (∃ n : Int, e = .returned (.int .u64 n) ∧ 0 ≤ n ∧ n < 18446744073709551616) ∧ RX w' q vb all ∧ KeepBut (fun k => k = q) w w' := by
  obtain ⟨ao, cap, av, cv, rfl, hsl, hLL⟩ := h.lies
  have HLL := hide hLL
  have hle := h.le
  have hroom := h.room
  have m2 := h.box.cell 2 _ rfl
  have HX : Hid (∀ c ∈ all.drop a, 0 ≤ c ∧ c < 256) := hide (fun c hc => h.byte c (List.mem_of_mem_drop hc))
  have HH := hide h
  have HD := hide (h.below (Below.refl _ _).drew)
  have m0 := h.box.cell 0 _ rfl
  have m1 := h.box.cell 1 _ rfl
  have HDL : Hid ((all.drop a).length = all.length - a) := hide (by simp)
  clear h hLL
  by_cases hy : y = 0
  · subst hy
    have CL := hide (fun w' (h' : RD w' q (.slice ao all.length cap) all a 0 f) => rlong_total _ (all.drop a) w' (HLL.out w' h') HX.out (by rw [HDL.out]; omega))
    go_enter Try.func49, Try.ntmps49
    go_wp2_with fail
    go_region_held (fun w' => w'.cell? ⟨q, 0, none⟩ = some (.slice ao all.length cap) ∧ w'.cell? ⟨q, 1, none⟩ = some (.int .i64 (a : Nat))) (go_keep) ((go_at_call 57; refine (CL.out _ HD.out).mono ?_; rintro e w2 ⟨n, k, z, rfl, hn0, hn1, hk, hB2⟩; have h2 := HD.out.below hB2; have n0 := h2.box.cell 0 _ rfl; have n1 := h2.box.cell 1 _ rfl; have g1 := h2.box.frozen 1; have H2 := hide h2; have HK2 := hide ((KeepBut.refl (fun k => k = q) w).drew.trans (KeepBut.of_below (fun k => k = q) hB2) (fun _ _ h => h)); rw [HDL.out] at hk; clear h2 hB2))
    by_cases hz : z = 0
    · subst hz
      by_cases hm : most < n
      · have CWG := hide (rwrong_any q _ all a 0 f w2 H2.out 5 (a : Nat))
        go_wp2_with fail
        refine CWG.out.mono ?_
        rintro e w3 ⟨rfl, ⟨y', f', h3⟩, hk3⟩
        have H3 := hide h3
        have HK3 := hide hk3
        clear h3 hk3
        go_wp2_with fail
        go_ret
        exact ⟨⟨0, rfl, by decide, by decide⟩, ⟨_, _, _, H3.out⟩, HK2.out.trans HK3.out (fun _ _ h => h)⟩
      · have HM := hide (H2.out.moved (a + k) (by omega))
        rw [Int.natCast_add] at HM
        go_wp2_with fail
        go_ret
        exact ⟨⟨n, rfl, hn0, hn1⟩, ⟨_, _, _, HM.out.1⟩, HK2.out.trans HM.out.2 (fun _ _ h => h)⟩
    · have hzb : (z == 0) = false := by simpa using hz
      have hzn : (z != 0) = true := by simpa using hz
      have CWG := hide (rwrong_any q _ all a 0 f w2 H2.out z (a : Nat))
      go_wp2_with fail
      refine CWG.out.mono ?_
      rintro e w3 ⟨rfl, ⟨y', f', h3⟩, hk3⟩
      have H3 := hide h3
      have HK3 := hide hk3
      clear h3 hk3
      go_wp2_with fail
      go_ret
      exact ⟨⟨0, rfl, by decide, by decide⟩, ⟨_, _, _, H3.out⟩, HK2.out.trans HK3.out (fun _ _ h => h)⟩
  · have hyb : (y != 0) = true := by simpa using hy
    go_enter Try.func49, Try.ntmps49
    go_wp2_with fail
    go_ret
    exact ⟨⟨0, rfl, by decide, by decide⟩, ⟨_, _, _, HH.out⟩, KeepBut.refl _ _⟩
end Go.Proofs.Ytkeedioifjabeaa
