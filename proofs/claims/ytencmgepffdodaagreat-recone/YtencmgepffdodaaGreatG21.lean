/-
  Own texts put together: IdRKey, IdRName, IdRef, IdRef2, IdRef3, IdNum, MgR1, RvOps. Own work.
-/
import Derived.Test.YtencmgepffdodaaGreatG13
import Derived.Test.YtencmgepffdodaaGreatG09
import Derived.Test.YtencmgepffdodaaGreatG11
import Derived.Test.YtencmgepffdodaaGreatG01
import Derived.Test.YtencmgepffdodaaGreatG12
import Derived.Deep.RegionHeldLaw
import Derived.Deep.QuietTactic
import Derived.BigQuiet
import Derived.Maps.AppendAt
import Derived.Sort.Grow
import Derived.Deep.MidRow
namespace Go.Proofs.YtencmgepffdodaaGreat
section
open Go.RowKit

theorem ahead_ne (ks : List Int) (k : Nat) (hk : k < (aheadF ks).length) : ks.getD k 0 ≠ 0 := by
  have h1 := aheadF_le ks
  have e : (aheadF ks)[k] = ks[k]'(by omega) := by
    have := aheadF_take ks
    rw [List.getElem_of_eq this]
    simp
  intro h0
  have : ks[k]'(by omega) = 0 := by
    have h2 : k < ks.length := by omega
    simpa [List.getD, h2] using h0
  rw [← e] at this
  exact aheadF_no ks (this ▸ List.getElem_mem hk)
theorem ahead_zero : ∀ ks : List Int, (aheadF ks).length < ks.length → ks.getD (aheadF ks).length 0 = 0
  | [], h => by simp at h
  | x :: r, h => by
    have ih := ahead_zero r
    unfold aheadF at h ⊢
    split
    · rename_i h0; rw [h0]; rfl
    · rename_i h0
      rw [if_neg h0] at h
      simp only [List.length_cons, List.getD_cons_succ] at h ⊢
      exact ih (by omega)
theorem name_all (ks : List Int) (hl : ks.length = 8) (h : ∀ j, (aheadF ks).length ≤ j → j < 8 → ks.getD j 0 = 0) : ks = aheadF ks ++ List.replicate (8 - (aheadF ks).length) 0 := by
  have h1 := aheadF_le ks
  have h2 := aheadF_take ks
  have h3 : ks.drop (aheadF ks).length = List.replicate (8 - (aheadF ks).length) 0 := by
    apply List.ext_getElem
    · simp [hl]
    · intro i hi1 hi2
      have hlt : (aheadF ks).length + i < ks.length := by simp at hi1; omega
      have := h ((aheadF ks).length + i) (by omega) (by omega)
      simp only [List.getElem_drop, List.getElem_replicate]
      simpa [List.getD, hlt] using this
  rw [← h3]
  conv => lhs; rw [← List.take_append_drop (aheadF ks).length ks, ← h2]
theorem name_other (ks : List Int) (j : Nat) (h1 : (aheadF ks).length ≤ j) (h2 : ks.getD j 0 ≠ 0) : ks ≠ aheadF ks ++ List.replicate (8 - (aheadF ks).length) 0 := by
  intro e
  have h3 : (aheadF ks ++ List.replicate (8 - (aheadF ks).length) 0).getD j 0 = 0 := by
    rw [List.getD_eq_getElem?_getD, List.getElem?_append_right h1, List.getElem?_replicate]
    split <;> rfl
  rw [← e] at h3
  exact h2 h3
theorem box_lies {w : World} {q : Nat} {ks : List Int} {t : TypeId} (h : Box w q (cells8 ks) t) (hl : ks.length = 8) : Lies .u8 w (.slice (some ⟨q, 0, none⟩) ks.length 8) ks :=
  .inr ⟨fun e => by rw [e] at hl; simp at hl, q, 0, 8, rfl, h.lt, by omega, by unfold maxLen; omega, fun t ht => by rw [Nat.zero_add]; exact h.cell t _ (by simp [cells8, List.getD, ht])⟩
set_option maxRecDepth 100000 in
set_option maxHeartbeats 1600000 in
theorem rname_any (ks : List Int) (hl : ks.length = 8) (w : World) :
    Calls Tryz.prog 87 #[.agg (cells8 ks)] w fun e w' => e = .returned (.tuple #[.string (strOfNums (nameF ks).1), .bool (nameF ks).2]) ∧ Below w.heap.size w w' := by
  have hle := aheadF_le ks
  rw [hl] at hle
  have HNE := hide (ahead_ne ks)
  have HZE := hide (ahead_zero ks)
  have HC : Hid (∀ t, t < 8 → (w.alloc (.cells (cells8 ks) 31)).cell? ⟨w.heap.size, t, none⟩ = some (.int .u8 (ks.getD t 0))) := hide (fun t ht => (box_new w _ _).cell t _ (by
    have : t < ks.length := by omega
    simp [cells8, List.getD, this]))
  have HLT := hide ((box_lies (box_new w (cells8 ks) 31) hl).take (n := (aheadF ks).length) (aheadF_le ks))
  rw [← aheadF_take ks] at HLT
  have hcv := HLT.out.convert
  have HB0 := hide ((Below.refl w.heap.size w).alloc (Nat.le_refl _) (.cells (cells8 ks) 31))
  have HALL := hide (name_all ks hl)
  have HOTH := hide (name_other ks)
  have HL := hide hl
  have HNM : Hid (nameF ks = if aheadF ks = [] ∨ ks ≠ aheadF ks ++ List.replicate (8 - (aheadF ks).length) 0 then ([], false) else (aheadF ks, true)) := hide rfl
  have HEM : Hid ((aheadF ks).length = 0 → aheadF ks = []) := hide List.eq_nil_of_length_eq_zero
  have HEN : Hid ((aheadF ks).length ≠ 0 → aheadF ks ≠ []) := hide (fun h e => h (by rw [e]; rfl))
  rw [hl] at HZE
  clear hl HLT
  generalize cells8 ks = ca at *
  generalize hst : strOfNums (aheadF ks) = st at *
  have HST := hide hst
  clear hst
  generalize hN : (aheadF ks).length = N at *
  clear hN
  go_enter Tryz.func87, Tryz.ntmps87
  go_wp2
  go_loop [4] (fun i => ∃ k : Nat, k ≤ N ∧ i = .int .i64 k) (fun i => N - (intOf i).toNat)
  case atStart => exact ⟨0, Nat.zero_le _, rfl⟩
  case round =>
    obtain ⟨k, hk, rfl⟩ := hrel
    by_cases hlt : k < N
    · have hk8 : (k : Int) < 8 := by omega
      have hcell := HC.out k (by omega)
      have hne : (ks.getD k 0 != 0) = true := bne_iff_ne.2 (HNE.out k hlt)
      generalize ks.getD k 0 = c at *
      go_wp2
      go_round
      case rel => exact ⟨k + 1, by omega, by go_num⟩
      case measure => simp [intOf]; omega
    · obtain rfl : k = N := by omega
      by_cases h8 : k < 8
      · have hk8 : (k : Int) < 8 := by omega
        have hcell := HC.out k h8
        have hzk := HZE.out h8
        rw [hzk] at hcell
        clear hzk
        go_wp2
        go_loop [5] (fun i => ∃ j : Nat, k ≤ j ∧ j ≤ 8 ∧ i = .int .i64 j ∧ Hid (∀ t, k ≤ t → t < j → ks.getD t 0 = 0)) (fun i => 8 - (intOf i).toNat)
        case atStart => exact ⟨k, Nat.le_refl _, hle, rfl, hide (fun t h1 h2 => by omega)⟩
        case round =>
          obtain ⟨j, hj1, hj2, rfl, HZ⟩ := hrel
          by_cases hj8 : j < 8
          · have hj8I : (j : Int) < 8 := by omega
            have hcj := HC.out j hj8
            by_cases h0 : ks.getD j 0 = 0
            · rw [h0] at hcj
              have HZ2 : Hid (∀ t, k ≤ t → t < j + 1 → ks.getD t 0 = 0) := hide (fun t h1 h2 => by
                by_cases e : t = j
                · rw [e]; exact h0
                · exact HZ.out t h1 (by omega))
              clear h0
              go_wp2
              go_round
              case rel => exact ⟨j + 1, by omega, by omega, by go_num, HZ2⟩
              case measure => simp [intOf]; omega
            · have HF : Hid (nameF ks = ([], false)) := hide (by rw [HNM.out, if_pos (.inr (HOTH.out j hj1 h0))])
              have hne : (ks.getD j 0 != 0) = true := bne_iff_ne.2 h0
              clear h0
              generalize ks.getD j 0 = c at *
              go_wp2
              go_ret2
              exact ⟨by rw [HF.out]; rfl, HB0.out⟩
          · have hj8I : decide ((j : Int) < 8) = false := decide_eq_false (by omega)
            have HKS := hide (HALL.out (fun t h1 h2 => HZ.out t h1 (by omega)))
            by_cases hk0 : k = 0
            · have HF : Hid (nameF ks = ([], false)) := hide (by rw [HNM.out, if_pos (.inl (HEM.out hk0))])
              have hk0I : ((k : Int) == 0) = true := beq_iff_eq.2 (by omega)
              clear hk0
              go_wp2
              go_ret2
              exact ⟨by rw [HF.out]; rfl, HB0.out⟩
            · have HF : Hid (nameF ks = (aheadF ks, true)) := hide (by
                rw [HNM.out, if_neg]
                simp only [not_or, Classical.not_not]
                exact ⟨HEN.out hk0, HKS.out⟩)
              have hk0I : ((k : Int) == 0) = false := beq_eq_false_iff_ne.2 (by omega)
              clear hk0
              have hkI8 : (k : Int) ≤ 8 := by omega
              go_wp2
              go_ret2
              exact ⟨by rw [HF.out, HST.out]; rfl, HB0.out⟩
      · have hk8 : decide ((k : Int) < 8) = false := decide_eq_false (by omega)
        go_wp2
        go_loop [5] (fun i => ∃ j : Nat, k ≤ j ∧ j ≤ 8 ∧ i = .int .i64 j ∧ Hid (∀ t, k ≤ t → t < j → ks.getD t 0 = 0)) (fun i => 8 - (intOf i).toNat)
        case atStart => exact ⟨k, Nat.le_refl _, hle, rfl, hide (fun t h1 h2 => by omega)⟩
        case round =>
          obtain ⟨j, hj1, hj2, rfl, HZ⟩ := hrel
          by_cases hj8 : j < 8
          · have hj8I : (j : Int) < 8 := by omega
            have hcj := HC.out j hj8
            by_cases h0 : ks.getD j 0 = 0
            · rw [h0] at hcj
              have HZ2 : Hid (∀ t, k ≤ t → t < j + 1 → ks.getD t 0 = 0) := hide (fun t h1 h2 => by
                by_cases e : t = j
                · rw [e]; exact h0
                · exact HZ.out t h1 (by omega))
              clear h0
              go_wp2
              go_round
              case rel => exact ⟨j + 1, by omega, by omega, by go_num, HZ2⟩
              case measure => simp [intOf]; omega
            · have HF : Hid (nameF ks = ([], false)) := hide (by rw [HNM.out, if_pos (.inr (HOTH.out j hj1 h0))])
              have hne : (ks.getD j 0 != 0) = true := bne_iff_ne.2 h0
              clear h0
              generalize ks.getD j 0 = c at *
              go_wp2
              go_ret2
              exact ⟨by rw [HF.out]; rfl, HB0.out⟩
          · have hj8I : decide ((j : Int) < 8) = false := decide_eq_false (by omega)
            have HKS := hide (HALL.out (fun t h1 h2 => HZ.out t h1 (by omega)))
            by_cases hk0 : k = 0
            · have HF : Hid (nameF ks = ([], false)) := hide (by rw [HNM.out, if_pos (.inl (HEM.out hk0))])
              have hk0I : ((k : Int) == 0) = true := beq_iff_eq.2 (by omega)
              clear hk0
              go_wp2
              go_ret2
              exact ⟨by rw [HF.out]; rfl, HB0.out⟩
            · have HF : Hid (nameF ks = (aheadF ks, true)) := hide (by
                rw [HNM.out, if_neg]
                simp only [not_or, Classical.not_not]
                exact ⟨HEN.out hk0, HKS.out⟩)
              have hk0I : ((k : Int) == 0) = false := beq_eq_false_iff_ne.2 (by omega)
              clear hk0
              have hkI8 : (k : Int) ≤ 8 := by omega
              go_wp2
              go_ret2
              exact ⟨by rw [HF.out, HST.out]; rfl, HB0.out⟩
end
section
open Go.RowKit

theorem info32 : (Tryz.prog.info? 22).map (fun i => (i.zero, i.size, i.bytes)) = some (some (.int .u32 0), 1, 4) := by kernel_rfl
theorem drop_two (xs : List Int) (k : Nat) (h : k < xs.length) : xs.drop k = xs.getD k 0 :: xs.drop (k + 1) := by
  rw [List.drop_eq_getElem_cons h]; simp [List.getD, h]
set_option maxRecDepth 100000 in
set_option maxHeartbeats 800000 in
theorem first_any (xs ys : List Int) (v1 v2 : Value) (w : World) (h1 : Lies .u32 w v1 xs) (h2 : Lies .u32 w v2 ys) (hl : xs.length = ys.length) (hn : xs.length ≤ 100) :
    Calls Tryz.prog 158 #[v1, v2] w fun e w' => e = .returned (.int .i64 (lexF xs ys)) ∧ ∃ n, w' = w.drewN n := by
  rcases h1 with ⟨rfl, ao, cap, rfl, _⟩ | ⟨hx, b1, o1, c1, rfl, hb1, hl1, hm1, hc1⟩
  · clear h2
    go_enter Tryz.func158, Tryz.ntmps158
    go_wp2
    refine wp_loop_rounds 1 ?_
    rw [rounds_succ]
    go_wp2
    go_ret
    exact ⟨ret_int (by unfold lexF; rfl), 0, rfl⟩
  · rcases h2 with ⟨rfl, _⟩ | ⟨hy, b2, o2, c2, rfl, hb2, hl2, hm2, hc2⟩
    · exact absurd (List.eq_nil_of_length_eq_zero hl) hx
    · have HC1 := hide hc1
      have HC2 := hide hc2
      have HO : Hid (lexF xs ys = lexF (xs.drop 0) (ys.drop 0)) := hide rfl
      have HL := hide hl
      unfold maxLen at hm1 hm2
      clear hc1 hc2 hl
      generalize hn1 : xs.length = n1 at *
      generalize hn2 : ys.length = n2 at *
      have HN1 := hide hn1
      have HN2 := hide hn2
      clear hn1 hn2
      go_enter Tryz.func158, Tryz.ntmps158
      go_wp2
      go_loopw [5] (fun i wr => ∃ k n : Nat, k ≤ n1 ∧ i = .int .i64 k ∧ wr = w.drewN n ∧ Hid (lexF xs ys = lexF (xs.drop k) (ys.drop k))) (fun i _ => n1 - (intOf i).toNat)
      case atStart => exact ⟨0, 0, Nat.zero_le _, rfl, rfl, HO⟩
      case round =>
        obtain ⟨k, n, hk, rfl, hwr, HK⟩ := hrel
        have HW := hide hwr
        have hbk1 : b1 < wr.heap.size := by rw [hwr]; exact hb1
        by_cases hlt : k < n1
        · have hlt2 : k < n2 := by have := HL.out; omega
          have hcell1 : ∀ m, (wr.drewN m).cell? ⟨b1, o1 + k, none⟩ = some (.int .u32 (xs.getD k 0)) := fun m => by rw [hwr]; exact HC1.out k (by omega)
          have hcell2 : ∀ m, (wr.drewN m).cell? ⟨b2, o2 + k, none⟩ = some (.int .u32 (ys.getD k 0)) := fun m => by rw [hwr]; exact HC2.out k (by omega)
          have hcell3 := hcell1 0
          have hcell4 := hcell2 0
          have HD1 := hide (drop_two xs k (by rw [HN1.out]; exact hlt))
          have HD2 := hide (drop_two ys k (by rw [HN2.out]; exact hlt2))
          clear hwr
          generalize xs.getD k 0 = x at *
          generalize ys.getD k 0 = y at *
          rcases cmpF_rng x y with ⟨h, h2⟩ | ⟨h, h2⟩ | ⟨h, h2⟩
          · have HR : Hid (lexF xs ys = -1) := hide (by rw [HK.out, HD1.out, HD2.out]; unfold lexF orF; rw [h]; rfl)
            clear h
            go_wp2
            go_quiet (fail)
            go_wp2
            go_ret
            exact ⟨ret_int HR.out.symm, n + nq, by rw [HW.out, drewN2]⟩
          · have HR : Hid (lexF xs ys = lexF (xs.drop (k + 1)) (ys.drop (k + 1))) := hide (by rw [HK.out, HD1.out, HD2.out]; show orF (cmpF x y) _ = _; unfold orF; rw [if_pos h])
            clear h
            subst h2
            go_wp2
            go_quiet (fail)
            go_wp2
            go_quiet (fail)
            go_wp2
            go_roundw
            case rel => exact ⟨k + 1, _, by omega, by go_num, by rw [HW.out, drewN2], HR⟩
            case measure => simp [intOf]; omega
          · have HR : Hid (lexF xs ys = 1) := hide (by rw [HK.out, HD1.out, HD2.out]; unfold lexF orF; rw [h]; rfl)
            have h3 : ¬ x < y := by omega
            clear h
            go_wp2
            go_quiet (fail)
            go_wp2
            go_quiet (fail)
            go_wp2
            go_ret
            exact ⟨ret_int HR.out.symm, _, by rw [HW.out]; first | exact drewN3 _ _ _ _ | exact drewN2 _ _ _⟩
        · have hge : decide ((k : Int) < (n1 : Int)) = false := decide_eq_false (by omega)
          go_wp2
          go_ret
          exact ⟨ret_int (by rw [HK.out, List.drop_eq_nil_of_le (by have := HN1.out; omega)]; unfold lexF; rfl), n, rfl⟩
end
section
open Go.RowKit

theorem wrap32_u8 {a : Int} (h0 : 0 ≤ a) (h1 : a < 256) : IntKind.u32.wrap a = a := by rw [IntKind.wrap_u32]; omega
end
section
open Go.RowKit

theorem owns_lt' {w : World} {base e size n : Nat} {v : Value} {xs : List Value} (h : w.ownsRow base e size v n xs) {g : Nat} (hg : v.ownBlock = some g) : g < w.heap.size := (h.lt g hg).2
/-- Two rows of one's own that lie apart. -/
structure Rows2 (base : Nat) (w : World) (v1 v2 : Value) (xs ys : List Int) : Prop where
  o1 : w.ownsRow base 22 1 v1 xs.length (xs.map (Value.int .u32))
  o2 : w.ownsRow base 22 1 v2 ys.length (ys.map (Value.int .u32))
  ne : ∀ g, v1.ownBlock = some g → v2.ownBlock ≠ some g
theorem owns_kept_ne {w w' : World} {base e size n : Nat} {v : Value} {xs : List Value} {row : Option Nat} (h : w.ownsRow base e size v n xs) (hg : w.grownBy w' row) (hne : ∀ g, v.ownBlock = some g → row ≠ some g) : w'.ownsRow base e size v n xs := by
  obtain ⟨hl, h0 | ⟨g, cap, cur, rfl, hb, hh, r⟩⟩ := h
  · exact ⟨hl, .inl h0⟩
  · exact ⟨hl, .inr ⟨g, cap, cur, rfl, hb, (hg.block g (Array.getElem?_eq_some_iff.1 hh).1 (fun e => hne g rfl e.symm)).trans hh, r⟩⟩
set_option maxRecDepth 100000 in
set_option maxHeartbeats 1600000 in
theorem rkeys_any (a b : List Int) (w : World) (ha : a.length = 8) (hb : b.length = 8) (hx : ∀ c ∈ a, 0 ≤ c ∧ c < 256) (hy : ∀ c ∈ b, 0 ≤ c ∧ c < 256) : Calls Tryz.prog 85 #[.agg (cells8 a), .agg (cells8 b)] w fun e w' => e = .returned (.int .i64 (lexF a b)) ∧ Below w.heap.size w w' := by
  obtain ⟨i0, hi, hz0, hz1, hz2⟩ := info_parts info32
  have HA0 : Hid (Box ((w.alloc (.cells (cells8 a) 31)).alloc (.cells (cells8 b) 31)) w.heap.size (cells8 a) 31) := hide ((box_new w _ _).belowI ((Below.refl _ _).alloc (Nat.le_refl _) _))
  have HB0 : Hid (Box ((w.alloc (.cells (cells8 a) 31)).alloc (.cells (cells8 b) 31)) (w.heap.size + 1) (cells8 b) 31) := hide (by
    have := box_new (w.alloc (.cells (cells8 a) 31)) (cells8 b) 31
    rw [World.size_alloc] at this
    exact this)
  have HW0 := hide (((Below.refl w.heap.size w).alloc (Nat.le_refl _) (.cells (cells8 a) 31)).alloc (by simp) (.cells (cells8 b) 31))
  have hs0 : ((w.alloc (.cells (cells8 a) 31)).alloc (.cells (cells8 b) 31)).heap.size = w.heap.size + 2 := by simp
  have HS0 := hide hs0
  have HX := hide hx
  have HY := hide hy
  have HA := hide ha
  have HB := hide hb
  have CF := hide (fun v1 v2 w h1 h2 => first_any a b v1 v2 w h1 h2 (by rw [ha, hb]) (by omega))
  clear hx hy ha hb hs0
  generalize hca : cells8 a = ca at *
  generalize hcb : cells8 b = cb at *
  have HCA := hide hca
  have HCB := hide hcb
  clear hca hcb
  go_enter Tryz.func85, Tryz.ntmps85
  go_wp2
  generalize hW0 : (w.alloc (.cells ca 31)).alloc (.cells cb 31) = W0 at *
  clear hW0
  go_loopw [5, 6, 7] (fun v1 v2 i wr => ∃ k : Nat, k ≤ 8 ∧ i = .int .i64 k ∧ Hid (Rows2 W0.heap.size wr v1 v2 (a.take k) (b.take k)) ∧ Hid (Below W0.heap.size W0 wr)) (fun _ _ i _ => 8 - (intOf i).toNat)
  case atStart => exact ⟨0, by omega, rfl, hide ⟨World.ownsRow_nil _ _ _ _, World.ownsRow_nil _ _ _ _, fun g hg => by cases hg⟩, hide (Below.refl _ _)⟩
  case round =>
    obtain ⟨k, hk, rfl, HR, HBW⟩ := hrel
    by_cases hlt : k < 8
    · have hkI : (k : Int) < 8 := by omega
      have hla : k < a.length := by have := HA.out; omega
      have hlb : k < b.length := by have := HB.out; omega
      have c1 : wr.cell? ⟨w.heap.size, k, none⟩ = some (.int .u8 (a.getD k 0)) := (HA0.out.belowI HBW.out).cell k _ (by rw [← HCA.out]; simp [cells8, List.getD, hla])
      have HYE : Hid (cb[k]? = some (.int .u8 (b.getD k 0))) := hide (by rw [← HCB.out]; simp [cells8, List.getD, hlb])
      have hxa := HX.out (a.getD k 0) (by simp [List.getD, hla])
      have hyb := HY.out (b.getD k 0) (by simp [List.getD, hlb])
      have hv1 := wrap32_u8 hxa.1 hxa.2
      have hv2 := wrap32_u8 hyb.1 hyb.2
      have HT1 : Hid (a.take (k + 1) = a.take k ++ [a.getD k 0]) := hide (by rw [List.take_succ_eq_append_getElem hla]; simp [List.getD, hla])
      have HT2 : Hid (b.take (k + 1) = b.take k ++ [b.getD k 0]) := hide (by rw [List.take_succ_eq_append_getElem hlb]; simp [List.getD, hlb])
      have HLA : Hid ((a.take k).length = k) := hide (by simp; omega)
      have HLB : Hid ((b.take k).length = k) := hide (by simp; omega)
      have ho1 := HR.out.o1
      have ho2 := HR.out.o2
      rw [HLA.out] at ho1
      rw [HLB.out] at ho2
      have HO1 := hide ho1
      have HO2 := hide ho2
      have HNE := hide HR.out.ne
      have HSZ := hide HBW.out.size
      clear ho1 ho2 HR hxa hyb
      generalize a.getD k 0 = x at *
      generalize b.getD k 0 = y at *
      go_wp2_with (first
        | (at_builtin; refine wpList_append_own_at _ rfl _ _ 171 rfl W0.heap.size 22 i0 (.int .u32 0) 1 4 Tryz.underlying171 hi hz0 hz1 hz2 rfl (by decide) _ k _ rfl (HO1.out.alloc _) ⟨wr.heap.size, 0, none⟩ 1 1 [.int .u32 x] rfl rfl (cell_one_new _ _ _) (ints_oneCell .u32 [x]) (by unfold maxLen; omega) (by omega) (by have := HSZ.out; simp; omega) ?_; intro v1' w1 ho1' hg1 hn1 hat1; have hB1 := (HBW.out.alloc HSZ.out (.cells #[.int .u32 x] 22)).grown hg1 (by have := HSZ.out; simp; omega) (fun g hg => (HO1.out.lt g hg).1); have c2 := (HB0.out.belowI hB1).cell k _ HYE.out; have HO2' := hide (owns_kept_ne (HO2.out.alloc (.cells #[.int .u32 x] 22)) hg1 (fun g hg e => HNE.out g e hg)); have HO1' := hide ho1'; have HAT1 := hide hat1; have HB1 := hide hB1; have HSZ1 := hide hB1.size; have HLT1 := hide (fun g (hg : u5.ownBlock = some g) => Nat.lt_of_lt_of_le (owns_lt' HO1.out hg) (Nat.le_refl _)); have HG1 := hide hg1; clear ho1' hg1 hn1 hat1 HO1 hB1)
        | (at_builtin; refine wpList_append_own_at _ rfl _ _ 171 rfl W0.heap.size 22 i0 (.int .u32 0) 1 4 Tryz.underlying171 hi hz0 hz1 hz2 rfl (by decide) _ k _ rfl (HO2'.out.alloc _) ⟨w1.heap.size, 0, none⟩ 1 1 [.int .u32 y] rfl rfl (cell_one_new _ _ _) (ints_oneCell .u32 [y]) (by unfold maxLen; omega) (by omega) (by have := HSZ1.out; simp; omega) ?_; intro v2' w2 ho2' hg2 hn2 hat2; have HB2 := hide ((HB1.out.alloc HSZ1.out (.cells #[.int .u32 y] 22)).grown hg2 (by have := HSZ1.out; simp; omega) (fun g hg => (HO2'.out.lt g hg).1)); have HO2'' := hide ho2'; have HG2 := hide hg2; have HAT2 := hide hat2; clear ho2' hg2 hn2 hat2)
        | go_in)
      have h6lt : ∀ g, u6.ownBlock = some g → g < wr.heap.size := fun g hg => owns_lt' HO2.out hg
      have h1lt : ∀ g, v1'.ownBlock = some g → g < w1.heap.size := fun g hg => owns_lt' HO1'.out hg
      have hapart : ∀ g, v1'.ownBlock = some g → u6.ownBlock ≠ some g := fun g hg e => by
        rcases HAT1.out with h | h
        · exact HNE.out g (h ▸ hg) e
        · rw [h] at hg
          have := h6lt g e
          simp at hg
          omega
      have hR : Rows2 W0.heap.size w2 v1' v2' (a.take (k + 1)) (b.take (k + 1)) := by
        refine ⟨?_, ?_, fun g hg e => ?_⟩
        · rw [HT1.out, List.map_append, List.length_append, HLA.out]
          exact owns_kept_ne (HO1'.out.alloc (.cells #[.int .u32 y] 22)) HG2.out (fun g hg e => hapart g hg e)
        · rw [HT2.out, List.map_append, List.length_append, HLB.out]
          exact HO2''.out
        · rcases HAT2.out with h | h
          · exact hapart g hg (h ▸ e)
          · rw [h] at e
            have := h1lt g hg
            simp at e
            omega
      go_roundw
      case rel => exact ⟨k + 1, by omega, by go_num, hide hR, HB2⟩
      case measure => simp [intOf]; omega
    · have hge : decide ((k : Int) < 8) = false := decide_eq_false (by omega)
      obtain rfl : k = 8 := by omega
      have HL1 := hide (Lies.of_own HR.out.o1)
      have HL2 := hide (Lies.of_own HR.out.o2)
      rw [show a.take 8 = a from List.take_of_length_le (by have := HA.out; omega)] at HL1
      rw [show b.take 8 = b from List.take_of_length_le (by have := HB.out; omega)] at HL2
      have HBR := hide (HW0.out.trans (HBW.out.mono HW0.out.size))
      go_wp2_with (go_at_call 158; refine (CF.out _ _ _ HL1.out HL2.out).mono ?_; rintro e' w3 ⟨rfl, n3, rfl⟩)
      go_ret
      exact ⟨rfl, below_drewN HBR.out⟩
end
section
open Go.RowKit

theorem counts_any (n : Int) (w : World) : Calls Tryz.prog 113 #[.int .u32 n] w fun e w' => e = .returned (.bool (countB n)) ∧ w' = w := by
  unfold countB
  by_cases h : 1 ≤ n
  · have h1 : decide (1 ≤ n) = true := by simpa using h
    rw [h1, Bool.true_and]
    go_enter Tryz.func113, Tryz.ntmps113
    go_wp2
    go_ret
    exact ⟨rfl, rfl⟩
  · have h1 : decide (1 ≤ n) = false := by simpa using h
    rw [h1, Bool.false_and]
    go_enter Tryz.func113, Tryz.ntmps113
    go_wp2
    go_ret
    exact ⟨rfl, rfl⟩
theorem rcount_any (n : Int) (w : World) : Calls Tryz.prog 86 #[.int .u32 n] w fun e w' => e = .returned (.bool (countB n)) ∧ w' = w := by
  unfold countB
  by_cases h : 1 ≤ n
  · have h1 : decide (1 ≤ n) = true := by simpa using h
    rw [h1, Bool.true_and]
    go_enter Tryz.func86, Tryz.ntmps86
    go_wp2
    go_ret
    exact ⟨rfl, rfl⟩
  · have h1 : decide (1 ≤ n) = false := by simpa using h
    rw [h1, Bool.false_and]
    go_enter Tryz.func86, Tryz.ntmps86
    go_wp2
    go_ret
    exact ⟨rfl, rfl⟩
theorem txMay_any (n b m : Int) (w : World) : Calls Tryz.prog 64 #[.agg #[.int .u8 n, .int .u32 b, .int .u32 m]] w fun e w' => e = .returned (.bool (txMayB (n, b, m))) ∧ Below w.heap.size w w' := by
  unfold txMayB
  by_cases h : n < 8
  · have h1 : decide (n < 8) = true := by simpa using h
    rw [h1, Bool.true_and]
    cases hb : countB b
    all_goals
      go_enter Tryz.func64, Tryz.ntmps64
      go_wp2_with (go_at_call 113; refine (counts_any _ _).mono ?_; rintro e w' ⟨rfl, rfl⟩)
      go_ret
      exact ⟨rfl, (Below.refl _ _).alloc (Nat.le_refl _) _⟩
  · have h1 : decide (n < 8) = false := by simpa using h
    rw [h1, Bool.false_and]
    go_enter Tryz.func64, Tryz.ntmps64
    go_wp2
    go_ret
    exact ⟨rfl, (Below.refl _ _).alloc (Nat.le_refl _) _⟩
theorem rtxMay_any (n b m : Int) (w : World) : Calls Tryz.prog 25 #[.agg #[.int .u8 n, .int .u32 b, .int .u32 m]] w fun e w' => e = .returned (.bool (txMayB (n, b, m))) ∧ Below w.heap.size w w' := by
  unfold txMayB
  by_cases h : n < 8
  · have h1 : decide (n < 8) = true := by simpa using h
    rw [h1, Bool.true_and]
    cases hb : countB b
    all_goals
      go_enter Tryz.func25, Tryz.ntmps25
      go_wp2_with (go_at_call 86; refine (rcount_any _ _).mono ?_; rintro e w' ⟨rfl, rfl⟩)
      go_ret
      exact ⟨rfl, (Below.refl _ _).alloc (Nat.le_refl _) _⟩
  · have h1 : decide (n < 8) = false := by simpa using h
    rw [h1, Bool.false_and]
    go_enter Tryz.func25, Tryz.ntmps25
    go_wp2
    go_ret
    exact ⟨rfl, (Below.refl _ _).alloc (Nat.le_refl _) _⟩
theorem regMay_any (b m : Int) (w : World) : Calls Tryz.prog 68 #[.agg #[.int .u32 b, .int .u32 m]] w fun e w' => e = .returned (.bool (regMayB (b, m))) ∧ Below w.heap.size w w' := by
  unfold regMayB
  cases hb : countB b
  all_goals
    go_enter Tryz.func68, Tryz.ntmps68
    go_wp2_with (go_at_call 113; refine (counts_any _ _).mono ?_; rintro e w' ⟨rfl, rfl⟩)
    go_ret
    exact ⟨rfl, (Below.refl _ _).alloc (Nat.le_refl _) _⟩
theorem rregMay_any (b m : Int) (w : World) : Calls Tryz.prog 26 #[.agg #[.int .u32 b, .int .u32 m]] w fun e w' => e = .returned (.bool (regMayB (b, m))) ∧ Below w.heap.size w w' := by
  unfold regMayB
  cases hb : countB b
  all_goals
    go_enter Tryz.func26, Tryz.ntmps26
    go_wp2_with (go_at_call 86; refine (rcount_any _ _).mono ?_; rintro e w' ⟨rfl, rfl⟩)
    go_ret
    exact ⟨rfl, (Below.refl _ _).alloc (Nat.le_refl _) _⟩
end
section
open Go.RowKit Classical

theorem eight_cells8 {k : List Int} (h : k.length = 8) : cells8 k = eightA k := by
  unfold cells8
  rw [← eightE_map h]
set_option maxRecDepth 100000 in
theorem rkeyMay_any (k : List Int) (hk : KeyOk k) (w : World) : Calls Tryz.prog 27 #[.agg (eightA k)] w fun e w' => e = .returned (.bool (nameF k).2) ∧ Below w.heap.size w w' := by
  have hA := alloc_below10 w (.cells (eightA k) 31)
  have hX := box_new w (eightA k) 31
  obtain ⟨w1, hw1⟩ : ∃ w1, w1 = w.alloc (.cells (eightA k) 31) := ⟨_, rfl⟩
  rw [← hw1] at hA hX
  have C := rname_any k hk.l w1
  rw [eight_cells8 hk.l] at C
  have HC := hide C
  have HA := hide hA
  have HX := hide hX
  have hW := hw1.symm
  obtain ⟨x0, x1, x2, x3, x4, x5, x6, x7⟩ := hX.eight
  generalize (nameF k).1 = nm at *
  generalize (nameF k).2 = r at *
  clear hA hX hw1 C
  go_enter Tryz.func27, Tryz.ntmps27
  go_wp2_with (first | (go_at_call 87; refine HC.out.mono ?_; rintro e w2 ⟨rfl, hB2⟩; have HB2 := hide hB2; clear hB2))
  go_ret
  exact ⟨rfl, HA.out.trans (HB2.out.mono HA.out.size)⟩
theorem cf_arr {c : Cf} (h : c.Ok) : c.arr = (cfE c).toArray := by unfold Cf.arr; rw [cfE_cells h]
set_option maxRecDepth 100000 in
set_option maxHeartbeats 1600000 in
theorem ritem_any (i : ItP) (hi : ItOk i) (hl : i.val.length ≤ 9223372036854775807) (w : World) : Calls Tryz.prog 28 #[.agg (itA i)] w fun e w' => e = .returned (.bool (itMayB i)) ∧ Below w.heap.size w w' := by
  have hA := alloc_below10 w (.cells (itA i) 35)
  have hX := box_new w (itA i) 35
  obtain ⟨w1, hw1⟩ : ∃ w1, w1 = w.alloc (.cells (itA i) 35) := ⟨_, rfl⟩
  rw [← hw1] at hA hX
  have C := rmay_any i.cf hi.c w1
  rw [cf_arr hi.c] at C
  have HC := hide C
  have HA := hide hA
  have hW := hw1.symm
  have x0 := hX.cell 0 _ rfl
  have x1 := hX.cell 1 _ rfl
  have x2 := hX.cell 2 _ rfl
  have x3 := hX.cell 3 _ rfl
  have x4 := hX.cell 4 _ rfl
  have x5 := hX.cell 5 _ rfl
  have x6 := hX.cell 6 _ rfl
  have x7 := hX.cell 7 _ rfl
  have x8 := hX.cell 8 _ rfl
  have x9 := hX.cell 9 _ rfl
  have x10 := hX.cell 10 _ rfl
  have x11 := hX.cell 11 _ rfl
  have x12 := hX.cell 12 _ rfl
  have hS := strOf_size10 i.val
  obtain ⟨R, hR⟩ : ∃ R, R = itMayB i := ⟨_, rfl⟩
  rw [← hR]
  by_cases h1 : i.ver ≤ mxN
  · have h1' : i.ver ≤ 2147483647 := h1
    have d1 : decide ((i.ver : Int) ≤ 2147483647) = true := decide_eq_true (by omega)
    by_cases h2 : i.val.length ≤ 64
    · have d2 : decide ((i.val.length : Int) ≤ 64) = true := decide_eq_true (by omega)
      have HR : Hid (R = mayB i.cf) := hide (by rw [hR]; unfold itMayB; rw [decide_eq_true h1, decide_eq_true h2]; rfl)
      clear hA hX hw1 C hR h1 h2
      generalize mayB i.cf = q at *
      go_enter Tryz.func28, Tryz.ntmps28
      go_wp2_with (first | (go_at_call 88; refine HC.out.mono ?_; rintro e w2 ⟨rfl, hB2⟩; have HB2 := hide hB2; clear hB2))
      go_ret
      exact ⟨by rw [HR.out]; rfl, HA.out.trans (HB2.out.mono HA.out.size)⟩
    · have d2 : decide ((i.val.length : Int) ≤ 64) = false := decide_eq_false (by omega)
      have HR : Hid (R = false) := hide (by rw [hR]; unfold itMayB; rw [decide_eq_false h2, Bool.and_false]; rfl)
      clear hA hX hw1 C hR h1 h2
      go_enter Tryz.func28, Tryz.ntmps28
      go_wp2_with fail
      go_ret
      exact ⟨by rw [HR.out]; rfl, HA.out⟩
  · have h1' : ¬ i.ver ≤ 2147483647 := h1
    have d1 : decide ((i.ver : Int) ≤ 2147483647) = false := decide_eq_false (by omega)
    have HR : Hid (R = false) := hide (by rw [hR]; unfold itMayB; rw [decide_eq_false h1]; rfl)
    clear hA hX hw1 C hR h1
    go_enter Tryz.func28, Tryz.ntmps28
    go_wp2_with fail
    go_ret
    exact ⟨by rw [HR.out]; rfl, HA.out⟩
end
section
open Go.RowKit

section
variable {P : Program} {ρ : Operand → Value} {w : World} {dst : Option Tmp} {ty : TypeId} {pos : String} {aft : Array Edge} {gd : Option (Nat × Bool)}
theorem y_move (x : Operand) {v : Value} (hx : ρ x = v) : (execOp ρ ⟨dst, .move x, ty, pos, aft, gd⟩).run P w = .ok (.value v) w := by subst hx; simp [go_sem]
theorem y_assign (x : Operand) {v : Value} (hx : ρ x = v) : (execOp ρ ⟨dst, .assign x, ty, pos, aft, gd⟩).run P w = .ok (.value v) w := by subst hx; simp [go_sem]
theorem y_pickT (x y z : Operand) {v : Value} (hx : ρ x = .bool true) (hy : ρ y = v) : (execOp ρ ⟨dst, .pick x y z, ty, pos, aft, gd⟩).run P w = .ok (.value v) w := by subst hy; simp [go_sem, hx]
theorem y_pickF (x y z : Operand) {v : Value} (hx : ρ x = .bool false) (hz : ρ z = v) : (execOp ρ ⟨dst, .pick x y z, ty, pos, aft, gd⟩).run P w = .ok (.value v) w := by subst hz; simp [go_sem, hx]
theorem y_bin (o : BinOp) (t t2 : TypeId) (x y : Operand) {a b v : Value} (hx : ρ x = a) (hy : ρ y = b) (hr : (binOp o t a b).run P w = .ok v w) (hg : (eqGuard o t x y a b).run P w = .ok () w) : (execOp ρ ⟨dst, .binOp o t x y t2, ty, pos, aft, gd⟩).run P w = .ok (.value v) w := by
  subst hx
  subst hy
  simp [execOp, hr, hg]
theorem y_not (t : TypeId) (x : Operand) {a : Bool} (hx : ρ x = .bool a) : (execOp ρ ⟨dst, .unOp .not t x, ty, pos, aft, gd⟩).run P w = .ok (.value (.bool (!a))) w := by
  simp [go_sem, hx]
theorem y_load (t : TypeId) (x : Operand) {q : Nat} {cs : Array Value} {t0 : TypeId} {d : TypeDesc} (hx : ρ x = .pointer (some ⟨q, 0, none⟩)) (hb : Box w q cs t0) (hu : P.underlying t = some d) (hd : d.isRow = true) (hi : (P.info? t).map (·.size) = some cs.size) : (execOp ρ ⟨dst, .load t x, ty, pos, aft, gd⟩).run P w = .ok (.value (.agg cs)) w := by
  have hr : w.rangeAt q 0 cs.toList := fun j v hv => by
    rw [Nat.zero_add]; exact hb.cell j v (by simpa using hv)
  have hl := run_loadVar_mid (P := P) w q 0 t cs.toList d hr hu hd (by simpa using hi)
  unfold execOp
  simp only [hx, Instr.loadAt, Instr.sureAddr, Sem.run_bind, Sem.run_pure, Result.andThen_ok, hl]
theorem y_loadMid (t : TypeId) (x : Operand) {q o : Nat} {cs : List Value} {d : TypeDesc} (hx : ρ x = .pointer (some ⟨q, o, none⟩)) (hr : w.rangeAt q o cs) (hu : P.underlying t = some d) (hd : d.isRow = true) (hi : (P.info? t).map (·.size) = some cs.length) : (execOp ρ ⟨dst, .load t x, ty, pos, aft, gd⟩).run P w = .ok (.value (.agg cs.toArray)) w := by
  have hl := run_loadVar_mid (P := P) w q o t cs d hr hu hd hi
  unfold execOp
  simp only [hx, Instr.loadAt, Instr.sureAddr, Sem.run_bind, Sem.run_pure, Result.andThen_ok, hl]
theorem y_call (f : FuncId) (xs : Array Operand) (vs : Array Value) (tys : Array TypeId) (hf : ρ (.func f) = .func (.func f) #[] #[]) (hv : xs.map ρ = vs) (he : ∀ args w, (callFunc f args).run P w = .ok (.enter f args) w) : (execOp ρ ⟨dst, .call { callee := .value (.func f), args := xs, argTypes := tys }, ty, pos, aft, gd⟩).run P w = .ok (.enter f vs) w := by
  subst hv
  simp [go_sem, hf, he]
theorem y_len (x : Operand) (t : TypeId) {ao : Option Addr} {n c : Nat} {e : TypeId} (hx : ρ x = .slice ao n c) (hu : P.underlying t = some (.slice e)) : (execOp ρ ⟨dst, .call { callee := .builtin .len, args := #[x], argTypes := #[t] }, ty, pos, aft, gd⟩).run P w = .ok (.value (.int .i64 (n : Int))) w := by
  have hb : (Builtin.len_ #[t] ty #[.slice ao n c]).run P w = .ok (.int .i64 (n : Int)) w := by
    have := run_underlying (P := P) hu
    simp [Builtin.len_, this, goInt, Result.andThen]
  simp [go_sem, hx, hb]
theorem y_build (t : TypeId) {z : Value} (hz : (Instr.build t #[]).run P w = .ok z w) : (execOp ρ ⟨dst, .build t #[], ty, pos, aft, gd⟩).run P w = .ok (.value z) w := by
  simp [execOp, hz]
end
section
variable {P : Program} {ops : Array Oper} {Q : Exit → Act → World → Prop}
theorem r_pure {i : Nat} {o : Oper} {a : Act} {w : World} {v : Value} {ps : List (Nat × Value)} (hi : ops[i]? = some o) (hw : Region.wanted o (yielded ops a.tmps) = true)
    (hv : pv ps i = v) (hr : (execOp a.eval o).run P w = .ok (.value v) w) : wpOp P ops Q i (fun a' w' => Below w.heap.size w w' ∧ ∃ v, InvV ps i v w' ∧ a' = a.put o.dst v) a w :=
  each_pure hi hw hr hv.symm
theorem r_enter {i : Nat} {o : Oper} {a : Act} {w : World} {v : Value} {ps : List (Nat × Value)} {f : FuncId} {args : Array Value} (hi : ops[i]? = some o) (hw : Region.wanted o (yielded ops a.tmps) = true)
    (hv : pv ps i = v) (hr : (execOp a.eval o).run P w = .ok (.enter f args) w) (h : Calls P f args w fun e w' => e = .returned v ∧ Below w.heap.size w w') : wpOp P ops Q i (fun a' w' => Below w.heap.size w w' ∧ ∃ v, InvV ps i v w' ∧ a' = a.put o.dst v) a w :=
  each_enter hi hw hr (Calls.mono h fun _ _ ⟨he, hB⟩ => ⟨v, he, hB, hv.symm⟩)
end
end
end Go.Proofs.YtencmgepffdodaaGreat
