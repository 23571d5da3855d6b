/-
  Rows of the program's timers: slices.BinarySearchFunc by their order. Own work.
-/
import Derived.Test.YtgjdlclkibiffaaPkOrd
import Derived.Deep.LoopGhost
namespace Go.Proofs.Ytgjdlclkibiffaa
open Go.RowKit

/-- How many ring ahead of t. -/
def aheadN (xs : List TmP) (t : TmP) : Nat := (xs.takeWhile (fun x => aheadB x t)).length
theorem aheadN_le (xs : List TmP) (t : TmP) : aheadN xs t ≤ xs.length := (List.takeWhile_sublist _).length_le
theorem takeN (xs : List TmP) (t : TmP) : xs.take (aheadN xs t) = xs.takeWhile (fun x => aheadB x t) := by
  have h := List.takeWhile_append_dropWhile (p := fun x => aheadB x t) (l := xs)
  have e : xs.take (aheadN xs t) = (xs.takeWhile (fun x => aheadB x t) ++ xs.dropWhile (fun x => aheadB x t)).take (aheadN xs t) := by rw [h]
  rw [e]
  unfold aheadN
  rw [List.take_append_of_le_length (Nat.le_refl _), List.take_length]
theorem dropN (xs : List TmP) (t : TmP) : xs.drop (aheadN xs t) = xs.dropWhile (fun x => aheadB x t) := by
  have h := List.takeWhile_append_dropWhile (p := fun x => aheadB x t) (l := xs)
  have e : xs.drop (aheadN xs t) = (xs.takeWhile (fun x => aheadB x t) ++ xs.dropWhile (fun x => aheadB x t)).drop (aheadN xs t) := by rw [h]
  rw [e]
  unfold aheadN
  rw [List.drop_append_of_le_length (Nat.le_refl _), List.drop_length, List.nil_append]
/-- Where the first part ends. -/
theorem aheadN_bound {t : TmP} : ∀ {xs : List TmP} {i : Nat}, i ≤ xs.length → (∀ j (h : j < xs.length), j < i → aheadB xs[j] t = true) → (∀ j (h : j < xs.length), i ≤ j → aheadB xs[j] t = false) → aheadN xs t = i
  | [], i, h, _, _ => by simp at h; simp [aheadN, h]
  | a :: l, 0, _, _, h2 => by
    have := h2 0 (by simp) (Nat.le_refl _)
    simp only [List.getElem_cons_zero] at this
    simp [aheadN, this]
  | a :: l, i + 1, h, h1, h2 => by
    have ha := h1 0 (by simp) (by omega)
    simp only [List.getElem_cons_zero] at ha
    have ih := aheadN_bound (t := t) (xs := l) (i := i) (by simpa using h) (fun j hj hi => by have := h1 (j + 1) (by simpa using hj) (by omega); simpa using this) (fun j hj hi => by have := h2 (j + 1) (by simpa using hj) (by omega); simpa using this)
    unfold aheadN at ih ⊢
    simp [ha, ih]
theorem sorted_ahead {xs : List TmP} (hs : xs.Pairwise (fun a b => aheadB a b = true)) {t : TmP} {i j : Nat} (hj : j < xs.length) (hij : i ≤ j) (h : aheadB xs[j] t = true) : aheadB (xs[i]'(by omega)) t = true := by
  rcases Nat.lt_or_ge i j with hlt | hge
  · exact ahead_trans (List.pairwise_iff_getElem.1 hs i j (by omega) hj hlt) h
  · obtain rfl : i = j := by omega
    exact h
theorem below_cell {w w' : World} (hB : Below w.heap.size w w') {b o : Nat} {v : Value} (hb : b < w.heap.size) (h : w.cell? ⟨b, o, none⟩ = some v) : w'.cell? ⟨b, o, none⟩ = some v := (World.cell?_of_block (hB.block b hb)).trans h
theorem RSrc.grown9 {w w' : World} {v : Value} {xs : List TmP} (h : RSrc ptE w v xs) (hB : Below w.heap.size w w') : RSrc ptE w' v xs := h.below hB
set_option maxRecDepth 100000 in
set_option maxHeartbeats 1600000 in
theorem pfind_any (v : Value) (xs : List TmP) (t : TmP) (w : World) (hS : RSrc ptE w v xs) (hs : xs.Pairwise (fun a b => aheadB a b = true)) (hl : xs.length ≤ 100000) :
    Calls Try.prog 36 #[v, .agg (ptA t), .func (.func 33) #[] #[]] w fun e w' => ∃ b, e = .returned (.tuple #[.int .i64 (aheadN xs t : Int), .bool b]) ∧ Below w.heap.size w w' := by
  obtain ⟨ao, cap, rfl, hcap, hcm⟩ := hS.shape
  unfold maxLen at hcm
  have HS := hide hS
  have HP := hide hs
  obtain ⟨n, hn⟩ : ∃ n, n = xs.length := ⟨_, rfl⟩
  have HN := hide hn
  have hn2 : n ≤ 100000 := by omega
  rw [← hn] at hcap ⊢
  have hA0 := alloc_below9 w (.cells (ptA t) 80)
  have hX0 := box_new w (ptA t) 80
  obtain ⟨w0, hw0⟩ : ∃ w0, w0 = w.alloc (.cells (ptA t) 80) := ⟨_, rfl⟩
  rw [← hw0] at hA0 hX0
  have hW0 := hw0.symm
  have HA0 := hide hA0
  have HX0 := hide hX0
  have HO := hide (fun a w => ord_any a t w)
  obtain ⟨aN, haN⟩ : ∃ aN, aN = aheadN xs t := ⟨_, rfl⟩
  rw [← haN]
  have HAN := hide haN
  clear haN
  clear hS hs hn hl hA0 hX0 hw0
  go_enter Try.func36, Try.ntmps36
  go_wp2_with fail
  clear hW0
  go_loopg [9, 10] n (fun kx s9 s10 wr => ∃ lo hi : Nat, s9 = .int .i64 lo ∧ s10 = .int .i64 hi ∧ lo ≤ hi ∧ hi ≤ n ∧ hi - lo ≤ kx ∧ Hid (Below w0.heap.size w0 wr) ∧
    Hid ((∀ j (h : j < xs.length), j < lo → aheadB xs[j] t = true) ∧ (∀ j (h : j < xs.length), hi ≤ j → aheadB xs[j] t = false)))
  case atStart => exact ⟨0, n, rfl, rfl, Nat.zero_le _, Nat.le_refl _, by omega, hide (Below.refl _ _), hide ⟨fun j _ h => absurd h (Nat.not_lt_zero _), fun j h1 h2 => by have := HN.out; omega⟩⟩
  case round =>
    obtain ⟨lo, hi, rfl, rfl, hlh, hin, hg, HB, I⟩ := hrel
    have HBW := hide (HA0.out.trans (HB.out.mono HA0.out.size))
    by_cases hlt : lo < hi
    · obtain ⟨md, hmd⟩ : ∃ md, md = (lo + hi) / 2 := ⟨_, rfl⟩
      have hm1 : lo ≤ md := by omega
      have hm2 : md < hi := by omega
      have hmx : md < xs.length := by rw [← HN.out]; omega
      have hS1 : RSrc ptE wr (.slice ao n cap) xs := by have := HS.out.below HBW.out; rw [← HN.out] at this; exact this
      obtain ⟨hnx, b, off, rfl, hb, hcl⟩ := hS1.at recPT.len hmx
      have r0 := hcl 0 _ rfl
      rw [Nat.add_zero] at r0
      have r1 := hcl 1 _ rfl
      have r2 := hcl 2 _ rfl
      have r3 := hcl 3 _ rfl
      have r4 := hcl 4 _ rfl
      obtain ⟨y, hy⟩ : ∃ y, y = xs[md] := ⟨_, rfl⟩
      have HY := hide hy
      rw [← hy] at r0 r1 r2 r3 r4
      have hXr := HX0.out.belowI HB.out
      obtain ⟨x0, x1, x2, x3, x4⟩ := hXr.five9
      have hxl := hXr.lt
      have HC := hide (HO.out y)
      have hmI : ((lo : Int) + (hi : Int)) / 2 = (md : Int) := by omega
      have hwr := HB.out.size
      have hhalf : ((lo + hi) / 2) = md := hmd.symm
      clear hcl hS1 hy hXr hmd hnx
      by_cases hy0 : lexF (tmL y) (tmL t) < 0
      · have HAB : Hid (aheadB y t = true) := hide ((ahead_iff y t).2 hy0)
        generalize lexF (tmL y) (tmL t) = r at *
        go_wp2_with fail
        go_region_held (fun w' => w'.cell? ⟨b, off + md * 5, none⟩ = some (.int .u32 y.2) ∧ w'.cell? ⟨b, off + md * 5 + 1, none⟩ = some (.int .u8 y.1.1) ∧ w'.cell? ⟨b, off + md * 5 + 2, none⟩ = some (.int .u8 y.1.2.1) ∧ w'.cell? ⟨b, off + md * 5 + 3, none⟩ = some (.int .u32 y.1.2.2.1) ∧ w'.cell? ⟨b, off + md * 5 + 4, none⟩ = some (.int .u32 y.1.2.2.2) ∧ w'.cell? ⟨w.heap.size, 0, none⟩ = some (.int .u32 t.2) ∧ w'.cell? ⟨w.heap.size, 1, none⟩ = some (.int .u8 t.1.1) ∧ w'.cell? ⟨w.heap.size, 2, none⟩ = some (.int .u8 t.1.2.1) ∧ w'.cell? ⟨w.heap.size, 3, none⟩ = some (.int .u32 t.1.2.2.1) ∧ w'.cell? ⟨w.heap.size, 4, none⟩ = some (.int .u32 t.1.2.2.2)) (go_keep) (first | (go_at_call 33; refine (HC.out _).mono ?_; rintro e' w1 ⟨rfl, hG⟩; have HG1 := hide hG.below; have q0 := below_cell hG.below hb r0; have q1 := below_cell hG.below hb r1; have q2 := below_cell hG.below hb r2; have q3 := below_cell hG.below hb r3; have q4 := below_cell hG.below hb r4; have p0 := below_cell hG.below hxl x0; have p1 := below_cell hG.below hxl x1; have p2 := below_cell hG.below hxl x2; have p3 := below_cell hG.below hxl x3; have p4 := below_cell hG.below hxl x4; clear hG))
        go_wp2_with fail
        go_roundg (hi - (md + 1))
        case measure => omega
        case rel =>
          refine ⟨md + 1, hi, by first | rfl | go_num, rfl, by omega, hin, Nat.le_refl _, hide (HB.out.drew.trans (HG1.out.mono HB.out.size)), hide ⟨fun j hj hji => ?_, I.out.2⟩⟩
          exact sorted_ahead HP.out hmx (by omega) (by rw [← HY.out]; exact HAB.out)
      · have HAB : Hid (aheadB y t = false) := hide (by unfold aheadB; simp [hy0])
        generalize lexF (tmL y) (tmL t) = r at *
        go_wp2_with fail
        go_region_held (fun w' => w'.cell? ⟨b, off + md * 5, none⟩ = some (.int .u32 y.2) ∧ w'.cell? ⟨b, off + md * 5 + 1, none⟩ = some (.int .u8 y.1.1) ∧ w'.cell? ⟨b, off + md * 5 + 2, none⟩ = some (.int .u8 y.1.2.1) ∧ w'.cell? ⟨b, off + md * 5 + 3, none⟩ = some (.int .u32 y.1.2.2.1) ∧ w'.cell? ⟨b, off + md * 5 + 4, none⟩ = some (.int .u32 y.1.2.2.2) ∧ w'.cell? ⟨w.heap.size, 0, none⟩ = some (.int .u32 t.2) ∧ w'.cell? ⟨w.heap.size, 1, none⟩ = some (.int .u8 t.1.1) ∧ w'.cell? ⟨w.heap.size, 2, none⟩ = some (.int .u8 t.1.2.1) ∧ w'.cell? ⟨w.heap.size, 3, none⟩ = some (.int .u32 t.1.2.2.1) ∧ w'.cell? ⟨w.heap.size, 4, none⟩ = some (.int .u32 t.1.2.2.2)) (go_keep) (first | (go_at_call 33; refine (HC.out _).mono ?_; rintro e' w1 ⟨rfl, hG⟩; have HG1 := hide hG.below; have q0 := below_cell hG.below hb r0; have q1 := below_cell hG.below hb r1; have q2 := below_cell hG.below hb r2; have q3 := below_cell hG.below hb r3; have q4 := below_cell hG.below hb r4; have p0 := below_cell hG.below hxl x0; have p1 := below_cell hG.below hxl x1; have p2 := below_cell hG.below hxl x2; have p3 := below_cell hG.below hxl x3; have p4 := below_cell hG.below hxl x4; clear hG))
        go_wp2_with fail
        go_roundg (md - lo)
        case measure => omega
        case rel =>
          refine ⟨lo, md, rfl, by first | rfl | go_num, hm1, by omega, Nat.le_refl _, hide (HB.out.drew.trans (HG1.out.mono HB.out.size)), hide ⟨I.out.1, fun j hj hji => ?_⟩⟩
          cases hq : aheadB xs[j] t with
          | false => rfl
          | true => have := sorted_ahead HP.out hj hji hq; rw [← HY.out, HAB.out] at this; cases this
    · obtain rfl : lo = hi := by omega
      obtain rfl : lo = aN := by rw [HAN.out, aheadN_bound (by rw [← HN.out]; exact hin) I.out.1 I.out.2]
      by_cases hln : lo < n
      · have hmx : lo < xs.length := by rw [← HN.out]; omega
        have hS1 : RSrc ptE wr (.slice ao n cap) xs := by have := HS.out.below HBW.out; rw [← HN.out] at this; exact this
        obtain ⟨hnx, b, off, rfl, hb, hcl⟩ := hS1.at recPT.len hmx
        have r0 := hcl 0 _ rfl
        rw [Nat.add_zero] at r0
        have r1 := hcl 1 _ rfl
        have r2 := hcl 2 _ rfl
        have r3 := hcl 3 _ rfl
        have r4 := hcl 4 _ rfl
        obtain ⟨y, hy⟩ : ∃ y, y = xs[lo] := ⟨_, rfl⟩
        rw [← hy] at r0 r1 r2 r3 r4
        have hXr := HX0.out.belowI HB.out
        obtain ⟨x0, x1, x2, x3, x4⟩ := hXr.five9
        have hxl := hXr.lt
        have HC := hide (HO.out y)
        have hwr := HB.out.size
        have hlnI : (lo : Int) < (n : Int) := by omega
        clear hcl hS1 hy hXr hnx
        generalize lexF (tmL y) (tmL t) = r at *
        go_wp2_with fail
        go_region_held (fun w' => w'.cell? ⟨b, off + lo * 5, none⟩ = some (.int .u32 y.2) ∧ w'.cell? ⟨b, off + lo * 5 + 1, none⟩ = some (.int .u8 y.1.1) ∧ w'.cell? ⟨b, off + lo * 5 + 2, none⟩ = some (.int .u8 y.1.2.1) ∧ w'.cell? ⟨b, off + lo * 5 + 3, none⟩ = some (.int .u32 y.1.2.2.1) ∧ w'.cell? ⟨b, off + lo * 5 + 4, none⟩ = some (.int .u32 y.1.2.2.2) ∧ w'.cell? ⟨w.heap.size, 0, none⟩ = some (.int .u32 t.2) ∧ w'.cell? ⟨w.heap.size, 1, none⟩ = some (.int .u8 t.1.1) ∧ w'.cell? ⟨w.heap.size, 2, none⟩ = some (.int .u8 t.1.2.1) ∧ w'.cell? ⟨w.heap.size, 3, none⟩ = some (.int .u32 t.1.2.2.1) ∧ w'.cell? ⟨w.heap.size, 4, none⟩ = some (.int .u32 t.1.2.2.2)) (go_keep) (first | (go_at_call 33; refine (HC.out _).mono ?_; rintro e' w1 ⟨rfl, hG⟩; have HG1 := hide hG.below; have q0 := below_cell hG.below hb r0; have q1 := below_cell hG.below hb r1; have q2 := below_cell hG.below hb r2; have q3 := below_cell hG.below hb r3; have q4 := below_cell hG.below hb r4; have p0 := below_cell hG.below hxl x0; have p1 := below_cell hG.below hxl x1; have p2 := below_cell hG.below hxl x2; have p3 := below_cell hG.below hxl x3; have p4 := below_cell hG.below hxl x4; clear hG))
        go_wp2_with fail
        go_ret2
        exact ⟨_, rfl, HBW.out.drew.trans (HG1.out.mono HBW.out.size)⟩
      · obtain rfl : lo = n := by omega
        go_wp2_with fail
        go_region
        go_wp2_with fail
        go_ret2
        exact ⟨_, rfl, HBW.out.drew⟩
end Go.Proofs.Ytgjdlclkibiffaa
