/-
  Walks of the program's functions on bytes: shortSize, copyWithRoom, Short, Long; and the reference's Same. Own work.
-/
import Derived.Test.YtnljibmdcknmeabDoorNum
import Derived.Test.YtnljibmdcknmeabDoorTexts
import Derived.Test.YtnljibmdcknmeabDoorAppLies
import Derived.Handy
import Derived.OwnWalk
import Derived.Laws.BytesArg
import Derived.Maps.AppendAt
namespace Go.Proofs.YtnljibmdcknmeabDoor
open Go.RowKit

set_option maxHeartbeats 400000 in
theorem size_any (v : Value) (xs : List Int) (w : World) (h : Lies .u8 w v xs) :
    Calls Tryd.prog 50 #[v] w fun e w' => e = .returned (.int .i64 (sizeS xs)) ∧ w' = w := by
  have hlen := h.len
  unfold maxLen at hlen
  rcases h with ⟨rfl, ao, cap, rfl, _⟩ | ⟨_, b, off, cap, rfl, _, _, _, hc⟩
  · go_enter Tryd.func50, Tryd.ntmps50
    go_wp2
    go_rounds 1
    go_ret
    exact ⟨rfl, rfl⟩
  · have H0 : Hid (sizeFrom xs 0 = sizeS xs) := hide (sizeFrom_zero xs)
    go_enter Tryd.func50, Tryd.ntmps50
    go_wp2
    go_loop [3, 4, 7] (fun _ _ i => ∃ k : Nat, k ≤ xs.length ∧ i = .int .i64 k ∧ Hid (sizeFrom xs k = sizeS xs)) (fun _ _ i => xs.length - (intOf i).toNat)
    case atStart => exact ⟨0, Nat.zero_le _, rfl, H0⟩
    case round =>
      obtain ⟨k, hk, rfl, HK⟩ := hrel
      by_cases hlt : k < xs.length
      · have hcell := hc k hlt
        by_cases hs : xs.getD k 0 < 128
        · have HE : Hid (sizeS xs = k + 1) := hide (by rw [← HK.out, sizeFrom_hit xs k hlt hs])
          generalize xs.getD k 0 = c at *
          clear hc
          go_wp2
          go_ret
          exact ⟨ret_int (by rw [HE.out]; simp), rfl⟩
        · have HE : Hid (sizeFrom xs (k + 1) = sizeS xs) := hide (by rw [← HK.out, sizeFrom_miss xs k hlt hs])
          generalize xs.getD k 0 = c at *
          clear hc
          go_wp2
          go_round
          case rel => exact ⟨k + 1, by omega, by go_num, HE⟩
          case measure => simp [intOf]; omega
      · have HE : Hid (sizeS xs = 0) := hide (by rw [← HK.out, sizeFrom_end xs k (by omega)])
        clear hc
        go_wp2
        go_ret
        exact ⟨ret_int (by rw [HE.out]; rfl), rfl⟩


set_option maxHeartbeats 400000 in
theorem copy_any (v : Value) (xs : List Int) (room : Nat) (w : World) (h : Lies .u8 w v xs) (hr : xs.length + room ≤ 140737488355328) :
    Calls Tryd.prog 48 #[v, .int .i64 room] w fun e w' => e = .returned (.slice (some ⟨w.heap.size, 0, none⟩) xs.length (xs.length + room)) ∧
      w'.ownsRow w.heap.size 5 1 (.slice (some ⟨w.heap.size, 0, none⟩) xs.length (xs.length + room)) xs.length (xs.map (Value.int .u8)) ∧ Below w.heap.size w w' := by
  obtain ⟨ao, cap, rfl, hnone, hcells⟩ := h.appendable
  obtain ⟨i0, hi, hz0, hz1, hz2⟩ := info_parts info5
  clear h
  generalize hn : xs.length = n at *
  have hcap : (xs.map (Value.int .u8)).length = n * 1 := by simp [hn]
  clear hn
  generalize hy : xs.map (Value.int .u8) = ys at *
  have h1c : ∀ u ∈ ys, u.oneCell' = true := by rw [← hy]; exact ints_oneCell _ _
  clear hy
  go_enter Tryd.func48, Tryd.ntmps48
  go_wp2_with (at_make; refine wpList_make_own _ rfl _ _ 41 rfl w.heap.size 5 i0 (.int .u8 0) 1 Tryd.underlying41 hi hz0 hz1 _ _ _ (n + room) rfl rfl (by omega) ?b2 ?b3 (Nat.le_refl _) ?_)
  case b2 => rw [hz2]; omega
  case b3 => unfold maxLen; omega
  intro w0 hown0 hgrow0
  have hc0 : ∀ ad, ao = some ad → ∀ j u, ys[j]? = some u → w0.cell? (ad.add j) = some u := fun ad had j u hu => hgrow0.cell (hcells ad had j u hu) (by simp)
  have hB0 : Below w.heap.size w w0 := (Below.refl _ _).grown hgrow0 (Nat.le_refl _) (fun k h => by cases h)
  clear hcells hgrow0
  have HC := hide hc0
  clear hc0
  go_wp2_with (at_builtin; refine wpList_append_fits_any _ rfl _ _ 41 rfl w.heap.size 5 i0 1 Tryd.underlying41 hi hz1 w.heap.size 0 (n + room) _ rfl hown0 ao n cap ys rfl hcap hnone HC.out h1c (by omega) ?_; intro w1 hown1 hgrow1)
  simp only [Nat.zero_add, List.nil_append] at hown1
  go_ret
  exact ⟨by simp, hown1, hB0.grown hgrow1 hB0.size (fun k hk => by cases hk; exact Nat.le_refl _)⟩

theorem or128 (m : Nat) : bits BinOp.or IntKind.u8 ((m : Int) % 256) 128 = ((m % 128 + 128 : Nat) : Int) := by
  rw [u8_or _ _ (by omega) (by omega) (by decide) (by decide)]
  have key : ∀ x : Fin 256, (x.val ||| 128) = x.val % 128 + 128 := by decide +kernel
  have := key ⟨((m : Int) % 256).toNat, by omega⟩
  simp only at this
  show ((((m : Int) % 256).toNat ||| 128 : Nat) : Int) = _
  rw [this]
  omega
set_option maxRecDepth 100000 in
set_option maxHeartbeats 400000 in
theorem short_any (v : Value) (xs : List Int) (n : Nat) (w : World) (h : Lies .u8 w v xs) (hr : xs.length + 10 ≤ 140737488355328) (hn : n < 18446744073709551616) :
    Calls Tryd.prog 41 #[v, .int .u64 n] w fun e w' => ∃ v', e = .returned v' ∧
      w'.ownsRow w.heap.size 5 1 v' (xs ++ shortS n).length ((xs ++ shortS n).map (Value.int .u8)) ∧ Below w.heap.size w w' := by
  obtain ⟨i0, hi, hz0, hz1, hz2⟩ := info_parts info5
  have hl10 := shortS_len10 hn
  go_enter Tryd.func41, Tryd.ntmps41
  go_wp2_with (go_at_call 48; refine (copy_any v xs 10 w h hr).mono ?_; rintro e w0 ⟨rfl, hown0, hB0⟩)
  go_loopw [1, 5] (fun m' o wr => ∃ (m : Nat) (zs : List Int), m' = .int .u64 m ∧ m < 18446744073709551616 ∧ Hid (zs ++ shortS m = xs ++ shortS n) ∧ wr.ownsRow w.heap.size 5 1 o zs.length (zs.map (Value.int .u8)) ∧ Below w.heap.size w wr) (fun m' _ _ => (intOf m').toNat)
  case atStart => exact ⟨n, xs, rfl, hn, rfl, hown0, hB0⟩
  case round =>
    obtain ⟨m, zs, rfl, hm, HZ, hown, hB⟩ := hrel
    have hzl : zs.length + (shortS m).length = xs.length + (shortS n).length := by rw [← List.length_append, HZ.out, List.length_append]
    have hbase := hB.size
    by_cases hlt : m < 128
    · have hsl : (shortS m).length = 1 := by rw [shortS_lt hlt]; rfl
      have HL : Hid ((zs ++ [(m : Int)]) = xs ++ shortS n) := by rw [← HZ.out, shortS_lt hlt]; rfl
      have hz64 : zs.length + 1 ≤ 140737488355328 := by omega
      clear hzl
      go_wp2_with (at_builtin; refine wpList_append_own _ rfl _ _ 41 rfl w.heap.size 5 i0 (.int .u8 0) 1 1 Tryd.underlying41 hi hz0 hz1 hz2 rfl (by decide) _ _ _ rfl (hown.alloc _) ⟨wr.heap.size, 0, none⟩ 1 1 [.int .u8 m] rfl rfl (cell_one_new _ _ _) (by simp [Value.oneCell']) (by unfold maxLen; omega) (by omega) (by simp; omega) ?_; intro v' w1 hown1 hgrow1 _)
      go_ret
      refine ⟨v', rfl, ?_, (hB.alloc hbase _).grown hgrow1 (by simp; omega) (fun k hk => (hown.lt k hk).1)⟩
      rw [← HL.out]
      simpa using hown1
    · have HL : Hid ((zs ++ [((m % 128 + 128 : Nat) : Int)]) ++ shortS (m / 128) = xs ++ shortS n) := by rw [← HZ.out, shortS_ge hlt]; simp [Hid]
      have hsl : (shortS (m / 128)).length + 1 = (shortS m).length := by rw [shortS_ge hlt]; simp
      have hz64 : zs.length + 1 ≤ 140737488355328 := by omega
      have ho := or128 m
      generalize hcc : ((m % 128 + 128 : Nat) : Int) = c at *
      clear hcc hzl hsl
      go_wp2_with (at_builtin; refine wpList_append_own _ rfl _ _ 41 rfl w.heap.size 5 i0 (.int .u8 0) 1 1 Tryd.underlying41 hi hz0 hz1 hz2 rfl (by decide) _ _ _ rfl (hown.alloc _) ⟨wr.heap.size, 0, none⟩ 1 1 [.int .u8 c] rfl rfl (cell_one_new _ _ _) (by simp [Value.oneCell']) (by unfold maxLen; omega) (by omega) (by simp; omega) ?_; intro v' w1 hown1 hgrow1 _)
      go_roundw
      case rel => exact ⟨m / 128, zs ++ [c], by go_num, by omega, HL, by simpa using hown1, (hB.alloc hbase _).grown hgrow1 (by simp; omega) (fun k hk => (hown.lt k hk).1)⟩
      case measure => simp [intOf]; omega

theorem and127 (c : Int) (h0 : 0 ≤ c) (h1 : c < 256) : bits BinOp.and IntKind.u8 c 127 = (((c % 128).toNat : Nat) : Int) := by
  rw [u8_and _ _ h0 h1 (by decide) (by decide)]
  have := nat_mask7 c.toNat
  show ((c.toNat &&& 127 : Nat) : Int) = _
  rw [this]; omega
theorem val_fit (c : Int) (k : Nat) (hk : k < 10) (h9 : k = 9 → c ≤ 1) (h0 : 0 ≤ c) : (c % 128).toNat * 2 ^ (7 * k) < 18446744073709551616 := by
  by_cases h : k = 9
  · subst h
    have := h9 rfl
    have : (c % 128).toNat ≤ 1 := by omega
    have : (c % 128).toNat * 2 ^ (7 * 9) ≤ 1 * 2 ^ (7 * 9) := Nat.mul_le_mul_right _ this
    exact Nat.lt_of_le_of_lt this (by decide)
  · have h1 : (c % 128).toNat ≤ 127 := by omega
    have h2 : 2 ^ (7 * k) ≤ 2 ^ 56 := Nat.pow_le_pow_right (by decide) (by omega)
    have := Nat.mul_le_mul h1 h2
    exact Nat.lt_of_le_of_lt this (by decide)
theorem val_step (xs : List Int) (k : Nat) (hk : k < xs.length) (c : Int) (hc : xs.getD k 0 = c) (h0 : 0 ≤ c) (h1 : c < 256) (hf : (c % 128).toNat * 2 ^ (7 * k) < 18446744073709551616) (hv : valS (xs.take k) < 18446744073709551616) :
    bits BinOp.or IntKind.u64 ((valS (xs.take k) : Nat) : Int) (IntKind.u64.wrap (IntKind.u64.wrap (bits BinOp.and IntKind.u8 c 127) * 2 ^ (7 * k))) = ((valS (xs.take (k + 1)) : Nat) : Int) := by
  have hl : (xs.take k).length = k := by simp; omega
  have hlt := valS_lt (xs.take k)
  rw [hl] at hlt
  rw [and127 c h0 h1]
  have e1 : IntKind.u64.wrap (((c % 128).toNat : Nat) : Int) = (((c % 128).toNat : Nat) : Int) := by rw [IntKind.wrap_u64]; omega
  rw [e1]
  have e2 : IntKind.u64.wrap ((((c % 128).toNat : Nat) : Int) * 2 ^ (7 * k)) = (((c % 128).toNat * 2 ^ (7 * k) : Nat) : Int) := by
    rw [IntKind.wrap_u64]
    have : ((((c % 128).toNat : Nat) : Int) * 2 ^ (7 * k)) = (((c % 128).toNat * 2 ^ (7 * k) : Nat) : Int) := by simp
    rw [this]; omega
  rw [e2, u64_or_nat _ _ hv hf, Nat.or_comm, nat_join (7 * k) _ _ (Nat.mul_mod_left _ _) hlt, take_snoc xs k hk, valS_snoc, hl, hc, Nat.add_comm]

set_option maxHeartbeats 1600000 in
theorem long_ok (b off cap s : Nat) (xs : List Int) (w : World) (hb : b < w.heap.size) (hxs : xs ≠ []) (hl : xs.length ≤ cap) (hm : cap ≤ maxLen)
    (hc : ∀ t, t < xs.length → w.cell? ⟨b, off + t, none⟩ = some (.int .u8 (xs.getD t 0)))
    (hs : Hid (sizeS xs = s)) (h1 : 1 ≤ s) (hz : 1 < s → xs.getD (s - 1) 0 ≠ 0) (h10 : s ≤ 10) (hten : s = 10 → xs.getD 9 0 ≤ 1)
    (hx : ∀ c ∈ xs, 0 ≤ c ∧ c < 256) :
    Calls Tryd.prog 49 #[.slice (some ⟨b, off, none⟩) xs.length cap] w fun e w' => e = .returned (.tuple #[.int .u64 ((valS (xs.take s) : Nat) : Int), .int .i64 s, .int .i64 0]) ∧ w' = w := by
  have hszc : Calls Tryd.prog 50 #[.slice (some ⟨b, off, none⟩) xs.length cap] w fun e w' => e = .returned (.int .i64 s) ∧ w' = w := by
    have := size_any (.slice (some ⟨b, off, none⟩) xs.length cap) xs w (.inr ⟨hxs, b, off, cap, rfl, hb, hl, hm, hc⟩)
    rw [hs.out] at this
    exact this
  have hsl : s ≤ xs.length := by rw [← hs.out]; exact sizeS_le xs
  have hla := hc (s - 1) (by omega)
  unfold maxLen at hm
  have e0 : ((s : Int) == 0) = false := by simp; omega
  have e1 : (s : Int) - 1 = ((s - 1 : Nat) : Int) := by omega
  have hfit : Hid (∀ k, k < s → (xs.getD k 0 % 128).toNat * 2 ^ (7 * k) < 18446744073709551616 ∧ 0 ≤ xs.getD k 0 ∧ xs.getD k 0 < 256) := by
    intro k hk
    have hcb : 0 ≤ xs.getD k 0 ∧ xs.getD k 0 < 256 := hx _ (by simp [List.getD, show k < xs.length by omega])
    refine ⟨val_fit _ k (by omega) (fun h9 => ?_) hcb.1, hcb⟩
    subst h9
    exact hten (by omega)
  have hval : Hid (∀ k, k ≤ s → valS (xs.take k) < 18446744073709551616) := by
    intro k
    induction k with
    | zero => intro _; simp [valS]
    | succ k ih =>
      intro hk
      have h1 := ih (by omega)
      have h2 := (hfit.out k (by omega)).1
      have hl' : (xs.take k).length = k := by simp; omega
      have h3 := valS_lt (xs.take k)
      rw [hl'] at h3
      rw [take_snoc xs k (by omega), valS_snoc, hl']
      by_cases h9 : k = 9
      · subst h9
        have := hten (by omega)
        have : (xs.getD 9 0 % 128).toNat ≤ 1 := by have := (hfit.out 9 (by omega)).2; omega
        have : (xs.getD 9 0 % 128).toNat * 2 ^ (7 * 9) ≤ 1 * 2 ^ (7 * 9) := Nat.mul_le_mul_right _ this
        have e63 : (2 : Nat) ^ (7 * 9) = 9223372036854775808 := by decide
        rw [e63] at h3 this ⊢
        omega
      · have h4 : (2 : Nat) ^ (7 * k) ≤ 2 ^ 56 := Nat.pow_le_pow_right (by decide) (by omega)
        have h5 : (xs.getD k 0 % 128).toNat ≤ 127 := by have := (hfit.out k (by omega)).2; omega
        have h6 := Nat.mul_le_mul h5 h4
        have e56 : (2 : Nat) ^ 56 = 72057594037927936 := by decide
        rw [e56] at h4 h6
        omega
  clear hx
  have cases3 : (s ≤ 1) ∨ (1 < s ∧ s < 10) ∨ s = 10 := by omega
  generalize hlg : xs.getD (s - 1) 0 = last at *
  have hlg' := hide hlg
  clear hlg
  have e2 : 1 < s → (last == 0) = false := fun h => by simpa using hz h
  have e4 : s = 10 → last ≤ 1 := fun h => by have := hten h; rw [← hlg'.out, h]; exact this
  clear hz hten hlg'
  rcases cases3 with hs0 | ⟨h1s, hs10⟩ | rfl
  · have hs1 : (s : Int) ≤ 1 := by omega
    have hla0 : w.cell? ⟨b, off, none⟩ = some (.int .u8 last) := by simpa [show s - 1 = 0 by omega] using hla
    have e3 : ((s : Int) == 10) = false := by simp; omega
    clear e4 e2
    go_enter Tryd.func49, Tryd.ntmps49
    go_wp2_with (go_at_call 50; refine hszc.mono ?_; rintro e w' ⟨rfl, rfl⟩)
    go_loop [7, 8, 9, 39] (fun n _ _ i => ∃ k : Nat, k ≤ s ∧ i = .int .i64 k ∧ n = .int .u64 ((valS (xs.take k) : Nat) : Int)) (fun _ _ _ i => s - (intOf i).toNat)
    case atStart => exact ⟨0, Nat.zero_le _, rfl, rfl⟩
    case round =>
      obtain ⟨k, hk, rfl, rfl⟩ := hrel
      by_cases hlt : k < s
      · have hcell := hc k (by omega)
        obtain ⟨hf, hcb0, hcb1⟩ := hfit.out k hlt
        have HS := hide (val_step xs k (by omega) _ rfl hcb0 hcb1 hf (hval.out k hk))
        generalize xs.getD k 0 = c at *
        clear hf hc hszc hla
        go_wp2
        go_round
        case rel => exact ⟨k + 1, by omega, by go_num, by rw [← HS.out]⟩
        case measure => simp [intOf]; omega
      · obtain rfl : k = s := by omega
        go_wp2
        go_ret3
        exact ⟨rfl, rfl⟩
  · have e2' := e2 h1s
    have e3 : ((s : Int) == 10) = false := by simp; omega
    clear e4 e2
    go_enter Tryd.func49, Tryd.ntmps49
    go_wp2_with (go_at_call 50; refine hszc.mono ?_; rintro e w' ⟨rfl, rfl⟩)
    go_loop [7, 8, 9, 39] (fun n _ _ i => ∃ k : Nat, k ≤ s ∧ i = .int .i64 k ∧ n = .int .u64 ((valS (xs.take k) : Nat) : Int)) (fun _ _ _ i => s - (intOf i).toNat)
    case atStart => exact ⟨0, Nat.zero_le _, rfl, rfl⟩
    case round =>
      obtain ⟨k, hk, rfl, rfl⟩ := hrel
      by_cases hlt : k < s
      · have hcell := hc k (by omega)
        obtain ⟨hf, hcb0, hcb1⟩ := hfit.out k hlt
        have HS := hide (val_step xs k (by omega) _ rfl hcb0 hcb1 hf (hval.out k hk))
        generalize xs.getD k 0 = c at *
        clear hf hc hszc hla
        go_wp2
        go_round
        case rel => exact ⟨k + 1, by omega, by go_num, by rw [← HS.out]⟩
        case measure => simp [intOf]; omega
      · obtain rfl : k = s := by omega
        go_wp2
        go_ret3
        exact ⟨rfl, rfl⟩
  · have e2' := e2 (by decide)
    have e4' := e4 rfl
    clear e4 e2
    go_enter Tryd.func49, Tryd.ntmps49
    go_wp2_with (go_at_call 50; refine hszc.mono ?_; rintro e w' ⟨rfl, rfl⟩)
    go_loop [7, 8, 9, 39] (fun n _ _ i => ∃ k : Nat, k ≤ 10 ∧ i = .int .i64 k ∧ n = .int .u64 ((valS (xs.take k) : Nat) : Int)) (fun _ _ _ i => 10 - (intOf i).toNat)
    case atStart => exact ⟨0, Nat.zero_le _, rfl, rfl⟩
    case round =>
      obtain ⟨k, hk, rfl, rfl⟩ := hrel
      by_cases hlt : k < 10
      · have hcell := hc k (by omega)
        obtain ⟨hf, hcb0, hcb1⟩ := hfit.out k hlt
        have HS := hide (val_step xs k (by omega) _ rfl hcb0 hcb1 hf (hval.out k hk))
        generalize xs.getD k 0 = c at *
        clear hf hc hszc hla
        go_wp2
        go_round
        case rel => exact ⟨k + 1, by omega, by go_num, by rw [← HS.out]⟩
        case measure => simp [intOf]; omega
      · obtain rfl : k = 10 := by omega
        go_wp2
        go_ret3
        exact ⟨rfl, rfl⟩

theorem convert_empty (ao : Option Addr) (cap : Nat) (w : World) : (convert 41 9 (.slice ao 0 cap)).run Tryd.prog w = .ok (.string (strOfNums [])) w := by
  cases ao with
  | none => exact run_convert_bytes_nil (P := Tryd.prog) w 41 5 Tryd.underlying41 Tryd.underlying5 0 cap 9 Tryd.underlying9
  | some ad =>
    have hl : (loadCells ad 0).run Tryd.prog w = .ok (([] : List Int).map (Value.int .u8)).toArray w := by
      have := run_loadCells_list (P := Tryd.prog) w ad [] (fun j v hj => by simp at hj)
      simpa using this
    rw [run_convert_bytes_string w 41 9 5 _ 0 cap Tryd.underlying41 Tryd.underlying5 Tryd.underlying9, run_bytesToString w _ 0 cap [] hl]
    rfl
theorem Lies.convert {w : World} {v : Value} {xs : List Int} (h : Lies .u8 w v xs) : (convert 41 9 v).run Tryd.prog w = .ok (.string (strOfNums xs)) w := by
  rcases h with ⟨rfl, ao, cap, rfl, _⟩ | ⟨_, b, off, cap, rfl, _, _, _, hc⟩
  · exact convert_empty ao cap w
  · exact run_convert_bytes_arg w 41 5 Tryd.underlying41 Tryd.underlying5 b off xs.length cap xs rfl hc 9 Tryd.underlying9
/-- What Long answers. -/
def longS (xs : List Int) : Int × Int × Int :=
  if sizeS xs = 0 then (0, 0, 4)
  else if 1 < sizeS xs ∧ xs.getD (sizeS xs - 1) 0 = 0 then (0, 0, 3)
  else if 10 < sizeS xs ∨ sizeS xs = 10 ∧ 1 < xs.getD (sizeS xs - 1) 0 then (0, 0, 3)
  else (((valS (xs.take (sizeS xs)) : Nat) : Int), (sizeS xs : Int), 0)

set_option maxHeartbeats 800000 in
theorem long_any (v : Value) (xs : List Int) (w : World) (h : Lies .u8 w v xs) (hx : ∀ c ∈ xs, 0 ≤ c ∧ c < 256) :
    Calls Tryd.prog 49 #[v] w fun e w' => e = .returned (.tuple #[.int .u64 (longS xs).1, .int .i64 (longS xs).2.1, .int .i64 (longS xs).2.2]) ∧ w' = w := by
  have hszc := size_any v xs w h
  have hlen := h.len
  unfold maxLen at hlen
  have hsl := sizeS_le xs
  unfold longS
  by_cases h0 : sizeS xs = 0
  · rw [if_pos h0]
    rw [h0] at hszc
    clear hsl h0 h hx
    go_enter Tryd.func49, Tryd.ntmps49
    go_wp2_with (go_at_call 50; refine hszc.mono ?_; rintro e w' ⟨rfl, rfl⟩)
    go_ret3
    exact ⟨rfl, rfl⟩
  · rw [if_neg h0]
    rcases h with ⟨rfl, _⟩ | ⟨hxs, b, off, cap, rfl, hb, hl, hm, hc⟩
    · exact absurd rfl h0
    · by_cases hA : 1 < sizeS xs ∧ xs.getD (sizeS xs - 1) 0 = 0
      · rw [if_pos hA]
        obtain ⟨h1, h2⟩ := hA
        have hla := hc (sizeS xs - 1) (by omega)
        rw [h2] at hla
        clear hc h2 hx
        unfold maxLen at hm
        generalize sizeS xs = s at *
        have e0 : ((s : Int) == 0) = false := by simp; omega
        have e1 : (s : Int) - 1 = ((s - 1 : Nat) : Int) := by omega
        go_enter Tryd.func49, Tryd.ntmps49
        go_wp2_with (go_at_call 50; refine hszc.mono ?_; rintro e w' ⟨rfl, rfl⟩)
        go_ret3
        exact ⟨rfl, rfl⟩
      · rw [if_neg hA]
        by_cases hB : 10 < sizeS xs ∨ sizeS xs = 10 ∧ 1 < xs.getD (sizeS xs - 1) 0
        · rw [if_pos hB]
          have hla := hc (sizeS xs - 1) (by omega)
          clear hc hx
          unfold maxLen at hm
          generalize xs.getD (sizeS xs - 1) 0 = last at *
          generalize sizeS xs = s at *
          have e0 : ((s : Int) == 0) = false := by simp; omega
          have e1 : (s : Int) - 1 = ((s - 1 : Nat) : Int) := by omega
          have e2 : (last == 0) = false := by simp; omega
          rcases hB with hB | ⟨hB1, hB2⟩
          · clear hA
            go_enter Tryd.func49, Tryd.ntmps49
            go_wp2_with (go_at_call 50; refine hszc.mono ?_; rintro e w' ⟨rfl, rfl⟩)
            go_ret3
            exact ⟨rfl, rfl⟩
          · clear hA
            have e3 : ((s : Int) == 10) = true := by simp; omega
            have hs1 : (1 : Int) < s := by omega
            have hs2 : (s : Int) ≤ 10 := by omega
            clear hB1
            go_enter Tryd.func49, Tryd.ntmps49
            go_wp2_with (go_at_call 50; refine hszc.mono ?_; rintro e w' ⟨rfl, rfl⟩)
            go_ret3
            exact ⟨rfl, rfl⟩
        · rw [if_neg hB]
          refine long_ok b off cap (sizeS xs) xs w hb hxs hl hm hc rfl (by omega) (fun h h' => hA ⟨h, h'⟩) (by omega) (fun h => ?_) hx
          have : ¬ 1 < xs.getD (sizeS xs - 1) 0 := fun h' => hB (.inr ⟨h, h'⟩)
          rw [h] at this
          simpa using this

end Go.Proofs.YtnljibmdcknmeabDoor
