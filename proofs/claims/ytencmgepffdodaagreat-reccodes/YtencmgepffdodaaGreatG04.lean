/-
  Own texts put together: Bytes, RWriter. Own work.
-/
import Derived.Test.YtencmgepffdodaaGreatG03
import Derived.Test.YtencmgepffdodaaGreatG01
import Derived.Handy
import Derived.OwnWalk
import Derived.Laws.BytesArg
import Derived.Maps.AppendAt
namespace Go.Proofs.YtencmgepffdodaaGreat
section
open Go.RowKit

set_option maxHeartbeats 400000 in
theorem size_any (v : Value) (xs : List Int) (w : World) (h : Lies .u8 w v xs) :
    Calls Tryz.prog 181 #[v] w fun e w' => e = .returned (.int .i64 (sizeS xs)) ∧ w' = w := by
  have hlen := h.len
  unfold maxLen at hlen
  rcases h with ⟨rfl, ao, cap, rfl, _⟩ | ⟨_, b, off, cap, rfl, _, _, _, hc⟩
  · go_enter Tryz.func181, Tryz.ntmps181
    go_wp2
    go_rounds 1
    go_ret
    exact ⟨rfl, rfl⟩
  · have H0 : Hid (sizeFrom xs 0 = sizeS xs) := hide (sizeFrom_zero xs)
    go_enter Tryz.func181, Tryz.ntmps181
    go_wp2
    go_loop [3, 4, 7] (fun _ _ i => ∃ k : Nat, k ≤ xs.length ∧ i = .int .i64 k ∧ Hid (sizeFrom xs k = sizeS xs)) (fun _ _ i => xs.length - (intOf i).toNat)
    case atStart => exact ⟨0, Nat.zero_le _, rfl, H0⟩
    case round =>
      obtain ⟨k, hk, rfl, HK⟩ := hrel
      by_cases hlt : k < xs.length
      · have hcell := hc k hlt
        by_cases hs : xs.getD k 0 < 128
        · have HE : Hid (sizeS xs = k + 1) := hide (by rw [← HK.out, sizeFrom_hit xs k hlt hs])
          generalize xs.getD k 0 = c at *
          clear hc
          go_wp2
          go_ret
          exact ⟨ret_int (by rw [HE.out]; simp), rfl⟩
        · have HE : Hid (sizeFrom xs (k + 1) = sizeS xs) := hide (by rw [← HK.out, sizeFrom_miss xs k hlt hs])
          generalize xs.getD k 0 = c at *
          clear hc
          go_wp2
          go_round
          case rel => exact ⟨k + 1, by omega, by go_num, HE⟩
          case measure => simp [intOf]; omega
      · have HE : Hid (sizeS xs = 0) := hide (by rw [← HK.out, sizeFrom_end xs k (by omega)])
        clear hc
        go_wp2
        go_ret
        exact ⟨ret_int (by rw [HE.out]; rfl), rfl⟩


set_option maxHeartbeats 400000 in
theorem copy_any (v : Value) (xs : List Int) (room : Nat) (w : World) (h : Lies .u8 w v xs) (hr : xs.length + room ≤ 140737488355328) :
    Calls Tryz.prog 164 #[v, .int .i64 room] w fun e w' => e = .returned (.slice (some ⟨w.heap.size, 0, none⟩) xs.length (xs.length + room)) ∧
      w'.ownsRow w.heap.size 5 1 (.slice (some ⟨w.heap.size, 0, none⟩) xs.length (xs.length + room)) xs.length (xs.map (Value.int .u8)) ∧ Below w.heap.size w w' := by
  obtain ⟨ao, cap, rfl, hnone, hcells⟩ := h.appendable
  obtain ⟨i0, hi, hz0, hz1, hz2⟩ := info_parts info5
  clear h
  generalize hn : xs.length = n at *
  have hcap : (xs.map (Value.int .u8)).length = n * 1 := by simp [hn]
  clear hn
  generalize hy : xs.map (Value.int .u8) = ys at *
  have h1c : ∀ u ∈ ys, u.oneCell' = true := by rw [← hy]; exact ints_oneCell _ _
  clear hy
  go_enter Tryz.func164, Tryz.ntmps164
  go_wp2_with (at_make; refine wpList_make_own _ rfl _ _ 45 rfl w.heap.size 5 i0 (.int .u8 0) 1 Tryz.underlying45 hi hz0 hz1 _ _ _ (n + room) rfl rfl (by omega) ?b2 ?b3 (Nat.le_refl _) ?_)
  case b2 => rw [hz2]; omega
  case b3 => unfold maxLen; omega
  intro w0 hown0 hgrow0
  have hc0 : ∀ ad, ao = some ad → ∀ j u, ys[j]? = some u → w0.cell? (ad.add j) = some u := fun ad had j u hu => hgrow0.cell (hcells ad had j u hu) (by simp)
  have hB0 : Below w.heap.size w w0 := (Below.refl _ _).grown hgrow0 (Nat.le_refl _) (fun k h => by cases h)
  clear hcells hgrow0
  have HC := hide hc0
  clear hc0
  go_wp2_with (at_builtin; refine wpList_append_fits_any _ rfl _ _ 45 rfl w.heap.size 5 i0 1 Tryz.underlying45 hi hz1 w.heap.size 0 (n + room) _ rfl hown0 ao n cap ys rfl hcap hnone HC.out h1c (by omega) ?_; intro w1 hown1 hgrow1)
  simp only [Nat.zero_add, List.nil_append] at hown1
  go_ret
  exact ⟨by simp, hown1, hB0.grown hgrow1 hB0.size (fun k hk => by cases hk; exact Nat.le_refl _)⟩

theorem or128 (m : Nat) : bits BinOp.or IntKind.u8 ((m : Int) % 256) 128 = ((m % 128 + 128 : Nat) : Int) := by
  rw [u8_or _ _ (by omega) (by omega) (by decide) (by decide)]
  have key : ∀ x : Fin 256, (x.val ||| 128) = x.val % 128 + 128 := by decide +kernel
  have := key ⟨((m : Int) % 256).toNat, by omega⟩
  simp only at this
  show ((((m : Int) % 256).toNat ||| 128 : Nat) : Int) = _
  rw [this]
  omega
set_option maxRecDepth 100000 in
set_option maxHeartbeats 400000 in
theorem short_any (v : Value) (xs : List Int) (n : Nat) (w : World) (h : Lies .u8 w v xs) (hr : xs.length + 10 ≤ 140737488355328) (hn : n < 18446744073709551616) :
    Calls Tryz.prog 126 #[v, .int .u64 n] w fun e w' => ∃ v', e = .returned v' ∧
      w'.ownsRow w.heap.size 5 1 v' (xs ++ shortS n).length ((xs ++ shortS n).map (Value.int .u8)) ∧ Below w.heap.size w w' := by
  obtain ⟨i0, hi, hz0, hz1, hz2⟩ := info_parts info5
  have hl10 := shortS_len10 hn
  go_enter Tryz.func126, Tryz.ntmps126
  go_wp2_with (go_at_call 164; refine (copy_any v xs 10 w h hr).mono ?_; rintro e w0 ⟨rfl, hown0, hB0⟩)
  go_loopw [1, 5] (fun m' o wr => ∃ (m : Nat) (zs : List Int), m' = .int .u64 m ∧ m < 18446744073709551616 ∧ Hid (zs ++ shortS m = xs ++ shortS n) ∧ wr.ownsRow w.heap.size 5 1 o zs.length (zs.map (Value.int .u8)) ∧ Below w.heap.size w wr) (fun m' _ _ => (intOf m').toNat)
  case atStart => exact ⟨n, xs, rfl, hn, rfl, hown0, hB0⟩
  case round =>
    obtain ⟨m, zs, rfl, hm, HZ, hown, hB⟩ := hrel
    have hzl : zs.length + (shortS m).length = xs.length + (shortS n).length := by rw [← List.length_append, HZ.out, List.length_append]
    have hbase := hB.size
    by_cases hlt : m < 128
    · have hsl : (shortS m).length = 1 := by rw [shortS_lt hlt]; rfl
      have HL : Hid ((zs ++ [(m : Int)]) = xs ++ shortS n) := by rw [← HZ.out, shortS_lt hlt]; rfl
      have hz64 : zs.length + 1 ≤ 140737488355328 := by omega
      clear hzl
      go_wp2_with (at_builtin; refine wpList_append_own _ rfl _ _ 45 rfl w.heap.size 5 i0 (.int .u8 0) 1 1 Tryz.underlying45 hi hz0 hz1 hz2 rfl (by decide) _ _ _ rfl (hown.alloc _) ⟨wr.heap.size, 0, none⟩ 1 1 [.int .u8 m] rfl rfl (cell_one_new _ _ _) (by simp [Value.oneCell']) (by unfold maxLen; omega) (by omega) (by simp; omega) ?_; intro v' w1 hown1 hgrow1 _)
      go_ret
      refine ⟨v', rfl, ?_, (hB.alloc hbase _).grown hgrow1 (by simp; omega) (fun k hk => (hown.lt k hk).1)⟩
      rw [← HL.out]
      simpa using hown1
    · have HL : Hid ((zs ++ [((m % 128 + 128 : Nat) : Int)]) ++ shortS (m / 128) = xs ++ shortS n) := by rw [← HZ.out, shortS_ge hlt]; simp [Hid]
      have hsl : (shortS (m / 128)).length + 1 = (shortS m).length := by rw [shortS_ge hlt]; simp
      have hz64 : zs.length + 1 ≤ 140737488355328 := by omega
      have ho := or128 m
      generalize hcc : ((m % 128 + 128 : Nat) : Int) = c at *
      clear hcc hzl hsl
      go_wp2_with (at_builtin; refine wpList_append_own _ rfl _ _ 45 rfl w.heap.size 5 i0 (.int .u8 0) 1 1 Tryz.underlying45 hi hz0 hz1 hz2 rfl (by decide) _ _ _ rfl (hown.alloc _) ⟨wr.heap.size, 0, none⟩ 1 1 [.int .u8 c] rfl rfl (cell_one_new _ _ _) (by simp [Value.oneCell']) (by unfold maxLen; omega) (by omega) (by simp; omega) ?_; intro v' w1 hown1 hgrow1 _)
      go_roundw
      case rel => exact ⟨m / 128, zs ++ [c], by go_num, by omega, HL, by simpa using hown1, (hB.alloc hbase _).grown hgrow1 (by simp; omega) (fun k hk => (hown.lt k hk).1)⟩
      case measure => simp [intOf]; omega

theorem and127 (c : Int) (h0 : 0 ≤ c) (h1 : c < 256) : bits BinOp.and IntKind.u8 c 127 = (((c % 128).toNat : Nat) : Int) := by
  rw [u8_and _ _ h0 h1 (by decide) (by decide)]
  have := nat_mask7 c.toNat
  show ((c.toNat &&& 127 : Nat) : Int) = _
  rw [this]; omega
theorem val_fit (c : Int) (k : Nat) (hk : k < 10) (h9 : k = 9 → c ≤ 1) (h0 : 0 ≤ c) : (c % 128).toNat * 2 ^ (7 * k) < 18446744073709551616 := by
  by_cases h : k = 9
  · subst h
    have := h9 rfl
    have : (c % 128).toNat ≤ 1 := by omega
    have : (c % 128).toNat * 2 ^ (7 * 9) ≤ 1 * 2 ^ (7 * 9) := Nat.mul_le_mul_right _ this
    exact Nat.lt_of_le_of_lt this (by decide)
  · have h1 : (c % 128).toNat ≤ 127 := by omega
    have h2 : 2 ^ (7 * k) ≤ 2 ^ 56 := Nat.pow_le_pow_right (by decide) (by omega)
    have := Nat.mul_le_mul h1 h2
    exact Nat.lt_of_le_of_lt this (by decide)
theorem val_step (xs : List Int) (k : Nat) (hk : k < xs.length) (c : Int) (hc : xs.getD k 0 = c) (h0 : 0 ≤ c) (h1 : c < 256) (hf : (c % 128).toNat * 2 ^ (7 * k) < 18446744073709551616) (hv : valS (xs.take k) < 18446744073709551616) :
    bits BinOp.or IntKind.u64 ((valS (xs.take k) : Nat) : Int) (IntKind.u64.wrap (IntKind.u64.wrap (bits BinOp.and IntKind.u8 c 127) * 2 ^ (7 * k))) = ((valS (xs.take (k + 1)) : Nat) : Int) := by
  have hl : (xs.take k).length = k := by simp; omega
  have hlt := valS_lt (xs.take k)
  rw [hl] at hlt
  rw [and127 c h0 h1]
  have e1 : IntKind.u64.wrap (((c % 128).toNat : Nat) : Int) = (((c % 128).toNat : Nat) : Int) := by rw [IntKind.wrap_u64]; omega
  rw [e1]
  have e2 : IntKind.u64.wrap ((((c % 128).toNat : Nat) : Int) * 2 ^ (7 * k)) = (((c % 128).toNat * 2 ^ (7 * k) : Nat) : Int) := by
    rw [IntKind.wrap_u64]
    have : ((((c % 128).toNat : Nat) : Int) * 2 ^ (7 * k)) = (((c % 128).toNat * 2 ^ (7 * k) : Nat) : Int) := by simp
    rw [this]; omega
  rw [e2, u64_or_nat _ _ hv hf, Nat.or_comm, nat_join (7 * k) _ _ (Nat.mul_mod_left _ _) hlt, take_snoc xs k hk, valS_snoc, hl, hc, Nat.add_comm]

set_option maxHeartbeats 1600000 in
theorem long_ok (b off cap s : Nat) (xs : List Int) (w : World) (hb : b < w.heap.size) (hxs : xs ≠ []) (hl : xs.length ≤ cap) (hm : cap ≤ maxLen)
    (hc : ∀ t, t < xs.length → w.cell? ⟨b, off + t, none⟩ = some (.int .u8 (xs.getD t 0)))
    (hs : Hid (sizeS xs = s)) (h1 : 1 ≤ s) (hz : 1 < s → xs.getD (s - 1) 0 ≠ 0) (h10 : s ≤ 10) (hten : s = 10 → xs.getD 9 0 ≤ 1)
    (hx : ∀ c ∈ xs, 0 ≤ c ∧ c < 256) :
    Calls Tryz.prog 174 #[.slice (some ⟨b, off, none⟩) xs.length cap] w fun e w' => e = .returned (.tuple #[.int .u64 ((valS (xs.take s) : Nat) : Int), .int .i64 s, .int .i64 0]) ∧ w' = w := by
  have hszc : Calls Tryz.prog 181 #[.slice (some ⟨b, off, none⟩) xs.length cap] w fun e w' => e = .returned (.int .i64 s) ∧ w' = w := by
    have := size_any (.slice (some ⟨b, off, none⟩) xs.length cap) xs w (.inr ⟨hxs, b, off, cap, rfl, hb, hl, hm, hc⟩)
    rw [hs.out] at this
    exact this
  have hsl : s ≤ xs.length := by rw [← hs.out]; exact sizeS_le xs
  have hla := hc (s - 1) (by omega)
  unfold maxLen at hm
  have e0 : ((s : Int) == 0) = false := by simp; omega
  have e1 : (s : Int) - 1 = ((s - 1 : Nat) : Int) := by omega
  have hfit : Hid (∀ k, k < s → (xs.getD k 0 % 128).toNat * 2 ^ (7 * k) < 18446744073709551616 ∧ 0 ≤ xs.getD k 0 ∧ xs.getD k 0 < 256) := by
    intro k hk
    have hcb : 0 ≤ xs.getD k 0 ∧ xs.getD k 0 < 256 := hx _ (by simp [List.getD, show k < xs.length by omega])
    refine ⟨val_fit _ k (by omega) (fun h9 => ?_) hcb.1, hcb⟩
    subst h9
    exact hten (by omega)
  have hval : Hid (∀ k, k ≤ s → valS (xs.take k) < 18446744073709551616) := by
    intro k
    induction k with
    | zero => intro _; simp [valS]
    | succ k ih =>
      intro hk
      have h1 := ih (by omega)
      have h2 := (hfit.out k (by omega)).1
      have hl' : (xs.take k).length = k := by simp; omega
      have h3 := valS_lt (xs.take k)
      rw [hl'] at h3
      rw [take_snoc xs k (by omega), valS_snoc, hl']
      by_cases h9 : k = 9
      · subst h9
        have := hten (by omega)
        have : (xs.getD 9 0 % 128).toNat ≤ 1 := by have := (hfit.out 9 (by omega)).2; omega
        have : (xs.getD 9 0 % 128).toNat * 2 ^ (7 * 9) ≤ 1 * 2 ^ (7 * 9) := Nat.mul_le_mul_right _ this
        have e63 : (2 : Nat) ^ (7 * 9) = 9223372036854775808 := by decide
        rw [e63] at h3 this ⊢
        omega
      · have h4 : (2 : Nat) ^ (7 * k) ≤ 2 ^ 56 := Nat.pow_le_pow_right (by decide) (by omega)
        have h5 : (xs.getD k 0 % 128).toNat ≤ 127 := by have := (hfit.out k (by omega)).2; omega
        have h6 := Nat.mul_le_mul h5 h4
        have e56 : (2 : Nat) ^ 56 = 72057594037927936 := by decide
        rw [e56] at h4 h6
        omega
  clear hx
  have cases3 : (s ≤ 1) ∨ (1 < s ∧ s < 10) ∨ s = 10 := by omega
  generalize hlg : xs.getD (s - 1) 0 = last at *
  have hlg' := hide hlg
  clear hlg
  have e2 : 1 < s → (last == 0) = false := fun h => by simpa using hz h
  have e4 : s = 10 → last ≤ 1 := fun h => by have := hten h; rw [← hlg'.out, h]; exact this
  clear hz hten hlg'
  rcases cases3 with hs0 | ⟨h1s, hs10⟩ | rfl
  · have hs1 : (s : Int) ≤ 1 := by omega
    have hla0 : w.cell? ⟨b, off, none⟩ = some (.int .u8 last) := by simpa [show s - 1 = 0 by omega] using hla
    have e3 : ((s : Int) == 10) = false := by simp; omega
    clear e4 e2
    go_enter Tryz.func174, Tryz.ntmps174
    go_wp2_with (go_at_call 181; refine hszc.mono ?_; rintro e w' ⟨rfl, rfl⟩)
    go_loop [7, 8, 9, 39] (fun n _ _ i => ∃ k : Nat, k ≤ s ∧ i = .int .i64 k ∧ n = .int .u64 ((valS (xs.take k) : Nat) : Int)) (fun _ _ _ i => s - (intOf i).toNat)
    case atStart => exact ⟨0, Nat.zero_le _, rfl, rfl⟩
    case round =>
      obtain ⟨k, hk, rfl, rfl⟩ := hrel
      by_cases hlt : k < s
      · have hcell := hc k (by omega)
        obtain ⟨hf, hcb0, hcb1⟩ := hfit.out k hlt
        have HS := hide (val_step xs k (by omega) _ rfl hcb0 hcb1 hf (hval.out k hk))
        generalize xs.getD k 0 = c at *
        clear hf hc hszc hla
        go_wp2
        go_round
        case rel => exact ⟨k + 1, by omega, by go_num, by rw [← HS.out]⟩
        case measure => simp [intOf]; omega
      · obtain rfl : k = s := by omega
        go_wp2
        go_ret3
        exact ⟨rfl, rfl⟩
  · have e2' := e2 h1s
    have e3 : ((s : Int) == 10) = false := by simp; omega
    clear e4 e2
    go_enter Tryz.func174, Tryz.ntmps174
    go_wp2_with (go_at_call 181; refine hszc.mono ?_; rintro e w' ⟨rfl, rfl⟩)
    go_loop [7, 8, 9, 39] (fun n _ _ i => ∃ k : Nat, k ≤ s ∧ i = .int .i64 k ∧ n = .int .u64 ((valS (xs.take k) : Nat) : Int)) (fun _ _ _ i => s - (intOf i).toNat)
    case atStart => exact ⟨0, Nat.zero_le _, rfl, rfl⟩
    case round =>
      obtain ⟨k, hk, rfl, rfl⟩ := hrel
      by_cases hlt : k < s
      · have hcell := hc k (by omega)
        obtain ⟨hf, hcb0, hcb1⟩ := hfit.out k hlt
        have HS := hide (val_step xs k (by omega) _ rfl hcb0 hcb1 hf (hval.out k hk))
        generalize xs.getD k 0 = c at *
        clear hf hc hszc hla
        go_wp2
        go_round
        case rel => exact ⟨k + 1, by omega, by go_num, by rw [← HS.out]⟩
        case measure => simp [intOf]; omega
      · obtain rfl : k = s := by omega
        go_wp2
        go_ret3
        exact ⟨rfl, rfl⟩
  · have e2' := e2 (by decide)
    have e4' := e4 rfl
    clear e4 e2
    go_enter Tryz.func174, Tryz.ntmps174
    go_wp2_with (go_at_call 181; refine hszc.mono ?_; rintro e w' ⟨rfl, rfl⟩)
    go_loop [7, 8, 9, 39] (fun n _ _ i => ∃ k : Nat, k ≤ 10 ∧ i = .int .i64 k ∧ n = .int .u64 ((valS (xs.take k) : Nat) : Int)) (fun _ _ _ i => 10 - (intOf i).toNat)
    case atStart => exact ⟨0, Nat.zero_le _, rfl, rfl⟩
    case round =>
      obtain ⟨k, hk, rfl, rfl⟩ := hrel
      by_cases hlt : k < 10
      · have hcell := hc k (by omega)
        obtain ⟨hf, hcb0, hcb1⟩ := hfit.out k hlt
        have HS := hide (val_step xs k (by omega) _ rfl hcb0 hcb1 hf (hval.out k hk))
        generalize xs.getD k 0 = c at *
        clear hf hc hszc hla
        go_wp2
        go_round
        case rel => exact ⟨k + 1, by omega, by go_num, by rw [← HS.out]⟩
        case measure => simp [intOf]; omega
      · obtain rfl : k = 10 := by omega
        go_wp2
        go_ret3
        exact ⟨rfl, rfl⟩

theorem convert_empty (ao : Option Addr) (cap : Nat) (w : World) : (convert 45 9 (.slice ao 0 cap)).run Tryz.prog w = .ok (.string (strOfNums [])) w := by
  cases ao with
  | none => exact run_convert_bytes_nil (P := Tryz.prog) w 45 5 Tryz.underlying45 Tryz.underlying5 0 cap 9 Tryz.underlying9
  | some ad =>
    have hl : (loadCells ad 0).run Tryz.prog w = .ok (([] : List Int).map (Value.int .u8)).toArray w := by
      have := run_loadCells_list (P := Tryz.prog) w ad [] (fun j v hj => by simp at hj)
      simpa using this
    rw [run_convert_bytes_string w 45 9 5 _ 0 cap Tryz.underlying45 Tryz.underlying5 Tryz.underlying9, run_bytesToString w _ 0 cap [] hl]
    rfl
theorem Lies.convert {w : World} {v : Value} {xs : List Int} (h : Lies .u8 w v xs) : (convert 45 9 v).run Tryz.prog w = .ok (.string (strOfNums xs)) w := by
  rcases h with ⟨rfl, ao, cap, rfl, _⟩ | ⟨_, b, off, cap, rfl, _, _, _, hc⟩
  · exact convert_empty ao cap w
  · exact run_convert_bytes_arg w 45 5 Tryz.underlying45 Tryz.underlying5 b off xs.length cap xs rfl hc 9 Tryz.underlying9
theorem same_any (v1 v2 : Value) (xs : List Int) (w : World) (h1 : Lies .u8 w v1 xs) (h2 : Lies .u8 w v2 xs) :
    Calls Tryz.prog 17 #[v1, v2] w fun e w' => e = .returned (.bool true) ∧ w' = w := by
  have c1 := h1.convert
  have c2 := h2.convert
  clear h1 h2
  generalize strOfNums xs = s at *
  go_enter Tryz.func17, Tryz.ntmps17
  go_wp2
  go_ret
  exact ⟨ret_bool (by simp), rfl⟩

/-- What Long answers. -/
def longS (xs : List Int) : Int × Int × Int :=
  if sizeS xs = 0 then (0, 0, 4)
  else if 1 < sizeS xs ∧ xs.getD (sizeS xs - 1) 0 = 0 then (0, 0, 3)
  else if 10 < sizeS xs ∨ sizeS xs = 10 ∧ 1 < xs.getD (sizeS xs - 1) 0 then (0, 0, 3)
  else (((valS (xs.take (sizeS xs)) : Nat) : Int), (sizeS xs : Int), 0)

set_option maxHeartbeats 800000 in
theorem long_any (v : Value) (xs : List Int) (w : World) (h : Lies .u8 w v xs) (hx : ∀ c ∈ xs, 0 ≤ c ∧ c < 256) :
    Calls Tryz.prog 174 #[v] w fun e w' => e = .returned (.tuple #[.int .u64 (longS xs).1, .int .i64 (longS xs).2.1, .int .i64 (longS xs).2.2]) ∧ w' = w := by
  have hszc := size_any v xs w h
  have hlen := h.len
  unfold maxLen at hlen
  have hsl := sizeS_le xs
  unfold longS
  by_cases h0 : sizeS xs = 0
  · rw [if_pos h0]
    rw [h0] at hszc
    clear hsl h0 h hx
    go_enter Tryz.func174, Tryz.ntmps174
    go_wp2_with (go_at_call 181; refine hszc.mono ?_; rintro e w' ⟨rfl, rfl⟩)
    go_ret3
    exact ⟨rfl, rfl⟩
  · rw [if_neg h0]
    rcases h with ⟨rfl, _⟩ | ⟨hxs, b, off, cap, rfl, hb, hl, hm, hc⟩
    · exact absurd rfl h0
    · by_cases hA : 1 < sizeS xs ∧ xs.getD (sizeS xs - 1) 0 = 0
      · rw [if_pos hA]
        obtain ⟨h1, h2⟩ := hA
        have hla := hc (sizeS xs - 1) (by omega)
        rw [h2] at hla
        clear hc h2 hx
        unfold maxLen at hm
        generalize sizeS xs = s at *
        have e0 : ((s : Int) == 0) = false := by simp; omega
        have e1 : (s : Int) - 1 = ((s - 1 : Nat) : Int) := by omega
        go_enter Tryz.func174, Tryz.ntmps174
        go_wp2_with (go_at_call 181; refine hszc.mono ?_; rintro e w' ⟨rfl, rfl⟩)
        go_ret3
        exact ⟨rfl, rfl⟩
      · rw [if_neg hA]
        by_cases hB : 10 < sizeS xs ∨ sizeS xs = 10 ∧ 1 < xs.getD (sizeS xs - 1) 0
        · rw [if_pos hB]
          have hla := hc (sizeS xs - 1) (by omega)
          clear hc hx
          unfold maxLen at hm
          generalize xs.getD (sizeS xs - 1) 0 = last at *
          generalize sizeS xs = s at *
          have e0 : ((s : Int) == 0) = false := by simp; omega
          have e1 : (s : Int) - 1 = ((s - 1 : Nat) : Int) := by omega
          have e2 : (last == 0) = false := by simp; omega
          rcases hB with hB | ⟨hB1, hB2⟩
          · clear hA
            go_enter Tryz.func174, Tryz.ntmps174
            go_wp2_with (go_at_call 181; refine hszc.mono ?_; rintro e w' ⟨rfl, rfl⟩)
            go_ret3
            exact ⟨rfl, rfl⟩
          · clear hA
            have e3 : ((s : Int) == 10) = true := by simp; omega
            have hs1 : (1 : Int) < s := by omega
            have hs2 : (s : Int) ≤ 10 := by omega
            clear hB1
            go_enter Tryz.func174, Tryz.ntmps174
            go_wp2_with (go_at_call 181; refine hszc.mono ?_; rintro e w' ⟨rfl, rfl⟩)
            go_ret3
            exact ⟨rfl, rfl⟩
        · rw [if_neg hB]
          refine long_ok b off cap (sizeS xs) xs w hb hxs hl hm hc rfl (by omega) (fun h h' => hA ⟨h, h'⟩) (by omega) (fun h => ?_) hx
          have : ¬ 1 < xs.getD (sizeS xs - 1) 0 := fun h' => hB (.inr ⟨h, h'⟩)
          rw [h] at this
          simpa using this
end
section
open Go.RowKit

set_option maxRecDepth 100000 in
set_option maxHeartbeats 800000 in
theorem rshort_any (v : Value) (xs : List Int) (n : Nat) (w : World) (h : Lies .u8 w v xs) (hr : xs.length + 10 ≤ 140737488355328) (hn : n < 18446744073709551616) :
    Calls Tryz.prog 91 #[v, .int .u64 n] w fun e w' => ∃ v', e = .returned v' ∧
      w'.ownsRow w.heap.size 5 1 v' (xs ++ shortS n).length ((xs ++ shortS n).map (Value.int .u8)) ∧ Below w.heap.size w w' := by
  obtain ⟨i0, hi, hz0, hz1, hz2⟩ := info_parts info5
  have hl10 := shortS_len10 hn
  go_enter Tryz.func91, Tryz.ntmps91
  go_wp2_with (at_builtin; refine append_lies _ rfl _ _ rfl w.heap.size (.slice none 0 0) v 0 [] xs rfl (World.ownsRow_nil _ _ _ _) rfl h (by omega) (Nat.le_refl _) ?_; intro v0 w0 hown0 hgrow0)
  simp only [Nat.zero_add, List.nil_append] at hown0
  have hB0 : Below w.heap.size w w0 := (Below.refl _ _).grown hgrow0 (Nat.le_refl _) (fun k hk => by cases hk)
  clear hgrow0
  go_loopw [1, 5] (fun m' o wr => ∃ (m : Nat) (zs : List Int), m' = .int .u64 m ∧ m < 18446744073709551616 ∧ Hid (zs ++ shortS m = xs ++ shortS n) ∧ wr.ownsRow w.heap.size 5 1 o zs.length (zs.map (Value.int .u8)) ∧ Below w.heap.size w wr) (fun m' _ _ => (intOf m').toNat)
  case atStart => exact ⟨n, xs, rfl, hn, rfl, hown0, hB0⟩
  case round =>
    obtain ⟨m, zs, rfl, hm, HZ, hown, hB⟩ := hrel
    have hzl : zs.length + (shortS m).length = xs.length + (shortS n).length := by rw [← List.length_append, HZ.out, List.length_append]
    have hbase := hB.size
    by_cases hlt : m < 128
    · have hsl : (shortS m).length = 1 := by rw [shortS_lt hlt]; rfl
      have HL : Hid ((zs ++ [(m : Int)]) = xs ++ shortS n) := by rw [← HZ.out, shortS_lt hlt]; rfl
      have hz64 : zs.length + 1 ≤ 140737488355328 := by omega
      have hd : decide ((128 : Int) ≤ (m : Int)) = false := by simp; omega
      have hm8 : (m : Int) % 256 = m := by omega
      clear hzl hlt
      go_wp2_with (at_builtin; refine wpList_append_own _ rfl _ _ 45 rfl w.heap.size 5 i0 (.int .u8 0) 1 1 Tryz.underlying45 hi hz0 hz1 hz2 rfl (by decide) _ _ _ rfl (hown.alloc _) ⟨wr.heap.size, 0, none⟩ 1 1 [.int .u8 m] rfl rfl (cell_one_new _ _ _) (by simp [Value.oneCell']) (by unfold maxLen; omega) (by omega) (by simp; omega) ?_; intro v' w1 hown1 hgrow1 _)
      go_ret
      refine ⟨v', rfl, ?_, (hB.alloc hbase _).grown hgrow1 (by simp; omega) (fun k hk => (hown.lt k hk).1)⟩
      rw [← HL.out]
      simpa using hown1
    · have HL : Hid ((zs ++ [(m : Int) % 128 + 128]) ++ shortS (m / 128) = xs ++ shortS n) := by
        have e : (m : Int) % 128 + 128 = ((m % 128 + 128 : Nat) : Int) := by omega
        rw [← HZ.out, shortS_ge hlt, e]; simp [Hid]
      have hsl : (shortS (m / 128)).length + 1 = (shortS m).length := by rw [shortS_ge hlt]; simp
      have hz64 : zs.length + 1 ≤ 140737488355328 := by omega
      have hd : decide ((128 : Int) ≤ (m : Int)) = true := by simp; omega
      have hmd : Hid (m / 128 < m) := hide (by omega)
      clear hzl hsl hlt
      go_wp2_with (at_builtin; refine wpList_append_own _ rfl _ _ 45 rfl w.heap.size 5 i0 (.int .u8 0) 1 1 Tryz.underlying45 hi hz0 hz1 hz2 rfl (by decide) _ _ _ rfl (hown.alloc _) ⟨wr.heap.size, 0, none⟩ 1 1 [.int .u8 ((m : Int) % 128 + 128)] rfl rfl (cell_one_new _ _ _) (by simp [Value.oneCell']) (by unfold maxLen; omega) (by omega) (by simp; omega) ?_; intro v' w1 hown1 hgrow1 _)
      go_roundw
      case rel => exact ⟨m / 128, zs ++ [(m : Int) % 128 + 128], by go_num, by omega, HL, by simpa using hown1, (hB.alloc hbase _).grown hgrow1 (by simp; omega) (fun k hk => (hown.lt k hk).1)⟩
      case measure => have := hmd.out; simp [intOf]; omega

theorem shortS_pos (n : Nat) : 1 ≤ (shortS n).length := by
  by_cases h : n < 128
  · rw [shortS_lt h]; simp
  · rw [shortS_ge h]; simp
theorem heap_alloc_last' (w : World) (o : Obj) : (w.alloc o).heap[w.heap.size]? = some o := by
  show (w.heap.push o)[w.heap.size]? = some o
  simp
/-- A writer of the reference's: a variable of its own, its bytes a row of their own. -/
structure RWr (w : World) (p : Nat) (v : Value) (xs : List Int) : Prop where
  box : Box w p #[v] 85
  own : w.ownsRow 0 5 1 v xs.length (xs.map (Value.int .u8))
theorem RWr.apart {w : World} {p : Nat} {v : Value} {xs : List Int} (h : RWr w p v xs) : v.ownBlock ≠ some p := by
  intro e
  obtain ⟨_, ⟨rfl, _⟩ | ⟨g, cap, cur, rfl, _, hh, _⟩⟩ := h.own
  · cases e
  · cases e
    have := h.box
    unfold Box at this
    rw [hh] at this
    cases this
/-- What a call that writes leaves: the writer with its new bytes; all else as it was. -/
structure RWrote (w w' : World) (p : Nat) (v v' : Value) (ys : List Int) : Prop where
  wr : RWr w' p v' ys
  keep : KeepBut (fun k => k = p ∨ v.ownBlock = some k) w w'
  place : v'.ownBlock = v.ownBlock ∨ ∃ g, v'.ownBlock = some g ∧ w.heap.size ≤ g
theorem owns_any {w : World} {base e size n : Nat} {v : Value} {xs : List Value} (h : w.ownsRow base e size v n xs) : w.ownsRow 0 e size v n xs := by
  obtain ⟨hl, h0 | ⟨g, cap, cur, rfl, _, r⟩⟩ := h
  · exact ⟨hl, .inl h0⟩
  · exact ⟨hl, .inr ⟨g, cap, cur, rfl, Nat.zero_le _, r⟩⟩
theorem owns_lt {w : World} {base e size n g : Nat} {v : Value} {xs : List Value} (h : w.ownsRow base e size v n xs) (hg : v.ownBlock = some g) : g < w.heap.size := by
  obtain ⟨_, ⟨rfl, _⟩ | ⟨g2, cap, cur, rfl, _, hh, _⟩⟩ := h
  · cases hg
  · cases hg
    exact (Array.getElem?_eq_some_iff.1 hh).1
/-- Behind a new row, the variable's one cell is set. -/
theorem RWr.put {w w1 : World} {p : Nat} {v v' : Value} {xs ys : List Int} (h : RWr w p v xs) (hB : Below w.heap.size w w1) (ho : w1.ownsRow w.heap.size 5 1 v' ys.length (ys.map (Value.int .u8))) (hne : ys ≠ []) :
    RWrote w (w1.setCell ⟨p, 0, none⟩ v') p v v' ys := by
  have hb1 : Box w1 p #[v] 85 := (hB.block p h.box.lt).trans h.box
  have hpl : ∃ g, v'.ownBlock = some g ∧ w.heap.size ≤ g := by
    obtain ⟨hl, ⟨rfl, h0⟩ | ⟨g, cap, cur, rfl, hb, _⟩⟩ := ho
    · exact absurd (List.eq_nil_of_length_eq_zero h0) hne
    · exact ⟨g, rfl, hb⟩
  refine ⟨⟨?_, ?_⟩, ((KeepBut.of_below _ hB).setCell (.inl (.inl rfl)) _), .inr hpl⟩
  · have := hb1.set (i := 0) (v := v')
    simpa using this
  · refine owns_keep (owns_any ho) ((KeepBut.refl (fun k => k = p) w1).setCell (.inl rfl) _) ?_
    intro g hg e
    obtain ⟨g2, h1, h2⟩ := hpl
    rw [h1] at hg
    cases hg
    have := h.box.lt
    omega

set_option maxHeartbeats 800000 in
theorem rwnum_any (p : Nat) (v : Value) (xs : List Int) (n : Nat) (w : World) (h : RWr w p v xs) (hr : xs.length + 10 ≤ 140737488355328) (hn : n < 18446744073709551616) :
    Calls Tryz.prog 36 #[.pointer (some ⟨p, 0, none⟩), .int .u64 n] w fun e w' => e = .returned (.tuple #[]) ∧ ∃ v', RWrote w w' p v v' (xs ++ shortS n) := by
  have HH := hide h
  have hcell := h.box.cell 0 v rfl
  have hfro := h.box.frozen 0
  have hL := hide (Lies.of_own h.own)
  have hne : Hid (xs ++ shortS n ≠ []) := hide (by have := shortS_pos n; intro e; have h2 := congrArg List.length e; rw [List.length_append] at h2; simp only [List.length_nil] at h2; omega)
  clear h
  go_enter Tryz.func36, Tryz.ntmps36
  go_wp2_with fail
  refine (rshort_any v xs n w hL.out hr hn).mono ?_
  rintro e w1 ⟨v', rfl, hown, hB⟩
  obtain ⟨ao, c1, rfl⟩ := (Lies.of_own hown).shape
  obtain ⟨nn, hnn⟩ : ∃ nn, (xs ++ shortS n).length = nn := ⟨_, rfl⟩
  rw [hnn] at hown
  have HN := hide hnn
  rw [hnn]
  clear hnn
  have hc1 := hB.cell (p := ⟨p, 0, none⟩) HH.out.box.lt
  have hf1 := hB.frozen (p := ⟨p, 0, none⟩) HH.out.box.lt
  rw [hcell] at hc1
  rw [hfro] at hf1
  have HW := hide (HH.out.put hB (by rw [HN.out]; exact hown) hne.out)
  clear hown hB hcell hfro
  go_wp2_with fail
  go_end0
  exact ⟨rfl, _, HW.out⟩

set_option maxHeartbeats 800000 in
theorem rwbyte_any (p : Nat) (v : Value) (xs : List Int) (c : Int) (w : World) (h : RWr w p v xs) (hr : xs.length + 10 ≤ 140737488355328) :
    Calls Tryz.prog 35 #[.pointer (some ⟨p, 0, none⟩), .int .u8 c] w fun e w' => e = .returned (.tuple #[]) ∧ ∃ v', RWrote w w' p v v' (xs ++ [c]) := by
  obtain ⟨i0, hi, hz0, hz1, hz2⟩ := info_parts info5
  have HH := hide h
  have hcell := h.box.cell 0 v rfl
  have hfro := h.box.frozen 0
  have hL := hide (Lies.of_own h.own)
  have hlt := h.box.lt
  obtain ⟨a0, c0, rfl⟩ := (Lies.of_own h.own).shape
  clear h
  go_enter Tryz.func35, Tryz.ntmps35
  go_wp2_with (first
    | (at_builtin; refine append_lies _ rfl _ _ rfl w.heap.size (.slice none 0 0) _ 0 [] xs rfl (World.ownsRow_nil _ _ _ _) rfl hL.out (by omega) (Nat.le_refl _) ?_; intro v0 w0 hown0 hgrow0; simp only [Nat.zero_add, List.nil_append] at hown0; have hB0 := (Below.refl w.heap.size w).grown hgrow0 (Nat.le_refl _) (fun k hk => by cases hk); have H0 := hide hown0; have HB0 := hide hB0; have hs0 := hB0.size; clear hown0 hgrow0 hB0)
    | (at_builtin; refine wpList_append_own _ rfl _ _ 45 rfl w.heap.size 5 i0 (.int .u8 0) 1 1 Tryz.underlying45 hi hz0 hz1 hz2 rfl (by decide) _ _ _ rfl (H0.out.alloc _) ⟨w0.heap.size, 0, none⟩ 1 1 [.int .u8 c] rfl rfl (cell_one_new _ _ _) (by simp [Value.oneCell']) (by unfold maxLen; omega) (by omega) (by simp; omega) ?_; intro v1 w1 hown1 hgrow1 _; have hB1 := (HB0.out.alloc HB0.out.size (.cells #[.int .u8 c] 5)).grown hgrow1 (by simp; omega) (fun k hk => (H0.out.lt k hk).1); have hc1 := hB1.cell (p := ⟨p, 0, none⟩) hlt; have hf1 := hB1.frozen (p := ⟨p, 0, none⟩) hlt; rw [hcell] at hc1; rw [hfro] at hf1; have HW := hide (HH.out.put (ys := xs ++ [c]) hB1 (by simpa using hown1) (by simp)); obtain ⟨a1, c1, rfl⟩ := (Lies.of_own (xs := xs ++ [c]) (n := xs.length + 1) (by simpa using hown1)).shape; clear hown1 hgrow1 hB1))
  go_end0
  have hw := HW.out
  simp only [List.length_append, List.length_singleton] at hw
  exact ⟨rfl, _, hw⟩

theorem RWrote.trans {w w1 w2 : World} {p : Nat} {v v1 v2 : Value} {ys zs : List Int} (h : RWrote w w1 p v v1 ys) (h' : RWrote w1 w2 p v1 v2 zs) : RWrote w w2 p v v2 zs := by
  refine ⟨h'.wr, h.keep.trans h'.keep ?_, ?_⟩
  · intro k hk hS
    rcases hS with hS | hS
    · exact .inl hS
    · rcases h.place with e | ⟨g, e, hg⟩
      · exact .inr (e ▸ hS)
      · rw [e] at hS; cases hS; omega
  · rcases h'.place with e | ⟨g, e, hg⟩
    · rcases h.place with e2 | ⟨g, e2, hg⟩
      · exact .inl (e.trans e2)
      · exact .inr ⟨g, e.trans e2, hg⟩
    · exact .inr ⟨g, e, Nat.le_trans h.keep.size hg⟩
theorem RWr.same {w : World} {p : Nat} {v : Value} {xs : List Int} (h : RWr w p v xs) : RWrote w w p v v xs := ⟨h, KeepBut.refl _ _, .inl rfl⟩
theorem RWr.keep {S : Nat → Prop} {w w' : World} {p : Nat} {v : Value} {xs : List Int} (h : RWr w p v xs) (hk : KeepBut S w w') (hp : ¬ S p) (hg : ∀ g, v.ownBlock = some g → ¬ S g) : RWr w' p v xs :=
  ⟨h.box.keep hk hp, owns_keep h.own hk hg⟩

/-- Behind an append in place (or into a new row), the variable's one cell is set. -/
theorem RWr.put_at {w w1 : World} {p : Nat} {v v' : Value} {xs ys : List Int} (h : RWr w p v xs) (hg : w.grownBy w1 v.ownBlock) (ho : w1.ownsRow 0 5 1 v' ys.length (ys.map (Value.int .u8))) (hpl : v'.ownBlock = v.ownBlock ∨ v'.ownBlock = some w.heap.size) :
    Box w1 p #[v] 85 ∧ RWrote w (w1.setCell ⟨p, 0, none⟩ v') p v v' ys := by
  have hk : KeepBut (fun k => v.ownBlock = some k) w w1 := grown_keep hg (fun g e => e)
  have hb1 : Box w1 p #[v] 85 := h.box.keep hk h.apart
  refine ⟨hb1, ⟨?_, ?_⟩, ?_, ?_⟩
  · have := hb1.set (i := 0) (v := v')
    simpa using this
  · refine owns_keep ho ((KeepBut.refl (fun k => k = p) w1).setCell (.inl rfl) _) ?_
    intro g e hgp
    subst hgp
    rcases hpl with e2 | e2
    · rw [e2] at e; exact h.apart e
    · rw [e2] at e; cases e; exact Nat.lt_irrefl _ h.box.lt
  · exact (hk.mono (fun k hk => .inr hk)).setCell (.inl (.inl rfl)) _
  · rcases hpl with e | e
    · exact .inl e
    · exact .inr ⟨_, e, Nat.le_refl _⟩

set_option maxHeartbeats 800000 in
theorem rwtext_any (p : Nat) (v : Value) (xs : List Int) (s : ByteArray) (w : World) (h : RWr w p v xs) (hr : xs.length + s.size + 20 ≤ 140737488355328) :
    Calls Tryz.prog 92 #[.pointer (some ⟨p, 0, none⟩), .string s] w fun e w' => e = .returned (.tuple #[]) ∧ ∃ v', RWrote w w' p v v' (xs ++ shortS s.size ++ strI s) := by
  have C := hide (rwnum_any p v xs s.size w h (by omega) (by omega))
  have hl10 := shortS_len10 (n := s.size) (by omega)
  have hlen : (xs ++ shortS s.size).length ≤ xs.length + 10 := by rw [List.length_append]; omega
  clear h hl10
  generalize xs ++ shortS s.size = ys at *
  have hsl := strI_length s
  have HSL := hide hsl
  clear hsl
  go_enter Tryz.func92, Tryz.ntmps92
  go_wp2_with (first
    | (go_at_call 36; refine C.out.mono ?_; rintro e w1 ⟨rfl, v1, h1⟩; have H1 := hide h1; have hc1 := h1.wr.box.cell 0 v1 rfl; obtain ⟨a1, c1, rfl⟩ := (Lies.of_own h1.wr.own).shape; clear h1)
    | (at_builtin; refine append_str _ rfl _ _ rfl _ _ _ rfl H1.out.wr.own s rfl (by omega) ?_; intro v2 w2 hown2 hgrow2 hpl2; have hown3 : w2.ownsRow 0 5 1 v2 (ys ++ strI s).length ((ys ++ strI s).map (Value.int .u8)) := (by rw [List.length_append, HSL.out]; exact hown2); have H2 := hide (H1.out.wr.put_at hgrow2 hown3 hpl2); have hc2 := H2.out.1.cell 0 _ rfl; have hf2 := H2.out.1.frozen 0; obtain ⟨a2, c2, hv2⟩ := (Lies.of_own hown3).shape; rw [List.length_append, HSL.out] at hv2; subst hv2; clear hown2 hown3 hgrow2 hpl2))
  go_end0
  exact ⟨rfl, _, H1.out.trans H2.out.2⟩

set_option maxHeartbeats 800000 in
theorem rwkey_any (p : Nat) (v : Value) (xs : List Int) (ks : List Int) (w : World) (hk8 : ks.length = 8) (h : RWr w p v xs) (hr : xs.length + 20 ≤ 140737488355328) :
    Calls Tryz.prog 37 #[.pointer (some ⟨p, 0, none⟩), .agg (ks.map (Value.int .u8)).toArray] w fun e w' => e = .returned (.tuple #[]) ∧ ∃ v', RWrote w w' p v v' (xs ++ ks) := by
  have hsz : (ks.map (Value.int .u8)).toArray.size = 8 := by simp [hk8]
  have hat : Hid (∀ i, i < 8 → (ks.map (Value.int .u8)).toArray[i]? = some (.int .u8 (ks.getD i 0))) := hide (fun i hi => by simp [List.getD, hk8, hi])
  have HTK : Hid (∀ k, k < 8 → ks.take (k + 1) = ks.take k ++ [ks.getD k 0]) := hide (fun k hk => by rw [List.take_add_one]; simp [List.getD, hk8, hk])
  have HEND : Hid (ks.take 8 = ks) := hide (by rw [← hk8]; simp)
  have HKL : Hid (∀ k, (ks.take k).length ≤ 8) := hide (fun k => by rw [List.length_take]; omega)
  generalize (ks.map (Value.int .u8)).toArray = C at *
  have hBx : Box (w.alloc (.cells C 31)) w.heap.size C 31 := heap_alloc_last' w _
  have hA : RWr (w.alloc (.cells C 31)) p v xs := h.keep ((KeepBut.refl (fun _ => False) w).alloc _) (fun h => h) (fun _ _ h => h)
  have hlt := h.box.lt
  have hgn : Hid (v.ownBlock ≠ some w.heap.size) := hide (fun e => Nat.lt_irrefl _ (owns_lt h.own e))
  have hk0 : Hid (KeepBut (fun k => k = p ∨ v.ownBlock = some k) w (w.alloc (.cells C 31))) := hide ((KeepBut.refl _ w).alloc _)
  have hs0 : Hid ((w.alloc (.cells C 31)).heap.size = w.heap.size + 1) := hide (by simp)
  have HA := hide hA.same
  have HBx := hide hBx
  clear h hA hBx
  go_enter Tryz.func37, Tryz.ntmps37
  go_wp2_with fail
  generalize w.alloc (.cells C 31) = W0 at *
  go_loopw [4] (fun i wr => ∃ (k : Nat) (v' : Value), k ≤ 8 ∧ i = .int .i64 k ∧ Hid (RWrote W0 wr p v v' (xs ++ ks.take k)) ∧ Hid (Box wr w.heap.size C 31)) (fun i _ => 8 - (intOf i).toNat)
  case atStart => exact ⟨0, v, by omega, rfl, by simpa using HA, HBx⟩
  case round =>
    obtain ⟨k, v', hk, rfl, HW, HB⟩ := hrel
    by_cases hlt8 : k < 8
    · have hcell := HB.out.cell k _ (hat.out k hlt8)
      have HT := hide (HTK.out k hlt8)
      have hlen : (xs ++ ks.take k).length + 10 ≤ 140737488355328 := by have := HKL.out k; rw [List.length_append]; omega
      have CB := hide (fun c => rwbyte_any p v' (xs ++ ks.take k) c wr HW.out.wr hlen)
      have hvn : Hid (¬ (w.heap.size = p ∨ v'.ownBlock = some w.heap.size)) := hide (by
        intro hS
        rcases hS with hS | hS
        · omega
        · rcases HW.out.place with e | ⟨g, e, hg⟩
          · rw [e] at hS; exact hgn.out hS
          · rw [e] at hS; cases hS
            have := hs0.out
            omega)
      generalize ks.getD k 0 = c at *
      clear hlen
      go_wp2_with (go_at_call 35; refine (CB.out c).mono ?_; rintro e w1 ⟨rfl, v1, h1⟩; have H1 := hide h1; clear h1)
      go_roundw
      case rel => exact ⟨k + 1, v1, by omega, by go_num, hide (by have := HW.out.trans H1.out; rw [List.append_assoc, ← HT.out] at this; exact this), hide (HB.out.keep H1.out.keep hvn.out)⟩
      case measure => simp [intOf]; omega
    · obtain rfl : k = 8 := by omega
      rw [HEND.out] at HW
      clear HB
      go_wp2_with fail
      go_end0
      refine ⟨rfl, v', HW.out.wr, hk0.out.trans HW.out.keep (fun k _ h => h), ?_⟩
      rcases HW.out.place with e | ⟨g, e, hg⟩
      · exact .inl e
      · exact .inr ⟨g, e, Nat.le_trans hk0.out.size hg⟩
end
end Go.Proofs.YtencmgepffdodaaGreat
