/-
  Rows of the program's timers: slices.Delete of some of them. Own work.
-/
import Derived.Test.YtgjdlclkibiffaaRecSl
import Derived.Test.YtgjdlclkibiffaaCkKit
import Derived.BigRegion
namespace Go.Proofs.Ytgjdlclkibiffaa
open Go.RowKit

/-- A timer's cells in the program. -/
abbrev ptA (t : TmP) : Array Value := #[.int .u32 t.2, .int .u8 t.1.1, .int .u8 t.1.2.1, .int .u32 t.1.2.2.1, .int .u32 t.1.2.2.2]
abbrev ptE (t : TmP) : List Value := [.int .u32 t.2, .int .u8 t.1.1, .int .u8 t.1.2.1, .int .u32 t.1.2.2.1, .int .u32 t.1.2.2.2]
theorem pt_one (n : TmP) : ∀ u ∈ ptE n, u.oneCell' = true := by intro u hu; simp at hu; rcases hu with rfl | rfl | rfl | rfl | rfl <;> rfl
theorem ptA_one (n : TmP) : (ptA n).all (·.oneCell') = true := by simp [Value.oneCell']
theorem recPT : Rec 66 80 5 ptE := ⟨Try.underlying66, rec_info (z := .agg (ptA (nilN, 0))) (K := 5) (B := 20) (by kernel_rfl) rfl (by decide), by decide, fun _ => rfl⟩
theorem infoPT : (Try.prog.info? 80).map (·.size) = some 5 := by kernel_rfl
theorem zoPT : ZeroOne 80 := zero_one_of (z := .agg (ptA (nilN, 0))) (by kernel_rfl) (by simp [Value.cells, Value.oneCell'])
theorem pflat_one (xs : List TmP) : ∀ u ∈ flat ptE xs, u.oneCell' = true := fun u hu => by
  obtain ⟨x, _, h⟩ := List.mem_flatMap.1 hu
  exact pt_one x u h
theorem take_mid {α : Type} (a b z d : List α) (n : Nat) (h : (a ++ b).length = n) : (a ++ b ++ z ++ d).take n = a ++ b := by
  rw [List.append_assoc (a ++ b), List.take_append_of_le_length (by omega), List.take_of_length_le (by omega)]
attribute [local go_sem ↓] app_hideH
set_option maxRecDepth 100000 in
set_option maxHeartbeats 1600000 in
theorem pdel_any (v : Value) (xs : List TmP) (i j : Nat) (w : World) (hown : w.ownsRow 0 80 5 v xs.length (flat ptE xs)) (hij : i ≤ j) (hjn : j ≤ xs.length) :
    Calls Try.prog 35 #[v, .int .i64 (i : Int), .int .i64 (j : Int)] w fun e w' => ∃ v', e = .returned v' ∧ w'.ownsRow 0 80 5 v' (xs.take i ++ xs.drop j).length (flat ptE (xs.take i ++ xs.drop j)) ∧ v'.ownBlock = v.ownBlock ∧ KeepBut (fun g => v.ownBlock = some g) w w' := by
  rcases Nat.lt_or_ge i j with hlt | hge
  · obtain ⟨_, ⟨_, h0⟩ | ⟨g, cap, cur, rfl, _, hh, hcap, hcm, hsz, htk⟩⟩ := hown
    · omega
    obtain ⟨i0, z0, B0, hi, hz0, hz1, hz2, hzs, hB0⟩ := recPT.info
    unfold maxLen at hcm
    obtain ⟨n, hn⟩ : ∃ n, n = xs.length := ⟨_, rfl⟩
    obtain ⟨m, hm⟩ : ∃ m, m = i + (n - j) := ⟨_, rfl⟩
    rw [← hn] at hcap htk hjn ⊢
    have hlen : ((flat ptE xs).drop (j * 5)).length = (n - j) * 5 := by rw [List.length_drop, flat_len recPT.len, ← hn]; omega
    have hbd : Box w.drew g cur 80 := hh
    have hcur : ∀ t u, (flat ptE xs)[t]? = some u → w.drew.cell? ⟨g, t, none⟩ = some u := fun t u hu => by
      refine hbd.cell t u ?_
      rw [← htk] at hu
      rw [List.getElem?_take] at hu
      split at hu
      · simpa using hu
      · cases hu
    obtain ⟨af, haf⟩ : ∃ af, af = if cap = j then some (⟨g, 0, none⟩ : Addr) else (some (⟨g, 0, none⟩ : Addr)).map (·.add (j * 5)) := ⟨_, rfl⟩
    obtain ⟨ad, had⟩ : ∃ ad, af = some ad := by rw [haf]; split <;> exact ⟨_, rfl⟩
    have hnews : ∀ t u, ((flat ptE xs).drop (j * 5))[t]? = some u → w.drew.cell? (ad.add t) = some u := fun t u hu => by
      have hlt : t < (n - j) * 5 := by have := (List.getElem?_eq_some_iff.1 hu).1; omega
      rw [had] at haf
      rw [if_neg (by omega)] at haf
      simp [Addr.add_lit] at haf
      subst haf
      rw [Addr.add_lit]
      rw [List.getElem?_drop] at hu
      exact hcur _ _ hu
    have hone : ∀ u ∈ (flat ptE xs).drop (j * 5), u.oneCell' = true := fun u hu => pflat_one xs u (List.mem_of_mem_drop hu)
    have happ := run_append_room_cells (P := Try.prog) w.drew 66 66 80 i0 Try.underlying66 hi g 0 i cap ad (n - j) (cap - j) ((flat ptE xs).drop (j * 5)) (by rw [hz1]; exact hlen) hnews hone (by omega)
      (fun t ht => by
        rw [hz1, Nat.zero_add]
        have hlt : i * 5 + t < cur.size := by omega
        rw [hbd.cell _ _ (Array.getElem?_eq_getElem hlt)]; rfl) (fun t ht => hbd.frozen _)
    rw [hz1, Nat.zero_add, ← hm] at happ
    have hap : ∀ ty, (appH #[66, 66] ty #[.slice (some ⟨g, 0, none⟩) i cap, .slice af (n - j) (cap - j)]).run Try.prog w.drew = .ok (.slice (some ⟨g, 0, none⟩) m cap) (w.drew.setCells g (i * 5) ((flat ptE xs).drop (j * 5))) := fun ty => by rw [had]; exact happ
    have hb1 := Box.setCells ((flat ptE xs).drop (j * 5)) (i * 5) w.drew cur hbd
    have hk1 := KeepBut.setCells (S := fun k => k = g) (g := g) ((flat ptE xs).drop (j * 5)) (i * 5) w w.drew ((KeepBut.refl (fun k => k = g) w).drew) (.inl rfl)
    obtain ⟨W1, hW1⟩ : ∃ W1, W1 = w.drew.setCells g (i * 5) ((flat ptE xs).drop (j * 5)) := ⟨_, rfl⟩
    rw [← hW1] at hap hb1 hk1
    obtain ⟨zs, hzl, hcl⟩ := run_clearR recPT zoPT W1 g (m * 5) (n - m) (cap - m) _ hb1 (by rw [layC_size]; omega) (by omega)
    have hb2 := Box.setCells zs (m * 5) W1 _ hb1
    have hk2 := KeepBut.setCells (S := fun k => k = g) (g := g) zs (m * 5) w W1 hk1 (.inl rfl)
    obtain ⟨W2, hW2⟩ : ∃ W2, W2 = W1.setCells g (m * 5) zs := ⟨_, rfl⟩
    rw [← hW2] at hcl hb2 hk2
    have hthree := fun W => run_threeR recPT W (some ⟨g, 0, none⟩) n cap i j n (by omega) (by omega) (by omega)
    obtain ⟨v3, hv3⟩ : ∃ v3 : World → Value, ∀ W, (Instr.sliceAt 66 (.slice (some ⟨g, 0, none⟩) n cap) (some (.int .i64 i)) (some (.int .i64 j)) (some (.int .i64 n))).run Try.prog W = .ok (v3 W) W := ⟨fun W => (hthree W).choose, fun W => (hthree W).choose_spec⟩
    have hto := fun W => run_toR recPT W (some ⟨g, 0, none⟩) n cap i (by omega)
    have hfr := fun W => run_fromR recPT W (some ⟨g, 0, none⟩) n cap j (by omega)
    rw [← haf] at hfr
    have hmid := fun W => run_midR recPT W g m cap m n (by omega) (by omega)
    have HRES : Hid (W2.ownsRow 0 80 5 (.slice (some ⟨g, 0, none⟩) m cap) (xs.take i ++ xs.drop j).length (flat ptE (xs.take i ++ xs.drop j))) := by
      have hel : (xs.take i ++ xs.drop j).length = m := by rw [List.length_append, List.length_take, List.length_drop]; omega
      refine ⟨flat_len recPT.len _, .inr ⟨g, cap, _, by rw [hel], Nat.zero_le _, hb2, by omega, by unfold maxLen; omega, by rw [layC_size, layC_size, hsz], ?_⟩⟩
      have htakek : cur.toList.take (i * 5) = flat ptE (xs.take i) := by
        rw [← flat_take recPT.len, ← htk, List.take_take, Nat.min_eq_left (by omega)]
      rw [hel, layC_list _ _ _ (by rw [layC_size, hzl]; omega), layC_list _ _ _ (by omega), htakek, flat_drop recPT.len, flat_app]
      have e1 : (flat ptE (xs.take i) ++ flat ptE (xs.drop j)).length = m * 5 := by
        rw [← flat_app, flat_len recPT.len, hel]
      rw [List.append_assoc _ _ (List.drop _ _), List.take_append_of_le_length (by rw [List.length_take, List.length_append, e1]; omega), List.take_take, Nat.min_self, List.take_append_of_le_length (by omega), List.take_of_length_le (by omega)]
    have HK2 := hide hk2
    have hkj : ((i : Int) == (j : Int)) = false := by simp; omega
    have hcapM : (cap : Int) ≤ 9223372036854775807 := by omega
    obtain ⟨rl, hrl⟩ : ∃ rl, rl = n - j := ⟨_, rfl⟩
    obtain ⟨rc, hrc⟩ : ∃ rc, rc = cap - j := ⟨_, rfl⟩
    obtain ⟨cm, hcmm⟩ : ∃ cm, cm = cap - m := ⟨_, rfl⟩
    obtain ⟨nm, hnm⟩ : ∃ nm, nm = n - m := ⟨_, rfl⟩
    rw [← hrl, ← hrc] at hap hfr
    rw [← hcmm, ← hnm] at hcl hmid
    clear happ hnews hone hcur hb1 hk1 hb2 hk2 hbd hh htk hlen had haf hthree hm hn hrl hrc hcmm hsz hW1 hW2 hnm hzl
    go_enter Try.func35, Try.ntmps35
    go_wp2_with fail
    go_region
    go_wp2_with fail
    go_ret
    exact ⟨_, rfl, HRES.out, rfl, HK2.out.mono (fun k e => by rw [e]; rfl)⟩
  · obtain rfl : i = j := by omega
    obtain ⟨ao, cap, rfl, hcap⟩ := owns_shapeR hown
    rw [List.take_append_drop]
    have HO := hide hown
    have hcm : cap ≤ 9223372036854775807 := by
      obtain ⟨_, ⟨e, _⟩ | ⟨g, c, cur, e, _, _, _, hcm, _⟩⟩ := hown
      · injection e with _ _ e3; omega
      · injection e with _ _ e3; unfold maxLen at hcm; omega
    obtain ⟨n, hn⟩ : ∃ n, n = xs.length := ⟨_, rfl⟩
    rw [← hn] at HO hcap hjn ⊢
    have hthree := fun W => run_threeR recPT W ao n cap i i n (by omega) (by omega) (by omega)
    obtain ⟨v3, hv3⟩ : ∃ v3 : World → Value, ∀ W, (Instr.sliceAt 66 (.slice ao n cap) (some (.int .i64 i)) (some (.int .i64 i)) (some (.int .i64 n))).run Try.prog W = .ok (v3 W) W := ⟨fun W => (hthree W).choose, fun W => (hthree W).choose_spec⟩
    clear hown hthree hn
    go_enter Try.func35, Try.ntmps35
    go_wp2_with fail
    go_ret
    exact ⟨_, rfl, HO.out, rfl, KeepBut.refl _ _⟩
end Go.Proofs.Ytgjdlclkibiffaa
