/-
  Rows of the program's timers: slices.Insert of one. Own work.
-/
import Derived.Test.YtgjdlclkibiffaaPkRow
namespace Go.Proofs.Ytgjdlclkibiffaa
open Go.RowKit Go.Lib

theorem kept_grown9 {w w' : World} {v : Value} (h : w.grownBy w' v.ownBlock) : KeepBut (fun g => v.ownBlock = some g) w w' := by
  obtain ⟨a1, a2, a3, a4, a5⟩ := h
  exact ⟨a1, a2, a3, a4, fun k hk hn => a5 k hk (fun e => hn e.symm)⟩
/-- 'copy', under a name that the walk leaves alone. -/
def copH (ats : Array TypeId) (ty : TypeId) (args : Array Value) : Sem Value := Builtin.copy_ ats ty args
theorem cop_hideH (ats : Array TypeId) (ty : TypeId) (args : Array Value) : Builtin.copy_ ats ty args = copH ats ty args := rfl
/-- What is asked of Insert. -/
def InsDone (w w' : World) (v v' : Value) (ys : List TmP) : Prop :=
  w'.ownsRow 0 80 5 v' ys.length (flat ptE ys) ∧ (v'.ownBlock = v.ownBlock ∨ ∃ g, v'.ownBlock = some g ∧ w.heap.size ≤ g) ∧ KeepBut (fun g => v.ownBlock = some g) w w'
set_option maxRecDepth 100000 in
set_option maxHeartbeats 1600000 in
theorem pins_end (v : Value) (xs : List TmP) (t : TmP) (vb : Nat) (w : World) (hown : w.ownsRow 0 80 5 v xs.length (flat ptE xs)) (hl : xs.length ≤ 100000) (hX : Box w vb (ptA t) 80) :
    Calls Try.prog 37 #[v, .int .i64 (xs.length : Int), .slice (some ⟨vb, 0, none⟩) 1 1] w fun e w' => ∃ v', e = .returned v' ∧ InsDone w w' v v' (xs ++ [t]) := by
  obtain ⟨ao, cap, rfl, hcap⟩ := owns_shapeR hown
  have hcm : cap ≤ 9223372036854775807 := by
    obtain ⟨_, ⟨e, _⟩ | ⟨g, c, cur, e, _, _, _, hcm, _⟩⟩ := hown
    · injection e with _ _ e3; omega
    · injection e with _ _ e3; unfold maxLen at hcm; omega
  have HO := hide hown
  have HS : Hid (RSrc ptE w (.slice (some ⟨vb, 0, none⟩) 1 1) [t]) := hide ⟨_, 1, rfl, Nat.le_refl _, by decide, fun e => (by cases e), fun _ => ⟨vb, 0, rfl, hX.lt, fun j u hu => by rw [Nat.zero_add]; rw [flat_one] at hu; exact hX.cell j u (by simpa using hu)⟩⟩
  have hfr := fun W => run_fromR recPT W ao xs.length cap xs.length (Nat.le_refl _)
  obtain ⟨af, haf⟩ : ∃ af, af = if cap = xs.length then ao else ao.map (·.add (xs.length * 5)) := ⟨_, rfl⟩
  rw [← haf, Nat.sub_self] at hfr
  obtain ⟨n, hn⟩ : ∃ n, n = xs.length := ⟨_, rfl⟩
  obtain ⟨cn, hcn⟩ : ∃ cn, cn = cap - xs.length := ⟨_, rfl⟩
  rw [← hcn, ← hn] at hfr
  have HN := hide hn
  have HO2 : Hid (w.ownsRow 0 80 5 (.slice ao n cap) xs.length (flat ptE xs)) := hide (by rw [hn]; exact HO.out)
  have HL : Hid (xs.length + [t].length ≤ 1000000) := hide (by simp; omega)
  have hl' : n ≤ 100000 := by omega
  rw [← hn]
  rw [← hn] at hcap
  clear hown hX haf hcn hn HO hl
  go_enter Try.func37, Try.ntmps37
  go_wp2_with (at_builtin; refine wp_recs recPT _ rfl _ _ rfl 0 (.slice ao n cap) (.slice (some ⟨vb, 0, none⟩) 1 1) xs [t] rfl HO2.out rfl HS.out (fun y hy => by simp at hy; subst hy; exact pt_one _) HL.out (Nat.zero_le _) ?_; intro v4 w4 ho4 hg4 hb4; obtain ⟨a4, c4, hv4, _⟩ := owns_shapeR ho4; subst hv4; have HD : Hid (InsDone w w4 (.slice ao n cap) _ (xs ++ [t])) := hide ⟨ho4, hb4.imp id (fun e => ⟨_, e, Nat.le_refl _⟩), kept_grown9 hg4⟩; clear ho4 hg4 hb4)
  go_ret
  exact ⟨.slice a4 (xs ++ [t]).length c4, by rw [List.length_append]; rfl, HD.out⟩
theorem shape_box {w : World} {p : Nat} {cs : Array Value} {t : TypeId} (h : Box w p cs t) : w.shape? p = some (t, cs.size) := by
  unfold Box at h
  unfold World.shape?
  rw [h]
theorem lay_comm (a : Value) : ∀ (vs : List Value) (o i : Nat) (cs : Array Value), i < o → layC (cs.setIfInBounds i a) o vs = (layC cs o vs).setIfInBounds i a
  | [], _, _, _, _ => rfl
  | v :: r, o, i, cs, h => by
    rw [layC, layC, ← lay_comm a r (o + 1) i _ (by omega)]
    congr 1
    exact Array.setIfInBounds_comm _ _ (by omega)
theorem lay_swap {bs : List Value} {p : Nat} : ∀ {vs : List Value} {o : Nat} {cs : Array Value}, o + vs.length ≤ p → layC (layC cs o vs) p bs = layC (layC cs p bs) o vs
  | [], _, _, _ => rfl
  | v :: r, o, cs, h => by
    have h1 : o + (r.length + 1) ≤ p := by simpa using h
    rw [layC, layC, lay_swap (by omega), lay_comm v bs p o cs (by omega)]
attribute [local go_sem ↓] cop_hideH
/-- Cells written over in a row. -/
theorem lay_ins {cur : Array Value} {xs : List TmP} {t : TmP} {n k : Nat} (hn : xs.length = n) (hk : k ≤ n) (hsz : (n + 1) * 5 ≤ cur.size) (htk : cur.toList.take (k * 5) = flat ptE (xs.take k)) :
    (layC (layC cur ((k + 1) * 5) ((flat ptE xs).drop (k * 5))) (k * 5) (ptE t)).toList.take ((n + 1) * 5) = flat ptE (xs.take k ++ t :: xs.drop k) := by
  have hdl : ((flat ptE xs).drop (k * 5)).length = (n - k) * 5 := by rw [List.length_drop, flat_len recPT.len, hn]; omega
  have hl1 : (flat ptE (xs.take k)).length = k * 5 := by rw [flat_len recPT.len, List.length_take]; omega
  rw [layC_list _ _ _ (by rw [layC_size, recPT.len]; omega), layC_list _ _ _ (by omega), hdl]
  rw [show k * 5 + (ptE t).length = (k + 1) * 5 by rw [recPT.len]; omega]
  have h1 : (cur.toList.take ((k + 1) * 5)).length = (k + 1) * 5 := by rw [List.length_take]; simp; omega
  have e1 : ∀ r : List Value, (cur.toList.take ((k + 1) * 5) ++ r).take (k * 5) = flat ptE (xs.take k) := fun r => by
    rw [List.take_append_of_le_length (by omega), List.take_take, Nat.min_eq_left (by omega), htk]
  have e2 : ∀ r : List Value, (cur.toList.take ((k + 1) * 5) ++ r).drop ((k + 1) * 5) = r := fun r => by
    rw [List.drop_append_of_le_length (by omega), List.drop_eq_nil_of_le (by omega), List.nil_append]
  rw [List.append_assoc (cur.toList.take ((k + 1) * 5)), e1, e2]
  rw [flat_app, flat_cons, flat_drop recPT.len]
  have h2 : (flat ptE (xs.drop k)).length = (n - k) * 5 := by rw [flat_len recPT.len, List.length_drop]; omega
  rw [← List.append_assoc, List.take_append_of_le_length (by simp only [List.length_append, hl1, h2, recPT.len]; omega), List.take_of_length_le (by simp only [List.length_append, hl1, h2, recPT.len]; omega), List.append_assoc]
set_option maxRecDepth 100000 in
set_option maxHeartbeats 1600000 in
theorem pins_shift (g cap k : Nat) (cur : Array Value) (xs : List TmP) (t : TmP) (vb : Nat) (w : World) (hb : Box w g cur 80) (hsz : cur.size = cap * 5) (htk : cur.toList.take (xs.length * 5) = flat ptE xs) (hk : k < xs.length) (hroom : xs.length + 1 ≤ cap) (hcm : cap ≤ maxLen) (hX : Box w vb (ptA t) 80) (hne : vb ≠ g) :
    Calls Try.prog 37 #[.slice (some ⟨g, 0, none⟩) xs.length cap, .int .i64 (k : Int), .slice (some ⟨vb, 0, none⟩) 1 1] w fun e w' => ∃ v', e = .returned v' ∧ InsDone w w' (.slice (some ⟨g, 0, none⟩) xs.length cap) v' (xs.take k ++ t :: xs.drop k) := by
  unfold maxLen at hcm
  obtain ⟨n, hn⟩ : ∃ n, n = xs.length := ⟨_, rfl⟩
  rw [← hn] at htk hk hroom ⊢
  have hcur : ∀ j u, (flat ptE xs)[j]? = some u → w.cell? ⟨g, j, none⟩ = some u := fun j u hu => by
    refine hb.cell j u ?_
    rw [← htk, List.getElem?_take] at hu
    split at hu
    · simpa using hu
    · cases hu
  have hsz2 : (n + 1) * 5 ≤ cur.size := by rw [hsz]; exact Nat.mul_le_mul_right 5 hroom
  have hfl : (flat ptE xs).length = n * 5 := by rw [flat_len recPT.len, hn]
  have hdl : ((flat ptE xs).drop (k * 5)).length = (n - k) * 5 := by rw [List.length_drop, hfl]; omega
  have hsome : ∀ j, j < cur.size → (w.cell? ⟨g, j, none⟩).isSome = true := fun j hj => by rw [hb.cell _ _ (Array.getElem?_eq_getElem hj)]; rfl
  have hcp1 : ∀ ty dc sc, (Builtin.copy_ #[66, 66] ty #[.slice (some ⟨g, (k + 1) * 5, none⟩) (n + 1 - (k + 1)) dc, .slice (some ⟨g, k * 5, none⟩) (n + 1 - k) sc]).run Try.prog w.drew = .ok (goInt ((n - k : Nat) : Int)) (w.drew.setCells g ((k + 1) * 5) ((flat ptE xs).drop (k * 5))) := fun ty dc sc =>
    run_copyR recPT w.drew ty g ((k + 1) * 5) (n + 1 - (k + 1)) dc ⟨g, k * 5, none⟩ (n + 1 - k) sc ((flat ptE xs).drop (k * 5)) (n - k) (by simp only [Nat.min_def]; split <;> omega) hdl
      (fun j v hj => by rw [Addr.add_lit]; exact hcur _ _ (by rwa [List.getElem?_drop] at hj))
      (fun j hj => hsome _ (by omega)) (fun j hj => hb.frozen _) (fun v hv => pflat_one xs v (List.mem_of_mem_drop hv))
  have hb1 := Box.setCells ((flat ptE xs).drop (k * 5)) ((k + 1) * 5) w.drew cur (show Box w.drew g cur 80 from hb)
  have hk1 := KeepBut.setCells (S := fun j => j = g) (g := g) ((flat ptE xs).drop (k * 5)) ((k + 1) * 5) w w.drew ((KeepBut.refl (fun j => j = g) w).drew) (.inl rfl)
  obtain ⟨W1, hW1⟩ : ∃ W1, W1 = w.drew.setCells g ((k + 1) * 5) ((flat ptE xs).drop (k * 5)) := ⟨_, rfl⟩
  rw [← hW1] at hcp1 hb1 hk1
  have hX1 := hX.keep hk1 hne
  have hcp2 : ∀ ty dc, (Builtin.copy_ #[66, 66] ty #[.slice (some ⟨g, k * 5, none⟩) (n + 1 - k) dc, .slice (some ⟨vb, 0, none⟩) 1 1]).run Try.prog W1 = .ok (goInt 1) (W1.setCells g (k * 5) (ptE t)) := fun ty dc =>
    run_copyR recPT W1 ty g (k * 5) (n + 1 - k) dc ⟨vb, 0, none⟩ 1 1 (ptE t) 1 (by simp only [Nat.min_def]; split <;> omega) rfl
      (fun j v hj => by rw [Addr.add_lit, Nat.zero_add]; exact hX1.cell j v (by simpa using hj))
      (fun j hj => by
        have hlt : k * 5 + j < (layC cur ((k + 1) * 5) ((flat ptE xs).drop (k * 5))).size := by rw [layC_size]; simp at hj; omega
        rw [hb1.cell _ _ (Array.getElem?_eq_getElem hlt)]; rfl) (fun j hj => hb1.frozen _) (pt_one t)
  have hb2 := Box.setCells (ptE t) (k * 5) W1 _ hb1
  have hk2 := KeepBut.setCells (S := fun j => j = g) (g := g) (ptE t) (k * 5) w W1 hk1 (.inl rfl)
  obtain ⟨W2, hW2⟩ : ∃ W2, W2 = W1.setCells g (k * 5) (ptE t) := ⟨_, rfl⟩
  rw [← hW2] at hcp2 hb2 hk2
  have htkk : cur.toList.take (k * 5) = flat ptE (xs.take k) := by rw [← flat_take recPT.len, ← htk, List.take_take, Nat.min_eq_left (by omega)]
  have hov : ∀ lb cb, (callFunc 43 #[.slice (some ⟨vb, 0, none⟩) 1 1, .slice (some ⟨g, (k + 1) * 5, none⟩) lb cb]).run Try.prog w = .ok (.value (.bool false)) w := fun lb cb => by
    rw [run_callFunc_extern Try.func43 (by kernel_rfl) (by kernel_rfl) (by kernel_rfl) (e := Extern.SlicesOverlaps.overlaps #[66, 66] #[4]) (by kernel_rfl),
      Lib.run_overlaps_apart w 66 4 80 Try.underlying66 5 recPT.sizeOf ⟨vb, 0, none⟩ ⟨g, (k + 1) * 5, none⟩ 1 1 lb cb hne _ _ _ _ (shape_box hX) (shape_box hb) (by omega) (hX.frozen 0) (hX.frozen _)]
    rfl
  have hfr0 := fun W => run_fromB recPT W g n cap k (by omega) (by omega)
  have hto := fun W => run_toR recPT W (some ⟨g, 0, none⟩) n cap (n + 1) (by omega)
  have hfr1 := fun W => run_fromB recPT W g (n + 1) cap (k + 1) (by omega) (by omega)
  have hfr2 := fun W => run_fromB recPT W g (n + 1) cap k (by omega) (by omega)
  rw [Int.natCast_add, show ((1 : Nat) : Int) = 1 from rfl] at hto hfr1
  have HD : Hid (InsDone w W2 (.slice (some ⟨g, 0, none⟩) n cap) (.slice (some ⟨g, 0, none⟩) (n + 1) cap) (xs.take k ++ t :: xs.drop k)) := by
    have hel : (xs.take k ++ t :: xs.drop k).length = n + 1 := by rw [List.length_append, List.length_take, List.length_cons, List.length_drop]; omega
    refine ⟨⟨flat_len recPT.len _, .inr ⟨g, cap, _, by rw [hel], Nat.zero_le _, hb2, by omega, by unfold maxLen; omega, by rw [layC_size, layC_size, hsz], ?_⟩⟩, .inl rfl, hk2.mono (fun j e => by rw [e]; rfl)⟩
    rw [hel]
    exact lay_ins hn.symm (by omega) hsz2 htkk
  have hz2 : ((k : Int) == (n : Int)) = false := by simp; omega
  have hz3 : decide ((n : Int) + 1 > (cap : Int)) = false := decide_eq_false (by omega)
  have hw1 : IntKind.i64.wrap ((k : Int) + 1) = (k : Int) + 1 := by rw [IntKind.wrap_i64]; omega
  have hw2 : IntKind.i64.wrap ((n : Int) + 1) = (n : Int) + 1 := by rw [IntKind.wrap_i64]; omega
  have hcI : (cap : Int) ≤ 9223372036854775807 := by omega
  clear hb1 hk1 hb2 hk2 hcur hfl hdl hsome hX1 htkk hsz2 hW1 hW2 hb hX htk hsz hn
  go_enter Try.func37, Try.ntmps37
  have hcq1 : ∀ ty dc sc, (copH #[66, 66] ty #[.slice (some ⟨g, (k + 1) * 5, none⟩) (n + 1 - (k + 1)) dc, .slice (some ⟨g, k * 5, none⟩) (n + 1 - k) sc]).run Try.prog w.drew = .ok (goInt ((n - k : Nat) : Int)) W1 := hcp1
  have hcq2 : ∀ ty dc, (copH #[66, 66] ty #[.slice (some ⟨g, k * 5, none⟩) (n + 1 - k) dc, .slice (some ⟨vb, 0, none⟩) 1 1]).run Try.prog W1 = .ok (goInt 1) W2 := hcp2
  obtain ⟨l1, hl1⟩ : ∃ l1, l1 = n + 1 - (k + 1) := ⟨_, rfl⟩
  obtain ⟨l2, hl2⟩ : ∃ l2, l2 = n + 1 - k := ⟨_, rfl⟩
  obtain ⟨o1, ho1⟩ : ∃ o1, o1 = (k + 1) * 5 := ⟨_, rfl⟩
  obtain ⟨n1, hn1⟩ : ∃ n1, n1 = n + 1 := ⟨_, rfl⟩
  obtain ⟨c1, hc1⟩ : ∃ c1, c1 = cap - (k + 1) := ⟨_, rfl⟩
  rw [← hl1, ← hl2, ← ho1] at hcq1
  rw [← hl2] at hcq2
  rw [← hl1, ← ho1, ← hn1, ← hc1] at hfr1
  rw [← hl2, ← hn1] at hfr2
  rw [← hn1] at hto HD
  rw [← ho1] at hov
  clear hcp1 hcp2 hl1 hl2 ho1 hn1 hc1
  go_wp2_with (simp only [hov])
  go_region
  go_wp2_with fail
  go_ret
  exact ⟨_, rfl, HD.out⟩
attribute [local go_sem ↓] app_hideH
set_option maxRecDepth 100000 in
set_option maxHeartbeats 1600000 in
theorem pins_grow (g cap k : Nat) (cur : Array Value) (xs : List TmP) (t : TmP) (vb : Nat) (w : World) (hb : Box w g cur 80) (htk : cur.toList.take (xs.length * 5) = flat ptE xs) (hk : k < xs.length) (hroom : cap < xs.length + 1) (hcap : xs.length ≤ cap) (hl : xs.length ≤ 100000) (hX : Box w vb (ptA t) 80) :
    Calls Try.prog 37 #[.slice (some ⟨g, 0, none⟩) xs.length cap, .int .i64 (k : Int), .slice (some ⟨vb, 0, none⟩) 1 1] w fun e w' => ∃ v', e = .returned v' ∧ InsDone w w' (.slice (some ⟨g, 0, none⟩) xs.length cap) v' (xs.take k ++ t :: xs.drop k) := by
  obtain ⟨i0, z0, B0, hi, hz0, hz1, hz2, hzs, hB0⟩ := recPT.info
  obtain ⟨n, hn⟩ : ∃ n, n = xs.length := ⟨_, rfl⟩
  rw [← hn] at htk hk hroom hcap hl ⊢
  have hcur : ∀ j u, (flat ptE xs)[j]? = some u → w.cell? ⟨g, j, none⟩ = some u := fun j u hu => by
    refine hb.cell j u ?_
    rw [← htk, List.getElem?_take] at hu
    split at hu
    · simpa using hu
    · cases hu
  have hfl : (flat ptE xs).length = n * 5 := by rw [flat_len recPT.len, hn]
  have hdl : ((flat ptE xs).drop (k * 5)).length = (n - k) * 5 := by rw [List.length_drop, hfl]; omega
  have htl : (flat ptE (xs.take k)).length = k * 5 := by rw [flat_len recPT.len, List.length_take]; omega
  have hbw := hb.lt
  have hvw := hX.lt
  have hold : (Builtin.firstCells i0.size k (.slice (some ⟨g, 0, none⟩) k cap)).run Try.prog w.drew = .ok (flat ptE (xs.take k)).toArray w.drew := by
    rw [hz1]
    exact run_firstCells_some w.drew 5 k ⟨g, 0, none⟩ k cap (flat ptE (xs.take k)) htl (fun j v hj => by
      rw [Addr.add_lit, Nat.zero_add]
      rw [← flat_take recPT.len, List.getElem?_take] at hj
      split at hj
      · exact hcur j v hj
      · cases hj)
  have hik : k + (n + 1 - k) = n + 1 := by omega
  have hkk : (n : Int) + 1 - (k : Int) = ((n + 1 - k : Nat) : Int) := by omega
  have hBB : (n + 1) * B0 ≤ 100001 * 4096 := Nat.mul_le_mul (by omega) hB0
  have hBk : (n + 1 - k) * B0 ≤ 100001 * 4096 := Nat.mul_le_mul (by omega) hB0
  have hrz : ∀ ty, (appH #[66, 3] ty #[.slice (some ⟨g, 0, none⟩) k cap, .int .i64 ((n : Int) + 1 - (k : Int))]).run Try.prog w =
      .ok (.slice (some ⟨w.heap.size, 0, none⟩) (n + 1) (grownCap w (n + 1) cap 80)) (w.drew.alloc (.cells ((flat ptE (xs.take k)).toArray ++ Builtin.zeroCells z0.cells (n + 1 - k) ++ Builtin.zeroCells z0.cells (grownCap w (n + 1) cap 80 - (n + 1))) 80)) := fun ty => by
    have h := Lib.run_append_grow_zeros w 66 3 ty 80 i0 z0 .i64 .i64 Try.underlying66 Try.underlying3 hi hz0 (some ⟨g, 0, none⟩) k cap (flat ptE (xs.take k)) hold (n + 1 - k) (by omega) (by omega) (by omega) (by omega) (by rw [hz2]; omega) (by rw [hz2, hik]; exact growslice_fits hroom (by omega))
    rw [hik] at h
    rw [hkk]
    exact h
  obtain ⟨G, hG⟩ : ∃ G, G = grownCap w (n + 1) cap 80 := ⟨_, rfl⟩
  obtain ⟨ROW, hROW⟩ : ∃ ROW : Array Value, ROW = (flat ptE (xs.take k)).toArray ++ Builtin.zeroCells z0.cells (n + 1 - k) ++ Builtin.zeroCells z0.cells (G - (n + 1)) := ⟨_, rfl⟩
  rw [← hG] at hrz
  rw [← hROW] at hrz
  have hGn : n + 1 ≤ G := by rw [hG]; exact grownCap_ge w _ _ _
  have hGm : G ≤ maxLen := by rw [hG]; exact grownCap_le_maxLen w (n + 1) cap 80 (by unfold maxLen; omega)
  have hRs : ROW.size = G * 5 := by
    rw [hROW]
    simp only [Array.size_append, List.size_toArray, size_zeroCells, hzs, htl]
    omega
  have hRt : ROW.toList.take (k * 5) = flat ptE (xs.take k) := by
    rw [hROW, Array.append_assoc, Array.toList_append, List.take_append_of_le_length (by simp [htl]), List.take_of_length_le (by simp [htl])]
  obtain ⟨W1, hW1⟩ : ∃ W1, W1 = w.drew.alloc (.cells ROW 80) := ⟨_, rfl⟩
  have hb1 : Box W1 w.heap.size ROW 80 := by rw [hW1]; exact box_new w.drew ROW 80
  have hk1 : KeepBut (fun _ => False) w W1 := by rw [hW1]; exact ((KeepBut.refl (fun _ => False) w).drew).alloc _
  rw [← hW1] at hrz
  have hX1 := hX.keep hk1 (fun h => h)
  have hg1 := hb.keep hk1 (fun h => h)
  obtain ⟨N, hN⟩ : ∃ N, N = w.heap.size := ⟨_, rfl⟩
  rw [← hN] at hrz hb1
  have hcp1 : ∀ ty dc, (copH #[66, 66] ty #[.slice (some ⟨N, k * 5, none⟩) (n + 1 - k) dc, .slice (some ⟨vb, 0, none⟩) 1 1]).run Try.prog W1 = .ok (goInt 1) (W1.setCells N (k * 5) (ptE t)) := fun ty dc =>
    run_copyR recPT W1 ty N (k * 5) (n + 1 - k) dc ⟨vb, 0, none⟩ 1 1 (ptE t) 1 (by simp only [Nat.min_def]; split <;> omega) rfl
      (fun j v hj => by rw [Addr.add_lit, Nat.zero_add]; exact hX1.cell j v (by simpa using hj))
      (fun j hj => by
        have hlt : k * 5 + j < ROW.size := by simp at hj; omega
        rw [hb1.cell _ _ (Array.getElem?_eq_getElem hlt)]; rfl) (fun j hj => hb1.frozen _) (pt_one t)
  have hb2 := Box.setCells (ptE t) (k * 5) W1 _ hb1
  have hk2 := KeepBut.setCells (S := fun _ => False) (g := N) (ptE t) (k * 5) w W1 hk1 (.inr (by omega))
  have hg2 : Box (W1.setCells N (k * 5) (ptE t)) g cur 80 := hb.keep hk2 (fun h => h)
  obtain ⟨W2, hW2⟩ : ∃ W2, W2 = W1.setCells N (k * 5) (ptE t) := ⟨_, rfl⟩
  rw [← hW2] at hcp1 hb2 hk2 hg2
  have hcp2 : ∀ ty dc sc, (copH #[66, 66] ty #[.slice (some ⟨N, (k + 1) * 5, none⟩) (n + 1 - (k + 1)) dc, .slice (some ⟨g, k * 5, none⟩) (n - k) sc]).run Try.prog W2.drew = .ok (goInt ((n - k : Nat) : Int)) (W2.drew.setCells N ((k + 1) * 5) ((flat ptE xs).drop (k * 5))) := fun ty dc sc =>
    run_copyR recPT W2.drew ty N ((k + 1) * 5) (n + 1 - (k + 1)) dc ⟨g, k * 5, none⟩ (n - k) sc ((flat ptE xs).drop (k * 5)) (n - k) (by simp only [Nat.min_def]; split <;> omega) hdl
      (fun j v hj => by
        rw [Addr.add_lit]
        rw [List.getElem?_drop] at hj
        have h0 : (flat ptE xs)[k * 5 + j]? = some v := hj
        refine hg2.cell _ _ ?_
        rw [← htk, List.getElem?_take] at h0
        split at h0
        · simpa using h0
        · cases h0)
      (fun j hj => by
        have hlt : (k + 1) * 5 + j < (layC ROW (k * 5) (ptE t)).size := by rw [layC_size, hRs]; omega
        have := hb2.cell _ _ (Array.getElem?_eq_getElem hlt)
        show (W2.cell? _).isSome = true
        rw [this]; rfl) (fun j hj => hb2.frozen _) (fun v hv => pflat_one xs v (List.mem_of_mem_drop hv))
  have hb3 := Box.setCells ((flat ptE xs).drop (k * 5)) ((k + 1) * 5) W2.drew _ (show Box W2.drew N _ 80 from hb2)
  have hk3 := KeepBut.setCells (S := fun _ => False) (g := N) ((flat ptE xs).drop (k * 5)) ((k + 1) * 5) w W2.drew hk2.drew (.inr (by omega))
  obtain ⟨W3, hW3⟩ : ∃ W3, W3 = W2.drew.setCells N ((k + 1) * 5) ((flat ptE xs).drop (k * 5)) := ⟨_, rfl⟩
  rw [← hW3] at hcp2 hb3 hk3
  have hfr0 := fun W => run_fromB recPT W g n cap k (by omega) (by omega)
  have hto := fun W => run_toR recPT W (some ⟨g, 0, none⟩) n cap k (by omega)
  have hfr1 := fun W => run_fromB recPT W N (n + 1) G (k + 1) (by omega) (by omega)
  have hfr2 := fun W => run_fromB recPT W N (n + 1) G k (by omega) (by omega)
  rw [Int.natCast_add, show ((1 : Nat) : Int) = 1 from rfl] at hfr1
  have HD : Hid (InsDone w W3 (.slice (some ⟨g, 0, none⟩) n cap) (.slice (some ⟨N, 0, none⟩) (n + 1) G) (xs.take k ++ t :: xs.drop k)) := by
    have hel : (xs.take k ++ t :: xs.drop k).length = n + 1 := by rw [List.length_append, List.length_take, List.length_cons, List.length_drop]; omega
    refine ⟨⟨flat_len recPT.len _, .inr ⟨N, G, _, by rw [hel], Nat.zero_le _, hb3, by omega, hGm, by rw [layC_size, layC_size, hRs], ?_⟩⟩, .inr ⟨N, rfl, by omega⟩, hk3.mono (fun j e => e.elim)⟩
    rw [hel, lay_swap (by rw [recPT.len]; omega)]
    exact lay_ins hn.symm (by omega) (by rw [hRs]; omega) hRt
  have hz2 : ((k : Int) == (n : Int)) = false := by simp; omega
  have hz3 : decide ((n : Int) + 1 > (cap : Int)) = true := decide_eq_true (by omega)
  have hw1 : IntKind.i64.wrap ((k : Int) + 1) = (k : Int) + 1 := by rw [IntKind.wrap_i64]; omega
  have hw2 : IntKind.i64.wrap ((n : Int) + 1) = (n : Int) + 1 := by rw [IntKind.wrap_i64]; omega
  have hw3 : IntKind.i64.wrap ((n : Int) + 1 - (k : Int)) = (n : Int) + 1 - (k : Int) := by rw [IntKind.wrap_i64]; omega
  obtain ⟨l1, hl1⟩ : ∃ l1, l1 = n + 1 - (k + 1) := ⟨_, rfl⟩
  obtain ⟨l2, hl2⟩ : ∃ l2, l2 = n + 1 - k := ⟨_, rfl⟩
  obtain ⟨l3, hl3⟩ : ∃ l3, l3 = n - k := ⟨_, rfl⟩
  obtain ⟨o1, ho1⟩ : ∃ o1, o1 = (k + 1) * 5 := ⟨_, rfl⟩
  obtain ⟨n1, hn1⟩ : ∃ n1, n1 = n + 1 := ⟨_, rfl⟩
  obtain ⟨c1, hc1⟩ : ∃ c1, c1 = G - (k + 1) := ⟨_, rfl⟩
  obtain ⟨c2, hc2⟩ : ∃ c2, c2 = G - k := ⟨_, rfl⟩
  rw [← hl2] at hcp1
  rw [← hl1, ← ho1, ← hl3] at hcp2
  rw [← hl1, ← ho1, ← hn1, ← hc1] at hfr1
  rw [← hl2, ← hn1, ← hc2] at hfr2
  rw [← hl3] at hfr0
  rw [← hn1] at hrz HD
  clear hb1 hk1 hb2 hk2 hb3 hk3 hcur hfl hdl hX1 hg1 hg2 hW1 hW2 hW3 hb hX htk hn hl1 hl2 hl3 ho1 hn1 hc1 hc2 hold hik hkk hBB hBk hG hROW hGn hGm hRs hRt hN htl hi hz0 hz1 hz2 hzs hB0 hbw hvw
  go_enter Try.func37, Try.ntmps37
  go_wp2_with fail
  go_region
  go_wp2_with fail
  go_ret
  exact ⟨_, rfl, HD.out⟩
theorem pins_any (v : Value) (xs : List TmP) (k : Nat) (t : TmP) (vb : Nat) (w : World) (hown : w.ownsRow 0 80 5 v xs.length (flat ptE xs)) (hk : k ≤ xs.length) (hl : xs.length ≤ 100000) (hX : Box w vb (ptA t) 80) (hne : v.ownBlock ≠ some vb) :
    Calls Try.prog 37 #[v, .int .i64 (k : Int), .slice (some ⟨vb, 0, none⟩) 1 1] w fun e w' => ∃ v', e = .returned v' ∧ InsDone w w' v v' (xs.take k ++ t :: xs.drop k) := by
  rcases Nat.lt_or_ge k xs.length with hlt | hge
  · obtain ⟨_, ⟨_, h0⟩ | ⟨g, cap, cur, rfl, _, hh, hcap, hcm, hsz, htk⟩⟩ := hown
    · omega
    rcases Nat.lt_or_ge cap (xs.length + 1) with hc | hc
    · exact pins_grow g cap k cur xs t vb w hh htk hlt hc hcap hl hX
    · exact pins_shift g cap k cur xs t vb w hh hsz htk hlt hc hcm hX (fun e => hne (by rw [e]; rfl))
  · obtain rfl : k = xs.length := by omega
    rw [List.take_length, List.drop_length]
    exact pins_end v xs t vb w hown hl hX
end Go.Proofs.Ytgjdlclkibiffaa
