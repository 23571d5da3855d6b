/-
  Rows of the program's wires: append to them, slices of them, slices.Delete of one of them. Own work.
-/
import Derived.Test.YteehkjdolmmapaaNtRows
import Derived.BigRegion
import Derived.ArgAppend
namespace Go.Proofs.Yteehkjdolmmapaa
open Go.RowKit

theorem infoW3 : (Try.prog.info? 50).map (fun i => (i.zero, i.size, i.bytes)) = some (some (.agg #[.int .u8 0, .int .u8 0, .slice none 0 0]), 3, 32) := by kernel_rfl
/-- 'append', under a name that the walk leaves alone. -/
def appP8 (ats : Array TypeId) (ty : TypeId) (args : Array Value) : Sem Value := Builtin.append_ ats ty args
theorem app_hideP (ats : Array TypeId) (ty : TypeId) (args : Array Value) : Builtin.append_ ats ty args = appP8 ats ty args := rfl
/-- 'append' of wires onto a row of one's own. -/
theorem app_wiresP (w : World) (base : Nat) (v vx : Value) (ys xs : List (Wr × Value)) (hown : w.ownsRow base 50 3 v ys.length (wcl ys)) (hL : WSrc w vx xs) (hb : ys.length + xs.length ≤ 1000000) (hbase : base ≤ w.heap.size) :
    ∃ v' w', (∀ ty, (appP8 #[62, 62] ty #[v, vx]).run Try.prog w = .ok v' w') ∧ w'.ownsRow base 50 3 v' (ys ++ xs).length (wcl (ys ++ xs)) ∧ w.grownBy w' v.ownBlock := by
  obtain ⟨i0, hi, hz0, hz1, hz2⟩ := info_parts3 infoW3
  obtain ⟨hsl, ao, c, rfl, _, hn, hc⟩ := hL
  cases ao with
  | none =>
    obtain ⟨rfl, rfl⟩ := hn rfl
    exact ⟨v, w, fun ty => run_append_owned_none (P := Try.prog) (w := w) base 62 ty 50 i0 3 Try.underlying62 hi v ys.length _ hown, by simpa using hown, World.grownBy.refl _ _⟩
  | some ad =>
    obtain ⟨v', w', hr, ho, hg, _⟩ := run_append_own_wide (P := Try.prog) w base 62 62 50 i0 _ 3 32 Try.underlying62 hi hz0 hz1 hz2 rfl (by decide) v ys.length _ hown ad xs.length c (wcl xs) (wcl_len xs) (hc ad rfl) (wcl_one hsl) (by unfold maxLen; omega) (by omega) hbase
    refine ⟨v', w', fun ty => ?_, by rw [List.length_append, wcl_app]; exact ho, hg⟩
    exact hr
/-- Cells written one behind the other. -/
def layC (cs : Array Value) : Nat → List Value → Array Value
  | _, [] => cs
  | o, v :: r => layC (cs.setIfInBounds o v) (o + 1) r
theorem Box.setCells {g : Nat} {t : TypeId} : ∀ (vs : List Value) (o : Nat) (w : World) (cs : Array Value), Box w g cs t → Box (w.setCells g o vs) g (layC cs o vs) t
  | [], _, _, _, h => h
  | _ :: r, o, _, _, h => Box.setCells r (o + 1) _ _ h.set
theorem KeepBut.setCells {g : Nat} : ∀ (vs : List Value) (o : Nat) (a w : World), KeepBut (fun k => k = g) a w → KeepBut (fun k => k = g) a (w.setCells g o vs)
  | [], _, _, _, h => h
  | v :: r, o, a, _, h => KeepBut.setCells r (o + 1) a _ (h.setCell (p := ⟨g, o, none⟩) (.inl rfl) v)
theorem layC_size : ∀ (vs : List Value) (o : Nat) (cs : Array Value), (layC cs o vs).size = cs.size
  | [], _, _ => rfl
  | v :: r, o, cs => by rw [layC, layC_size r]; simp
theorem layC_list : ∀ (vs : List Value) (o : Nat) (cs : Array Value), o + vs.length ≤ cs.size → (layC cs o vs).toList = cs.toList.take o ++ vs ++ cs.toList.drop (o + vs.length)
  | [], o, cs, _ => by simp [layC]
  | v :: r, o, cs, h => by
    have h1 : o + (r.length + 1) ≤ cs.size := by simpa using h
    rw [layC, layC_list r (o + 1) _ (by simp; omega)]
    have h2 : (cs.setIfInBounds o v).toList = cs.toList.take o ++ v :: cs.toList.drop (o + 1) := by
      rw [Array.toList_setIfInBounds, List.set_eq_take_append_cons_drop, if_pos (by simp; omega)]
    have hl : (cs.toList.take o).length = o := by simp; omega
    have h3 : (cs.toList.take o ++ v :: cs.toList.drop (o + 1)).take (o + 1) = cs.toList.take o ++ [v] := by
      rw [List.take_append, hl, List.take_of_length_le (by omega), show o + 1 - o = 1 by omega]; rfl
    have h4 : (cs.toList.take o ++ v :: cs.toList.drop (o + 1)).drop (o + 1 + r.length) = cs.toList.drop (o + (v :: r).length) := by
      rw [List.drop_append, hl, List.drop_eq_nil_of_le (by omega), show o + 1 + r.length - o = r.length + 1 by omega, List.nil_append, List.drop_succ_cons, List.drop_drop]
      congr 1
      simp
      omega
    rw [h2, h3, h4]
    simp
theorem sizeW : (sizeOf 50).run Try.prog = fun w => .ok 3 w := by
  funext w
  obtain ⟨i0, hi, hz0, hz1, hz2⟩ := info_parts3 infoW3
  simp [sizeOf, typeInfo, hi, hz1]
/-- 'x[:n]', 'x[s:]', 'x[s:n]', 'x[s:n:m]' of wires. -/
theorem run_toP (w : World) (ao : Option Addr) (m cap n : Nat) (hn : n ≤ cap) : (Instr.sliceAt 62 (.slice ao m cap) none (some (.int .i64 n)) none).run Try.prog w = .ok (.slice ao n cap) w := by
  have h2 : (if cap = 0 then ao else Option.map (fun x => x.add 0) ao) = ao := by
    split
    · rfl
    · cases ao with
      | none => rfl
      | some ad => simp [Addr.add]
  simp [Instr.sliceAt, Instr.slice, run_underlying Try.underlying62, Instr.sliceBounds, Instr.sliceBound, asIntOf, h2]
  omega
theorem run_fromP (w : World) (ao : Option Addr) (n cap s : Nat) (hs : s ≤ n) : (Instr.sliceAt 62 (.slice ao n cap) (some (.int .i64 s)) none none).run Try.prog w = .ok (.slice (if cap = s then ao else ao.map (·.add (s * 3))) (n - s) (cap - s)) w := by
  obtain ⟨i0, hi, hz0, hz1, hz2⟩ := info_parts3 infoW3
  simp [Instr.sliceAt, Instr.slice, run_underlying Try.underlying62, Instr.sliceBounds, Instr.sliceBound, asIntOf, sizeOf, typeInfo, hi, hz1]
  omega
theorem run_midP (w : World) (g m cap s n : Nat) (hs : s < n) (hn : n ≤ cap) : (Instr.sliceAt 62 (.slice (some ⟨g, 0, none⟩) m cap) (some (.int .i64 s)) (some (.int .i64 n)) none).run Try.prog w = .ok (.slice (some ⟨g, s * 3, none⟩) (n - s) (cap - s)) w := by
  obtain ⟨i0, hi, hz0, hz1, hz2⟩ := info_parts3 infoW3
  simp [Instr.sliceAt, Instr.slice, run_underlying Try.underlying62, Instr.sliceBounds, Instr.sliceBound, asIntOf, sizeOf, typeInfo, hi, hz1, Addr.add_lit]
  rw [if_pos hn, if_pos (by omega)]
  simp [show ¬ cap = s by omega]
theorem run_threeP (w : World) (ao : Option Addr) (m cap s n t : Nat) (hs : s ≤ n) (hn : n ≤ t) (ht : t ≤ cap) : ∃ v, (Instr.sliceAt 62 (.slice ao m cap) (some (.int .i64 s)) (some (.int .i64 n)) (some (.int .i64 t))).run Try.prog w = .ok v w := by
  obtain ⟨i0, hi, hz0, hz1, hz2⟩ := info_parts3 infoW3
  simp [Instr.sliceAt, Instr.slice, run_underlying Try.underlying62, Instr.sliceBounds, Instr.sliceBound, asIntOf, sizeOf, typeInfo, hi, hz1]
  rw [if_pos ht, if_pos hn, if_pos hs]
  exact ⟨_, rfl⟩
/-- 'clear(x)' of one wire. -/
theorem run_clearP (w : World) (ty : TypeId) (g o c : Nat) (cs : Array Value) (hb : Box w g cs 50) (ho : o + 3 ≤ cs.size) : (Builtin.clear_ #[62] ty #[.slice (some ⟨g, o, none⟩) 1 c]).run Try.prog w = .ok (.tuple #[]) (w.setCells g o [.int .u8 0, .int .u8 0, .slice none 0 0]) := by
  obtain ⟨i0, hi, hz0, hz1, hz2⟩ := info_parts3 infoW3
  have hzv : (zeroValue 50).run Try.prog w = .ok (.agg #[.int .u8 0, .int .u8 0, .slice none 0 0]) w := by simp [zeroValue, typeInfo, hi, hz0]
  have hst := run_storeCells_cells (P := Try.prog) g o [.int .u8 0, .int .u8 0, .slice none 0 0] 0 w (fun j hj => by
      have hj3 : j < 3 := by simpa using hj
      have hlt : o + 0 + j < cs.size := by omega
      rw [hb.cell _ _ (Array.getElem?_eq_getElem hlt)]; rfl) (fun j hj => hb.frozen _) (by intro v hv; simp at hv; rcases hv with rfl | rfl | rfl <;> rfl)
  simp only [Nat.add_zero] at hst
  have hzc : (Builtin.zeroCells (Value.agg #[.int .u8 0, .int .u8 0, .slice none 0 0]).cells 1).toList = [.int .u8 0, .int .u8 0, .slice none 0 0] := by kernel_rfl
  simp [Builtin.clear_, run_underlying Try.underlying62, hzv, hzc, hst]
attribute [local go_sem ↓] app_hideP
set_option maxRecDepth 100000 in
set_option maxHeartbeats 1600000 in
theorem del_any (v : Value) (ws : List (Wr × Value)) (k : Nat) (w : World) (hown : w.ownsRow 0 50 3 v ws.length (wcl ws)) (hsl : Sliced ws) (hk : k < ws.length) (hl : ws.length ≤ 256) :
    Calls Try.prog 43 #[v, .int .i64 (k : Int), .int .i64 ((k + 1 : Nat) : Int)] w fun e w' => ∃ v', e = .returned v' ∧ w'.ownsRow 0 50 3 v' (ws.eraseIdx k).length (wcl (ws.eraseIdx k)) ∧ v'.ownBlock = v.ownBlock ∧ KeepBut (fun g => v.ownBlock = some g) w w' := by
  obtain ⟨_, ⟨_, h0⟩ | ⟨g, cap, cur, rfl, _, hh, hcap, hcm, hsz, htk⟩⟩ := hown
  · omega
  obtain ⟨i0, hi, hz0, hz1, hz2⟩ := info_parts3 infoW3
  unfold maxLen at hcm
  obtain ⟨m, hm⟩ : ∃ m, ws.length = m + 1 := ⟨ws.length - 1, by omega⟩
  obtain ⟨n, hn⟩ : ∃ n, n = ws.length := ⟨_, rfl⟩
  obtain ⟨j, hj⟩ : ∃ j, j = k + 1 := ⟨_, rfl⟩
  rw [← hn, ← hj]
  have hlen : ((wcl ws).drop (j * 3)).length = (n - j) * 3 := by rw [List.length_drop, wcl_len, hn]; omega
  -- the cells that are moved
  have hbd : Box w.drew g cur 50 := hh
  have hcur : ∀ t u, (wcl ws)[t]? = some u → w.drew.cell? ⟨g, t, none⟩ = some u := fun t u hu => by
    refine hbd.cell t u ?_
    rw [← htk] at hu
    rw [List.getElem?_take] at hu
    split at hu
    · simpa using hu
    · cases hu
  obtain ⟨af, haf⟩ : ∃ af, af = if cap = j then some (⟨g, 0, none⟩ : Addr) else (some (⟨g, 0, none⟩ : Addr)).map (·.add (j * 3)) := ⟨_, rfl⟩
  obtain ⟨ad, had⟩ : ∃ ad, af = some ad := by rw [haf]; split <;> exact ⟨_, rfl⟩
  have hnews : ∀ t u, ((wcl ws).drop (j * 3))[t]? = some u → w.drew.cell? (ad.add t) = some u := fun t u hu => by
    have hlt : t < (n - j) * 3 := by have := (List.getElem?_eq_some_iff.1 hu).1; omega
    rw [had] at haf
    rw [if_neg (by omega)] at haf
    simp [Addr.add_lit] at haf
    subst haf
    rw [Addr.add_lit]
    rw [List.getElem?_drop] at hu
    exact hcur _ _ hu
  have hone : ∀ u ∈ (wcl ws).drop (j * 3), u.oneCell' = true := fun u hu => wcl_one hsl u (List.mem_of_mem_drop hu)
  have happ := run_append_room_cells (P := Try.prog) w.drew 62 62 50 i0 Try.underlying62 hi g 0 k cap ad (n - j) (cap - j) ((wcl ws).drop (j * 3)) (by rw [hz1]; exact hlen) hnews hone (by omega)
    (fun t ht => by
      rw [hz1, Nat.zero_add]
      have hlt : k * 3 + t < cur.size := by omega
      rw [hbd.cell _ _ (Array.getElem?_eq_getElem hlt)]; rfl) (fun t ht => hbd.frozen _)
  rw [hz1, Nat.zero_add, show k + (n - j) = m by omega] at happ
  have hap : ∀ ty, (appP8 #[62, 62] ty #[.slice (some ⟨g, 0, none⟩) k cap, .slice af (n - j) (cap - j)]).run Try.prog w.drew = .ok (.slice (some ⟨g, 0, none⟩) m cap) (w.drew.setCells g (k * 3) ((wcl ws).drop (j * 3))) := fun ty => by rw [had]; exact happ
  have hb1 := Box.setCells ((wcl ws).drop (j * 3)) (k * 3) w.drew cur hbd
  have hk1 := KeepBut.setCells (g := g) ((wcl ws).drop (j * 3)) (k * 3) w w.drew ((KeepBut.refl (fun k => k = g) w).drew)
  obtain ⟨W1, hW1⟩ : ∃ W1, W1 = w.drew.setCells g (k * 3) ((wcl ws).drop (j * 3)) := ⟨_, rfl⟩
  rw [← hW1] at hap hb1 hk1
  have hcl := fun ty => run_clearP W1 ty g (m * 3) (cap - m) _ hb1 (by rw [layC_size]; omega)
  have hb2 := Box.setCells [.int .u8 0, .int .u8 0, .slice none 0 0] (m * 3) W1 _ hb1
  have hk2 := KeepBut.setCells (g := g) [.int .u8 0, .int .u8 0, .slice none 0 0] (m * 3) w W1 hk1
  obtain ⟨W2, hW2⟩ : ∃ W2, W2 = W1.setCells g (m * 3) [.int .u8 0, .int .u8 0, .slice none 0 0] := ⟨_, rfl⟩
  rw [← hW2] at hcl hb2 hk2
  have hthree := fun W => run_threeP W (some ⟨g, 0, none⟩) n cap k j n (by omega) (by omega) (by omega)
  obtain ⟨v3, hv3⟩ : ∃ v3 : World → Value, ∀ W, (Instr.sliceAt 62 (.slice (some ⟨g, 0, none⟩) n cap) (some (.int .i64 k)) (some (.int .i64 j)) (some (.int .i64 n))).run Try.prog W = .ok (v3 W) W := ⟨fun W => (hthree W).choose, fun W => (hthree W).choose_spec⟩
  have hto := fun W => run_toP W (some ⟨g, 0, none⟩) n cap k (by omega)
  have hfr := fun W => run_fromP W (some ⟨g, 0, none⟩) n cap j (by omega)
  rw [← haf] at hfr
  have hmid := fun W => run_midP W g m cap m n (by omega) (by omega)
  rw [show n - m = 1 by omega] at hmid
  have HRES : Hid (W2.ownsRow 0 50 3 (.slice (some ⟨g, 0, none⟩) m cap) (ws.eraseIdx k).length (wcl (ws.eraseIdx k))) := by
    have hel : (ws.eraseIdx k).length = m := by rw [List.length_eraseIdx_of_lt hk]; omega
    have hk3 : k * 3 + ((wcl ws).drop (j * 3)).length = m * 3 := by rw [hlen]; omega
    have hcl3 : k * 3 + ((wcl ws).drop (j * 3)).length ≤ cur.size := by omega
    refine ⟨wcl_len _, .inr ⟨g, cap, _, by rw [hel], Nat.zero_le _, hb2, by omega, by unfold maxLen; omega, by rw [layC_size, layC_size, hsz], ?_⟩⟩
    have htakek : cur.toList.take (k * 3) = wcl (ws.take k) := by
      rw [← wcl_take, ← htk, List.take_take, Nat.min_eq_left (by omega)]
    rw [hel, layC_list _ _ _ (by rw [layC_size]; simp; omega), layC_list _ _ _ hcl3, htakek, wcl_drop, List.eraseIdx_eq_take_drop_succ, wcl_app, ← hj]
    have e1 : (wcl (ws.take k) ++ wcl (ws.drop j)).length = m * 3 := by
      rw [List.length_append, wcl_len, wcl_len, List.length_take, List.length_drop]; omega
    rw [List.append_assoc _ _ (List.drop _ _), List.take_append_of_le_length (by rw [List.length_take, List.length_append, e1]; omega), List.take_take, Nat.min_self, List.take_append_of_le_length (by omega), List.take_of_length_le (by omega)]
  have HK2 := hide hk2
  have hkj : ((k : Int) == (j : Int)) = false := by simp; omega
  have hcapM : (cap : Int) ≤ 9223372036854775807 := by omega
  obtain ⟨rl, hrl⟩ : ∃ rl, rl = n - j := ⟨_, rfl⟩
  obtain ⟨rc, hrc⟩ : ∃ rc, rc = cap - j := ⟨_, rfl⟩
  obtain ⟨cm, hcmm⟩ : ∃ cm, cm = cap - m := ⟨_, rfl⟩
  rw [← hrl, ← hrc] at hap hfr
  rw [← hcmm] at hcl hmid
  clear happ hnews hone hcur hb1 hk1 hb2 hk2 hbd hh htk hlen hsl had haf hthree hm hn hj hrl hrc hcmm hsz hW1 hW2 hk
  go_enter Try.func43, Try.ntmps43
  go_wp2_with fail
  go_region
  go_wp2_with fail
  go_ret
  exact ⟨_, rfl, HRES.out, rfl, HK2.out.mono (fun k e => by rw [e]; rfl)⟩
end Go.Proofs.Yteehkjdolmmapaa
