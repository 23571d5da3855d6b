/-
  The reference's network: To, New. Own work.
-/
import Derived.Test.YteehkjdolmmapaaNtRef5
import Derived.Deep.LoopGhost
namespace Go.Proofs.Yteehkjdolmmapaa
open Go.RowKit

theorem infoInt8 : (Try.prog.info? 3).map (fun i => (i.zero, i.size, i.bytes)) = some (some (.int .i64 0), 1, 8) := by kernel_rfl
/-- 'append(v, i)' of numbers of one's own. -/
theorem append_int8 {ops : Array Oper} {rest : List Oper} {o : Oper} {a : Act} {Q : Exit → Act → World → Prop} (w : World) (hgd : o.guard = none) (s x : Operand)
    (ho : o.op = .call { callee := .builtin .append, args := #[s, x], argTypes := #[48, 48] })
    (base : Nat) (v : Value) (ys : List Int) (z : Int) (ad : Addr) (hs : a.eval s = v) (hown : w.ownsRow base 3 1 v ys.length (ys.map (Value.int .i64))) (hx : a.eval x = .slice (some ad) 1 1) (hc : w.cell? ad = some (.int .i64 z))
    (hb : ys.length ≤ 1000000) (hbase : base ≤ w.heap.size)
    (h : ∀ v' w', w'.ownsRow base 3 1 v' (ys ++ [z]).length ((ys ++ [z]).map (Value.int .i64)) → w.grownBy w' v.ownBlock → wpList Try.prog ops Q rest (a.put o.dst v') w') :
    wpList Try.prog ops Q (o :: rest) a w := by
  obtain ⟨i0, hi, hz0, hz1, hz2⟩ := info_parts3 infoInt8
  exact wpList_append_own_wide w hgd s x 48 ho base 3 i0 (.int .i64 0) 1 8 Try.underlying48 hi hz0 hz1 hz2 rfl (by decide) v ys.length _ hs hown ad 1 1 [.int .i64 z] hx rfl
    (fun j u hu => by
      have hj : j = 0 := by have := (List.getElem?_eq_some_iff.1 hu).1; simpa using this
      subst hj
      simp at hu
      subst hu
      have : ad.add 0 = ad := by obtain ⟨b, o, sp⟩ := ad; unfold Addr.add; split <;> simp_all
      rw [this]; exact hc)
    (fun u hu => by simp at hu; subst hu; rfl) (by unfold maxLen; omega) (by omega) hbase (fun v' w' h1 h2 _ => h v' w' (by simpa using h1) h2)
def toP (n : Nt) (node k : Nat) : List Int := ((List.range k).filter fun i => (n.l.getD i nilW).to == node).map fun (i : Nat) => (i : Int)
theorem toP_all (n : Nt) (node : Nat) : toP n node n.l.length = toL n node := rfl
theorem toP_len (n : Nt) (node k : Nat) : (toP n node k).length ≤ k := by
  unfold toP
  rw [List.length_map]
  exact Nat.le_trans (List.length_filter_le _ _) (by simp)
theorem toP_yes {n : Nt} {node k : Nat} (h : (n.l.getD k nilW).to = node) : toP n node (k + 1) = toP n node k ++ [(k : Int)] := by
  unfold toP
  rw [List.range_succ, List.filter_append]
  simp only [List.filter_cons, h, beq_self_eq_true, if_true, List.filter_nil, List.map_append]
  rfl
theorem toP_no {n : Nt} {node k : Nat} (h : (n.l.getD k nilW).to ≠ node) : toP n node (k + 1) = toP n node k := by
  unfold toP
  rw [List.range_succ, List.filter_append]
  have : ((n.l.getD k nilW).to == node) = false := by simpa using h
  simp only [List.filter_cons, this, List.filter_nil]
  simp
theorem lies_own64 {w : World} {base n : Nat} {v : Value} {xs : List Int} (h : w.ownsRow base 3 1 v n (xs.map (Value.int .i64))) : Lies .i64 w v xs := Lies.of_own h
theorem owns_shape_i {w : World} {base n : Nat} {v : Value} {xs : List Value} (h : w.ownsRow base 3 1 v n xs) : ∃ ao cap, v = .slice ao n cap := by
  obtain ⟨_, ⟨rfl, rfl⟩ | ⟨g, cap, cur, rfl, _⟩⟩ := h
  · exact ⟨none, 0, rfl⟩
  · exact ⟨_, cap, rfl⟩
set_option maxRecDepth 100000 in
set_option maxHeartbeats 1600000 in
theorem rto_any (p : Nat) (vb : Value) (ws : List (Wr × Value)) (n : Nt) (node : Nat) (w : World) (h : RNw w p vb ws n) :
    Calls Try.prog 20 #[.pointer (some ⟨p, 0, none⟩), .int .u8 (node : Int)] w fun e w' => ∃ v, e = .returned v ∧ Lies .i64 w' v (toL n node) ∧ Below w.heap.size w w' := by
  obtain ⟨ao, cap, hvb, hcap⟩ := h.shape
  have hmx : n.l.length ≤ 256 := Nat.le_trans h.ok.full h.ok.r2
  have HR := hide h
  have HVB := hide hvb
  obtain ⟨LN, hLN⟩ : ∃ LN, LN = n.l.length := ⟨_, rfl⟩
  have HLN := hide hLN
  have hL256 : LN ≤ 256 := by omega
  obtain ⟨m0, m1, m2⟩ := h.at
  rw [hvb, ← hLN] at m1
  clear h hvb hmx hLN m0 m2
  go_enter Try.func20, Try.ntmps20
  go_wp2_with fail
  go_loopg [5, 6] LN (fun g x i wr => ∃ (k : Nat) (ax : Option Addr) (cx : Nat), k + g = LN ∧ x = .slice ax (toP n node k).length cx ∧ i = .int .i64 k ∧ Hid (wr.ownsRow w.heap.size 3 1 (.slice ax (toP n node k).length cx) (toP n node k).length ((toP n node k).map (Value.int .i64))) ∧ Hid (Below w.heap.size w wr))
  case atStart => exact ⟨0, none, 0, by omega, rfl, rfl, hide (World.ownsRow_nil _ _ _ _), hide (Below.refl _ _)⟩
  case round =>
    obtain ⟨k, ax, cx, hk, rfl, rfl, HO, HB⟩ := hrel
    have hR := HR.out.below HB.out
    have q1 := hR.at.2.1
    rw [HVB.out, ← HLN.out] at q1
    have hpl := toP_len n node k
    have HS := HB.out.size
    cases gk with
    | zero =>
      obtain rfl : k = LN := by omega
      have hz : ¬ ((k : Int) < (k : Int)) := by omega
      have HT : Hid (toP n node k = toL n node) := hide (by rw [HLN.out]; rfl)
      rw [HT.out] at HO ⊢
      clear hR
      go_wp2_with fail
      go_ret
      exact ⟨_, rfl, lies_own64 HO.out, HB.out⟩
    | succ g =>
      have hz : (k : Int) < (LN : Int) := by omega
      have hkw : k < ws.length := by rw [HR.out.len, ← HLN.out]; omega
      obtain ⟨gb, cap2, hg, hvb2, _⟩ := hR.block (by omega)
      obtain ⟨_, c1, _⟩ := wcl_at hkw
      have r1 := hR.own.cells hg _ _ c1
      rw [Addr.add_lit, Nat.zero_add, HR.out.nth hkw] at r1
      have hnt : n.nth (k : Int) = n.l.getD k nilW := by
        have hi : n.inN (k : Int) = true := by unfold Nt.inN; rw [← HLN.out]; simp; omega
        unfold Nt.nth; rw [hi, if_pos rfl, Int.toNat_natCast]
      rw [hnt] at r1
      rw [HVB.out] at hvb2
      rw [← HLN.out] at hvb2
      cases hvb2
      clear hR c1 hg hnt
      by_cases hto : (n.l.getD k nilW).to = node
      · have HY := hide (toP_yes hto)
        rw [hto] at r1
        obtain ⟨ys, hys⟩ : ∃ ys, ys = toP n node k := ⟨_, rfl⟩
        rw [← hys] at HO HY hpl ⊢
        clear hto hys
        go_wp2_with (at_builtin; refine append_int8 _ rfl _ _ rfl w.heap.size (.slice ax ys.length cx) ys (k : Int) ⟨wr.heap.size, 0, none⟩ rfl (owns_keep HO.out (KeepBut.of_below (fun _ => False) (alloc_below8 wr _)) (fun _ _ h => h)) rfl ((box_new wr _ _).cell 0 _ rfl) (by omega) (by simp; omega) ?_; intro v4 w4 ho4 hg4; obtain ⟨a4, c4, hv4⟩ := owns_shape_i ho4; subst hv4; have HO4 := hide ho4; have HB4 : Hid (Below w.heap.size w w4) := hide ((HB.out.trans ((alloc_below8 wr _).mono HB.out.size)).grown hg4 (by simp; omega) (fun k hk => (HO.out.lt k hk).1)); clear ho4 hg4)
        go_roundg g
        case measure => omega
        case rel => exact ⟨k + 1, a4, c4, by omega, by rw [HY.out]; first | rfl | simp, by first | rfl | go_num, by rw [HY.out]; exact HO4, HB4⟩
      · have HY := hide (toP_no hto)
        obtain ⟨tt, htt⟩ : ∃ tt : Nat, tt = (n.l.getD k nilW).to := ⟨_, rfl⟩
        rw [← htt] at r1 hto
        have hne : ((tt : Int) == (node : Int)) = false := by simp; omega
        rw [← HY.out]
        rw [← HY.out] at HO
        clear hto htt
        go_wp2_with fail
        go_roundg g
        case measure => omega
        case rel => exact ⟨k + 1, ax, cx, by omega, rfl, by first | rfl | go_num, HO, HB⟩
def newR8 (room : Int) : Nt := newN (if newOk8 room then room.toNat else 0)
def newA8 (room : Int) : Int := if newOk8 room then 0 else 1
set_option maxRecDepth 100000 in
set_option maxHeartbeats 800000 in
theorem rnew8_any (room : Int) (w : World) :
    Calls Try.prog 11 #[.int .i64 room] w fun e w' => e = .returned (.tuple #[.agg (rncells (newR8 room) (.slice none 0 0)), .int .i64 (newA8 room)]) ∧ Below w.heap.size w w' := by
  by_cases h1 : room < 1
  · have hn : newOk8 room = false := by unfold newOk8; simp; omega
    have HN : Hid (newR8 room = newN 0 ∧ newA8 room = 1) := hide (by unfold newR8 newA8; rw [hn]; exact ⟨rfl, rfl⟩)
    have d1 : decide (room < 1) = true := decide_eq_true h1
    clear hn h1
    go_enter Try.func11, Try.ntmps11
    go_wp2
    refine bodyPost_ret (results_two8 rfl _ _ w.heap.size rfl rfl (cs := rncells (newN 0) (.slice none 0 0)) (t0 := 31) (box_new w _ _) Try.underlying31 rfl infoRN) rfl ?_
    rw [HN.out.1, HN.out.2]
    exact ⟨rfl, alloc_below8 w _⟩
  · have d1 : decide (room < 1) = false := decide_eq_false h1
    by_cases h2 : room > 256
    · have hn : newOk8 room = false := by unfold newOk8; simp; omega
      have HN : Hid (newR8 room = newN 0 ∧ newA8 room = 1) := hide (by unfold newR8 newA8; rw [hn]; exact ⟨rfl, rfl⟩)
      have d2 : decide (room > 256) = true := decide_eq_true h2
      clear hn h1 h2
      go_enter Try.func11, Try.ntmps11
      go_wp2
      refine bodyPost_ret (results_two8 rfl _ _ w.heap.size rfl rfl (cs := rncells (newN 0) (.slice none 0 0)) (t0 := 31) (box_new w _ _) Try.underlying31 rfl infoRN) rfl ?_
      rw [HN.out.1, HN.out.2]
      exact ⟨rfl, alloc_below8 w _⟩
    · have hn : newOk8 room = true := by unfold newOk8; simp; omega
      have HN : Hid (newR8 room = newN room.toNat ∧ newA8 room = 0) := hide (by unfold newR8 newA8; rw [hn]; exact ⟨rfl, rfl⟩)
      have d2 : decide (room > 256) = false := decide_eq_false h2
      obtain ⟨rn, hrn⟩ : ∃ rn : Nat, rn = room.toNat := ⟨_, rfl⟩
      have hrm : (rn : Int) = room := by omega
      rw [← hrn] at HN
      clear hn h1 h2 hrn
      subst hrm
      go_enter Try.func11, Try.ntmps11
      go_wp2
      refine bodyPost_ret (results_two8 rfl _ _ w.heap.size rfl rfl (cs := rncells (newN rn) (.slice none 0 0)) (t0 := 31) (box_new w _ _) Try.underlying31 rfl infoRN) rfl ?_
      rw [HN.out.1, HN.out.2]
      exact ⟨rfl, alloc_below8 w _⟩
end Go.Proofs.Yteehkjdolmmapaa
