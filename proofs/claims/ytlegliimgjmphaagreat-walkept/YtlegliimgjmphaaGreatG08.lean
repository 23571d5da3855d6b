/-
  Own texts put together: WlLaw, RvOps, WlSame, Nums, CrcPlain, CrcNum, CrcMore. Own work.
-/
import Derived.Test.YtlegliimgjmphaaGreatG07
import Derived.Test.YtlegliimgjmphaaGreatG03
import Derived.Test.YtlegliimgjmphaaGreatG01
import Derived.BigQuiet
import Derived.Deep.QuietTactic
import Derived.Deep.LoopGhost
import Derived.Deep.MidRow
import Derived.Laws.BitsAllLaws
namespace Go.Proofs.YtlegliimgjmphaaGreat
section
open Go.RowKit
theorem recPV : Rec 35 87 31 recVE := ⟨Tryz.underlying35, rec_info (z := .agg (recA (zeroR 0) (.slice none 0 0) (.slice none 0 0))) (K := 31) (B := 136) (by kernel_rfl) rfl (by decide), by decide, fun _ => rfl⟩
theorem alloc_below12 (w : World) (o : Obj) : Below w.heap.size w (w.alloc o) := (Below.refl _ _).alloc (Nat.le_refl _) o
theorem lies_shape12 {w : World} {v : Value} {xs : List Int} (h : Lies .u64 w v xs) : ∃ ao c, v = .slice ao xs.length c := by
 rcases h with ⟨rfl, ao, c, e, _⟩ | ⟨_, b, off, c, e, _⟩
 ·exact ⟨ao, c, e⟩
 ·exact ⟨_, c, e⟩
def SlOk (a : RecV) : Prop := (∃ b l c, a.p = .slice b l c) ∧ ∃ b l c, a.q = .slice b l c
theorem RvOk.sl {W : World} {a : RecV} (h : RvOk W a) : SlOk a := by
 obtain ⟨ao, c, e, _⟩ := h.src.shape
 obtain ⟨bo, d, e2⟩ := lies_shape12 h.lie
 exact ⟨⟨ao, _, c, e⟩, bo, _, d, e2⟩
theorem rv_one {a : RecV} (h : SlOk a) : ∀ u ∈ recVE a, u.oneCell' = true := by
 obtain ⟨m, p, q⟩ := a
 obtain ⟨⟨ao, l, c, e⟩, bo, k, d, e2⟩ := h
 dsimp only at e e2
 subst e; subst e2
 have := rec_one m ao bo l c k d
 intro u hu
 rw [Array.all_eq_true'] at this
 exact this u (by simpa using hu)
theorem short_any12 (v : Value) (fs : List WAct) (w w0 : World) (h : RSrc wactE w0 v fs) :
  Calls Tryz.prog 13 #[v] w fun e w' => ∃ v', e = .returned v' ∧ w' = w ∧ RSrc wactE w0 v' (fs.take 30) := by
 obtain ⟨ao, cap, rfl, hc, hm⟩ := h.shape
 unfold maxLen at hm
 have HH := hide h
 clear h
 by_cases hl : fs.length ≤ 30
 ·have hto := fun W => run_toR recWA W ao fs.length cap fs.length hc
  have HT : Hid (RSrc wactE w0 (.slice ao fs.length cap) (fs.take 30)) := hide (by rw [List.take_of_length_le hl]; exact HH.out)
  have d1 : ¬ ((30 : Int) < (fs.length : Int)) := by omega
  go_enter Tryz.func13, Tryz.ntmps13
  go_wp2
  go_ret
  exact ⟨_, rfl, rfl, HT.out⟩
 ·have hto := fun W => run_toR recWA W ao fs.length cap 30 (by omega)
  have HT : Hid (RSrc wactE w0 (.slice ao 30 cap) (fs.take 30)) := hide (src_takeR HH.out recWA.len (by omega))
  have d1 : (30 : Int) < (fs.length : Int) := by omega
  go_enter Tryz.func13, Tryz.ntmps13
  go_wp2
  go_ret
  exact ⟨_, rfl, rfl, HT.out⟩
set_option maxRecDepth 100000 in
set_option maxHeartbeats 3200000 in
theorem theirs12_any (v : Value) (ns : List RecV) (w : World) (h : RSrc recVE w v ns) (hok : ∀ r ∈ ns, SlOk r) (hl : ns.length ≤ 100000) :
  Calls Tryz.prog 19 #[v] w fun e w' => ∃ v', e = .returned v' ∧ w'.ownsRow w.heap.size 87 31 v' ns.length (flat recVE ns) ∧ Below w.heap.size w w' := by
 obtain ⟨ao, cap, rfl, hc, hm⟩ := h.shape
 have HH := hide h
 have HOK := hide hok
 clear h hok
 obtain ⟨LN, hLN⟩ : ∃ LN, LN = ns.length := ⟨_, rfl⟩
 have HLN := hide hLN
 have hL : LN ≤ 100000 := by omega
 rw [← hLN]
 clear hc hm hl hLN
 go_enter Tryz.func19, Tryz.ntmps19
 go_wp2_with fail
 go_loopg [3, 8] LN (fun g x i wr => ∃ (k : Nat) (ax : Option Addr) (cx : Nat), k + g = LN ∧ x = .slice ax k cx ∧ i = .int .i64 k ∧ Hid (wr.ownsRow w.heap.size 87 31 (.slice ax k cx) k (flat recVE (ns.take k))) ∧ Hid (Below w.heap.size w wr))
 case atStart => exact ⟨0, none, 0, by omega, rfl, rfl, hide (by simp [flat]; exact World.ownsRow_nil _ _ _ _), hide (Below.refl _ _)⟩
 case round =>
  obtain ⟨k, ax, cx, hk, rfl, rfl, HO, HB⟩ := hrel
  have HS := HB.out.size
  cases gk with
  | zero =>
   obtain rfl : k = LN := by omega
   have hz : ¬ ((k : Int) < (k : Int)) := by omega
   have HT : Hid (ns.take k = ns) := hide (by rw [HLN.out]; simp)
   rw [HT.out] at HO
   go_wp2_with fail
   go_ret
   exact ⟨_, rfl, HO.out, HB.out⟩
  | succ g =>
   have hz : (k : Int) < (LN : Int) := by omega
   have hkn : k < ns.length := by rw [← HLN.out]; omega
   obtain ⟨en, b, off, rfl, hb, hcl⟩ := (HH.out.below HB.out).at recRV.len hkn
   have HRg : Hid (wr.rangeAt b (off + k * 31) (recVE ns[k])) := hide (fun j v hv => hcl j v hv)
   have HT : Hid (ns.take (k + 1) = ns.take k ++ [ns[k]]) := hide (by rw [List.take_succ_eq_append_getElem hkn])
   have HTL : Hid ((ns.take k).length = k) := hide (by rw [List.length_take]; omega)
   have H1 : Hid (∀ u ∈ recVE ns[k], u.oneCell' = true) := hide (rv_one (HOK.out _ (List.getElem_mem hkn)))
   have hsh : ∃ a1 l1 c1 a2 l2 c2, ns[k].p = .slice a1 l1 c1 ∧ ns[k].q = .slice a2 l2 c2 := by
    obtain ⟨⟨a1, l1, c1, e1⟩, a2, l2, c2, e2⟩ := HOK.out _ (List.getElem_mem hkn)
    exact ⟨a1, l1, c1, a2, l2, c2, e1, e2⟩
   generalize ns[k] = x at *
   obtain ⟨m, p, q⟩ := x
   obtain ⟨a1, l1, c1, a2, l2, c2, e1, e2⟩ := hsh
   dsimp only at e1 e2
   subst e1; subst e2
   have HZ := hide (box_new wr (recA (zeroR 0) (.slice none 0 0) (.slice none 0 0)) 89)
   have HZB : Hid (Below wr.heap.size wr (wr.alloc (.cells (recA (zeroR 0) (.slice none 0 0) (.slice none 0 0)) 89))) := hide ((Below.refl _ _).alloc (Nat.le_refl _) _)
   clear hcl en hb
   go_wp2_with (first | (refine wpList_load_mid rfl 89 _ rfl b (off + k * 31) rfl (recE m (.slice a1 l1 c1) (.slice a2 l2 c2)) _ HRg.out Tryz.underlying89 rfl infoRRec ?_) | (refine wp_store_box rfl rfl _ _ rfl wr.heap.size rfl (cs' := recA m (.slice a1 l1 c1) (.slice a2 l2 c2)) rfl HZ.out rfl infoRRec (rec_one _ _ _ _ _ _ _) ?_; intro w3 hb3 hk3; have HK3 : Hid (Below wr.heap.size wr w3) := hide (HZB.out.trans (hk3.below HZB.out.size (fun k hk => by omega))); have y0 := hb3.cell 0 (.int .u8 (m.kind : Int)) rfl; have y1 := hb3.cell 1 (.int .u32 (m.n : Int)) rfl; have y2 := hb3.cell 2 (.int .u8 (m.tx.1 : Int)) rfl; have y3 := hb3.cell 3 (.int .u32 (m.tx.2.1 : Int)) rfl; have y4 := hb3.cell 4 (.int .u32 (m.tx.2.2 : Int)) rfl; have y5 := hb3.cell 5 (.int .u32 (m.reg.1 : Int)) rfl; have y6 := hb3.cell 6 (.int .u32 (m.reg.2 : Int)) rfl; have y7 := hb3.cell 7 (.int .u64 (m.mem : Int)) rfl; have y8 := hb3.cell 8 (.slice a1 l1 c1) rfl; have y9 := hb3.cell 9 (.slice a2 l2 c2) rfl; have y10 := hb3.cell 10 (.int .u8 (at8 m.key 0)) rfl; have y11 := hb3.cell 11 (.int .u8 (at8 m.key 1)) rfl; have y12 := hb3.cell 12 (.int .u8 (at8 m.key 2)) rfl; have y13 := hb3.cell 13 (.int .u8 (at8 m.key 3)) rfl; have y14 := hb3.cell 14 (.int .u8 (at8 m.key 4)) rfl; have y15 := hb3.cell 15 (.int .u8 (at8 m.key 5)) rfl; have y16 := hb3.cell 16 (.int .u8 (at8 m.key 6)) rfl; have y17 := hb3.cell 17 (.int .u8 (at8 m.key 7)) rfl; have y18 := hb3.cell 18 (.int .u32 (m.item.ver : Int)) rfl; have y19 := hb3.cell 19 (.string (strOfNums m.item.val)) rfl; have y20 := hb3.cell 20 (.int .u32 (m.item.cf.e : Int)) rfl; have y21 := hb3.cell 21 (.int .u8 (m.item.cf.r : Int)) rfl; have y22 := hb3.cell 22 (.int .u8 (m.item.cf.w : Int)) rfl; have y23 := hb3.cell 23 (.int .u8 (atN m.item.cf.vs 0)) rfl; have y24 := hb3.cell 24 (.int .u8 (atN m.item.cf.vs 1)) rfl; have y25 := hb3.cell 25 (.int .u8 (atN m.item.cf.vs 2)) rfl; have y26 := hb3.cell 26 (.int .u8 (atN m.item.cf.vs 3)) rfl; have y27 := hb3.cell 27 (.int .u8 (atN m.item.cf.vs 4)) rfl; have y28 := hb3.cell 28 (.int .u8 (atN m.item.cf.vs 5)) rfl; have y29 := hb3.cell 29 (.int .u8 (atN m.item.cf.vs 6)) rfl; have y30 := hb3.cell 30 (.int .u8 (atN m.item.cf.vs 7)) rfl; have HA2 := hide (alloc_below12 w3 (.cells (recA m (.slice a1 l1 c1) (.slice a2 l2 c2)) 87)); have HO2 := hide (owns_keep (owns_keep HO.out (KeepBut.of_below (fun _ => False) HK3.out) (fun _ _ h => h)) (KeepBut.of_below (fun _ => False) HA2.out) (fun _ _ h => h)); have HB2 := hide (HB.out.trans ((HK3.out.trans (HA2.out.mono HK3.out.size)).mono HB.out.size)); have HSRC := hide (src_new (enc := recVE) w3 ⟨m, .slice a1 l1 c1, .slice a2 l2 c2⟩ (recA m (.slice a1 l1 c1) (.slice a2 l2 c2)) rfl 87); rw [← HTL.out] at HO2; clear hb3 hk3) | (at_builtin; refine wp_recs recPV _ rfl _ _ rfl w.heap.size (.slice ax k cx) _ (ns.take k) [⟨m, .slice a1 l1 c1, .slice a2 l2 c2⟩] rfl (by rw [HTL.out] at *; exact HO2.out) rfl HSRC.out (fun y hy => by simp at hy; subst hy; exact H1.out) (by rw [HTL.out]; simp; omega) HB2.out.size ?_; intro v4 w4 ho4 hg4 _; obtain ⟨a4, c4, hv4, _⟩ := owns_shapeR ho4; subst hv4; have HO4 := hide ho4; have HB4 : Hid (Below w.heap.size w w4) := hide (HB2.out.grown hg4 HB2.out.size (fun j hj => (HO.out.lt j hj).1)); clear ho4 hg4))
   all_goals
    go_roundg g
    case measure => omega
    case rel => exact ⟨k + 1, a4, c4, by omega, by rw [Nat.min_eq_left (Nat.le_of_lt hkn)], by first | rfl | go_num, hide (by have h4 := HO4.out; rw [← HT.out] at h4; rw [List.length_take, Nat.min_eq_left (by have := HLN.out; omega)] at h4; exact h4), HB4⟩
set_option maxRecDepth 100000 in
set_option maxHeartbeats 3200000 in
theorem ours12_any (v : Value) (ns : List RecV) (w : World) (h : RSrc recVE w v ns) (hok : ∀ r ∈ ns, SlOk r) (hl : ns.length ≤ 100000) :
  Calls Tryz.prog 27 #[v] w fun e w' => ∃ v', e = .returned v' ∧ w'.ownsRow w.heap.size 89 31 v' ns.length (flat recVE ns) ∧ Below w.heap.size w w' := by
 obtain ⟨ao, cap, rfl, hc, hm⟩ := h.shape
 have HH := hide h
 have HOK := hide hok
 clear h hok
 obtain ⟨LN, hLN⟩ : ∃ LN, LN = ns.length := ⟨_, rfl⟩
 have HLN := hide hLN
 have hL : LN ≤ 100000 := by omega
 rw [← hLN]
 clear hc hm hl hLN
 go_enter Tryz.func27, Tryz.ntmps27
 go_wp2_with fail
 go_loopg [3, 8] LN (fun g x i wr => ∃ (k : Nat) (ax : Option Addr) (cx : Nat), k + g = LN ∧ x = .slice ax k cx ∧ i = .int .i64 k ∧ Hid (wr.ownsRow w.heap.size 89 31 (.slice ax k cx) k (flat recVE (ns.take k))) ∧ Hid (Below w.heap.size w wr))
 case atStart => exact ⟨0, none, 0, by omega, rfl, rfl, hide (by simp [flat]; exact World.ownsRow_nil _ _ _ _), hide (Below.refl _ _)⟩
 case round =>
  obtain ⟨k, ax, cx, hk, rfl, rfl, HO, HB⟩ := hrel
  have HS := HB.out.size
  cases gk with
  | zero =>
   obtain rfl : k = LN := by omega
   have hz : ¬ ((k : Int) < (k : Int)) := by omega
   have HT : Hid (ns.take k = ns) := hide (by rw [HLN.out]; simp)
   rw [HT.out] at HO
   go_wp2_with fail
   go_ret
   exact ⟨_, rfl, HO.out, HB.out⟩
  | succ g =>
   have hz : (k : Int) < (LN : Int) := by omega
   have hkn : k < ns.length := by rw [← HLN.out]; omega
   obtain ⟨en, b, off, rfl, hb, hcl⟩ := (HH.out.below HB.out).at recPV.len hkn
   have HRg : Hid (wr.rangeAt b (off + k * 31) (recVE ns[k])) := hide (fun j v hv => hcl j v hv)
   have HT : Hid (ns.take (k + 1) = ns.take k ++ [ns[k]]) := hide (by rw [List.take_succ_eq_append_getElem hkn])
   have HTL : Hid ((ns.take k).length = k) := hide (by rw [List.length_take]; omega)
   have H1 : Hid (∀ u ∈ recVE ns[k], u.oneCell' = true) := hide (rv_one (HOK.out _ (List.getElem_mem hkn)))
   have hsh : ∃ a1 l1 c1 a2 l2 c2, ns[k].p = .slice a1 l1 c1 ∧ ns[k].q = .slice a2 l2 c2 := by
    obtain ⟨⟨a1, l1, c1, e1⟩, a2, l2, c2, e2⟩ := HOK.out _ (List.getElem_mem hkn)
    exact ⟨a1, l1, c1, a2, l2, c2, e1, e2⟩
   generalize ns[k] = x at *
   obtain ⟨m, p, q⟩ := x
   obtain ⟨a1, l1, c1, a2, l2, c2, e1, e2⟩ := hsh
   dsimp only at e1 e2
   subst e1; subst e2
   have HZ := hide (box_new wr (recA (zeroR 0) (.slice none 0 0) (.slice none 0 0)) 87)
   have HZB : Hid (Below wr.heap.size wr (wr.alloc (.cells (recA (zeroR 0) (.slice none 0 0) (.slice none 0 0)) 87))) := hide ((Below.refl _ _).alloc (Nat.le_refl _) _)
   clear hcl en hb
   go_wp2_with (first | (refine wpList_load_mid rfl 87 _ rfl b (off + k * 31) rfl (recE m (.slice a1 l1 c1) (.slice a2 l2 c2)) _ HRg.out Tryz.underlying87 rfl infoRec ?_) | (refine wp_store_box rfl rfl _ _ rfl wr.heap.size rfl (cs' := recA m (.slice a1 l1 c1) (.slice a2 l2 c2)) rfl HZ.out rfl infoRec (rec_one _ _ _ _ _ _ _) ?_; intro w3 hb3 hk3; have HK3 : Hid (Below wr.heap.size wr w3) := hide (HZB.out.trans (hk3.below HZB.out.size (fun k hk => by omega))); have y0 := hb3.cell 0 (.int .u8 (m.kind : Int)) rfl; have y1 := hb3.cell 1 (.int .u32 (m.n : Int)) rfl; have y2 := hb3.cell 2 (.int .u8 (m.tx.1 : Int)) rfl; have y3 := hb3.cell 3 (.int .u32 (m.tx.2.1 : Int)) rfl; have y4 := hb3.cell 4 (.int .u32 (m.tx.2.2 : Int)) rfl; have y5 := hb3.cell 5 (.int .u32 (m.reg.1 : Int)) rfl; have y6 := hb3.cell 6 (.int .u32 (m.reg.2 : Int)) rfl; have y7 := hb3.cell 7 (.int .u64 (m.mem : Int)) rfl; have y8 := hb3.cell 8 (.slice a1 l1 c1) rfl; have y9 := hb3.cell 9 (.slice a2 l2 c2) rfl; have y10 := hb3.cell 10 (.int .u8 (at8 m.key 0)) rfl; have y11 := hb3.cell 11 (.int .u8 (at8 m.key 1)) rfl; have y12 := hb3.cell 12 (.int .u8 (at8 m.key 2)) rfl; have y13 := hb3.cell 13 (.int .u8 (at8 m.key 3)) rfl; have y14 := hb3.cell 14 (.int .u8 (at8 m.key 4)) rfl; have y15 := hb3.cell 15 (.int .u8 (at8 m.key 5)) rfl; have y16 := hb3.cell 16 (.int .u8 (at8 m.key 6)) rfl; have y17 := hb3.cell 17 (.int .u8 (at8 m.key 7)) rfl; have y18 := hb3.cell 18 (.int .u32 (m.item.ver : Int)) rfl; have y19 := hb3.cell 19 (.string (strOfNums m.item.val)) rfl; have y20 := hb3.cell 20 (.int .u32 (m.item.cf.e : Int)) rfl; have y21 := hb3.cell 21 (.int .u8 (m.item.cf.r : Int)) rfl; have y22 := hb3.cell 22 (.int .u8 (m.item.cf.w : Int)) rfl; have y23 := hb3.cell 23 (.int .u8 (atN m.item.cf.vs 0)) rfl; have y24 := hb3.cell 24 (.int .u8 (atN m.item.cf.vs 1)) rfl; have y25 := hb3.cell 25 (.int .u8 (atN m.item.cf.vs 2)) rfl; have y26 := hb3.cell 26 (.int .u8 (atN m.item.cf.vs 3)) rfl; have y27 := hb3.cell 27 (.int .u8 (atN m.item.cf.vs 4)) rfl; have y28 := hb3.cell 28 (.int .u8 (atN m.item.cf.vs 5)) rfl; have y29 := hb3.cell 29 (.int .u8 (atN m.item.cf.vs 6)) rfl; have y30 := hb3.cell 30 (.int .u8 (atN m.item.cf.vs 7)) rfl; have HA2 := hide (alloc_below12 w3 (.cells (recA m (.slice a1 l1 c1) (.slice a2 l2 c2)) 89)); have HO2 := hide (owns_keep (owns_keep HO.out (KeepBut.of_below (fun _ => False) HK3.out) (fun _ _ h => h)) (KeepBut.of_below (fun _ => False) HA2.out) (fun _ _ h => h)); have HB2 := hide (HB.out.trans ((HK3.out.trans (HA2.out.mono HK3.out.size)).mono HB.out.size)); have HSRC := hide (src_new (enc := recVE) w3 ⟨m, .slice a1 l1 c1, .slice a2 l2 c2⟩ (recA m (.slice a1 l1 c1) (.slice a2 l2 c2)) rfl 89); rw [← HTL.out] at HO2; clear hb3 hk3) | (at_builtin; refine wp_recs recRV _ rfl _ _ rfl w.heap.size (.slice ax k cx) _ (ns.take k) [⟨m, .slice a1 l1 c1, .slice a2 l2 c2⟩] rfl (by rw [HTL.out] at *; exact HO2.out) rfl HSRC.out (fun y hy => by simp at hy; subst hy; exact H1.out) (by rw [HTL.out]; simp; omega) HB2.out.size ?_; intro v4 w4 ho4 hg4 _; obtain ⟨a4, c4, hv4, _⟩ := owns_shapeR ho4; subst hv4; have HO4 := hide ho4; have HB4 : Hid (Below w.heap.size w w4) := hide (HB2.out.grown hg4 HB2.out.size (fun j hj => (HO.out.lt j hj).1)); clear ho4 hg4))
   all_goals
    go_roundg g
    case measure => omega
    case rel => exact ⟨k + 1, a4, c4, by omega, by rw [Nat.min_eq_left (Nat.le_of_lt hkn)], by first | rfl | go_num, hide (by have h4 := HO4.out; rw [← HT.out] at h4; rw [List.length_take, Nat.min_eq_left (by have := HLN.out; omega)] at h4; exact h4), HB4⟩
end
section
open Go.RowKit
section
variable {P : Program} {ρ : Operand → Value} {w : World} {dst : Option Tmp} {ty : TypeId} {pos : String} {aft : Array Edge} {gd : Option (Nat × Bool)}
theorem y_move (x : Operand) {v : Value} (hx : ρ x = v) : (execOp ρ ⟨dst, .move x, ty, pos, aft, gd⟩).run P w = .ok (.value v) w := by subst hx; simp [go_sem]
theorem y_assign (x : Operand) {v : Value} (hx : ρ x = v) : (execOp ρ ⟨dst, .assign x, ty, pos, aft, gd⟩).run P w = .ok (.value v) w := by subst hx; simp [go_sem]
theorem y_pickT (x y z : Operand) {v : Value} (hx : ρ x = .bool true) (hy : ρ y = v) : (execOp ρ ⟨dst, .pick x y z, ty, pos, aft, gd⟩).run P w = .ok (.value v) w := by subst hy; simp [go_sem, hx]
theorem y_pickF (x y z : Operand) {v : Value} (hx : ρ x = .bool false) (hz : ρ z = v) : (execOp ρ ⟨dst, .pick x y z, ty, pos, aft, gd⟩).run P w = .ok (.value v) w := by subst hz; simp [go_sem, hx]
theorem y_bin (o : BinOp) (t t2 : TypeId) (x y : Operand) {a b v : Value} (hx : ρ x = a) (hy : ρ y = b) (hr : (binOp o t a b).run P w = .ok v w) (hg : (eqGuard o t x y a b).run P w = .ok () w) : (execOp ρ ⟨dst, .binOp o t x y t2, ty, pos, aft, gd⟩).run P w = .ok (.value v) w := by
 subst hx
 subst hy
 simp [execOp, hr, hg]
theorem y_not (t : TypeId) (x : Operand) {a : Bool} (hx : ρ x = .bool a) : (execOp ρ ⟨dst, .unOp .not t x, ty, pos, aft, gd⟩).run P w = .ok (.value (.bool (!a))) w := by
 simp [go_sem, hx]
theorem y_load (t : TypeId) (x : Operand) {q : Nat} {cs : Array Value} {t0 : TypeId} {d : TypeDesc} (hx : ρ x = .pointer (some ⟨q, 0, none⟩)) (hb : Box w q cs t0) (hu : P.underlying t = some d) (hd : d.isRow = true) (hi : (P.info? t).map (·.size) = some cs.size) : (execOp ρ ⟨dst, .load t x, ty, pos, aft, gd⟩).run P w = .ok (.value (.agg cs)) w := by
 have hr : w.rangeAt q 0 cs.toList := fun j v hv => by
  rw [Nat.zero_add]; exact hb.cell j v (by simpa using hv)
 have hl := run_loadVar_mid (P := P) w q 0 t cs.toList d hr hu hd (by simpa using hi)
 unfold execOp
 simp only [hx, Instr.loadAt, Instr.sureAddr, Sem.run_bind, Sem.run_pure, Result.andThen_ok, hl]
theorem y_loadMid (t : TypeId) (x : Operand) {q o : Nat} {cs : List Value} {d : TypeDesc} (hx : ρ x = .pointer (some ⟨q, o, none⟩)) (hr : w.rangeAt q o cs) (hu : P.underlying t = some d) (hd : d.isRow = true) (hi : (P.info? t).map (·.size) = some cs.length) : (execOp ρ ⟨dst, .load t x, ty, pos, aft, gd⟩).run P w = .ok (.value (.agg cs.toArray)) w := by
 have hl := run_loadVar_mid (P := P) w q o t cs d hr hu hd hi
 unfold execOp
 simp only [hx, Instr.loadAt, Instr.sureAddr, Sem.run_bind, Sem.run_pure, Result.andThen_ok, hl]
theorem y_call (f : FuncId) (xs : Array Operand) (vs : Array Value) (tys : Array TypeId) (hf : ρ (.func f) = .func (.func f) #[] #[]) (hv : xs.map ρ = vs) (he : ∀ args w, (callFunc f args).run P w = .ok (.enter f args) w) : (execOp ρ ⟨dst, .call { callee := .value (.func f), args := xs, argTypes := tys }, ty, pos, aft, gd⟩).run P w = .ok (.enter f vs) w := by
 subst hv
 simp [go_sem, hf, he]
theorem y_len (x : Operand) (t : TypeId) {ao : Option Addr} {n c : Nat} {e : TypeId} (hx : ρ x = .slice ao n c) (hu : P.underlying t = some (.slice e)) : (execOp ρ ⟨dst, .call { callee := .builtin .len, args := #[x], argTypes := #[t] }, ty, pos, aft, gd⟩).run P w = .ok (.value (.int .i64 (n : Int))) w := by
 have hb : (Builtin.len_ #[t] ty #[.slice ao n c]).run P w = .ok (.int .i64 (n : Int)) w := by
  have := run_underlying (P := P) hu
  simp [Builtin.len_, this, goInt, Result.andThen]
 simp [go_sem, hx, hb]
theorem y_build (t : TypeId) {z : Value} (hz : (Instr.build t #[]).run P w = .ok z w) : (execOp ρ ⟨dst, .build t #[], ty, pos, aft, gd⟩).run P w = .ok (.value z) w := by
 simp [execOp, hz]
end
section
variable {P : Program} {ops : Array Oper} {Q : Exit → Act → World → Prop}
theorem r_pure {i : Nat} {o : Oper} {a : Act} {w : World} {v : Value} {ps : List (Nat × Value)} (hi : ops[i]? = some o) (hw : Region.wanted o (yielded ops a.tmps) = true)
  (hv : pv ps i = v) (hr : (execOp a.eval o).run P w = .ok (.value v) w) : wpOp P ops Q i (fun a' w' => Below w.heap.size w w' ∧ ∃ v, InvV ps i v w' ∧ a' = a.put o.dst v) a w :=
 each_pure hi hw hr hv.symm
theorem r_enter {i : Nat} {o : Oper} {a : Act} {w : World} {v : Value} {ps : List (Nat × Value)} {f : FuncId} {args : Array Value} (hi : ops[i]? = some o) (hw : Region.wanted o (yielded ops a.tmps) = true)
  (hv : pv ps i = v) (hr : (execOp a.eval o).run P w = .ok (.enter f args) w) (h : Calls P f args w fun e w' => e = .returned v ∧ Below w.heap.size w w') : wpOp P ops Q i (fun a' w' => Below w.heap.size w w' ∧ ∃ v, InvV ps i v w' ∧ a' = a.put o.dst v) a w :=
 each_enter hi hw hr (Calls.mono h fun _ _ ⟨he, hB⟩ => ⟨v, he, hB, hv.symm⟩)
end
end
section
open Go.RowKit Classical
def RSameDo : Prop := ∀ (m k : RecP) (a1 a2 b1 b2 : Option Addr) (l1 c1 l2 c2 n1 d1 n2 d2 : Nat) (w : World), RecOk m → RecOk k → RSrc wrE w (.slice a1 l1 c1) m.wr → RSrc wrE w (.slice a2 l2 c2) k.wr → Lies .u64 w (.slice b1 n1 d1) (misI m.mis) → Lies .u64 w (.slice b2 n2 d2) (misI k.mis) →
  Calls Tryz.prog 58 #[.agg (recA m (.slice a1 l1 c1) (.slice b1 n1 d1)), .agg (recA k (.slice a2 l2 c2) (.slice b2 n2 d2))] w fun e w' => e = .returned (.bool (decide (m = k))) ∧ Below w.heap.size w w'
theorem en12_rsame : ∀ args w, (callFunc 58 args).run Tryz.prog w = .ok (.enter 58 args) w := enters_of Tryz.func58 (by kernel_rfl) rfl
theorem range_below12 {w w' : World} {b o : Nat} {cs : List Value} (h : w.rangeAt b o cs) (hb : b < w.heap.size) (hB : Below w.heap.size w w') : w'.rangeAt b o cs := fun j v hv => (World.cell?_of_block (hB.block b hb)).trans (h j v hv)
theorem y_idxR {ρ : Operand → Value} {w : World} {dst : Option Tmp} {ty : TypeId} {pos : String} {aft : Array Edge} {gd : Option (Nat × Bool)} (x y : Operand) {b off n c k : Nat} (hx : ρ x = .slice (some ⟨b, off, none⟩) n c) (hy : ρ y = .int .i64 (k : Int)) (h : k < n) : (execOp ρ ⟨dst, .indexAddr 41 x y, ty, pos, aft, gd⟩).run Tryz.prog w = .ok (.value (.pointer (some ⟨b, off + k * 31, none⟩))) w := by
 have h1 : (0 : Int) ≤ (k : Int) := by omega
 have h2 : (k : Int) < (n : Int) := by omega
 simp [go_sem, hx, hy, h1, h2]
structure RvLie (W : World) (a : RecV) : Prop where
 ok : RecOk a.m
 src : RSrc wrE W a.p a.m.wr
 lie : Lies .u64 W a.q (misI a.m.mis)
theorem RvOk.lies {W : World} {a : RecV} (h : RvOk W a) : RvLie W a := ⟨h.ok, h.src, h.lie⟩
theorem RvLie.below {w w' : World} {a : RecV} (h : RvLie w a) (hB : Below w.heap.size w w') : RvLie w' a := ⟨h.ok, h.src.below hB, h.lie.below hB⟩
def rows (l : List RecV) : List RecP := l.map (·.m)
theorem rows_take (l : List RecV) {k : Nat} (h : k < l.length) : rows (l.take (k + 1)) = rows (l.take k) ++ [l[k].m] := by
 unfold rows
 rw [List.take_succ_eq_append_getElem h, List.map_append]
 rfl
theorem rows_at {l r : List RecV} {k : Nat} (h : k < l.length) (h2 : k < r.length) (e : rows l = rows r) : l[k].m = r[k].m := by
 have h3 : (rows l)[k]? = (rows r)[k]? := by rw [e]
 unfold rows at h3
 rw [List.getElem?_map, List.getElem?_map, List.getElem?_eq_getElem h, List.getElem?_eq_getElem h2] at h3
 exact Option.some.inj h3
set_option maxRecDepth 100000 in
set_option maxHeartbeats 3200000 in
theorem same12_any (H : RSameDo) (v1 v2 : Value) (ns ks : List RecV) (w : World) (h1 : RSrc recVE w v1 ns) (h2 : RSrc recVE w v2 ks) (o1 : ∀ r ∈ ns, RvLie w r) (o2 : ∀ r ∈ ks, RvLie w r) :
  Calls Tryz.prog 26 #[v1, v2] w fun e w' => e = .returned (.bool (decide (rows ns = rows ks))) ∧ Below w.heap.size w w' := by
 obtain ⟨a1, c1, rfl, hc1, hm1⟩ := h1.shape
 obtain ⟨a2, c2, rfl, hc2, hm2⟩ := h2.shape
 have H1 := hide h1
 have H2 := hide h2
 have O1 := hide o1
 have O2 := hide o2
 unfold maxLen at hm1 hm2
 obtain ⟨R, hR⟩ : ∃ R, R = decide (rows ns = rows ks) := ⟨_, rfl⟩
 rw [← hR]
 have HR := hide hR
 obtain ⟨L, hL⟩ : ∃ L, L = ns.length := ⟨_, rfl⟩
 obtain ⟨M, hM⟩ : ∃ M, M = ks.length := ⟨_, rfl⟩
 have HL := hide hL
 have HM := hide hM
 have hL2 : (L : Int) ≤ 9223372036854775807 := by omega
 have hM2 : (M : Int) ≤ 9223372036854775807 := by omega
 rw [← hL, ← hM]
 clear hc1 hm1 hc2 hm2 h1 h2 hL hM o1 o2 hR
 by_cases hlm : L = M
 ·subst hlm
  have hne : ((L : Int) != (L : Int)) = false := by simp
  go_enter Tryz.func26, Tryz.ntmps26
  go_wp2_with fail
  go_loopg [5] L (fun g i wr => ∃ k : Nat, k + g = L ∧ i = .int .i64 k ∧ Hid (Below w.heap.size w wr) ∧ Hid (rows (ns.take k) = rows (ks.take k)))
  case atStart => exact ⟨0, by omega, rfl, hide (Below.refl _ _), hide rfl⟩
  case round =>
   obtain ⟨k, hk, rfl, HBW, HT⟩ := hrel
   cases gk with
   | zero =>
    obtain rfl : k = L := by omega
    have hz : ¬ ((k : Int) < (k : Int)) := by omega
    have HE : Hid (R = true) := hide (by
     have := HT.out
     rw [HL.out, List.take_length, ← HL.out, HM.out, List.take_length] at this
     rw [HR.out, decide_eq_true this])
    go_wp2_with fail
    go_ret
    exact ⟨by rw [HE.out]; rfl, HBW.out⟩
   | succ g =>
    have hz : (k : Int) < (L : Int) := by omega
    have hk1 : k < ns.length := by rw [← HL.out]; omega
    have hk2 : k < ks.length := by rw [← HM.out]; omega
    have hkl : k < L := by omega
    obtain ⟨_, b1, o1, rfl, hbl, hr1⟩ := (H1.out.below HBW.out).at recRV.len hk1
    obtain ⟨_, b2, o2, rfl, hbl2, hr2⟩ := (H2.out.below HBW.out).at recRV.len hk2
    have HX := hide ((O1.out _ (List.getElem_mem hk1)).below HBW.out)
    have HY := hide ((O2.out _ (List.getElem_mem hk2)).below HBW.out)
    have HTK : Hid (rows (ns.take (k + 1)) = rows (ns.take k) ++ [ns[k].m] ∧ rows (ks.take (k + 1)) = rows (ks.take k) ++ [ks[k].m] ∧ (rows ns = rows ks → ns[k].m = ks[k].m)) := hide ⟨rows_take _ hk1, rows_take _ hk2, rows_at hk1 hk2⟩
    replace hr1 : wr.rangeAt b1 (o1 + k * 31) (recVE ns[k]) := fun j v hv => hr1 j v hv
    replace hr2 : wr.rangeAt b2 (o2 + k * 31) (recVE ks[k]) := fun j v hv => hr2 j v hv
    have HR1 := hide hr1
    have HR2 := hide hr2
    clear hr1 hr2
    generalize ns[k] = xv at *
    generalize ks[k] = yv at *
    obtain ⟨x, xp, xq⟩ := xv
    obtain ⟨y, yp, yq⟩ := yv
    obtain ⟨xa, xc, e1, _⟩ := HX.out.src.shape
    obtain ⟨xb, xd, e2⟩ := lies_shape12 HX.out.lie
    obtain ⟨ya, yc, e3, _⟩ := HY.out.src.shape
    obtain ⟨yb, yd, e4⟩ := lies_shape12 HY.out.lie
    dsimp only at e1 e2 e3 e4
    subst e1; subst e2; subst e3; subst e4
    have CS0 : ∀ W, Below wr.heap.size wr W → Calls Tryz.prog 58 #[.agg (recA x (.slice xa x.wr.length xc) (.slice xb (misI x.mis).length xd)), .agg (recA y (.slice ya y.wr.length yc) (.slice yb (misI y.mis).length yd))] W fun e w' => e = .returned (.bool (decide (x = y))) ∧ Below W.heap.size W w' := fun W hB => H _ _ _ _ _ _ _ _ _ _ _ _ _ _ W HX.out.ok HY.out.ok (HX.out.src.below hB) (HY.out.src.below hB) (HX.out.lie.below hB) (HY.out.lie.below hB)
    clear HX HY
    dsimp only at HTK
    generalize x.wr.length = xl at *
    generalize (misI x.mis).length = xn at *
    generalize y.wr.length = yl at *
    generalize (misI y.mis).length = yn at *
    by_cases hxy : x = y
    ·have CS := hide CS0
     rw [decide_eq_true hxy] at CS
     have HT2 : Hid (rows (ns.take (k + 1)) = rows (ks.take (k + 1))) := hide (by rw [HTK.out.1, HTK.out.2.1, HT.out, hxy])
     clear CS0
     go_wp2_with fail
     refine wp_region_vals (by kernel_rfl) [(17, .slice (some ⟨b1, o1, none⟩) L c1), (18, .int .i64 (k : Int)), (19, .pointer (some ⟨b1, o1 + k * 31, none⟩)), (20, .agg (recA x (.slice xa xl xc) (.slice xb xn xd))), (21, .slice (some ⟨b2, o2, none⟩) L c2), (22, .int .i64 (k : Int)), (23, .pointer (some ⟨b2, o2 + k * 31, none⟩)), (24, .agg (recA y (.slice ya yl yc) (.slice yb yn yd))), (25, .bool true), (26, .bool false)] (by kernel_rfl) rfl ?_ ?_
     ·intro i o hi A w1 hB hold hdeps
      have hlt : i < 10 := (Array.getElem?_eq_some_iff.1 hi).1
      have hc : i = 0 ∨ i = 1 ∨ i = 2 ∨ i = 3 ∨ i = 4 ∨ i = 5 ∨ i = 6 ∨ i = 7 ∨ i = 8 ∨ i = 9 := by omega
      clear hlt
      rcases hc with rfl | rfl | rfl | rfl | rfl | rfl | rfl | rfl | rfl | rfl
      ·obtain rfl := Option.some.inj hi
       have s0 : A.tmps.getD 0 undef = .slice (some ⟨b1, o1, none⟩) L c1 := hold 0 (by kernel_rfl)
       exact r_pure hi rfl rfl (y_move _ s0)
      ·obtain rfl := Option.some.inj hi
       have s5 : A.tmps.getD 5 undef = .int .i64 (k : Int) := hold 5 (by kernel_rfl)
       exact r_pure hi rfl rfl (y_move _ s5)
      ·obtain rfl := Option.some.inj hi
       have s17 : A.tmps.getD 17 undef = .slice (some ⟨b1, o1, none⟩) L c1 := dep_of hdeps 0 (by kernel_rfl)
       have s18 : A.tmps.getD 18 undef = .int .i64 (k : Int) := dep_of hdeps 1 (by kernel_rfl)
       exact r_pure hi rfl rfl (y_idxR _ _ s17 s18 hkl)
      ·obtain rfl := Option.some.inj hi
       have s19 : A.tmps.getD 19 undef = .pointer (some ⟨b1, o1 + k * 31, none⟩) := dep_of hdeps 2 (by kernel_rfl)
       exact r_pure hi rfl rfl (y_loadMid _ _ s19 (range_below12 HR1.out hbl hB) Tryz.underlying89 rfl infoRRec)
      ·obtain rfl := Option.some.inj hi
       have s1 : A.tmps.getD 1 undef = .slice (some ⟨b2, o2, none⟩) L c2 := hold 1 (by kernel_rfl)
       exact r_pure hi rfl rfl (y_move _ s1)
      ·obtain rfl := Option.some.inj hi
       have s5 : A.tmps.getD 5 undef = .int .i64 (k : Int) := hold 5 (by kernel_rfl)
       exact r_pure hi rfl rfl (y_move _ s5)
      ·obtain rfl := Option.some.inj hi
       have s21 : A.tmps.getD 21 undef = .slice (some ⟨b2, o2, none⟩) L c2 := dep_of hdeps 4 (by kernel_rfl)
       have s22 : A.tmps.getD 22 undef = .int .i64 (k : Int) := dep_of hdeps 5 (by kernel_rfl)
       exact r_pure hi rfl rfl (y_idxR _ _ s21 s22 hkl)
      ·obtain rfl := Option.some.inj hi
       have s23 : A.tmps.getD 23 undef = .pointer (some ⟨b2, o2 + k * 31, none⟩) := dep_of hdeps 6 (by kernel_rfl)
       exact r_pure hi rfl rfl (y_loadMid _ _ s23 (range_below12 HR2.out hbl2 hB) Tryz.underlying89 rfl infoRRec)
      ·obtain rfl := Option.some.inj hi
       have s20 : A.tmps.getD 20 undef = .agg (recA x (.slice xa xl xc) (.slice xb xn xd)) := dep_of hdeps 3 (by kernel_rfl)
       have s24 : A.tmps.getD 24 undef = .agg (recA y (.slice ya yl yc) (.slice yb yn yd)) := dep_of hdeps 7 (by kernel_rfl)
       exact r_enter hi rfl rfl (y_call 58 _ #[.agg (recA x (.slice xa xl xc) (.slice xb xn xd)), .agg (recA y (.slice ya yl yc) (.slice yb yn yd))] _ rfl (by simp only [List.map_toArray, List.map_cons, List.map_nil, show A.eval (.tmp 20) = .agg (recA x (.slice xa xl xc) (.slice xb xn xd)) from s20, show A.eval (.tmp 24) = .agg (recA y (.slice ya yl yc) (.slice yb yn yd)) from s24]; try rfl) en12_rsame) (CS.out w1 hB)
      ·obtain rfl := Option.some.inj hi
       have s25 : A.tmps.getD 25 undef = .bool true := dep_of hdeps 8 (by kernel_rfl)
       exact r_pure (v := .bool false) hi rfl rfl (y_not (a := true) _ _ s25)
     ·intro w8 hB8
      simp only [putAll, Act.put, List.setIfInBounds_toArray, List.set_cons_succ, List.set_cons_zero]
      have HB8 := hide hB8
      clear hB8
      go_wp2_with fail
      go_roundg g
      case measure => omega
      case rel => exact ⟨k + 1, by omega, by first | rfl | go_num, hide (HBW.out.trans (HB8.out.mono HBW.out.size)), HT2⟩
    ·have CS := hide CS0
     rw [decide_eq_false hxy] at CS
     have HF : Hid (R = false) := hide (by rw [HR.out]; exact decide_eq_false (fun e => hxy (HTK.out.2.2 e)))
     clear CS0
     go_wp2_with fail
     refine wp_region_vals (by kernel_rfl) [(17, .slice (some ⟨b1, o1, none⟩) L c1), (18, .int .i64 (k : Int)), (19, .pointer (some ⟨b1, o1 + k * 31, none⟩)), (20, .agg (recA x (.slice xa xl xc) (.slice xb xn xd))), (21, .slice (some ⟨b2, o2, none⟩) L c2), (22, .int .i64 (k : Int)), (23, .pointer (some ⟨b2, o2 + k * 31, none⟩)), (24, .agg (recA y (.slice ya yl yc) (.slice yb yn yd))), (25, .bool false), (26, .bool true)] (by kernel_rfl) rfl ?_ ?_
     ·intro i o hi A w1 hB hold hdeps
      have hlt : i < 10 := (Array.getElem?_eq_some_iff.1 hi).1
      have hc : i = 0 ∨ i = 1 ∨ i = 2 ∨ i = 3 ∨ i = 4 ∨ i = 5 ∨ i = 6 ∨ i = 7 ∨ i = 8 ∨ i = 9 := by omega
      clear hlt
      rcases hc with rfl | rfl | rfl | rfl | rfl | rfl | rfl | rfl | rfl | rfl
      ·obtain rfl := Option.some.inj hi
       have s0 : A.tmps.getD 0 undef = .slice (some ⟨b1, o1, none⟩) L c1 := hold 0 (by kernel_rfl)
       exact r_pure hi rfl rfl (y_move _ s0)
      ·obtain rfl := Option.some.inj hi
       have s5 : A.tmps.getD 5 undef = .int .i64 (k : Int) := hold 5 (by kernel_rfl)
       exact r_pure hi rfl rfl (y_move _ s5)
      ·obtain rfl := Option.some.inj hi
       have s17 : A.tmps.getD 17 undef = .slice (some ⟨b1, o1, none⟩) L c1 := dep_of hdeps 0 (by kernel_rfl)
       have s18 : A.tmps.getD 18 undef = .int .i64 (k : Int) := dep_of hdeps 1 (by kernel_rfl)
       exact r_pure hi rfl rfl (y_idxR _ _ s17 s18 hkl)
      ·obtain rfl := Option.some.inj hi
       have s19 : A.tmps.getD 19 undef = .pointer (some ⟨b1, o1 + k * 31, none⟩) := dep_of hdeps 2 (by kernel_rfl)
       exact r_pure hi rfl rfl (y_loadMid _ _ s19 (range_below12 HR1.out hbl hB) Tryz.underlying89 rfl infoRRec)
      ·obtain rfl := Option.some.inj hi
       have s1 : A.tmps.getD 1 undef = .slice (some ⟨b2, o2, none⟩) L c2 := hold 1 (by kernel_rfl)
       exact r_pure hi rfl rfl (y_move _ s1)
      ·obtain rfl := Option.some.inj hi
       have s5 : A.tmps.getD 5 undef = .int .i64 (k : Int) := hold 5 (by kernel_rfl)
       exact r_pure hi rfl rfl (y_move _ s5)
      ·obtain rfl := Option.some.inj hi
       have s21 : A.tmps.getD 21 undef = .slice (some ⟨b2, o2, none⟩) L c2 := dep_of hdeps 4 (by kernel_rfl)
       have s22 : A.tmps.getD 22 undef = .int .i64 (k : Int) := dep_of hdeps 5 (by kernel_rfl)
       exact r_pure hi rfl rfl (y_idxR _ _ s21 s22 hkl)
      ·obtain rfl := Option.some.inj hi
       have s23 : A.tmps.getD 23 undef = .pointer (some ⟨b2, o2 + k * 31, none⟩) := dep_of hdeps 6 (by kernel_rfl)
       exact r_pure hi rfl rfl (y_loadMid _ _ s23 (range_below12 HR2.out hbl2 hB) Tryz.underlying89 rfl infoRRec)
      ·obtain rfl := Option.some.inj hi
       have s20 : A.tmps.getD 20 undef = .agg (recA x (.slice xa xl xc) (.slice xb xn xd)) := dep_of hdeps 3 (by kernel_rfl)
       have s24 : A.tmps.getD 24 undef = .agg (recA y (.slice ya yl yc) (.slice yb yn yd)) := dep_of hdeps 7 (by kernel_rfl)
       exact r_enter hi rfl rfl (y_call 58 _ #[.agg (recA x (.slice xa xl xc) (.slice xb xn xd)), .agg (recA y (.slice ya yl yc) (.slice yb yn yd))] _ rfl (by simp only [List.map_toArray, List.map_cons, List.map_nil, show A.eval (.tmp 20) = .agg (recA x (.slice xa xl xc) (.slice xb xn xd)) from s20, show A.eval (.tmp 24) = .agg (recA y (.slice ya yl yc) (.slice yb yn yd)) from s24]; try rfl) en12_rsame) (CS.out w1 hB)
      ·obtain rfl := Option.some.inj hi
       have s25 : A.tmps.getD 25 undef = .bool false := dep_of hdeps 8 (by kernel_rfl)
       exact r_pure (v := .bool true) hi rfl rfl (y_not (a := false) _ _ s25)
     ·intro w8 hB8
      simp only [putAll, Act.put, List.setIfInBounds_toArray, List.set_cons_succ, List.set_cons_zero]
      have HB8 := hide hB8
      clear hB8
      go_wp2_with fail
      go_ret
      exact ⟨by rw [HF.out]; rfl, HBW.out.trans (HB8.out.mono HBW.out.size)⟩
 ·have HF : Hid (R = false) := hide (by
   rw [HR.out]
   exact decide_eq_false (fun e => hlm (by rw [HL.out, HM.out]; have := congrArg List.length e; simpa [rows] using this)))
  have hne : ((L : Int) != (M : Int)) = true := by simp; omega
  go_enter Tryz.func26, Tryz.ntmps26
  go_wp2
  go_ret
  exact ⟨by rw [HF.out]; rfl, Below.refl _ _⟩
end
section
open Go
def putS (n : Nat) : Nat → List Int
 | 0 => []
 | k + 1 => ((n / 256 ^ k % 256 : Nat) : Int) :: putS n k
theorem putS_len (n : Nat) : ∀ k, (putS n k).length = k
 | 0 => rfl
 | k + 1 => by simp [putS, putS_len n k]
theorem putS_bytes (n : Nat) : ∀ k, ∀ c ∈ putS n k, 0 ≤ c ∧ c < 256
 | 0, c, hc => by simp [putS] at hc
 | k + 1, c, hc => by
  rcases List.mem_cons.1 hc with rfl | h
  ·have := Nat.mod_lt (n / 256 ^ k) (show 0 < 256 by decide)
   omega
  ·exact putS_bytes n k c h
def valB (xs : List Int) : Nat := xs.foldl (fun a c => a * 256 + c.toNat) 0
theorem valB_snoc (xs : List Int) (c : Int) : valB (xs ++ [c]) = valB xs * 256 + c.toNat := by simp [valB, List.foldl_append]
theorem valB_lt (xs : List Int) (h : ∀ c ∈ xs, 0 ≤ c ∧ c < 256) : ∀ k, k ≤ xs.length → valB (xs.take k) < 256 ^ k
 | 0, _ => by simp [valB]
 | k + 1, hk => by
  have ih := valB_lt xs h k (by omega)
  rw [take_snoc xs k (by omega), valB_snoc, Nat.pow_succ]
  have := h (xs.getD k 0) (by simp [List.getD, show k < xs.length by omega])
  omega
theorem foldl_from (ys : List Int) : ∀ a : Nat, ys.foldl (fun a c => a * 256 + c.toNat) a = a * 256 ^ ys.length + valB ys := by
 induction ys with
 | nil => intro a; simp [valB]
 | cons y ys ih =>
  intro a
  have e : valB (y :: ys) = y.toNat * 256 ^ ys.length + valB ys := by
   show (ys.foldl (fun a c => a * 256 + c.toNat) (0 * 256 + y.toNat)) = _
   rw [ih]; simp
  rw [List.foldl_cons, ih, e, List.length_cons, Nat.pow_succ, Nat.add_mul, Nat.mul_assoc, Nat.mul_comm 256]
  omega
theorem valB_putS (n : Nat) : ∀ k, valB (putS n k) = n % 256 ^ k
 | 0 => by simp [putS, valB, Nat.mod_one]
 | k + 1 => by
  have ih := valB_putS n k
  show (putS n k).foldl (fun a c => a * 256 + c.toNat) (0 * 256 + (((n / 256 ^ k % 256 : Nat) : Int)).toNat) = _
  rw [foldl_from, putS_len, ih, Nat.pow_succ, Nat.mod_mul, Int.toNat_natCast]
  rw [Nat.mul_comm (256 ^ k), Nat.zero_mul, Nat.zero_add]
  omega
theorem pow8 (k : Nat) : (2 : Nat) ^ (8 * k) = 256 ^ k := by rw [Nat.pow_mul]
theorem byte_of (n k : Nat) : (n : Int) / 2 ^ (8 * k) % 256 = ((n / 256 ^ k % 256 : Nat) : Int) := by
 have : ((2 : Int) ^ (8 * k)) = ((256 ^ k : Nat) : Int) := by rw [← pow8]; simp
 rw [this]; omega
theorem get_step (a : Nat) (c : Int) (ha : a * 256 < 18446744073709551616) (h0 : 0 ≤ c) (h1 : c < 256) :
  bits BinOp.or IntKind.u64 ((a : Int) * 256) c = ((a * 256 + c.toNat : Nat) : Int) := by
 have e1 : (a : Int) * 256 = ((a * 256 : Nat) : Int) := by omega
 have e2 : c = ((c.toNat : Nat) : Int) := by omega
 rw [e1, e2, u64_or_nat _ _ ha (by omega), nat_join 8 _ _ (by omega) (by omega)]
 simp
def clamp8 (size : Int) : Nat := (max 0 (min size 8)).toNat
def getS (xs : List Int) (size : Int) : Int × Int :=
 if size < 1 ∨ 8 < size then (0, 3) else if (xs.length : Int) < size then (0, 4) else (((valB (xs.take size.toNat) : Nat) : Int), 0)
end
section
open Go
def poly : Nat := 0x82F63B78
def bitN (c : Nat) : Nat := if c % 2 = 1 then (c / 2) ^^^ poly else c / 2
def iterN (f : Nat → Nat) : Nat → Nat → Nat
 | 0, c => c
 | k + 1, c => iterN f k (f c)
def eightN (c : Nat) : Nat := iterN bitN 8 c
def innerN (c : Nat) (bs : List Nat) : Nat := bs.foldl (fun c b => eightN (c ^^^ b)) c
def notN (c : Nat) : Nat := c ^^^ 4294967295
def moreN (s : Nat) (bs : List Nat) : Nat := notN (innerN (notN s) bs)
theorem xor_lt32 {a b : Nat} (ha : a < 4294967296) (hb : b < 4294967296) : a ^^^ b < 4294967296 := Nat.xor_lt_two_pow (n := 32) ha hb
theorem bit_lt {c : Nat} (h : c < 4294967296) : bitN c < 4294967296 := by
 unfold bitN; split
 ·exact xor_lt32 (by omega) (by decide)
 ·omega
theorem iter_lt (f : Nat → Nat) (h : ∀ c, c < 4294967296 → f c < 4294967296) : ∀ k c, c < 4294967296 → iterN f k c < 4294967296
 | 0, _, hc => hc
 | k + 1, c, hc => iter_lt f h k (f c) (h c hc)
theorem eight_lt {c : Nat} (h : c < 4294967296) : eightN c < 4294967296 := iter_lt _ (fun _ => bit_lt) 8 c h
theorem not_lt {c : Nat} (h : c < 4294967296) : notN c < 4294967296 := xor_lt32 h (by decide)
theorem not_not (c : Nat) : notN (notN c) = c := by unfold notN; rw [Nat.xor_assoc, Nat.xor_self, Nat.xor_zero]
theorem inner_lt : ∀ (bs : List Nat) {c : Nat}, c < 4294967296 → (∀ b ∈ bs, b < 256) → innerN c bs < 4294967296
 | [], _, hc, _ => hc
 | b :: bs, c, hc, hb => by
  simp only [innerN, List.foldl_cons]
  exact inner_lt bs (eight_lt (xor_lt32 hc (Nat.lt_trans (hb b (by simp)) (by decide)))) (fun x hx => hb x (by simp [hx]))
theorem more_lt {s : Nat} {bs : List Nat} (hs : s < 4294967296) (hb : ∀ b ∈ bs, b < 256) : moreN s bs < 4294967296 := not_lt (inner_lt bs (not_lt hs) hb)
theorem inner_append (c : Nat) (az bs : List Nat) : innerN c (az ++ bs) = innerN (innerN c az) bs := by simp [innerN, List.foldl_append]
theorem more_append (s : Nat) (az bs : List Nat) : moreN s (az ++ bs) = moreN (moreN s az) bs := by
 unfold moreN; rw [inner_append, not_not]
def pick : List Nat → Nat → Nat
 | [], _ => 0
 | m :: ms, v => (if v % 2 = 1 then m else 0) ^^^ pick ms (v / 2)
end
section
open Go.RowKit
theorem xor32 (a b : Nat) (ha : a < 4294967296) (hb : b < 4294967296) : bits .xor .u32 (a : Int) (b : Int) = ((a ^^^ b : Nat) : Int) := u32_xor_nat a b ha hb
theorem poly_lt : poly < 4294967296 := by decide
theorem xorP (a : Nat) (ha : a < 4294967296) : bits .xor .u32 (a : Int) 2197175160 = ((a ^^^ poly : Nat) : Int) := xor32 a poly ha poly_lt
theorem and1 (a : Nat) (ha : a < 4294967296) : bits .and .u32 (a : Int) 1 = ((a % 2 : Nat) : Int) := by
 rw [show (1 : Int) = ((1 : Nat) : Int) from rfl, u32_and_nat a 1 ha (by decide), Nat.and_one_is_mod]
theorem pass_any (c : Nat) (hc : c < 4294967296) (w : World) :
  Calls Tryz.prog 264 #[.int .u32 c] w fun e w' => e = .returned (.int .u32 (eightN c : Nat)) ∧ w' = w := by
 go_enter Tryz.func264, Tryz.ntmps264
 go_wp2
 go_loop [0, 4] (fun x i => ∃ k m : Nat, k ≤ 8 ∧ i = .int .i64 k ∧ x = .int .u32 m ∧ m < 4294967296 ∧ Hid (iterN bitN (8 - k) m = eightN c)) (fun _ i => 8 - (intOf i).toNat)
 case atStart => exact ⟨0, c, by omega, rfl, rfl, hc, hide rfl⟩
 case round =>
  obtain ⟨k, m, hk, rfl, rfl, hm, HK⟩ := hrel
  by_cases hlt : k < 8
  ·have HN : Hid (iterN bitN (8 - (k + 1)) (bitN m) = eightN c) := hide (by rw [← HK.out, show 8 - k = (8 - (k + 1)) + 1 by omega]; rfl)
   have hb := bit_lt hm
   have ha := and1 m hm
   by_cases h : m % 2 = 1
   ·have H : Hid (bitN m = (m / 2) ^^^ poly) := hide (by unfold bitN; rw [if_pos h])
    go_wp2
    go_round
    case rel => exact ⟨k + 1, bitN m, by omega, by go_num, by rw [H.out, ← xorP _ (by omega)]; rfl, hb, HN⟩
    case measure => simp [intOf]; omega
   ·have H : Hid (bitN m = m / 2) := hide (by unfold bitN; rw [if_neg h])
    go_wp2
    go_round
    case rel => exact ⟨k + 1, bitN m, by omega, by go_num, by rw [H.out]; rfl, hb, HN⟩
    case measure => simp [intOf]; omega
  ·obtain rfl : k = 8 := by omega
   have HN : Hid (m = eightN c) := hide (by rw [← HK.out]; rfl)
   go_wp2
   go_ret
   exact ⟨ret_int (by rw [HN.out]), rfl⟩
end
section
open Go.RowKit
def nats (xs : List Int) : List Nat := xs.map Int.toNat
def moreI (s : Nat) (xs : List Int) : Nat := moreN s (nats xs)
theorem nats_lt {xs : List Int} (h : ∀ c ∈ xs, 0 ≤ c ∧ c < 256) : ∀ b ∈ nats xs, b < 256 := by
 intro b hb
 unfold nats at hb
 rw [List.mem_map] at hb
 obtain ⟨c, hc, rfl⟩ := hb
 have := h c hc
 omega
theorem moreI_lt {s : Nat} {xs : List Int} (hs : s < 4294967296) (h : ∀ c ∈ xs, 0 ≤ c ∧ c < 256) : moreI s xs < 4294967296 := more_lt hs (nats_lt h)
theorem moreI_append (s : Nat) (xs ys : List Int) : moreI s (xs ++ ys) = moreI (moreI s xs) ys := by
 unfold moreI nats
 rw [List.map_append, more_append]
theorem drop_consC (xs : List Int) (k : Nat) (h : k < xs.length) : xs.drop k = xs.getD k 0 :: xs.drop (k + 1) := by
 rw [List.drop_eq_getElem_cons h]
 simp [List.getD, h]
theorem inner_drop (xs : List Int) (k c : Nat) (h : k < xs.length) : innerN c (nats (xs.drop k)) = innerN (eightN (c ^^^ (xs.getD k 0).toNat)) (nats (xs.drop (k + 1))) := by
 rw [drop_consC xs k h]; rfl
theorem not32 (a : Nat) (ha : a < 4294967296) : bits .xor .u32 IntKind.u32.max (a : Int) = ((notN a : Nat) : Int) := by
 have := xor32 4294967295 a (by decide) ha
 unfold notN
 rw [Nat.xor_comm a]
 exact this
theorem xor_byte (c : Nat) (b : Int) (hc : c < 4294967296) (h : 0 ≤ b ∧ b < 256) : bits .xor .u32 (c : Int) b = ((c ^^^ b.toNat : Nat) : Int) := by
 obtain ⟨n, rfl⟩ := Int.eq_ofNat_of_zero_le h.1
 exact xor32 c n hc (by omega)
theorem getD_byte {xs : List Int} (hx : ∀ c ∈ xs, 0 ≤ c ∧ c < 256) (k : Nat) : 0 ≤ xs.getD k 0 ∧ xs.getD k 0 < 256 := by
 by_cases h : k < xs.length
 ·exact hx _ (by simp [List.getD, h])
 ·simp [List.getD, List.getElem?_eq_none (Nat.le_of_not_lt h)]
set_option maxHeartbeats 400000 in
theorem more_any (s : Nat) (v : Value) (xs : List Int) (w : World) (hs : s < 4294967296) (h : Lies .u8 w v xs) (hx : ∀ c ∈ xs, 0 ≤ c ∧ c < 256) :
  Calls Tryz.prog 255 #[.int .u32 s, v] w fun e w' => e = .returned (.int .u32 (moreI s xs : Nat)) ∧ w' = w := by
 have hlen := h.len
 have hnot := not32 s hs
 have hn := not_lt hs
 have HX := hide hx
 clear hx
 unfold maxLen at hlen
 rcases h with ⟨rfl, ao, cap, rfl, _⟩ | ⟨_, b, off, cap, rfl, _, _, _, hc⟩
 ·have HM : Hid (moreI s [] = s) := hide (by unfold moreI moreN nats innerN; simp [not_not])
  have hnn := not32 (notN s) hn
  rw [not_not] at hnn
  go_enter Tryz.func255, Tryz.ntmps255
  go_wp2
  go_rounds 1
  go_ret
  exact ⟨ret_int (by rw [HM.out]), rfl⟩
 ·have H0 : Hid (notN (innerN (notN s) (nats (xs.drop 0))) = moreI s xs) := hide rfl
  generalize notN s = s' at *
  go_enter Tryz.func255, Tryz.ntmps255
  go_wp2
  go_loop [5, 12] (fun x i => ∃ k m : Nat, k ≤ xs.length ∧ i = .int .i64 k ∧ x = .int .u32 m ∧ m < 4294967296 ∧ Hid (notN (innerN m (nats (xs.drop k))) = moreI s xs)) (fun _ i => xs.length - (intOf i).toNat)
  case atStart => exact ⟨0, s', Nat.zero_le _, rfl, rfl, hn, H0⟩
  case round =>
   obtain ⟨k, m, hk, rfl, rfl, hm, HK⟩ := hrel
   by_cases hlt : k < xs.length
   ·have hcell := hc k hlt
    have HE : Hid (notN (innerN (eightN (m ^^^ (xs.getD k 0).toNat)) (nats (xs.drop (k + 1)))) = moreI s xs) := hide (by rw [← HK.out, inner_drop xs k m hlt])
    have hb := getD_byte HX.out k
    have hxor := xor_byte m _ hm hb
    have hq : m ^^^ (xs.getD k 0).toNat < 4294967296 := xor_lt32 hm (by omega)
    generalize xs.getD k 0 = c at *
    generalize m ^^^ c.toNat = q at *
    have he := eight_lt hq
    clear hc
    go_wp2_with (go_at_call 264; refine (pass_any q hq _).mono ?_; rintro e w1 ⟨rfl, h1⟩; rw [h1]; clear h1)
    go_round
    case rel => exact ⟨k + 1, eightN q, by omega, by go_num, rfl, he, HE⟩
    case measure => simp [intOf]; omega
   ·have HE : Hid (notN m = moreI s xs) := hide (by rw [← HK.out, List.drop_of_length_le (by omega)]; rfl)
    have hnn := not32 m hm
    clear hc
    go_wp2
    go_ret
    exact ⟨ret_int (by rw [HE.out]), rfl⟩
end
end Go.Proofs.YtlegliimgjmphaaGreat
