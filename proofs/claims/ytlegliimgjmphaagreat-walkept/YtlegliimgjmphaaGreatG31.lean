/-
  Own texts put together: RpLit5. Own work.
-/
import Derived.Test.YtlegliimgjmphaaGreatG30
import Derived.Deep.DeepAppendWide
namespace Go.Proofs.YtlegliimgjmphaaGreat
section
open Go.RowKit Classical
theorem infoU64w : (Tryz.prog.info? 77).map (fun i => (i.zero, i.size, i.bytes)) = some (some (.int .u64 0), 1, 8) := by kernel_rfl
theorem infoU64s : (Tryz.prog.info? 79).map (·.size) = some 1 := by kernel_rfl
theorem keep_grown {w w' : World} {x : Option Nat} (h : w.grownBy w' x) : KeepBut (fun k => x = some k) w w' :=
 ⟨h.os, h.tape, h.output, h.size, fun k hk hS => h.block k hk (fun e => hS e.symm)⟩
theorem list_more {l : List Value} {n : Nat} (h : l.length = n + 1) : ∃ x l', l = x :: l' ∧ l'.length = n := by
 cases l with
 | nil => cases h
 | cons x l' => exact ⟨x, l', rfl, by simpa using h⟩
theorem t_wp {P : Program} {ops : Array Oper} {Q : Exit → Act → World → Prop} {i : Nat} {o : Oper} {a : Act} {w : World} {K : Act → World → Prop} (hi : ops[i]? = some o) (hw : Region.wanted o (yielded ops a.tmps) = true) (h : o.wp P a w K Q) : wpOp P ops Q i K a w := by
 unfold wpOp
 simp only [hi, hw, if_true]
 exact .inl h
section
variable {ρ : Operand → Value} {w : World} {dst : Option Tmp} {ty : TypeId} {pos : String} {aft : Array Edge} {gd : Option (Nat × Bool)}
theorem y_build11 (x : Operand) (s : Int) (hx : ρ x = .int .u64 s) : (execOp ρ ⟨dst, .buildSlice 79 1 #[(0, x)], ty, pos, aft, gd⟩).run Tryz.prog w = .ok (.value (.slice (some ⟨w.heap.size, 0, none⟩) 1 1)) (w.alloc (.cells #[.int .u64 s] 77)) := by simp [go_sem, hx]
end
theorem en_getSet : ∀ args w, (callFunc 127 args).run Tryz.prog w = .ok (.enter 127 args) w := enters_of Tryz.func127 (by kernel_rfl) rfl
def OwnU (B : Nat) (W : World) (v : Value) (ms : List Nat) : Prop := W.ownsRow B 77 1 v ms.length ((misI ms).map (Value.int .u64))
def IM4 (wr : World) (B pr q : Nat) (u : Value) (ms : List Nat) (x : Nat) (i : Nat) (v : Value) (W : World) : Prop := match i with
 | 0 => v = .pointer (some ⟨q, 0, none⟩)
 | 1 => v = .pointer (some ⟨q, 0, none⟩)
 | 2 => v = .pointer (some ⟨q, 0, none⟩)
 | 3 => v = .pointer (some ⟨q, 9, none⟩)
 | 4 => v = u
 | 5 => v = .pointer (some ⟨pr, 0, none⟩)
 | 6 => v = .int .u64 (x : Int)
 | 7 => ∃ c, v = .slice (some ⟨c, 0, none⟩) 1 1 ∧ Box W c #[.int .u64 (x : Int)] 77 ∧ wr.heap.size ≤ c
 | 8 => OwnU B W v (ms ++ [x])
 | 9 => v = .pointer (some ⟨q, 0, none⟩)
 | 10 => v = .pointer (some ⟨q, 9, none⟩)
 | _ => True
def RM4 (pr q : Nat) (u : Value) (i : Nat) (W W' : World) : Prop := match i with
 | 6 => KeepBut (fun k => k = pr) W W'
 | 7 => Below W.heap.size W W'
 | 8 => KeepBut (fun k => u.ownBlock = some k) W W'
 | 11 => KeepBut (fun k => k = q) W W'
 | _ => W' = W
def FinM4 (wr : World) (B pr q : Nat) (vb : Value) (all : List Int) (r' : RS) (m : RecP) (p u : Value) (ms : List Nat) (x : Nat) (W : World) : Prop :=
 ∃ u', Box W q (recA { m with mis := ms ++ [x] } p u') 87 ∧ OwnU B W u' (ms ++ [x]) ∧ CR W pr vb all r' ∧ KeepBut (fun k => k = pr ∨ k = q ∨ u.ownBlock = some k) wr W
def SM4 (wr : World) (B pr q : Nat) (vb : Value) (all : List Int) (r' : RS) (m : RecP) (p u : Value) (ms : List Nat) (x : Nat) (listed : Array Bool) (W : World) : Prop :=
 (listed.getD 11 true = false → KeepBut (fun k => k = pr ∨ u.ownBlock = some k) wr W ∧ (listed.getD 6 true = false → W = wr.drew) ∧ (listed.getD 6 true = true → CR W pr vb all r') ∧ (listed.getD 8 true = false → KeepBut (fun k => k = pr) wr W)) ∧ (listed.getD 11 true = true → FinM4 wr B pr q vb all r' m p u ms x W)
theorem SM4.next {wr W : World} {B pr q : Nat} {vb : Value} {all : List Int} {r' : RS} {m : RecP} {p u : Value} {ms : List Nat} {x : Nat} {listed : Array Bool} {i : Nat} (h : SM4 wr B pr q vb all r' m p u ms x listed W) (h6 : i ≠ 6) (h8 : i ≠ 8) (h11 : i ≠ 11) : SM4 wr B pr q vb all r' m p u ms x (listed.setIfInBounds i true) W := by
 unfold SM4 at *
 rw [listed_ne h6, listed_ne h8, listed_ne h11]
 exact h
set_option maxRecDepth 100000 in
set_option maxHeartbeats 1600000 in
theorem mm4_any (pr b1 q : Nat) (vb : Value) (all : List Int) (r : RS) (m : RecP) (ao : Option Addr) (c : Nat) (w : World) (h1 : Box w b1 #[.pointer (some ⟨q, 0, none⟩)] 133) (hm0 : m.mis = []) (h2 : Box w q (recA m (.slice ao m.wr.length c) (.slice none 0 0)) 87) (hcr : CR w pr vb all r) (hb1 : b1 ≠ pr) (hb1q : b1 ≠ q) (hq : q ≠ pr) (hvq : vb.ownBlock ≠ some q) (hwl : m.wr.length ≤ 1000) :
  Calls Tryz.prog 199 #[.pointer (some ⟨pr, 0, none⟩), .pointer (some ⟨b1, 0, none⟩)] w fun e w' => e = .returned (.tuple #[]) ∧
   ∃ u', Box w' q (recA { m with mis := (repDec (numC 255) m.wr.length r).1 } (.slice ao m.wr.length c) u') 87 ∧ OwnU w.heap.size w' u' (repDec (numC 255) m.wr.length r).1 ∧ CR w' pr vb all (repDec (numC 255) m.wr.length r).2 ∧ KeepBut (fun k => k = pr ∨ k = q) w w' := by
 obtain ⟨p, hp⟩ : ∃ p, p = Value.slice ao m.wr.length c := ⟨_, rfl⟩
 have x1 := h1.cell 0 _ rfl
 have x2 := h2.cell 8 _ rfl
 have hl1 := h1.lt
 have hl2 := h2.lt
 have hlp := hcr.box.lt
 have HVL : Hid (∀ g, vb.ownBlock = some g → g < w.heap.size) := hide (fun g hg => owns_lt hcr.own hg)
 rw [← hp] at h2 ⊢
 have H1 := hide h1
 have H2 := hide h2
 have HC := hide hcr
 have HVQ := hide hvq
 have HM0 := hide hm0
 have HP := hide hp
 obtain ⟨L, hL⟩ : ∃ L, L = m.wr.length := ⟨_, rfl⟩
 rw [← hL] at x2 hwl ⊢
 obtain ⟨B, hB⟩ : ∃ B, B = w.heap.size := ⟨_, rfl⟩
 rw [← hB] at hl1 hl2 hlp HVL ⊢
 have HBB := hide hB
 clear h1 h2 hcr hvq hm0 hp hL hB
 go_enter Tryz.func199, Tryz.ntmps199
 go_wp2_with fail
 clear x1 x2
 go_loopg [8] L (fun g i wr => ∃ (j : Nat) (u : Value) (ms : List Nat) (rj : RS), j + g = L ∧ i = .int .i64 j ∧ Hid (ms = (repDec (numC 255) j r).1 ∧ rj = (repDec (numC 255) j r).2) ∧ Hid (Box wr q (recA { m with mis := ms } p u) 87) ∧ Hid (OwnU B wr u ms) ∧ Hid (CR wr pr vb all rj) ∧ Hid (KeepBut (fun k => k = pr ∨ k = q) w wr))
 case atStart =>
  refine ⟨0, .slice none 0 0, [], r, by omega, rfl, hide ⟨rfl, rfl⟩, hide ?_, hide (World.ownsRow_nil _ _ _ _), HC, hide (KeepBut.refl _ _)⟩
  have e : ({ m with mis := [] } : RecP) = m := by
   have := HM0.out
   cases m
   simp only at this
   subst this
   rfl
  rw [e]
  exact H2.out
 case round =>
  obtain ⟨j, u, ms, rj, hj, rfl, HMS, HBX, HO, HCR, HK⟩ := hrel
  cases gk with
  | zero =>
   obtain rfl : j = L := by omega
   have hz : ¬ ((j : Int) < (j : Int)) := by omega
   go_wp2_with fail
   go_end0
   refine ⟨rfl, u, ?_, ?_, ?_, HK.out⟩
   ·rw [← HMS.out.1]; exact HBX.out
   ·rw [← HMS.out.1]; exact HO.out
   ·rw [← HMS.out.2]; exact HCR.out
  | succ g =>
   have hz : (j : Int) < (L : Int) := by omega
   have HLN : Hid (ms.length = j) := hide (by rw [HMS.out.1]; exact rep_len _ _ _)
   have hsz := HK.out.size
   have HUB : Hid (∀ g, u.ownBlock = some g → B ≤ g ∧ g < wr.heap.size) := hide (fun g hg => HO.out.lt g hg)
   have HB1 : Hid (Box wr b1 #[.pointer (some ⟨q, 0, none⟩)] 133) := hide (H1.out.keep HK.out (fun e => by rcases e with e | e <;> first | exact hb1 e | exact hb1q e))
   obtain ⟨x, hx⟩ : ∃ x, x = ((numC 255).dec rj).1 := ⟨_, rfl⟩
   obtain ⟨r', hr'⟩ : ∃ r', r' = ((numC 255).dec rj).2 := ⟨_, rfl⟩
   have HMS2 : Hid (ms ++ [x] = (repDec (numC 255) (j + 1) r).1 ∧ r' = (repDec (numC 255) (j + 1) r).2) := hide (by
    rw [rep_snoc, ← HMS.out.1, ← HMS.out.2, hx, hr']
    exact ⟨rfl, rfl⟩)
   have hwB : B ≤ wr.heap.size := by rw [HBB.out]; exact hsz
   have HSR : Hid (∀ W, CR W pr vb all rj → Calls Tryz.prog 127 #[.pointer (some ⟨pr, 0, none⟩)] W fun e w' => e = .returned (.int .u64 (x : Int)) ∧ CR w' pr vb all r' ∧ KeepBut (fun k => k = pr) W w') := hide (fun W h => by rw [hx, hr']; exact getSet_any pr vb all rj W h)
   clear hx hr' hsz
   have HWB := hide hwB
   have HJ : Hid (j + 1 ≤ 1000) := hide (by omega)
   clear hwB
   go_wp2_with fail
   refine wp_region_each3 (by kernel_rfl) (IM4 wr B pr q u ms x) (SM4 wr B pr q vb all r' { m with mis := ms } p u ms x) (RM4 pr q u) (by kernel_rfl) ?_ ⟨fun _ => ⟨(KeepBut.refl _ _).drew, fun _ => rfl, fun h => (by cases h), fun _ => (KeepBut.refl _ _).drew⟩, fun h => by cases h⟩ ?_ ?_
   ·intro i k v W W' hik hv hR
    by_cases h6 : i = 6
    ·subst h6
     have hk : KeepBut (fun k => k = pr) W W' := hR
     by_cases k7 : k = 7
     ·subst k7
      obtain ⟨c, e, hb, hc⟩ := hv
      exact ⟨c, e, hb.keep hk (fun e => by have := HWB.out; omega), hc⟩
     by_cases k8 : k = 8
     ·subst k8
      have hv : OwnU B W v (ms ++ [x]) := hv
      exact owns_keep hv hk (fun g hg e => by have := (hv.lt g hg).1; omega)
     revert hv
     unfold IM4
     split <;> first | exact fun h => h | exact absurd rfl k7 | exact absurd rfl k8
    by_cases h7 : i = 7
    ·subst h7
     have hk : KeepBut (fun _ => False) W W' := KeepBut.of_below _ (show Below W.heap.size W W' from hR)
     by_cases k8 : k = 8
     ·subst k8
      have hv : OwnU B W v (ms ++ [x]) := hv
      exact owns_keep hv hk (fun g hg e => e)
     revert hv
     unfold IM4
     split <;> first | exact fun h => h | exact absurd rfl hik | exact absurd rfl k8
    by_cases h8 : i = 8
    ·subst h8
     have hk : KeepBut (fun k => u.ownBlock = some k) W W' := hR
     by_cases k7 : k = 7
     ·subst k7
      obtain ⟨c, e, hb, hc⟩ := hv
      exact ⟨c, e, hb.keep hk (fun e => by have := HUB.out c e; omega), hc⟩
     revert hv
     unfold IM4
     split <;> first | exact fun h => h | exact absurd rfl k7 | exact absurd rfl hik
    by_cases h11 : i = 11
    ·subst h11
     have hk : KeepBut (fun k => k = q) W W' := hR
     by_cases k7 : k = 7
     ·subst k7
      obtain ⟨c, e, hb, hc⟩ := hv
      exact ⟨c, e, hb.keep hk (fun e => by have := HWB.out; omega), hc⟩
     by_cases k8 : k = 8
     ·subst k8
      have hv : OwnU B W v (ms ++ [x]) := hv
      exact owns_keep hv hk (fun g hg e => by have := (hv.lt g hg).1; omega)
     revert hv
     unfold IM4
     split <;> first | exact fun h => h | exact absurd rfl k7 | exact absurd rfl k8
    have e : W' = W := by
     revert hR
     unfold RM4
     split <;> first | exact fun h => h | exact absurd rfl h6 | exact absurd rfl h7 | exact absurd rfl h8 | exact absurd rfl h11
    rw [e]
    exact hv
   ·intro i o hi listed A W hsz hN hS hold hdeps
    have hlt : i < 12 := (Array.getElem?_eq_some_iff.1 hi).1
    have hc : i = 0 ∨ i = 1 ∨ i = 2 ∨ i = 3 ∨ i = 4 ∨ i = 5 ∨ i = 6 ∨ i = 7 ∨ i = 8 ∨ i = 9 ∨ i = 10 ∨ i = 11 := by omega
    clear hlt
    rcases hc with rfl | rfl | rfl | rfl | rfl | rfl | rfl | rfl | rfl | rfl | rfl | rfl
    ·obtain rfl := Option.some.inj hi
     have h11 := unlisted_of hN.un hN.cl 12 11 (by kernel_rfl)
     have s1 : A.tmps.getD 1 undef = .pointer (some ⟨b1, 0, none⟩) := hold 1 (by kernel_rfl)
     have hcell := (HB1.out.keep (hS.1 h11).1 (fun e => by rcases e with e | e; exact hb1 e; have := HUB.out _ e; omega)).cell 0 _ rfl
     exact t_value (I := IM4 wr B pr q u ms x) (R := RM4 pr q u 0 W) hi rfl rfl (y_cell_recp _ s1 hcell) (hS.next (by decide) (by decide) (by decide)) rfl rfl
    ·obtain rfl := Option.some.inj hi
     have h11 := unlisted_of hN.un hN.cl 12 11 (by kernel_rfl)
     have s1 : A.tmps.getD 1 undef = .pointer (some ⟨b1, 0, none⟩) := hold 1 (by kernel_rfl)
     have hcell := (HB1.out.keep (hS.1 h11).1 (fun e => by rcases e with e | e; exact hb1 e; have := HUB.out _ e; omega)).cell 0 _ rfl
     exact t_value (I := IM4 wr B pr q u ms x) (R := RM4 pr q u 1 W) hi rfl rfl (y_cell_recp _ s1 hcell) (hS.next (by decide) (by decide) (by decide)) rfl rfl
    ·obtain rfl := Option.some.inj hi
     have s11 : A.tmps.getD 11 undef = .pointer (some ⟨q, 0, none⟩) := dep3_of hdeps 1 (by kernel_rfl)
     exact t_value (I := IM4 wr B pr q u ms x) (R := RM4 pr q u 2 W) hi rfl rfl (y_nilc _ s11) (hS.next (by decide) (by decide) (by decide)) rfl rfl
    ·obtain rfl := Option.some.inj hi
     have s12 : A.tmps.getD 12 undef = .pointer (some ⟨q, 0, none⟩) := dep3_of hdeps 2 (by kernel_rfl)
     exact t_value (I := IM4 wr B pr q u ms x) (R := RM4 pr q u 3 W) hi rfl rfl (y_fldT6 _ s12) (hS.next (by decide) (by decide) (by decide)) rfl rfl
    ·obtain rfl := Option.some.inj hi
     have h11 := unlisted_of hN.un hN.cl 12 11 (by kernel_rfl)
     have s13 : A.tmps.getD 13 undef = .pointer (some ⟨q, 9, none⟩) := dep3_of hdeps 3 (by kernel_rfl)
     have hcell := (HBX.out.keep (hS.1 h11).1 (fun e => by rcases e with e | e; exact hq e; have := HUB.out _ e; omega)).cell 9 _ rfl
     exact t_value (I := IM4 wr B pr q u ms x) (R := RM4 pr q u 4 W) hi rfl rfl (y_cell_u64s _ s13 hcell) (hS.next (by decide) (by decide) (by decide)) rfl rfl
    ·obtain rfl := Option.some.inj hi
     have s0 : A.tmps.getD 0 undef = .pointer (some ⟨pr, 0, none⟩) := hold 0 (by kernel_rfl)
     exact t_value (I := IM4 wr B pr q u ms x) (R := RM4 pr q u 5 W) hi rfl rfl (y_move _ s0) (hS.next (by decide) (by decide) (by decide)) rfl rfl
    ·obtain rfl := Option.some.inj hi
     have h11 := unlisted_of hN.un hN.cl 12 11 (by kernel_rfl)
     have h8 := unlisted_of hN.un hN.cl 12 8 (by kernel_rfl)
     have hd := (hS.1 h11).2.1 hN.un
     subst hd
     have s15 : A.tmps.getD 15 undef = .pointer (some ⟨pr, 0, none⟩) := dep3_of hdeps 5 (by kernel_rfl)
     have hBD : Below wr.heap.size wr wr.drew := (Below.refl _ _).drew
     refine t_enter (I := IM4 wr B pr q u ms x) (R := RM4 pr q u 6 wr.drew) hi rfl rfl (y_call 127 _ #[.pointer (some ⟨pr, 0, none⟩)] _ rfl (by simp only [List.map_toArray, List.map_cons, List.map_nil, show A.eval (.tmp 15) = .pointer (some ⟨pr, 0, none⟩) from s15]) en_getSet) ((HSR.out wr.drew (HCR.out.below hBD)).mono ?_)
     rintro e w' ⟨rfl, g1, g2⟩
     have hkk : KeepBut (fun k => k = pr) wr w' := (KeepBut.of_below _ hBD).trans g2 (fun _ _ h => h)
     exact ⟨_, rfl, ⟨fun _ => ⟨hkk.mono (fun k e => .inl e), fun h => (by rw [listed_at] at h; cases h), fun _ => g1, fun _ => hkk⟩, fun h => (by rw [listed_ne (by decide), h11] at h; cases h)⟩, g2, rfl⟩
    ·obtain rfl := Option.some.inj hi
     have h11 := unlisted_of hN.un hN.cl 12 11 (by kernel_rfl)
     have h8 := unlisted_of hN.un hN.cl 12 8 (by kernel_rfl)
     have h6 := listed_dep hN 6 (by kernel_rfl)
     have s16 : A.tmps.getD 16 undef = .int .u64 (x : Int) := dep3_of hdeps 6 (by kernel_rfl)
     have hA := alloc_below10 W (.cells #[.int .u64 (x : Int)] 77)
     have hk8 := (hS.1 h11).2.2.2 h8
     refine t_value (I := IM4 wr B pr q u ms x) (R := RM4 pr q u 7 W) hi rfl rfl (y_build11 _ _ s16) ⟨fun _ => ⟨((hS.1 h11).1).trans (KeepBut.of_below _ hA) (fun _ _ h => h), fun h => ?_, fun _ => ((hS.1 h11).2.2.1 h6).below hA, fun _ => hk8.trans (KeepBut.of_below _ hA) (fun _ _ h => h)⟩, fun h => (by rw [listed_ne (by decide), h11] at h; cases h)⟩ hA ⟨W.heap.size, rfl, box_new _ _ _, hk8.size⟩
     rw [listed_ne (by decide), h6] at h
     cases h
    ·obtain rfl := Option.some.inj hi
     have h11 := unlisted_of hN.un hN.cl 12 11 (by kernel_rfl)
     have h6 : listed.getD 6 true = true := by
      cases h : listed.getD 6 true with
      | true => rfl
      | false =>
       have := unlisted_of h hN.cl 12 7 (by kernel_rfl)
       rw [listed_dep hN 7 (by kernel_rfl)] at this
       cases this
     have hk8 := (hS.1 h11).2.2.2 hN.un
     have s14 : A.tmps.getD 14 undef = u := dep3_of hdeps 4 (by kernel_rfl)
     have s17 : ∃ c, A.tmps.getD 17 undef = .slice (some ⟨c, 0, none⟩) 1 1 ∧ Box W c #[.int .u64 (x : Int)] 77 ∧ wr.heap.size ≤ c := dep3_of hdeps 7 (by kernel_rfl)
     obtain ⟨c7, s17, hb7, hc7⟩ := s17
     obtain ⟨i0, hi0, hz0, hz1, hz2⟩ := info_parts infoU64w
     have hown : W.ownsRow B 77 1 u ms.length ((misI ms).map (Value.int .u64)) := owns_keep HO.out hk8 (fun g hg e => by have := HUB.out g hg; omega)
     have hcr := (hS.1 h11).2.2.1 h6
     have hlen := HLN.out
     have hJ := HJ.out
     refine t_wp hi rfl (wp_append_own_wide W _ _ 79 rfl B 77 i0 (.int .u64 0) 1 8 Tryz.underlying79 hi0 hz0 hz1 hz2 rfl (by decide) u ms.length _ s14 hown ⟨c7, 0, none⟩ 1 1 [.int .u64 (x : Int)] s17 rfl (fun k y hy => ?_) (fun y hy => by simp at hy; subst hy; rfl) (by unfold maxLen; omega) (by omega) (by have := HWB.out; have := hk8.size; omega) ?_)
     ·match k, hy with
      | 0, hy => cases hy; exact hb7.cell 0 _ rfl
     ·intro v' w' ho hg _
      have hk9 : KeepBut (fun k => u.ownBlock = some k) W w' := keep_grown hg
      have hov : OwnU B w' v' (ms ++ [x]) := by
       unfold OwnU
       have e : (misI (ms ++ [x])).map (Value.int .u64) = (misI ms).map (Value.int .u64) ++ [.int .u64 (x : Int)] := by simp [misI]
       rw [e, List.length_append]
       exact ho
      have hkk : KeepBut (fun k => k = pr ∨ u.ownBlock = some k) wr w' := (hk8.mono (fun k e => .inl e)).trans (hk9.mono (S' := fun k => k = pr ∨ u.ownBlock = some k) (fun k e => .inr e)) (fun _ _ e => e)
      refine ⟨⟨fun _ => ⟨hkk, fun h => ?_, fun _ => hcr.keep hk9 (fun e => by have := HUB.out _ e; omega) (fun g hg e => by have := HUB.out _ e; have := HVL.out g hg; omega), fun h => (by rw [listed_at] at h; cases h)⟩, fun h => (by rw [listed_ne (by decide), h11] at h; cases h)⟩, hk9, v', hov, rfl, fun h => by cases h⟩
      rw [listed_ne (by decide), h6] at h
      cases h
    ·obtain rfl := Option.some.inj hi
     have s10 : A.tmps.getD 10 undef = .pointer (some ⟨q, 0, none⟩) := dep3_of hdeps 0 (by kernel_rfl)
     exact t_value (I := IM4 wr B pr q u ms x) (R := RM4 pr q u 9 W) hi rfl rfl (y_nilc _ s10) (hS.next (by decide) (by decide) (by decide)) rfl rfl
    ·obtain rfl := Option.some.inj hi
     have s19 : A.tmps.getD 19 undef = .pointer (some ⟨q, 0, none⟩) := dep3_of hdeps 9 (by kernel_rfl)
     exact t_value (I := IM4 wr B pr q u ms x) (R := RM4 pr q u 10 W) hi rfl rfl (y_fldT6 _ s19) (hS.next (by decide) (by decide) (by decide)) rfl rfl
    ·obtain rfl := Option.some.inj hi
     have h6 : listed.getD 6 true = true := by
      cases h : listed.getD 6 true with
      | true => rfl
      | false =>
       have := unlisted_of h hN.cl 12 8 (by kernel_rfl)
       rw [listed_dep hN 8 (by kernel_rfl)] at this
       cases this
     have hk := (hS.1 hN.un).1
     have hcr := (hS.1 hN.un).2.2.1 h6
     have hov : OwnU B W (A.tmps.getD 18 undef) (ms ++ [x]) := dep3_of hdeps 8 (by kernel_rfl)
     have s20 : A.tmps.getD 20 undef = .pointer (some ⟨q, 9, none⟩) := dep3_of hdeps 10 (by kernel_rfl)
     obtain ⟨v, hv⟩ : ∃ v, A.tmps.getD 18 undef = v := ⟨_, rfl⟩
     rw [hv] at hov
     obtain ⟨av, cv, rfl⟩ := (Lies.of_own (k := .u64) hov).shape
     have hbx := HBX.out.keep hk (fun e => by rcases e with e | e; exact hq e; have := HUB.out _ e; omega)
     have hb := setRow_box (cs' := recA { m with mis := ms ++ [x] } p (.slice av (misI (ms ++ [x])).length cv)) hbx
     refine t_store (I := IM4 wr B pr q u ms x) (R := RM4 pr q u 11 W) hi rfl (y_storeMid (cs' := recA { m with mis := ms ++ [x] } p (.slice av (misI (ms ++ [x])).length cv)) _ _ _ s20 hv hbx rfl rfl infoU64s rfl) ⟨fun h => (by rw [listed_at] at h; cases h), fun _ => ⟨_, hb.1, owns_keep hov hb.2 (fun g hg e => by have := (hov.lt g hg).1; omega), hcr.keep hb.2 (fun e => hq e.symm) (fun g hg e => HVQ.out (by rw [hg, e])), ?_⟩⟩ hb.2 trivial
     exact (hk.mono (fun k e => by rcases e with e | e; exact .inl e; exact .inr (.inr e))).trans (hb.2.mono (S' := fun k => k = pr ∨ k = q ∨ u.ownBlock = some k) (fun k e => .inr (.inl e))) (fun _ _ e => e)
   ·intro listed a w8 hall hS8 hsz hdf hold hnew
    obtain ⟨u', f1, f2, f3, f4⟩ := hS8.2 (hall 11 (by decide))
    have HF1 := hide f1
    have HF2 := hide f2
    have HF3 := hide f3
    have HF4 : Hid (KeepBut (fun k => k = pr ∨ k = q) w w8) := hide (HK.out.trans f4 (fun k hk e => by
     rcases e with e | e | e
     ·exact .inl e
     ·exact .inr e
     ·have := (HUB.out k e).1
      have := HBB.out
      omega))
    obtain ⟨tm, df⟩ := a
    have hdf : df = [] := hdf
    subst hdf
    obtain ⟨tl⟩ := tm
    have hz0 : tl.length = 22 := by simpa using hsz
    obtain ⟨x0, l0, e0, hz1⟩ := list_more hz0
    subst e0
    obtain ⟨x1, l1, e1, hz2⟩ := list_more hz1
    subst e1
    obtain ⟨x2, l2, e2, hz3⟩ := list_more hz2
    subst e2
    obtain ⟨x3, l3, e3, hz4⟩ := list_more hz3
    subst e3
    obtain ⟨x4, l4, e4, hz5⟩ := list_more hz4
    subst e4
    obtain ⟨x5, l5, e5, hz6⟩ := list_more hz5
    subst e5
    obtain ⟨x6, l6, e6, hz7⟩ := list_more hz6
    subst e6
    obtain ⟨x7, l7, e7, hz8⟩ := list_more hz7
    subst e7
    obtain ⟨x8, l8, e8, hz9⟩ := list_more hz8
    subst e8
    obtain ⟨x9, l9, e9, hz10⟩ := list_more hz9
    subst e9
    obtain ⟨x10, l10, e10, hz11⟩ := list_more hz10
    subst e10
    obtain ⟨x11, l11, e11, hz12⟩ := list_more hz11
    subst e11
    obtain ⟨x12, l12, e12, hz13⟩ := list_more hz12
    subst e12
    obtain ⟨x13, l13, e13, hz14⟩ := list_more hz13
    subst e13
    obtain ⟨x14, l14, e14, hz15⟩ := list_more hz14
    subst e14
    obtain ⟨x15, l15, e15, hz16⟩ := list_more hz15
    subst e15
    obtain ⟨x16, l16, e16, hz17⟩ := list_more hz16
    subst e16
    obtain ⟨x17, l17, e17, hz18⟩ := list_more hz17
    subst e17
    obtain ⟨x18, l18, e18, hz19⟩ := list_more hz18
    subst e18
    obtain ⟨x19, l19, e19, hz20⟩ := list_more hz19
    subst e19
    obtain ⟨x20, l20, e20, hz21⟩ := list_more hz20
    subst e20
    obtain ⟨x21, l21, e21, hz22⟩ := list_more hz21
    subst e21
    obtain rfl := List.eq_nil_of_length_eq_zero hz22
    have HO := hide hold
    clear hold hnew hS8 hall hsz f1 f2 f3 f4
    have o := HO.out
    have o0 := o 0 (by kernel_rfl)
    simp at o0
    have o1 := o 1 (by kernel_rfl)
    simp at o1
    have o2 := o 2 (by kernel_rfl)
    simp at o2
    have o3 := o 3 (by kernel_rfl)
    simp at o3
    have o4 := o 4 (by kernel_rfl)
    simp at o4
    have o5 := o 5 (by kernel_rfl)
    simp at o5
    have o6 := o 6 (by kernel_rfl)
    simp at o6
    have o7 := o 7 (by kernel_rfl)
    simp at o7
    have o8 := o 8 (by kernel_rfl)
    simp at o8
    have o9 := o 9 (by kernel_rfl)
    simp at o9
    have o21 := o 21 (by kernel_rfl)
    simp at o21
    clear o HO
    subst o0
    subst o1
    subst o2
    subst o3
    subst o4
    subst o5
    subst o6
    subst o7
    subst o8
    subst o9
    subst o21
    go_wp2_with fail
    go_roundg g
    case measure => omega
    case rel => exact ⟨j + 1, u', ms ++ [x], r', by omega, by first | rfl | go_num, HMS2, HF1, HF2, HF3, HF4⟩
end
end Go.Proofs.YtlegliimgjmphaaGreat
