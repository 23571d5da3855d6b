/-
  Own texts put together: WlAll, WlAlive, WlLen, WlSm. Own work.
-/
import Derived.Test.YtlegliimgjmphaaGreatG15
import Derived.Test.YtlegliimgjmphaaGreatG36
import Derived.Test.YtlegliimgjmphaaGreatG37
import Derived.Test.YtlegliimgjmphaaGreatG40
import Derived.Test.YtlegliimgjmphaaGreatG08
import Derived.Test.YtlegliimgjmphaaGreatG27
import Derived.Deep.RegionHeldLaw
namespace Go.Proofs.YtlegliimgjmphaaGreat
section
open Go.RowKit
theorem wal_do : WalDo PD := ⟨pd_do, fun hm hv => penc11_any hm hv, fun hl hx hL => pdec12_any hl hx hL, fput_any, size_OK, fscan_any⟩
end
section
open Go.RowKit
section
variable {D : World → Nat → (Nat → Prop) → Dk → Prop}
def SinceL (D : World → Nat → (Nat → Prop) → Dk → Prop) (w : World) (p q : Nat) (d : Dk) (W : World) : Prop := ∃ F, WL D W p q F d ∧ (∀ k, F k → w.heap.size ≤ k) ∧ Below w.heap.size w W
theorem SinceL.did {w w1 w2 : World} {p q : Nat} {F : Nat → Prop} {d' : Dk} (hB : Below w.heap.size w w1) (hF : ∀ k, F k → w.heap.size ≤ k) (h : WDid D w1 w2 p q F d') : SinceL D w p q d' w2 := by
 obtain ⟨F', h1, hk, h2⟩ := h
 refine ⟨F', h1, fun k hk' => ?_, hB.trans (hk.below hB.size hF)⟩
 rcases h2 k hk' with h | h
 ·exact hF k h
 ·exact Nat.le_trans hB.size h
theorem build_boot (w : World) : (Instr.build 87 #[(0, .int .u8 1), (1, .int .u32 1)]).run Tryz.prog w = .ok (.agg (recA bootM (.slice none 0 0) (.slice none 0 0))) w := by kernel_rfl
theorem boot_lie (w : World) : RvLie w ⟨bootM, .slice none 0 0, .slice none 0 0⟩ := ⟨boot_ok, RSrc.nil _, Lies.nil _ _⟩
set_option maxRecDepth 100000 in
set_option maxHeartbeats 3200000 in
theorem walive_any (H : WalDo D) (w : World) : Calls Tryz.prog 8 #[] w fun e w' => e = .returned (.bool true) ∧ Below w.heap.size w w' := by
 have hI0 := logI_room 200 (by decide) (by decide)
 have hO0 := logI_open hI0
 have hA1 := boot_app
 have hI1 := logI_app hI0 (l := [bootM]) (fun m hm => List.mem_singleton.1 hm ▸ boot_ok) hA1
 have hF1 := logI_force hI1
 have hO2 := logI_open hF1.2
 have hbl1 : (newD 200).bs.length ≤ 100000000 := by decide
 have hok1 := hI1.ok
 have hbl2 : (forD (wapD (newD 200) [bootM])).bs.length ≤ 100000000 := by
  rw [hF1.2.bs]
  have := boot_len
  simp only [List.nil_append, List.append_nil]
  omega
 have hpe : (forD (wapD (newD 200) [bootM])).bs.length - (forD (wapD (newD 200) [bootM])).fend = 0 := by
  rw [hF1.2.bs, hF1.2.fe]
  simp
 have hon2 := hF1.2.on
 obtain ⟨d0, hd0⟩ : ∃ d0, d0 = newD 200 := ⟨_, rfl⟩
 obtain ⟨d1, hd1⟩ : ∃ d1, d1 = wapD d0 [bootM] := ⟨_, rfl⟩
 obtain ⟨d2, hd2⟩ : ∃ d2, d2 = forD d1 := ⟨_, rfl⟩
 have hon0 := hI0.on
 rw [← hd0] at hO0 hA1 hF1 hO2 hbl1 hbl2 hpe hon2 hon0
 rw [← hd1] at hF1 hO2 hbl2 hpe hon2
 rw [← hd2] at hO2 hbl2 hpe hon2
 have HF := hide hF1.1
 have HO0 := hide hO0
 have HO2 := hide hO2
 have HA1 := hide hA1
 have HPE := hide hpe
 have HD0 := hide hd0
 have HD1 := hide hd1
 have HD2 := hide hd2
 have HON0 := hide hon0
 have HON2 := hide hon2
 have HBL0 := hide hbl1
 have HBL2 := hide hbl2
 have HBL1 : Hid (d1.bs.length ≤ 100000000) := hide (by have := forD_bs d1; rw [← hd2] at this; rw [← this]; exact hbl2)
 clear hI0 hO0 hA1 hI1 hF1 hO2 hbl1 hok1 hbl2 hpe hd0 hd1 hd2 hon2 hon0
 have hbb := build_boot
 have C0 := hide (H.dsk.new 200 w rfl)
 go_enter Tryz.func8, Tryz.ntmps8
 go_wp2_with fail
 refine C0.out.mono ?_
 rintro e w1 ⟨q, F1, rfl, hD1, hF1, hB1⟩
 have e0 : newD (Int.toNat 200) = d0 := HD0.out.symm
 rw [e0] at hD1
 have HB1 := hide hB1
 have HF1 := hide hF1
 have C1 := hide (wopen_any H.dsk H.scn H.dec H.siz hD1 HON0.out HBL0.out)
 rw [HO0.out.1, HO0.out.2] at C1
 clear hD1 hF1 hB1 e0 C0
 go_wp2_with fail
 refine C1.out.mono ?_
 rintro e w2 ⟨p, v2, rfl, ns, F2, hns, hp, hW2, hk2, hF2, hH2, _⟩
 have hns0 : ns = [] := by
  cases ns with
  | nil => rfl
  | cons a l => simp [rows] at hns
 subst hns0
 obtain ⟨a2, c2, e2, _⟩ := owns_shapeR (Sup.now hH2).1
 have e2' : v2 = .slice a2 0 c2 := e2
 subst e2'
 have HW2 := hide (SinceL.did HB1.out HF1.out ⟨F2, hW2, hk2, hF2⟩)
 clear hns hp hW2 hk2 hF2 hH2 e2 C1 HB1 HF1
 obtain ⟨F2', hW2, hF2, hB2⟩ := HW2.out
 have HB2 := hide hB2
 have HF2 := hide hF2
 have hBA := alloc_below12 w2 (.cells (recA bootM (.slice none 0 0) (.slice none 0 0)) 87)
 have HBA := hide (hB2.trans (hBA.mono hB2.size))
 have C2 := hide (wappend_any H.dsk H.enc H.put (hW2.below H.dsk hBA) HBL0.out (.slice (some ⟨w2.heap.size, 0, none⟩) 1 1) [⟨bootM, .slice none 0 0, .slice none 0 0⟩] (src_new (enc := recVE) w2 ⟨bootM, .slice none 0 0, .slice none 0 0⟩ (recA bootM (.slice none 0 0) (.slice none 0 0)) rfl 87) (fun r hr => (List.mem_singleton.1 hr).symm ▸ boot_lie _) (by simp))
 have er : rows [⟨bootM, .slice none 0 0, .slice none 0 0⟩] = [bootM] := rfl
 rw [er, HA1.out, ← HD1.out] at C2
 clear hW2 hF2 hB2 hBA er HW2
 go_wp2_with fail
 refine C2.out.mono ?_
 rintro e w3 ⟨rfl, h3⟩
 obtain ⟨F3, hW3, hF3, hB3⟩ := SinceL.did HBA.out HF2.out h3
 have HB3 := hide hB3
 have HF3 := hide hF3
 have C3 := hide (wforce_any H.dsk hW3)
 rw [HF.out, ← HD2.out] at C3
 clear h3 hW3 hF3 hB3 C2 HBA HB2 HF2
 go_wp2_with fail
 refine C3.out.mono ?_
 rintro e w4 ⟨rfl, h4⟩
 obtain ⟨F4, hW4, hF4, hB4⟩ := SinceL.did HB3.out HF3.out h4
 have HB4 := hide hB4
 have HF4 := hide hF4
 have HW4 := hide hW4
 have C4 := hide (wopen_any H.dsk H.scn H.dec H.siz hW4.dsk HON2.out HBL2.out)
 rw [HO2.out.1, HO2.out.2] at C4
 clear h4 hW4 hF4 hB4 C3 HB3 HF3
 go_wp2_with fail
 refine C4.out.mono ?_
 rintro e w5 ⟨p5, v5, rfl, ns5, F5, hns5, hp5, hW5, hk5, hF5, hH5, _⟩
 obtain ⟨b5, xp, xq, rfl⟩ : ∃ b5 xp xq, ns5 = [⟨b5, xp, xq⟩] := by
  match ns5, hns5 with
  | [⟨m, p, q⟩], _ => exact ⟨m, p, q, rfl⟩
  | [], h => simp [rows] at h
  | _ :: _ :: _, h => simp [rows] at h
 have hb5 : b5 = bootM := by simpa [rows] using hns5
 subst hb5
 have hrs := RSrc.of_own (Sup.now hH5).1
 obtain ⟨o5, cc5, c5, e5, hbl5, _⟩ := hrs.block (by simp)
 subst e5
 obtain ⟨_, bb, oo, ee, _, hcl⟩ := hrs.at recPV.len (i := 0) (by simp)
 cases ee
 have hc5 : w5.cell? ⟨o5, cc5 + 0 * 31 + 1, none⟩ = some (.int .u32 1) := hcl 1 _ rfl
 have hc5' : w5.cell? ⟨o5, cc5 + 1, none⟩ = some (.int .u32 1) := by simpa using hc5
 have HWP : Hid (SinceL D w p q d2 w5) := hide (SinceL.did HB4.out HF4.out ⟨F5, ⟨HW4.out.box.keep hk5 HW4.out.out, hW5.dsk, fun hf => by
  rcases hF5 p hf with h | h
  ·exact HW4.out.out h
  ·exact Nat.lt_irrefl _ (Nat.lt_of_lt_of_le HW4.out.box.lt h)⟩, hk5, hF5⟩)
 clear hns5 hp5 hW5 hk5 hF5 hH5 C4 HB4 HF4 hrs hbl5 hcl hc5
 obtain ⟨F6, hW6, hF6, hB6⟩ := HWP.out
 have HB6 := hide hB6
 have C6 := hide (wpend_any H.dsk hW6 HBL2.out)
 rw [HPE.out] at C6
 clear hW6 hF6 hB6
 go_wp2_with fail
 refine C6.out.mono ?_
 rintro e w7 ⟨rfl, hB7⟩
 have HB7 := hide (HB6.out.trans (hB7.mono HB6.out.size))
 clear hB7 hc5'
 go_wp2_with fail
 go_ret
 exact ⟨rfl, HB7.out⟩
end
end
section
open Go.RowKit
theorem wap_len {d : Dk} (h : d.Ok) (l : List RecP) : (wapD d l).bs.length ≤ d.bs.length + 65536 := by
 have h1 := h.f1
 have h2 := h.f2
 have h3 := h.r2
 unfold wapD appD Dk.left
 split
 ·split
  ·omega
  ·split
   ·omega
   ·simp
    omega
 ·omega
theorem cutD_bs (d : Dk) (n : Int) : (cutD d n).bs = d.bs := by
 unfold cutD
 split
 ·rfl
 ·split <;> rfl
theorem triD_len (d : Dk) (n : Int) : (triD d n).bs.length ≤ d.bs.length := by
 unfold triD
 split
 ·omega
 ·split
  ·simp
   omega
  ·omega
theorem agn_len {d : Dk} (h : d.Ok) (l : List RecP) : (agnD d l).bs.length ≤ d.bs.length + 65536 := by
 have := wap_len h l
 unfold agnD
 split
 ·exact this
 ·split
  ·rw [forD_bs]; exact this
  ·rw [forD_bs, cutD_bs, forD_bs]; exact this
theorem wac_len {d : Dk} (h : d.Ok) (k : Nat) (l : List RecP) (n : Int) : (wacD d k l n).bs.length ≤ d.bs.length + 65536 := by
 have h1 := wap_len h l
 have h2 := agn_len h l
 have h3 := triD_len d (plcW d n)
 unfold wacD
 repeat' split
 ·rw [forD_bs]; omega
 ·exact h2
 ·rw [cutD_bs]; omega
 ·omega
 ·omega
 ·exact h1
theorem far_small {fs : List WAct} (h : farA fs = false) : ∀ a ∈ fs.take 30, a.recs.length ≤ 8 ∧ a.tail.length ≤ 2000 := fun a ha => by
 unfold farA at h
 rw [Bool.or_eq_false_iff] at h
 have := List.any_eq_false.1 h.1 a ha
 unfold actB at this
 simp at this
 omega
theorem wact_one {a : WAct} {ro to : Option Addr} {rl rc tl tc : Nat} (h1 : a.rv = .slice ro rl rc) (h2 : a.tv = .slice to tl tc) : (wactA a).all (·.oneCell') = true := by
 simp [Value.oneCell', h1, h2]
theorem left_small {d : Dk} (h : d.Ok) : d.left ≤ 65536 := by
 have h1 := h.f1
 have h2 := h.f2
 have h3 := h.r2
 unfold Dk.left
 omega
theorem wac_app {d : Dk} {r : Nat} (h : r = 0 ∨ r = 3) (l : List RecP) (n : Int) : wacA d r l n = wapA d l ∧ wacD d r l n = wapD d l := by
 rcases h with rfl | rfl <;> exact ⟨rfl, rfl⟩
theorem build_wal0 (w : World) : (Instr.build 69 #[]).run Tryz.prog w = .ok (.agg #[.pointer none]) w := by kernel_rfl
theorem eql_u8_no (a b : Nat) (w : World) (h : a ≠ b) : (binOp .eql 5 (.int .u8 (a : Int)) (.int .u8 (b : Int))).run Tryz.prog w = .ok (.bool false) w := by
 have hb : ((a : Int) == (b : Int)) = false := by simp; omega
 simp [go_sem, hb]
theorem src_newL {α : Type} {enc : α → List Value} (w : World) (xs : List α) (cs : Array Value) (h : cs.toList = flat enc xs) (t' : TypeId) (n : Nat) (hn : n = xs.length) (hm : n ≤ maxLen) : RSrc enc (w.alloc (.cells cs t')) (.slice (some ⟨w.heap.size, 0, none⟩) n n) xs := by
 subst hn
 refine ⟨_, xs.length, rfl, Nat.le_refl _, hm, fun e => (by cases e), fun _ => ⟨w.heap.size, 0, rfl, by simp, fun j u hu => ?_⟩⟩
 rw [Nat.zero_add]
 refine (box_new w cs t').cell j u ?_
 rw [← h] at hu
 simpa using hu
theorem build_act (ro : Option Addr) (rl rc : Nat) (w : World) : (Instr.build 46 #[(1, .slice ro rl rc)]).run Tryz.prog w = .ok (.agg #[.int .u8 0, .slice ro rl rc, .int .i64 0, .int .i64 0, .bool false, .slice none 0 0]) w := by kernel_rfl
theorem step_recs_g {α : Type} {t e : TypeId} {K : Nat} {enc : α → List Value} (R : Rec t e K enc) {ops : Array Oper} {o : Oper} {a : Act} {K' : Act → World → Prop} {Q : Exit → Act → World → Prop} {E : Prop} (w : World) (hw : Region.wanted o (yielded ops a.tmps) = true) (s x : Operand)
  (ho : o.op = .call { callee := .builtin .append, args := #[s, x], argTypes := #[t, t] })
  (base : Nat) (v vx : Value) (ys xs : List α) (hs : a.eval s = v) (hown : w.ownsRow base e K v ys.length (flat enc ys)) (hx : a.eval x = vx) (hL : RSrc enc w vx xs) (h1 : ∀ x ∈ xs, ∀ u ∈ enc x, u.oneCell' = true) (hb : ys.length + xs.length ≤ 1000000) (hbase : base ≤ w.heap.size)
  (h : ∀ v' w', w'.ownsRow base e K v' (ys ++ xs).length (flat enc (ys ++ xs)) → w.grownBy w' v.ownBlock → (v'.ownBlock = v.ownBlock ∨ v'.ownBlock = some w.heap.size) → K' (a.put o.dst v') w') :
  if Region.wanted o (yielded ops a.tmps) = true then Oper.wp Tryz.prog o a w K' Q else E := by
 rw [if_pos hw]
 obtain ⟨v', w', hr, h2, h3, h4⟩ := run_recs R w base v vx ys xs hown hL h1 hb hbase
 unfold Oper.wp execOp
 simp only [ho, resolve, invoke, builtin, Sem.run_bind, Sem.run_pure, Result.andThen_ok, List.map_toArray, List.map_cons, List.map_nil, hs, hx, hr]
 exact h v' w' h2 h3 h4
theorem wap_room (d : Dk) (l : List RecP) : (wapD d l).room = d.room := by
 unfold wapD appD
 repeat' split
 all_goals rfl
theorem for_room (d : Dk) : (forD d).room = d.room := by
 unfold forD
 repeat' split
 all_goals rfl
theorem wap_full {d : Dk} {l : List RecP} (h : LogI d [] []) (hr : d.room = 65536) (hl : ∀ m ∈ l, RecOk m) (h8 : l.length ≤ 8) : wapA d l = 0 ∨ wapA d l = 1 := by
 unfold wapA
 by_cases hm : l.all mayR = true
 ·rw [if_pos hm]
  have hg : GoodR l := fun m hx => ⟨hl m hx, List.all_eq_true.1 hm m hx⟩
  have := framesR_len hg
  left
  unfold appA Dk.left
  rw [h.on, h.fb, h.bs, hr]
  simp only [Bool.false_eq_true, if_false, List.append_nil, framesR_nil, List.length_nil]
  rw [if_neg (by omega)]
 ·rw [if_neg hm]
  exact .inr rfl
theorem RvLie.sl12 {W : World} {a : RecV} (h : RvLie W a) : SlOk a := by
 obtain ⟨ao, c, e, _⟩ := h.src.shape
 obtain ⟨bo, d, e2⟩ := lies_shape12 h.lie
 exact ⟨⟨ao, _, c, e⟩, bo, _, d, e2⟩
theorem kept_gr {w w' : World} {v : Option Nat} (h : w.grownBy w' v) : KeepBut (fun g => v = some g) w w' := ⟨h.os, h.tape, h.output, h.size, fun k hk hn => h.block k hk (fun e => hn e.symm)⟩
theorem ne_new {w w' : World} {e s n b2 e2 s2 n2 : Nat} {v v2 : Value} {xs xs2 : List Value} (h : w'.ownsRow w.heap.size e s v n xs) (h2 : w.ownsRow b2 e2 s2 v2 n2 xs2) : ∀ g, v.ownBlock = some g → ¬ v2.ownBlock = some g := fun g hg hg2 => by
 have h1 := (h.lt g hg).1
 have h3 := (h2.lt g hg2).2
 omega
theorem ne_old {w : World} {b e s n : Nat} {v v2 : Value} {xs : List Value} (h : w.ownsRow b e s v n xs) (h2 : v2.ownBlock = (Value.slice none 0 0).ownBlock ∨ v2.ownBlock = some w.heap.size) : ∀ g, v.ownBlock = some g → ¬ v2.ownBlock = some g := fun g hg hg2 => by
 have h1 := (h.lt g hg).2
 rcases h2 with e | e
 ·rw [hg2] at e; cases e
 ·rw [hg2] at e; cases e; omega
theorem sta_facts {d : Dk} (hoff : d.off = true) (keep : Int) (cut : Bool) : (staD d keep cut []).off = false ∧ (staD d keep cut []).bs.length ≤ d.bs.length := by
 unfold staD staB
 rw [hoff]
 simp only [Bool.not_true, Bool.false_eq_true, if_false, if_true, List.length_nil, Nat.not_lt_zero]
 refine ⟨trivial, ?_⟩
 simp
 omega
section
variable {D : World → Nat → (Nat → Prop) → Dk → Prop}
theorem SinceL.below (H : DiskDo D) {w W W' : World} {p q : Nat} {d : Dk} (h : SinceL D w p q d W) (hB : Below W.heap.size W W') : SinceL D w p q d W' := by
 obtain ⟨F, h1, h2, h3⟩ := h
 exact ⟨F, h1.below H hB, h2, h3.trans (hB.mono h3.size)⟩
end
end
section
open Go.RowKit Classical
theorem rsame_do : RSameDo := fun m k a1 a2 b1 b2 l1 c1 l2 c2 n1 d1 n2 d2 w h1 h2 h3 h4 h5 h6 => rsame11_any m k a1 a2 b1 b2 l1 c1 l2 c2 n1 d1 n2 d2 w h1 h2 h3 h4 h5 h6
end
end Go.Proofs.YtlegliimgjmphaaGreat
