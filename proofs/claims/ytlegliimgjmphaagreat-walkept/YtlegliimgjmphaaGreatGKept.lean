/-
  Proved: behind a loss of power the program's log has all records that were forced, in order, and then some of those that were not, from the first one of them on, each whole; opened twice it is as opened once: whatever script comes (of a script the first 30 calls count, and one that is too large is passed by, as the law says). For every input of the form's own reach. Own work.
-/
import Derived.Test.YtlegliimgjmphaaGreatG41
import Derived.Deep.RegionHeldLaw
import Derived.SizedLaws
import Derived.ChangeArms
namespace Go.Proofs.YtlegliimgjmphaaGreat
section
open Go.RowKit
theorem framesR_ge : ∀ (l : List RecP), l.length * 8 ≤ (framesR l).length
 | [] => by simp [framesR]
 | m :: l => by
  have := framesR_ge l
  rw [framesR_cons, List.length_append, frR_len, List.length_cons]
  omega
theorem logI_small {d : Dk} {f p : List RecP} (h : LogI d f p) : f.length + p.length ≤ 8192 ∧ d.bs.length ≤ 65536 := by
 have h1 := h.ok.full
 have h2 := h.ok.r2
 rw [h.fb] at h1
 have h3 := framesR_ge (f ++ p)
 rw [← h.bs, List.length_append] at h3
 omega
theorem own_ne_box {W : World} {b e sz n p : Nat} {v : Value} {xs : List Value} {cs : Array Value} {t : TypeId} (h : W.ownsRow b e sz v n xs) (hb : Box W p cs t) (ht : e ≠ t) : ¬ v.ownBlock = some p := fun hg => by
 obtain ⟨_, ⟨rfl, _⟩ | ⟨g, cap, cur, rfl, _, hh, _⟩⟩ := h
 ·cases hg
 ·cases hg
  unfold Box at hb
  rw [hb] at hh
  injection hh with h1
  injection h1 with h2 h3
  exact ht h3.symm
structure KpR (F : Nat → Prop) (w : World) (fs ps : List RecV) (vf vp : Value) (W : World) : Prop where
 rf : W.ownsRow w.heap.size 89 31 vf fs.length (flat recVE fs)
 rp : W.ownsRow w.heap.size 89 31 vp ps.length (flat recVE ps)
 fF : ∀ g, vf.ownBlock = some g → ¬ F g
 pF : ∀ g, vp.ownBlock = some g → ¬ F g
 ne : ∀ g, vf.ownBlock = some g → ¬ vp.ownBlock = some g
 rs : Sup (fun j => F j ∨ vf.ownBlock = some j ∨ vp.ownBlock = some j) W (fun W => ∀ r ∈ fs ++ ps, RvLie W r)
theorem KpR.keep {F F' : Nat → Prop} {w W W' : World} {fs ps : List RecV} {vf vp : Value} (h : KpR F w fs ps vf vp W) (hk : KeepBut F W W') (hF : ∀ k, F' k → F k ∨ W.heap.size ≤ k) : KpR F' w fs ps vf vp W' := by
 refine ⟨owns_keep h.rf hk h.fF, owns_keep h.rp hk h.pF, fun g hg hf => ?_, fun g hg hf => ?_, h.ne, Sup.keep h.rs hk (fun k _ hF => .inl hF) (fun k hk' => ?_)⟩
 ·rcases hF g hf with h1 | h1
  ·exact h.fF g hg h1
  ·have := (h.rf.lt g hg).2
   omega
 ·rcases hF g hf with h1 | h1
  ·exact h.pF g hg h1
  ·have := (h.rp.lt g hg).2
   omega
 ·rcases hk' with h1 | h1
  ·exact (hF k h1).imp (fun h => .inl h) id
  ·exact .inl (.inr h1)
theorem KpR.below {F : Nat → Prop} {w W W' : World} {fs ps : List RecV} {vf vp : Value} (h : KpR F w fs ps vf vp W) (hB : Below W.heap.size W W') : KpR F w fs ps vf vp W' := h.keep (KeepBut.of_below F hB) (fun _ h => .inl h)
theorem sup_arg {F : Nat → Prop} {w W : World} {rs : List RecV} (hr : ∀ r ∈ rs, RvLie w r) (hB : Below w.heap.size w W) (hF : ∀ k, F k → w.heap.size ≤ k) : Sup F W (fun W => ∀ r ∈ rs, RvLie W r) := by
 refine ⟨fun k => k < w.heap.size, fun k hk => ⟨Nat.lt_of_lt_of_le hk hB.size, fun hf => Nat.lt_irrefl _ (Nat.lt_of_lt_of_le hk (hF k hf))⟩, fun W' hW r h => (hr r h).below ?_⟩
 exact ⟨hW.os.trans hB.os, hW.tape.trans hB.tape, hW.output.trans hB.output, Nat.le_trans hB.size hW.size, fun k hk => (hW.block k (Nat.lt_of_lt_of_le hk hB.size) (fun hn => hn hk)).trans (hB.block k hk)⟩
theorem KpR.nil {F : Nat → Prop} {w W : World} : KpR F w [] [] (.slice none 0 0) (.slice none 0 0) W :=
 ⟨World.ownsRow_nil _ _ _ _, World.ownsRow_nil _ _ _ _, (fun g hg => by cases hg), (fun g hg => by cases hg), (fun g hg => by cases hg), Sup.true.map (fun _ _ r hr => by cases hr)⟩
theorem KpR.addp {F : Nat → Prop} {w W W' : World} {fs ps rs : List RecV} {vf vp vp' : Value} (h : KpR F w fs ps vf vp W) (hr : ∀ r ∈ rs, RvLie w r) (hB : Below w.heap.size w W) (hFw : ∀ k, F k → w.heap.size ≤ k) (hFl : ∀ k, F k → k < W.heap.size)
  (ho : W'.ownsRow w.heap.size 89 31 vp' (ps ++ rs).length (flat recVE (ps ++ rs))) (hg : W.grownBy W' vp.ownBlock) (hv : vp'.ownBlock = vp.ownBlock ∨ vp'.ownBlock = some W.heap.size) : KpR F w fs (ps ++ rs) vf vp' W' := by
 have hk := kept_gr hg
 have hnew : ∀ g, vp'.ownBlock = some g → vp.ownBlock = some g ∨ g = W.heap.size := fun g hg => by
  rcases hv with e | e
  ·rw [e] at hg; exact .inl hg
  ·rw [e] at hg; cases hg; exact .inr rfl
 refine ⟨owns_keep h.rf hk h.ne, ho, h.fF, fun g hg hf => ?_, fun g hg hp => ?_, ?_⟩
 ·rcases hnew g hg with h1 | h1
  ·exact h.pF g h1 hf
  ·have := hFl g hf; omega
 ·rcases hnew g hp with h1 | h1
  ·exact h.ne g hg h1
  ·have := (h.rf.lt g hg).2; omega
 ·have s1 : Sup (fun j => F j ∨ vf.ownBlock = some j ∨ vp'.ownBlock = some j) W' (fun W => ∀ r ∈ fs ++ ps, RvLie W r) := Sup.keep h.rs hk (fun k _ hk => .inr (.inr hk)) (fun k hk => by
   rcases hk with h1 | h1 | h1
   ·exact .inl (.inl h1)
   ·exact .inl (.inr (.inl h1))
   ·rcases hnew k h1 with h2 | h2
    ·exact .inl (.inr (.inr h2))
    ·exact .inr (by omega))
  have hB' : Below w.heap.size w W' := hB.grown hg hB.size (fun j hj => (h.rp.lt j hj).1)
  have s2 : Sup (fun j => F j ∨ vf.ownBlock = some j ∨ vp'.ownBlock = some j) W' (fun W => ∀ r ∈ rs, RvLie W r) := sup_arg hr hB' (fun k hk => by
   rcases hk with h1 | h1 | h1
   ·exact hFw k h1
   ·exact (h.rf.lt k h1).1
   ·exact (ho.lt k h1).1)
  exact (s1.and s2).map (fun W h r hr => by
   rw [← List.append_assoc] at hr
   rcases List.mem_append.1 hr with h1 | h1
   ·exact h.1 r h1
   ·exact h.2 r h1)
theorem KpR.force {F : Nat → Prop} {w W W' : World} {fs ps : List RecV} {vf vp vf' : Value} (h : KpR F w fs ps vf vp W) (hFl : ∀ k, F k → k < W.heap.size)
  (ho : W'.ownsRow w.heap.size 89 31 vf' (fs ++ ps).length (flat recVE (fs ++ ps))) (hg : W.grownBy W' vf.ownBlock) (hv : vf'.ownBlock = vf.ownBlock ∨ vf'.ownBlock = some W.heap.size) : KpR F w (fs ++ ps) [] vf' (.slice none 0 0) W' := by
 have hk := kept_gr hg
 have hnew : ∀ g, vf'.ownBlock = some g → vf.ownBlock = some g ∨ g = W.heap.size := fun g hg => by
  rcases hv with e | e
  ·rw [e] at hg; exact .inl hg
  ·rw [e] at hg; cases hg; exact .inr rfl
 refine ⟨ho, World.ownsRow_nil _ _ _ _, fun g hg hf => ?_, (fun g hg => by cases hg), (fun g _ hp => by cases hp), ?_⟩
 ·rcases hnew g hg with h1 | h1
  ·exact h.fF g h1 hf
  ·have := hFl g hf; omega
 ·rw [List.append_nil]
  refine Sup.keep h.rs hk (fun k _ hk => .inr (.inl hk)) (fun k hk => ?_)
  rcases hk with h1 | h1 | h1
  ·exact .inl (.inl h1)
  ·rcases hnew k h1 with h2 | h2
   ·exact .inl (.inr (.inl h2))
   ·exact .inr (by omega)
  ·cases h1
theorem KpR.fresh {F : Nat → Prop} {w W W' : World} {ns : List RecV} {vf : Value} {Φ : World → Prop} (hs : Sup F W (fun W => Φ W ∧ ∀ r ∈ ns, RvLie W r)) (hw : w.heap.size ≤ W.heap.size) (hB : Below W.heap.size W W') (hFl : ∀ k, F k → k < W.heap.size)
  (ho : W'.ownsRow W.heap.size 89 31 vf ns.length (flat recVE ns)) : KpR F w ns [] vf (.slice none 0 0) W' := by
 refine ⟨owns_base ho hw, World.ownsRow_nil _ _ _ _, fun g hg hf => ?_, (fun g hg => by cases hg), (fun g _ hp => by cases hp), ?_⟩
 ·have h1 := (ho.lt g hg).1
  have h2 := hFl g hf
  omega
 ·rw [List.append_nil]
  refine (Sup.keep hs (KeepBut.of_below (fun _ => False) hB) (fun _ _ h => h.elim) (fun k hk => ?_)).map (fun W h => h.2)
  rcases hk with h1 | h1 | h1
  ·exact .inl h1
  ·exact .inr (ho.lt k h1).1
  ·cases h1
end
section
open Go.RowKit Classical
def KeptI (D : World → Nat → (Nat → Prop) → Dk → Prop) (w : World) (q p : Nat) (d : Dk) (fs ps : List RecV) (vf vp : Value) (W : World) : Prop :=
 ∃ F, WL D W p q F d ∧ (∀ j, F j → w.heap.size ≤ j) ∧ Below w.heap.size w W ∧ LogI d (rows fs) (rows ps) ∧ KpR F w fs ps vf vp W
theorem rows_app (a b : List RecV) : rows (a ++ b) = rows a ++ rows b := by unfold rows; exact List.map_append
section
variable {D : World → Nat → (Nat → Prop) → Dk → Prop}
theorem KeptI.below (H : DiskDo D) {w W W' : World} {q p : Nat} {d : Dk} {fs ps : List RecV} {vf vp : Value} (h : KeptI D w q p d fs ps vf vp W) (hB : Below W.heap.size W W') : KeptI D w q p d fs ps vf vp W' := by
 obtain ⟨F, h1, h2, h3, h4, h5⟩ := h
 exact ⟨F, h1.below H hB, h2, h3.trans (hB.mono h3.size), h4, h5.below hB⟩
theorem KeptI.small {w W : World} {q p : Nat} {d : Dk} {fs ps : List RecV} {vf vp : Value} (h : KeptI D w q p d fs ps vf vp W) : fs.length + ps.length ≤ 8192 := by
 obtain ⟨F, h1, h2, h3, h4, h5⟩ := h
 have := (logI_small h4).1
 rw [rows_len, rows_len] at this
 exact this
set_option maxRecDepth 100000 in
set_option maxHeartbeats 6400000 in
theorem walkK12 (H : WalDo D) (HS : RSameDo) (v : Value) (fs : List WAct) (w : World) (h : RSrc wactE w v fs) (hok : ∀ a ∈ fs, WaOk w a) :
  Calls Tryz.prog 4 #[v] w fun e w' => e = .returned (.bool true) ∧ Below w.heap.size w w' := by
 have CF := hide (far12_any v fs w h hok)
 have CA := hide (fun W => walive_any H W)
 have CS := hide (fun W => short_any12 v fs W w h)
 obtain ⟨vo, vc, e0, _⟩ := h.shape
 subst e0
 have HOK : Hid (∀ a ∈ fs.take 30, WaOk w a) := hide (fun a ha => hok a (List.mem_of_mem_take ha))
 have hKl : (fs.take 30).length ≤ 30 := by rw [List.length_take]; omega
 have HSM : Hid (farA fs = false → ∀ a ∈ fs.take 30, a.recs.length ≤ 8 ∧ a.tail.length ≤ 2000) := hide far_small
 have HLI := hide (logI_room 65536 (by decide) (by decide))
 obtain ⟨ts, hts⟩ : ∃ ts, ts = fs.take 30 := ⟨_, rfl⟩
 rw [← hts] at HOK hKl HSM CS
 obtain ⟨LF, hLF⟩ : ∃ LF, LF = fs.length := ⟨_, rfl⟩
 rw [← hLF] at CF CS
 rw [← hLF]
 obtain ⟨LN, hLN⟩ : ∃ LN, LN = ts.length := ⟨_, rfl⟩
 rw [← hLN] at hKl
 have HLN := hide hLN
 clear hts hok h hLN hLF
 cases hfar : farA fs with
 | true =>
  rw [hfar] at CF
  clear HSM hfar
  go_enter Tryz.func4, Tryz.ntmps4
  go_wp2_with fail
  refine CF.out.mono ?_
  rintro e w1 ⟨rfl, hB⟩
  have HB := hide hB
  clear hB CF
  go_wp2_with fail
  refine (CA.out w1).mono ?_
  rintro e we ⟨rfl, hB⟩
  replace HB := hide (HB.out.trans (hB.mono HB.out.size))
  clear hB
  go_wp2_with fail
  go_ret
  exact ⟨rfl, HB.out⟩
 | false =>
  rw [hfar] at CF
  replace HSM := hide (HSM.out hfar)
  clear hfar
  have C2 := hide (fun W => H.dsk.new 65536 W rfl)
  go_enter Tryz.func4, Tryz.ntmps4
  go_wp2_with fail
  refine CF.out.mono ?_
  rintro e w1 ⟨rfl, hB⟩
  have HB1 := hide hB
  clear hB CF
  go_wp2_with fail
  refine (C2.out w1).mono ?_
  rintro e w2 ⟨q, F0, rfl, hD, hF, hB⟩
  have e0 : newD (Int.toNat 65536) = newD 65536 := rfl
  rw [e0] at hD
  have HB2 := hide (HB1.out.trans (hB.mono HB1.out.size))
  have HF2 : Hid (∀ k, F0 k → w.heap.size ≤ k) := hide (fun k hk => Nat.le_trans HB1.out.size (hF k hk))
  have C3 := hide (wopen_any H.dsk H.scn H.dec H.siz hD HLI.out.on (by simp [newD]))
  rw [(logI_open HLI.out).2] at C3
  clear hD hF hB HB1 C2 e0
  go_wp2_with fail
  refine C3.out.mono ?_
  rintro e w3 ⟨p, v3, rfl, ns, F3, _, _, hW3, hk3, hF3, hH3, _⟩
  obtain ⟨a3, c3, e3, _⟩ := owns_shapeR (Sup.now hH3).1
  subst e3
  obtain ⟨F3', hW3', hF3', hB3'⟩ := SinceL.did HB2.out HF2.out ⟨F3, hW3, hk3, hF3⟩
  have HI : Hid (KeptI D w q p (newD 65536) [] [] (.slice none 0 0) (.slice none 0 0) w3) := hide ⟨F3', hW3', hF3', hB3', HLI.out, KpR.nil⟩
  clear hW3 hk3 hF3 hH3 C3 HB2 HF2 HLI hW3' hF3' hB3'
  generalize newD 65536 = dn at *
  go_wp2_with (go_at_call 13; refine (CS.out _).mono ?_; rintro e Y1 ⟨v1, rfl, rfl, hT⟩; obtain ⟨ao, cap, e1, _, _⟩ := hT.shape; rw [← HLN.out] at e1; subst e1; have HT := hide hT; clear hT)
  go_loopg [5, 8, 9, 47] LN (fun g x xf xp i wr => ∃ (k p : Nat) (d : Dk) (fl pl : List RecV) (af ap : Option Addr) (nf cf np cp : Nat), k + g = LN ∧ x = .pointer (some ⟨p, 0, none⟩) ∧ xf = .slice af nf cf ∧ xp = .slice ap np cp ∧ i = .int .i64 k ∧ nf + np ≤ 8192 ∧ Hid (fl.length = nf ∧ pl.length = np) ∧ Hid (KeptI D w q p d fl pl (.slice af nf cf) (.slice ap np cp) wr))
  case atStart => exact ⟨0, p, dn, [], [], none, none, 0, 0, 0, 0, by omega, rfl, rfl, rfl, rfl, by omega, hide ⟨rfl, rfl⟩, HI⟩
  case round =>
   clear HI
   obtain ⟨k, p, d, fl, pl, af, ap, nf, cf, np, cp, hk, rfl, rfl, rfl, rfl, hnp, HLE, HI⟩ := hrel
   have HBW : Hid (Below w.heap.size w wr) := hide HI.out.choose_spec.2.2.1
   cases gk with
   | zero =>
    obtain rfl : k = LN := by omega
    have hz : ¬ ((k : Int) < (k : Int)) := by omega
    go_wp2_with fail
    refine (CA.out wr).mono ?_
    rintro e we ⟨rfl, hB⟩
    have HE := hide (HBW.out.trans (hB.mono HBW.out.size))
    clear hB
    go_wp2_with fail
    go_ret
    exact ⟨rfl, HE.out⟩
   | succ g =>
    have hz : (k : Int) < (LN : Int) := by omega
    have hkn : k < ts.length := by rw [← HLN.out]; omega
    obtain ⟨en, b, off, e9, hb, hcl⟩ := (HT.out.below HBW.out).at recWA.len hkn
    obtain rfl := e9
    have HRg : Hid (wr.rangeAt b (off + k * 6) (wactE ts[k])) := hide (fun j v hv => hcl j v hv)
    have HAW := hide (HOK.out _ (List.getElem_mem hkn))
    have hl8 := (HSM.out _ (List.getElem_mem hkn)).1
    generalize ts[k] = a at *
    obtain ⟨ro, rc, to, tc, e1, e2⟩ := wact_shape HAW.out
    obtain ⟨kind, recs, fuse, keep, cut, tail, rv, tv⟩ := a
    dsimp only at e1 e2 hl8
    subst e1; subst e2
    have hka := HAW.out.kind
    have hkp := HAW.out.k
    dsimp only at hka hkp
    have hrem : (kind : Int).tmod 7 = ((kind % 7 : Nat) : Int) := by
     rw [Int.tmod_eq_emod_of_nonneg (by omega)]; omega
    have hZB := alloc_below12 wr (.cells zeroWA 46)
    have HZ := hide (box_new wr zeroWA 46)
    have HZB := hide hZB
    have hr7 : kind % 7 < 7 := Nat.mod_lt _ (by decide)
    clear hcl en hb hZB
    obtain ⟨F, hWL, hFw, _, hLG, hKP⟩ := HI.out
    have hbl : d.bs.length ≤ 100000000 := by have := (logI_small hLG).2; omega
    have HFB : Hid (¬ F wr.heap.size) := hide (fun hf => Nat.lt_irrefl _ (H.dsk.lt hWL.dsk _ hf))
    have HWL := hide hWL
    have HFW := hide hFw
    have HLG := hide hLG
    have HKP := hide hKP
    have HDO : Hid (∀ W, Below wr.heap.size wr W → Calls Tryz.prog 16 #[.pointer (some ⟨p, 0, none⟩), .agg (wactA ⟨kind, recs, fuse, keep, cut, tail, .slice ro recs.length rc, .slice to tail.length tc⟩)] W fun e w' => e = .returned (.int .i64 (wacA d (kind % 7) (rows recs) keep)) ∧ WDid D W w' p q F (wacD d (kind % 7) (rows recs) keep)) := hide (fun W hB => wdoes_any H (HWL.out.below H.dsk hB) hbl _ (HAW.out.below (HBW.out.trans (hB.mono HBW.out.size))) hl8)
    have HRR : Hid (RSrc recVE w (.slice ro recs.length rc) recs ∧ (∀ r ∈ recs, RvLie w r) ∧ (∀ r ∈ recs, SlOk r) ∧ ∀ m ∈ rows recs, RecOk m) := hide ⟨HAW.out.src, fun r hr => (HAW.out.ok r hr).lies, fun r hr => (HAW.out.ok r hr).sl, rows_ok (fun r hr => (HAW.out.ok r hr).lies)⟩
    clear hWL hFw hLG hKP HI
    generalize kind % 7 = r at *
    have hcs : (r = 0 ∨ r = 3) ∨ r = 1 ∨ r = 4 ∨ (r = 2 ∨ r = 5 ∨ r = 6) := by omega
    clear hr7
    rcases hcs with hr | rfl | rfl | hr
    ·have hwa := wac_app hr (d := d) (rows recs) keep
     rw [hwa.1, hwa.2] at HDO
     clear hwa
     have HAP := hide (logI_app HLG.out HRR.out.2.2.2)
     have HNO := hide (logI_app_no (l := rows recs) HLG.out)
     obtain ⟨A, hA⟩ : ∃ A, A = wapA d (rows recs) := ⟨_, rfl⟩
     obtain ⟨d5, hd5⟩ : ∃ d5, d5 = wapD d (rows recs) := ⟨_, rfl⟩
     rw [← hA, ← hd5] at HDO HAP HNO
     clear hA hd5
     have q0 : r = 0 ∨ (r = 3 ∧ ((r : Int) == 0) = false) := by
      rcases hr with h | h
      ·exact .inl h
      ·exact .inr ⟨h, by simp; omega⟩
     clear hr
     rcases q0 with rfl | ⟨rfl, q0⟩
     all_goals
      go_wp2_with (first | (refine wpList_load_mid rfl 46 _ rfl b (off + k * 6) rfl (wactE ⟨kind, recs, fuse, keep, cut, tail, .slice ro recs.length rc, .slice to tail.length tc⟩) _ HRg.out Tryz.underlying46 rfl infoWA ?_) | (refine wp_store_box rfl rfl _ _ rfl wr.heap.size rfl (cs' := wactA ⟨kind, recs, fuse, keep, cut, tail, .slice ro recs.length rc, .slice to tail.length tc⟩) rfl HZ.out rfl infoWA (wact_one rfl rfl) ?_; intro w4 hb4 hk4; have HX4 := hide hb4; have HK4 : Hid (Below wr.heap.size wr w4) := hide (HZB.out.trans (hk4.below HZB.out.size (fun k hk => by omega))); have y0 := hb4.cell 0 (.int .u8 (kind : Int)) rfl; clear hb4 hk4) | (refine wp_load_box rfl _ rfl wr.heap.size rfl HX4.out Tryz.underlying46 rfl infoWA ?_))
      refine (HDO.out w4 HK4.out).mono ?_
      rintro e w5 ⟨rfl, F5, hW5, hk5, hF5⟩
      have HKP5 := hide ((HKP.out.below HK4.out).keep hk5 hF5)
      have HX5 := hide (HX4.out.keep hk5 HFB.out)
      have hB5 : Below w.heap.size w w5 := (HBW.out.trans (HK4.out.mono HBW.out.size)).trans (hk5.below (HBW.out.trans (HK4.out.mono HBW.out.size)).size HFW.out)
      have HB5 := hide hB5
      have HW5 := hide hW5
      have HF5 : Hid (∀ j, F5 j → w.heap.size ≤ j) := hide (fun j hj => (hF5 j hj).elim (HFW.out j) (fun h => Nat.le_trans (HBW.out.trans (HK4.out.mono HBW.out.size)).size h))
      clear hW5 hk5 hF5 hB5 y0 HX4 HDO
      by_cases hA : A = 0
      ·subst hA
       have HLG5 := hide (HAP.out rfl)
       rw [← rows_app] at HLG5
       have y1 := HX5.out.cell 1 (.slice ro recs.length rc) rfl
       have HR5 := hide (HRR.out.1.below HB5.out)
       have H1 : Hid (∀ x ∈ recs, ∀ u ∈ recVE x, u.oneCell' = true) := hide (fun x hx => rv_one (HRR.out.2.2.1 x hx))
       have hnl : pl.length = np := HLE.out.2
       have HNL := hide hnl
       clear hnl
       go_wp2_with (at_builtin; refine wp_recs recRV _ rfl _ _ rfl w.heap.size (.slice ap np cp) _ pl recs rfl HKP5.out.rp rfl HR5.out H1.out (by rw [HNL.out]; omega) HB5.out.size ?_; intro v6 w6 ho6 hg6 hv6; have HKP6 := hide (HKP5.out.addp HRR.out.2.1 HB5.out HF5.out (fun j hj => H.dsk.lt HW5.out.dsk j hj) ho6 hg6 hv6); have HK6 : Hid (KeepBut (fun g => (Value.slice ap np cp).ownBlock = some g) w5 w6) := hide (kept_gr hg6); have HB6 := hide (HB5.out.grown hg6 HB5.out.size (fun j hj => (HKP5.out.rp.lt j hj).1)); obtain ⟨a6, c6, e6, _⟩ := owns_shapeR ho6; have HN6 : Hid ((pl ++ recs).length = np + recs.length) := hide (by rw [List.length_append, HNL.out]); rw [HN6.out] at e6; subst e6; clear ho6 hg6 hv6)
       have HW6 : Hid (WL D w6 p q F5 d5) := hide ⟨HW5.out.box.keep HK6.out (own_ne_box HKP5.out.rp HW5.out.box (by decide)), H.dsk.keep HW5.out.dsk HK6.out (fun j hj hg => HKP5.out.pF j hg hj), HW5.out.out⟩
       have HI6 : Hid (KeptI D w q p d5 fl (pl ++ recs) (.slice af nf cf) (.slice a6 (np + recs.length) c6) w6) := hide ⟨F5, HW6.out, HF5.out, HB6.out, HLG5.out, HKP6.out⟩
       have hn6 : nf + (np + recs.length) ≤ 8192 := by have := HI6.out.small; rw [HN6.out, HLE.out.1] at this; exact this
       clear y1
       go_wp2_with fail
       go_roundg g
       case measure => omega
       case rel => exact ⟨k + 1, p, d5, fl, pl ++ recs, af, a6, nf, cf, np + recs.length, c6, by omega, rfl, rfl, rfl, by first | rfl | go_num, hn6, hide ⟨HLE.out.1, HN6.out⟩, HI6⟩
      ·have HE5 := hide (HNO.out hA)
       have hcb : (A == 0) = false := by simp [hA]
       have HI5 : Hid (KeptI D w q p d5 fl pl (.slice af nf cf) (.slice ap np cp) w5) := hide ⟨F5, HW5.out, HF5.out, HB5.out, by rw [HE5.out]; exact HLG.out, HKP5.out⟩
       clear hA
       go_wp2_with fail
       go_roundg g
       case measure => omega
       case rel => exact ⟨k + 1, p, d5, fl, pl, af, ap, nf, cf, np, cp, by omega, rfl, rfl, rfl, by first | rfl | go_num, hnp, HLE, HI5⟩
    ·have HFO := hide (logI_force HLG.out)
     have hw1 : wacA d 1 (rows recs) keep = forA d := rfl
     have hw2 : wacD d 1 (rows recs) keep = forD d := rfl
     rw [hw1, hw2, HFO.out.1] at HDO
     clear hw1 hw2
     have HLG5 := hide HFO.out.2
     rw [← rows_app] at HLG5
     generalize forD d = d5 at *
     clear HFO
     go_wp2_with (first | (refine wpList_load_mid rfl 46 _ rfl b (off + k * 6) rfl (wactE ⟨kind, recs, fuse, keep, cut, tail, .slice ro recs.length rc, .slice to tail.length tc⟩) _ HRg.out Tryz.underlying46 rfl infoWA ?_) | (refine wp_store_box rfl rfl _ _ rfl wr.heap.size rfl (cs' := wactA ⟨kind, recs, fuse, keep, cut, tail, .slice ro recs.length rc, .slice to tail.length tc⟩) rfl HZ.out rfl infoWA (wact_one rfl rfl) ?_; intro w4 hb4 hk4; have HX4 := hide hb4; have HK4 : Hid (Below wr.heap.size wr w4) := hide (HZB.out.trans (hk4.below HZB.out.size (fun k hk => by omega))); have y0 := hb4.cell 0 (.int .u8 (kind : Int)) rfl; clear hb4 hk4) | (refine wp_load_box rfl _ rfl wr.heap.size rfl HX4.out Tryz.underlying46 rfl infoWA ?_))
     refine (HDO.out w4 HK4.out).mono ?_
     rintro e w5 ⟨rfl, F5, hW5, hk5, hF5⟩
     have HKP5 := hide ((HKP.out.below HK4.out).keep hk5 hF5)
     have hB5 : Below w.heap.size w w5 := (HBW.out.trans (HK4.out.mono HBW.out.size)).trans (hk5.below (HBW.out.trans (HK4.out.mono HBW.out.size)).size HFW.out)
     have HB5 := hide hB5
     have HW5 := hide hW5
     have HF5 : Hid (∀ j, F5 j → w.heap.size ≤ j) := hide (fun j hj => (hF5 j hj).elim (HFW.out j) (fun h => Nat.le_trans (HBW.out.trans (HK4.out.mono HBW.out.size)).size h))
     clear hW5 hk5 hF5 hB5 y0 HX4 HDO
     have HR5 := hide (RSrc.of_own HKP5.out.rp)
     have HV5 := hide (fun r (hr : r ∈ fl ++ pl) => (Sup.now HKP5.out.rs r hr).sl12)
     have H1 : Hid (∀ x ∈ pl, ∀ u ∈ recVE x, u.oneCell' = true) := hide (fun x hx => rv_one (HV5.out x (List.mem_append.2 (.inr hx))))
     go_wp2_with (at_builtin; refine wp_recs recRV _ rfl _ _ rfl w.heap.size (.slice af nf cf) _ fl pl rfl HKP5.out.rf rfl HR5.out H1.out (by rw [HLE.out.1, HLE.out.2]; omega) HB5.out.size ?_; intro v6 w6 ho6 hg6 hv6; have HKP6 := hide (HKP5.out.force (fun j hj => H.dsk.lt HW5.out.dsk j hj) ho6 hg6 hv6); have HK6 : Hid (KeepBut (fun g => (Value.slice af nf cf).ownBlock = some g) w5 w6) := hide (kept_gr hg6); have HB6 := hide (HB5.out.grown hg6 HB5.out.size (fun j hj => (HKP5.out.rf.lt j hj).1)); obtain ⟨a6, c6, e6, _⟩ := owns_shapeR ho6; have HN6 : Hid ((fl ++ pl).length = nf + np) := hide (by rw [List.length_append, HLE.out.1, HLE.out.2]); rw [HN6.out] at e6; subst e6; clear ho6 hg6 hv6)
     have HW6 : Hid (WL D w6 p q F5 d5) := hide ⟨HW5.out.box.keep HK6.out (own_ne_box HKP5.out.rf HW5.out.box (by decide)), H.dsk.keep HW5.out.dsk HK6.out (fun j hj hg => HKP5.out.fF j hg hj), HW5.out.out⟩
     have HI6 : Hid (KeptI D w q p d5 (fl ++ pl) [] (.slice a6 (nf + np) c6) (.slice none 0 0) w6) := hide ⟨F5, HW6.out, HF5.out, HB6.out, HLG5.out, HKP6.out⟩
     go_roundg g
     case measure => omega
     case rel => exact ⟨k + 1, p, d5, fl ++ pl, [], a6, none, nf + np, c6, 0, 0, by omega, rfl, rfl, rfl, by first | rfl | go_num, by omega, hide ⟨HN6.out, rfl⟩, HI6⟩
    ·have HLO := hide (logI_loss HLG.out keep cut)
     have hpl : (rows pl).length = np := by rw [rows_len]; exact HLE.out.2
     have hfl : (rows fl).length = nf := by rw [rows_len]; exact HLE.out.1
     rw [hpl] at HLO
     obtain ⟨hA, j, hj, hr1, hI1, hr2, ho2⟩ := HLO.out
     have HST := hide hA
     have HR1 := hide hr1
     have HI1 := hide hI1
     have HR2 := hide hr2
     have HO2 := hide ho2
     have HSF := hide (sta_facts (d := faiD d) rfl keep cut)
     have hbl5 : (faiD d).bs.length ≤ 100000000 := hbl
     clear hA hr1 hI1 hr2 ho2 HLO HDO
     obtain ⟨ds, hds⟩ : ∃ ds, ds = staD (faiD d) keep cut [] := ⟨_, rfl⟩
     rw [← hds] at HR1 HI1 HR2 HO2 HSF
     have HDS := hide hds
     clear hds
     go_wp2_with (first | (refine wpList_load_mid rfl 46 _ rfl b (off + k * 6) rfl (wactE ⟨kind, recs, fuse, keep, cut, tail, .slice ro recs.length rc, .slice to tail.length tc⟩) _ HRg.out Tryz.underlying46 rfl infoWA ?_) | (refine wp_store_box rfl rfl _ _ rfl wr.heap.size rfl (cs' := wactA ⟨kind, recs, fuse, keep, cut, tail, .slice ro recs.length rc, .slice to tail.length tc⟩) rfl HZ.out rfl infoWA (wact_one rfl rfl) ?_; intro w4 hb4 hk4; have HX4 := hide hb4; have HK4 : Hid (Below wr.heap.size wr w4) := hide (HZB.out.trans (hk4.below HZB.out.size (fun k hk => by omega))); have y0 := hb4.cell 0 (.int .u8 (kind : Int)) rfl; clear hb4 hk4))
     refine (H.dsk.fai (HWL.out.below H.dsk HK4.out).dsk).mono ?_
     rintro e w5 ⟨rfl, F5, hD5, hk5, hF5⟩
     have HKP5 := hide ((HKP.out.below HK4.out).keep hk5 hF5)
     have HX5 := hide (HX4.out.keep hk5 HFB.out)
     have hB4 := HBW.out.trans (HK4.out.mono HBW.out.size)
     have HB5 := hide (hB4.trans (hk5.below hB4.size HFW.out))
     have HF5 : Hid (∀ j, F5 j → w.heap.size ≤ j) := hide (fun j hj => (hF5 j hj).elim (HFW.out j) (fun h => Nat.le_trans hB4.size h))
     have HD5 := hide hD5
     have HX5F : Hid (¬ F5 wr.heap.size) := hide (fun hf => (hF5 _ hf).elim HFB.out (fun h => by have := HX4.out.lt; omega))
     have y3 := HX5.out.cell 3 (.int .i64 keep) rfl
     have y4 := HX5.out.cell 4 (.bool cut) rfl
     have C5 := hide (H.dsk.sta keep cut (.slice none 0 0) [] hD5 (Lies.nil _ _) (by simp) (by simp) hbl5 hkp.2)
     rw [HST.out, ← HDS.out] at C5
     clear hD5 hk5 hF5 y0 HX4 hB4 HD5 HST
     go_wp2_with fail
     refine C5.out.mono ?_
     rintro e w6 ⟨rfl, F6, hD6, hk6, hF6⟩
     have HKP6 := hide (HKP5.out.keep hk6 hF6)
     have HB6 := hide (HB5.out.trans (hk6.below HB5.out.size HF5.out))
     have HF6 : Hid (∀ j, F6 j → w.heap.size ≤ j) := hide (fun j hj => (hF6 j hj).elim (HF5.out j) (fun h => Nat.le_trans HB5.out.size h))
     have hbs6 : ds.bs.length ≤ 100000000 := by have := HSF.out.2; omega
     have C6 := hide (wopen_any H.dsk H.scn H.dec H.siz hD6 HSF.out.1 hbs6)
     have HBL7 : Hid ((opnD ds).bs.length ≤ 100000000) := hide (by have := (logI_small HI1.out).2; omega)
     have HON7 := hide HI1.out.on
     clear hD6 hk6 hF6 C5 y3 y4 HX5 HX5F HKP5 HB5 HF5 hbl5 hbs6 HSF HFB HWL HFW HKP HLG HRR HAW
     rw [HR1.out] at C6
     have HOP := hide HO2.out
     generalize opnD ds = dp at *
     clear HR1
     go_wp2_with fail
     refine C6.out.mono ?_
     rintro e w7 ⟨p7, v7, rfl, ns7, F7, hns7, _, hW7, hk7, hF7, hH7, hl7⟩
     have HKP7 := hide (HKP6.out.keep hk7 hF7)
     have HB7 := hide (HB6.out.trans (hk7.below HB6.out.size HF6.out))
     have HF7 : Hid (∀ j, F7 j → w.heap.size ≤ j) := hide (fun j hj => (hF7 j hj).elim (HF6.out j) (fun h => Nat.le_trans HB6.out.size h))
     have HH7 := hide hH7
     have HW7 := hide hW7
     have HN7 := hide hns7
     obtain ⟨a7, c7, e7, _⟩ := owns_shapeR (Sup.now hH7).1
     subst e7
     have C7 := hide (wopen_any H.dsk H.scn H.dec H.siz hW7.dsk HON7.out HBL7.out)
     rw [HR2.out, HOP.out] at C7
     clear hns7 hW7 hk7 hF7 hH7 C6 HKP6 HB6 HF6 HON7 HBL7 HR2 HO2
     go_wp2_with fail
     refine C7.out.mono ?_
     rintro e w8 ⟨p8, v8, rfl, ns8, F8, hns8, _, hW8, hk8, hF8, hH8, hl8'⟩
     have HKP8 := hide (HKP7.out.keep hk8 hF8)
     have HB8 := hide (HB7.out.trans (hk8.below HB7.out.size HF7.out))
     have HF8 : Hid (∀ j, F8 j → w.heap.size ≤ j) := hide (fun j hj => (hF8 j hj).elim (HF7.out j) (fun h => Nat.le_trans HB7.out.size h))
     have HH : Hid (Sup F8 w8 (fun W => W.ownsRow w6.heap.size 87 31 (.slice a7 ns7.length c7) ns7.length (flat recVE ns7) ∧ ∀ r ∈ ns7, RvLie W r)) := hide (Sup.keep HH7.out hk8 (fun _ _ h => h) hF8)
     have HW8 : Hid (WL D w8 p7 q F8 dp) := hide ⟨HW7.out.box.keep hk8 HW7.out.out, hW8.dsk, fun hf => by
      rcases hF8 p7 hf with h | h
      ·exact HW7.out.out h
      ·exact Nat.lt_irrefl _ (Nat.lt_of_lt_of_le HW7.out.box.lt h)⟩
     have HN8 := hide hns8
     have hH8n := Sup.now hH8
     obtain ⟨a8, c8, e8, _⟩ := owns_shapeR hH8n.1
     subst e8
     have H8 : Hid (RSrc recVE w8 (.slice a8 ns8.length c8) ns8 ∧ ∀ r ∈ ns8, RvLie w8 r) := hide ⟨RSrc.of_own hH8n.1, hH8n.2⟩
     have H7 : Hid (RSrc recVE w8 (.slice a7 ns7.length c7) ns7 ∧ ∀ r ∈ ns7, RvLie w8 r) := hide ⟨RSrc.of_own (Sup.now HH.out).1, (Sup.now HH.out).2⟩
     clear hns8 hW8 hk8 hF8 hH8 hH8n C7 HKP7 HB7 HF7 HH7 HW7 HOP
     have HEQ : Hid (rows ns7 = rows ns8) := hide (by rw [HN7.out, HN8.out])
     have HL7 : Hid (ns7.length = nf + j) := hide (by
      have := congrArg List.length HN7.out
      rw [rows_len, List.length_append, List.length_take, hfl, hpl] at this
      omega)
     have HZS : Hid (rows ns7 = rows (fl ++ pl.take j)) := hide (by rw [HN7.out, rows_app]; unfold rows; rw [List.map_take])
     have CO7 : Hid (∀ W, Below w8.heap.size w8 W → Calls Tryz.prog 27 #[.slice a7 ns7.length c7] W fun e w' => ∃ v', e = .returned v' ∧ w'.ownsRow W.heap.size 89 31 v' ns7.length (flat recVE ns7) ∧ Below W.heap.size W w') := hide (fun W hB => ours12_any _ ns7 W (H7.out.1.below hB) (fun r hr => (H7.out.2 r hr).sl12) (by omega))
     have CO8 : Hid (∀ W, Below w8.heap.size w8 W → Calls Tryz.prog 27 #[.slice a8 ns8.length c8] W fun e w' => ∃ v', e = .returned v' ∧ w'.ownsRow W.heap.size 89 31 v' ns8.length (flat recVE ns8) ∧ Below W.heap.size W w') := hide (fun W hB => ours12_any _ ns8 W (H8.out.1.below hB) (fun r hr => (H8.out.2 r hr).sl12) (by omega))
     have hl7b := hl7
     clear HN7 HN8 hl8' hpl hfl
     go_wp2_with fail
     refine (CO7.out w8 (Below.refl _ _)).mono ?_
     rintro e w9 ⟨v9, rfl, ho9, hB9⟩
     have HR9 := hide (RSrc.of_own ho9)
     have HB9 := hide hB9
     obtain ⟨a9, c9, e9, _⟩ := owns_shapeR ho9
     subst e9
     clear ho9 hB9
     go_wp2_with fail
     refine (CO8.out w9 HB9.out).mono ?_
     rintro e wa ⟨va, rfl, hoa, hBa⟩
     have HRa := hide (RSrc.of_own hoa)
     have HR9a := hide (HR9.out.below hBa)
     have HBa := hide (HB9.out.trans (hBa.mono HB9.out.size))
     obtain ⟨aa, ca, ea, _⟩ := owns_shapeR hoa
     subst ea
     clear hoa hBa HR9 HB9
     go_wp2_with fail
     refine (same12_any HS _ _ ns7 ns8 wa HR9a.out HRa.out (fun r hr => (H7.out.2 r hr).below HBa.out) (fun r hr => (H8.out.2 r hr).below HBa.out)).mono ?_
     rintro e wb ⟨rfl, hBb⟩
     rw [decide_eq_true HEQ.out]
     have HBb := hide (HBa.out.trans (hBb.mono HBa.out.size))
     clear hBb HRa HR9a HBa HEQ H8 CO8
     obtain ⟨zs, hzs⟩ : ∃ zs, zs = fl ++ pl.take j := ⟨_, rfl⟩
     obtain ⟨LZ, hLZ⟩ : ∃ LZ, LZ = zs.length := ⟨_, rfl⟩
     have HZE : Hid (fl ++ pl.take j = zs ∧ zs.length = LZ) := hide ⟨hzs.symm, hLZ.symm⟩
     rw [← hzs] at HZS
     clear hzs hLZ
     have HRW : Hid (decide (rows ns7 = rows zs) = true) := hide (decide_eq_true HZS.out)
     have HLB : Hid (∀ W, Below w8.heap.size w8 W → ∀ r ∈ zs, RvLie W r) := hide (fun W hB r hr => by
      rw [← HZE.out.1] at hr
      have hm : r ∈ fl ++ pl := by
       rcases List.mem_append.1 hr with h | h
       ·exact List.mem_append.2 (.inl h)
       ·exact List.mem_append.2 (.inr (List.mem_of_mem_take h))
      exact (Sup.now HKP8.out.rs r hm).below hB)
     have HPS : Hid (RSrc recVE w8 (.slice ap np cp) pl) := hide (RSrc.of_own HKP8.out.rp)
     have HFS : Hid (RSrc recVE w8 (.slice af nf cf) fl) := hide (RSrc.of_own HKP8.out.rf)
     have hcp : np ≤ cp := by
      obtain ⟨_, _, e, h, _⟩ := HPS.out.shape
      cases e
      rw [HLE.out.2] at h
      exact h
     have HPT : Hid (RSrc recVE w8 (.slice ap j cp) (pl.take j)) := hide (by
      have h2 : RSrc recVE w8 (.slice ap pl.length cp) pl := by rw [HLE.out.2]; exact HPS.out
      exact src_takeR h2 recRV.len (by rw [HLE.out.2]; exact hj))
     have HV8 := hide (fun r (hr : r ∈ fl ++ pl) => (Sup.now HKP8.out.rs r hr).sl12)
     have HY1 : Hid (∀ x ∈ pl.take j, ∀ u ∈ recVE x, u.oneCell' = true) := hide (fun x hx => rv_one (HV8.out x (List.mem_append.2 (.inr (List.mem_of_mem_take hx)))))
     have HO1 : Hid (∀ x ∈ fl, ∀ u ∈ recVE x, u.oneCell' = true) := hide (fun x hx => rv_one (HV8.out x (List.mem_append.2 (.inl hx))))
     have hto := fun W => run_toR recRV W ap np cp j (by omega)
     have HBc : Hid (Below w8.heap.size w8 wb.drew) := hide (HBb.out.trans ((below_drewN7 wb 1).mono HBb.out.size))
     have hsub : IntKind.i64.wrap ((ns7.length : Int) - (nf : Int)) = (j : Int) := by have := HL7.out; rw [IntKind.wrap_i64]; omega
     have hsub2 : (ns7.length : Int) - (nf : Int) = (j : Int) := by have := HL7.out; omega
     have hgt1 : decide ((np : Int) < (j : Int)) = false := decide_eq_false (by omega)
     have hgt2 : ¬ (np : Int) < (j : Int) := by omega
     have hgt3 : decide (np < j) = false := decide_eq_false (by omega)
     have hgt4 : ¬ np < j := by omega
     have hfn : fl.length + (pl.take j).length ≤ 100000 := by rw [List.length_take, HLE.out.1]; omega
     have hfn0 : fl.length ≤ 100000 := by rw [HLE.out.1]; omega
     have HFN := hide hfn
     have HFN0 := hide hfn0
     clear hfn hfn0
     go_wp2_with fail
     first | (go_region_held_law (fun _ => True) (trivial) ((first
      | (go_at_call 27; refine (CO7.out _ HBc.out).mono ?_; rintro e wx ⟨vx, rfl, hox, hBx⟩; have HRo := hide (owns_base hox HBc.out.size); (try have HNE := hide (ne_new hox HOa.out)); (try replace HOa := hide (owns_keep HOa.out (KeepBut.of_below (fun _ => False) hBx) (fun _ _ h => h))); (try replace HOb := hide (owns_keep HOb.out (KeepBut.of_below (fun _ => False) hBx) (fun _ _ h => h))); replace HBc := hide (HBc.out.trans (hBx.mono HBc.out.size)); obtain ⟨ax, cx, ex, _⟩ := owns_shapeR hox; subst ex; clear hox hBx)
      | (go_at_call 26; refine (same12_any HS _ _ ns7 zs _ (RSrc.of_own HRo.out) (RSrc.of_own (by rw [HZE.out.2]; exact HOb.out)) (fun r hr => (H7.out.2 r hr).below HBc.out) (HLB.out _ HBc.out)).mono ?_; rintro e wy ⟨rfl, hBy⟩; rw [HRW.out]; replace HBc := hide (HBc.out.trans (hBy.mono HBc.out.size)); clear hBy)
      | (refine step_recs_g recRV _ rfl _ _ rfl w8.heap.size _ _ fl (pl.take j) rfl HOa.out rfl (HPT.out.below HBc.out) HY1.out (by have := HFN.out; omega) HBc.out.size ?_; intro vb wb hob hgb hvb; rw [HZE.out.1, HZE.out.2] at hob; (try replace HRo := hide (owns_keep HRo.out (kept_gr hgb) HNE.out)); replace HBc := hide (HBc.out.grown hgb HBc.out.size (fun j hj => (HOa.out.lt j hj).1)); obtain ⟨ab, cb, eb, _⟩ := owns_shapeR hob; subst eb; have HOb := hide hob; clear hob hgb hvb)
      | (refine step_recs_g recRV _ rfl _ _ rfl w8.heap.size (.slice none 0 0) _ [] fl rfl (World.ownsRow_nil _ _ _ _) rfl (HFS.out.below HBc.out) HO1.out (by have := HFN0.out; simp; omega) HBc.out.size ?_; intro va wa hoa hga hva; rw [List.nil_append] at hoa; (try have HNE := hide (ne_old HRo.out hva)); (try replace HRo := hide (owns_keep HRo.out (kept_gr hga) (fun _ _ h => by cases h))); replace HBc := hide (HBc.out.grown hga HBc.out.size (fun j hj => by cases hj)); obtain ⟨aa2, ca2, ea2, _⟩ := owns_shapeR hoa; rw [HLE.out.1] at ea2; subst ea2; have HOa := hide hoa; clear hoa hga hva)))) | fail
     go_wp2_with fail
     refine (CO7.out _ HBc.out).mono ?_
     rintro e wz ⟨vz, rfl, hoz, hBz⟩
     obtain ⟨az, cz, ez, _⟩ := owns_shapeR hoz
     subst ez
     have hBz8 := HBc.out.trans (hBz.mono HBc.out.size)
     have HI9 : Hid (KeptI D w q p7 dp ns7 [] (.slice az ns7.length cz) (.slice none 0 0) wz) := hide ⟨F8, HW8.out.below H.dsk hBz8, HF8.out, HB8.out.trans (hBz8.mono HB8.out.size), by
      have hi := HI1.out
      rw [← HZE.out.1, rows_app] at HZS
      have e : rows fl ++ (rows pl).take j = rows ns7 := by rw [HZS.out]; unfold rows; rw [List.map_take]
      rw [e] at hi
      exact hi, KpR.fresh HH.out HB8.out.size hBz8 (fun k hk => H.dsk.lt HW8.out.dsk k hk) (owns_base hoz HBc.out.size)⟩
     have hn9 : ns7.length + 0 ≤ 8192 := by have := HI9.out.small; simpa using this
     clear hoz hBz hBz8
     go_wp2_with fail
     go_roundg g
     case measure => omega
     case rel => exact ⟨k + 1, p7, dp, ns7, [], az, none, ns7.length, cz, 0, 0, by omega, rfl, rfl, rfl, by first | rfl | go_num, hn9, hide ⟨rfl, rfl⟩, HI9⟩
    ·have b0 : ((r : Int) == 0) = false := by simp; omega
     have b3 : ((r : Int) == 3) = false := by simp; omega
     have b1 : ((r : Int) == 1) = false := by simp; omega
     have b4 : ((r : Int) == 4) = false := by simp; omega
     have HI4 : Hid (∀ W, Below wr.heap.size wr W → KeptI D w q p d fl pl (.slice af nf cf) (.slice ap np cp) W) := hide (fun W hB => KeptI.below H.dsk ⟨F, HWL.out, HFW.out, HBW.out, HLG.out, HKP.out⟩ hB)
     clear hr HDO HWL HFW HLG HKP HRR HFB
     go_wp2_with (first | (refine wpList_load_mid rfl 46 _ rfl b (off + k * 6) rfl (wactE ⟨kind, recs, fuse, keep, cut, tail, .slice ro recs.length rc, .slice to tail.length tc⟩) _ HRg.out Tryz.underlying46 rfl infoWA ?_) | (refine wp_store_box rfl rfl _ _ rfl wr.heap.size rfl (cs' := wactA ⟨kind, recs, fuse, keep, cut, tail, .slice ro recs.length rc, .slice to tail.length tc⟩) rfl HZ.out rfl infoWA (wact_one rfl rfl) ?_; intro w4 hb4 hk4; have HX4 := hide hb4; have HK4 : Hid (Below wr.heap.size wr w4) := hide (HZB.out.trans (hk4.below HZB.out.size (fun k hk => by omega))); have y0 := hb4.cell 0 (.int .u8 (kind : Int)) rfl; clear hb4 hk4))
     go_roundg g
     case measure => omega
     case rel => exact ⟨k + 1, p, d, fl, pl, af, ap, nf, cf, np, cp, by omega, rfl, rfl, rfl, by first | rfl | go_num, hnp, HLE, hide (HI4.out w4 HK4.out)⟩
end
end
section
open Go.RowKit Go.ChangeShapes Go.WideShapes Go.ChangeAt
namespace DKept
set_option maxRecDepth 100000 in
theorem lifted (os : Os) (started : os.Started) (H : Type) (enc : TypeId × Value → H) :
  ReturnsInHanded {} Tryz.checked os 4 .any (Rows.walKeptSpec.pre6 enc Tryz.prog Tryz.f4 Rows.walKeptRow.domain false) (Rows.walKeptSpec.post enc Tryz.prog Tryz.f4 false true false false) := by
 refine returnsInHanded_of_change_sized (C := Tryz.checked) own started (by kernel_rfl) Tryz.func4
  (ChangeSpec.witness6 (enc := enc) (C := Tryz.checked) false ⟨#[], #[.slice none 0 0], []⟩ 8 (by kernel_rfl) (by kernel_rfl) (by kernel_rfl) (by kernel_rfl)) ?_
 intro W base args ds gs before hval0 hW hcnd hsz _
 have hval : ∀ (j : Nat) t v, Tryz.f4.params[j]? = some t → args[j]? = some v → Value.okWide Tryz.prog W .any base t v := hval0
 have hW' := hW
 obtain ⟨p, q, hA0, hV, rfl, hfz, hnd⟩ := hW
 have hA : DataW.TrodAll enc Tryz.prog W 0 (fun _ => true) true Tryz.f4.params.toList args.toList ds p := hA0
 have hsz2 : ∀ (j : Nat) (t : TypeId) (d : DataW H), Tryz.f4.params.toList[j]? = some t → ds[j]? = some d → ∀ n ∈ d.weights Tryz.prog t, n ≤ 140737488351232 := fun j t d ht hd n hn => by
  have h1 := List.all_eq_true.1 hsz n (DataW.weights_mem_each (j := j) (t := t) (d := d) (by rw [List.getElem?_append_left (List.getElem?_eq_some_iff.1 ht).1]; exact ht) (by rw [List.getElem?_append_left (List.getElem?_eq_some_iff.1 hd).1]; exact hd) n hn)
  have h2 : n ≤ reachBytes := by simpa using h1
  have h3 : reachBytes = 140737488351232 := rfl
  omega
 rw [Tryz.params4] at hA hval hsz2
 obtain ⟨v0, vs0, d0, ds0, p0, q0, hargs, rfl, rfl, h0, r0⟩ := trodAll_cons hA
 obtain ⟨rfl, rfl, rfl⟩ := trodAll_nil r0
 obtain rfl : args = #[v0] := by cases args; simp_all
 obtain ⟨rfl, rfl⟩ := trodVars_none hV
 obtain ⟨a0, len0, cap0, rfl⟩ := okWide_slice Tryz.underlying22 (hval 0 22 v0 rfl rfl)
 have k0 := h0
 have lt0 : ∀ x ∈ p0, x.block < W.heap.size := by obtain ⟨m, hm⟩ := k0; exact DataW.trod_lt m _ _ _ hm
 obtain ⟨xs0, lies0, by0⟩ := wacts_of_trod h0
 clear hA0 hval0
 refine (walkK12 wal_do rsame_do _ xs0 W lies0 by0).mono fun e W' ⟨he, bel⟩ => ?_
 subst he
 exact ⟨_, rfl, _, _, _, [], _, [], hW', trodAll_mk1 (shut_bool Tryz.underlying4 _), (trodAll_cons_mk (Below.trod laidOut (by kernel_rfl) (of_decide_eq_true (by kernel_rfl)) k0 bel lt0) trodAll_mk0), rfl, bel.frame _, fun h => by cases h⟩
theorem over : Rows.walKeptRow.holds Tryz.pinned (OpenSpec.ofChange Rows.walKeptSpec) :=
 OpenClaim.holds_of_wide 4 Tryz.f4 rfl rfl rfl rfl rfl rfl rfl ⟨rfl, rfl, rfl, rfl, rfl⟩ rfl rfl rfl rfl rfl (by kernel_rfl) Tryz.func4 (by kernel_rfl)
  (of_decide_eq_true (by kernel_rfl)) (by unfold Func.isWrapper; first | (rw [if_pos (by decide +kernel)]; kernel_rfl) | (rw [if_neg (by decide +kernel)]; exact ⟨rfl, rfl⟩))
  (fun os started H enc _ => lifted os started H enc)
end DKept
theorem walKept_holds : Rows.WalKeptSaid := DKept.over
#print axioms walKept_holds
end
end Go.Proofs.YtlegliimgjmphaaGreat
