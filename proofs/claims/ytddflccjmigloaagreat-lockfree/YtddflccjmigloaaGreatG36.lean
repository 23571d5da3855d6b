/-
  Own texts put together: LkStp. Own work.
-/
import Derived.Test.YtddflccjmigloaaGreatG35
namespace Go.Proofs.YtddflccjmigloaaGreat
section
open Go.RowKit Go.Maps Classical

/-- A stamp as a map's element. -/
abbrev StE : Type := Nat × TxN
abbrev seA (e : StE) : Array Value := #[.int .u32 (e.1 : Int), .int .u8 (e.2.1 : Int), .int .u32 (e.2.2.1 : Int), .int .u32 (e.2.2.2 : Int)]
abbrev seV (e : StE) : Value := .agg (seA e)
def zStE : StE := (0, (0, 0, 0))
theorem smTy : MapTy 63 34 36 (fun t : TxT => txVN t.1) (fun t => txKey (txI t.1)) seV zStE where
  und := Tryz.underlying63
  keyed := txKeyed
  key := fun k => keyOf_tx (txI k.1) (txI_ok k.2)
  inj := fun k l h => Subtype.ext (txI_inj (txKey_inj (txI_ok k.2) (txI_ok l.2) h))
  inv := fun v kl h => by
    obtain ⟨x, hx, rfl, rfl⟩ := keyOf_tx_inv h
    obtain ⟨t, rfl⟩ := tx_back hx
    exact ⟨t, rfl, rfl⟩
  zero := fun w => by kernel_rfl
  einj := fun a b h => by
    obtain ⟨a1, ⟨a2, a3, a4⟩⟩ := a
    obtain ⟨b1, ⟨b2, b3, b4⟩⟩ := b
    simp at h
    obtain ⟨h1, h2, h3, h4⟩ := h
    have e1 : a1 = b1 := by omega
    have e2 : a2 = b2 := by omega
    have e3 : a3 = b3 := by omega
    have e4 : a4 = b4 := by omega
    rw [e1, e2, e3, e4]
/-- The stamps that users have. -/
def ageG (l : List (UsP KeyT)) (t : TxT) : Option StE := (usL l t.1).map fun u => (u.tm, u.tx)
abbrev SM15 (w : World) (b : Nat) (g : TxT → Option StE) (n : Nat) : Prop := GMap 34 (fun t : TxT => txKey (txI t.1)) seV w b g n
/-- As far as the first of them go. -/
def ageT (l : List (UsP KeyT)) (k : Nat) (t : TxT) : Option StE := if t.1 ∈ (l.take k).map (·.tx) then ageG l t else none
theorem ageT_zero (l : List (UsP KeyT)) (t : TxT) : ageT l 0 t = none := by simp [ageT]
theorem ageT_all (l : List (UsP KeyT)) (t : TxT) : ageT l l.length t = ageG l t := by
  unfold ageT
  rw [List.take_length]
  split
  · rfl
  · rename_i h
    have : usL l t.1 = none := usL_none.2 fun x hx e => h (List.mem_map.2 ⟨x, hx, e⟩)
    unfold ageG
    rw [this]; rfl
theorem ageG_of {l : List (UsP KeyT)} (h : LkB l) {u : UsP KeyT} (hu : u ∈ l) (ht : TxB u.tx) : ageG l ⟨u.tx, ht⟩ = some (u.tm, u.tx) := by
  unfold ageG
  rw [(usL_some h).2 ⟨hu, rfl⟩]; rfl
theorem ageT_step {l : List (UsP KeyT)} (h : LkB l) {k : Nat} (hk : k < l.length) {y : UsP KeyT} (hy : l[k] = y) (ht : TxB y.tx) (t : TxT) : (if t = ⟨y.tx, ht⟩ then some (y.tm, y.tx) else ageT l k t) = ageT l (k + 1) t := by
  have hm : y ∈ l := hy ▸ List.getElem_mem hk
  by_cases e : t = ⟨y.tx, ht⟩
  · rw [if_pos e, e]
    unfold ageT
    rw [if_pos, ageG_of h hm ht]
    exact List.mem_map.2 ⟨y, by rw [List.take_succ_eq_append_getElem hk, hy]; simp, rfl⟩
  · rw [if_neg e]
    have e2 : t.1 ≠ y.tx := fun x => e (Subtype.ext x)
    have : (t.1 ∈ (l.take (k + 1)).map (·.tx)) = (t.1 ∈ (l.take k).map (·.tx)) := by
      rw [List.take_succ_eq_append_getElem hk, hy, List.map_append]
      simp [e2]
    unfold ageT
    simp only [this]
theorem st_as {l : List (UsP KeyT)} {k : Nat} {y : UsP KeyT} {ht : TxB y.tx} {e : StE} {d d2 : ∀ t : TxT, Decidable (t = ⟨y.tx, ht⟩)} (he : e = (y.tm, y.tx)) (h : ∀ t : TxT, @ite _ (t = ⟨y.tx, ht⟩) (d2 t) (some (y.tm, y.tx)) (ageT l k t) = ageT l (k + 1) t) (t : TxT) : @ite _ (t = ⟨y.tx, ht⟩) (d t) (some e) (ageT l k t) = ageT l (k + 1) t := by
  have h9 := h t
  rw [he]
  by_cases c : t = ⟨y.tx, ht⟩
  · rw [if_pos c] at h9 ⊢
    exact h9
  · rw [if_neg c] at h9 ⊢
    exact h9
theorem act_stamp {w : World} {p : Nat} {a : LAct} {u : Value} (h : Box w p (lactA a u) 41) : w.rangeAt p 1 (seA (a.tm, a.t)).toList := fun j v hv => by
  have : j < 4 := by
    have := (List.getElem?_eq_some_iff.1 hv).1
    simpa using this
  match j, this with
  | 0, _ => exact h.cell 1 _ (by simpa using hv)
  | 1, _ => exact h.cell 2 _ (by simpa using hv)
  | 2, _ => exact h.cell 3 _ (by simpa using hv)
  | 3, _ => exact h.cell 4 _ (by simpa using hv)
theorem build_se (w : World) (t : TxN) : (Instr.build 36 #[(1, txVN t)]).run Tryz.prog w = .ok (.agg #[.int .u32 0, .int .u8 (t.1 : Int), .int .u32 (t.2.1 : Int), .int .u32 (t.2.2 : Int)]) w := by kernel_rfl

variable {D : World → Nat → (Nat → Prop) → Nat → List (UsP KeyT) → Prop}
/-- What the law's stamps answers. -/
structure StpV (l' : List (UsP KeyT)) (w : World) (e : Ending) (w' : World) : Prop where
  ex : ∃ b' n', e = .returned (.map (some b')) ∧ SM15 w' b' (ageG l') n' ∧ w.heap.size ≤ b' ∧ Below w.heap.size w w'
set_option maxRecDepth 100000 in
set_option maxHeartbeats 6400000 in
theorem stamps_any15 (H : LockDo D) (a : LAct) (u : Value) {w : World} {q C bw nw : Nat} {F : Nat → Prop} {l l' : List (UsP KeyT)} (hD : D w q F C l') (hI : LkI l') (hI0 : LkI l) (hM : SM15 w bw (ageG l) nw) (hok : LvOk w ⟨a, u⟩)
    (hwho : ∀ v ∈ l', (∃ u ∈ l, v.tx = u.tx ∧ v.tm = u.tm) ∨ (usL l v.tx = none ∧ v.tx = a.t ∧ v.tm = newTm a)) :
    Calls Tryz.prog 25 #[ptr15 q, .map (some bw), .agg (lactA a u)] w fun e w' => StpV l' w e w' := by
  have hA := alloc_below14 w (.cells (lactA a u) 41)
  have hXA := box_new w (lactA a u) 41
  obtain ⟨wA, hwA⟩ : ∃ wA, wA = w.alloc (.cells (lactA a u) 41) := ⟨_, rfl⟩
  obtain ⟨p5, hp5⟩ : ∃ p5, p5 = w.heap.size := ⟨_, rfl⟩
  rw [← hwA] at hA hXA
  rw [← hp5] at hXA
  have hmm := @run_makeMap Tryz.prog
  have hMA := alloc_below14 wA (.map #[] 0)
  have hM0 := gmap_made smTy wA
  obtain ⟨bo, hbo⟩ : ∃ bo, bo = wA.heap.size := ⟨_, rfl⟩
  obtain ⟨w1, hw1⟩ : ∃ w1, w1 = wA.alloc (.map #[] 0) := ⟨_, rfl⟩
  rw [← hw1, ← hbo] at hM0
  rw [← hw1] at hMA
  have HXA := hide (hXA.belowI hMA)
  have hB1 := hA.trans (hMA.mono hA.size)
  have HB1 := hide hB1
  have HBO : Hid (w.heap.size ≤ bo) := hide (by rw [hbo]; exact hA.size)
  have HBL : Hid (bo < w1.heap.size) := hide (by rw [hbo, hw1]; simp)
  have HPB : Hid (p5 ≠ bo) := hide (by have h9 : p5 < wA.heap.size := by rw [hp5, hwA]; simp
                                       omega)
  have HM1 : Hid (SM15 w1 bo (ageT l' 0) 0) := hide (hM0.as (fun k => (ageT_zero l' k).symm))
  have HMW := hide hM
  have HI := hide hI
  have HI0 := hide hI0
  have HWHO := hide hwho
  have HOA := hide hok
  have HD1 := H.keep hD (KeepBut.of_below (fun _ => False) hB1) (fun _ _ e => e)
  have CU := hide (H.users HD1)
  obtain ⟨LL, hLL⟩ : ∃ LL, LL = l'.length := ⟨_, rfl⟩
  have hLm : LL ≤ 64 := by rw [hLL]; exact hI.b.few
  have HLL := hide hLL
  have hWA := hwA.symm
  have hP5 := hp5.symm
  have hW1 := hw1.symm
  have hBO := hbo.symm
  have hrem : (a.kd : Int).tmod 5 = ((a.kd % 5 : Nat) : Int) := by
    rw [Int.tmod_eq_emod_of_nonneg (by omega)]; omega
  obtain ⟨r, hr⟩ : ∃ r, r = a.kd % 5 := ⟨_, rfl⟩
  rw [← hr] at hrem
  have HRR := hide hr
  have hr5 : r < 5 := by omega
  have hbs := build_se
  clear hD hM hI hI0 hok hwho hA hXA hwA hp5 hMA hM0 hbo hw1 hB1 HD1 hLL hr
  go_enter Tryz.func25, Tryz.ntmps25
  go_wp2_with (go_at_call 15; refine CU.out.mono ?_; rintro e w7 ⟨vu, rfl, hou, hB7⟩; have HOU := hide hou; obtain ⟨ua, uc, e7, _⟩ := owns_shapeR hou; rw [← HLL.out] at e7; subst e7; have HM7 : Hid (SM15 w7 bo (ageT l' 0) 0) := hide (HM1.out.below hB7); have HB7 := hide (HB1.out.trans (hB7.mono HB1.out.size)); have HX7 := hide (HXA.out.belowI hB7); clear hou hB7)
  clear CU HM1 HB1 HXA hWA hP5 hW1 hBO hmm
  go_loopg [16] LL (fun g i wr => ∃ (k n : Nat), k + g = LL ∧ i = .int .i64 k ∧ n ≤ k ∧ Hid (SM15 wr bo (ageT l' k) n) ∧ Hid (KeepBut (fun j => j = bo) w7 wr))
  case atStart => exact ⟨0, 0, by omega, rfl, by omega, HM7, hide (KeepBut.refl _ _)⟩
  case round =>
    clear HM7
    obtain ⟨k, n, hk, rfl, hn, HM, HK⟩ := hrel
    have HB : Hid (Below w.heap.size w wr) := hide (HB7.out.trans (HK.out.below HB7.out.size (fun j e => by rw [e]; exact HBO.out)))
    cases gk with
    | zero =>
      obtain rfl : k = LL := by omega
      have hz : ¬ ((k : Int) < (k : Int)) := by omega
      have HMZ : Hid (SM15 wr bo (ageG l') n) := hide (HM.out.as (fun t => by rw [HLL.out]; exact ageT_all l' t))
      go_wp2_with fail
      go_ret
      exact ⟨⟨_, _, rfl, HMZ.out, HBO.out, HB.out⟩⟩
    | succ g =>
      have hz : (k : Int) < (LL : Int) := by omega
      have hkn : k < l'.length := by rw [← HLL.out]; omega
      have hsu := src_users (owns_keep HOU.out HK.out (fun g hg e => by have h1 := (HOU.out.lt g hg).1; have h2 := HBL.out; omega))
      obtain ⟨en, b, off, rfl, hb, hcl⟩ := hsu.at (K := 3) (fun _ => rfl) hkn
      have HRg : Hid (wr.rangeAt b (off + k * 3) (txCs (txI l'[k].tx))) := hide (fun j v hv => hcl j v hv)
      have HTX := hide (HI.out.b.oks _ (List.getElem_mem hkn)).1
      have HST := hide (ageT_step HI.out.b hkn rfl HTX.out)
      have hwh := HWHO.out _ (List.getElem_mem hkn)
      generalize l'[k] = y at *
      have HG1 : Hid ((ageG l ⟨y.tx, HTX.out⟩ = some (y.tm, y.tx)) ∨ (ageG l ⟨y.tx, HTX.out⟩ = none ∧ y.tx = a.t ∧ y.tm = newTm a)) := hide (by
        rcases hwh with ⟨v, hv, e1, e2⟩ | ⟨h0, h1, h2⟩
        · refine .inl ?_
          unfold ageG
          rw [(usL_some HI0.out.b).2 ⟨hv, e1.symm⟩, e1, e2]
          rfl
        · refine .inr ⟨?_, h1, h2⟩
          unfold ageG
          rw [h0]
          rfl)
      clear hcl en hb hsu hwh
      have HZ := hide (box_new wr #[.int .u8 0, .int .u32 0, .int .u32 0] 34)
      have HZB : Hid (Below wr.heap.size wr (wr.alloc (.cells #[.int .u8 0, .int .u32 0, .int .u32 0] 34))) := hide (alloc_below14 wr _)
      have hws := HB.out.size
      rcases HG1.out with hg | ⟨hg, hat, htm⟩
      · have HG := hide hg
        clear hg HG1
        go_wp2_with (first | (refine wpList_load_mid rfl 34 _ rfl b (off + k * 3) rfl (txCs (txI y.tx)) _ HRg.out Tryz.underlying34 rfl infoTx15 ?_) | (refine wp_store_box rfl rfl _ _ rfl wr.heap.size rfl (cs' := #[.int .u8 (y.tx.1 : Int), .int .u32 (y.tx.2.1 : Int), .int .u32 (y.tx.2.2 : Int)]) rfl HZ.out rfl infoTx15 (by simp [Value.oneCell']) ?_; intro w8 hb3 hk3; have HX8 := hide hb3; have HB8 : Hid (Below wr.heap.size wr w8) := hide (HZB.out.trans (hk3.below HZB.out.size (fun k hk => by omega))); have HN8 : Hid (wr.heap.size < w8.heap.size) := hide hb3.lt; have L8 := (HMW.out.below (HB.out.trans (HB8.out.mono HB.out.size))).look smTy ⟨y.tx, HTX.out⟩; rw [HG.out] at L8; simp only [Option.getD_some, Option.isSome_some] at L8; have HZ9 := hide (box_new w8 #[.int .u32 0, .int .u8 0, .int .u32 0, .int .u32 0] 36); have HZC := hide (alloc_below14 w8 (.cells #[.int .u32 0, .int .u8 0, .int .u32 0, .int .u32 0] 36)); clear hb3 hk3) | (refine wp_store_box rfl rfl _ _ rfl w8.heap.size rfl (cs' := seA (y.tm, y.tx)) rfl HZ9.out rfl infoSt15 (by simp [Value.oneCell']) ?_; intro w9 hb4 hk4; have HX9 := hide hb4; have HC9 : Hid (Below w8.heap.size w8 w9) := hide (HZC.out.trans (hk4.below HZC.out.size (fun k hk => by omega))); have HX8b := hide (HX8.out.belowI HC9.out); have HB9 : Hid (Below wr.heap.size wr w9) := hide (HB8.out.trans (HC9.out.mono HB8.out.size)); have HXB := hide ((HX7.out.keep HK.out (fun e => HPB.out e)).belowI HB9.out); have c0 : w9.cell? ⟨p5, 0, none⟩ = some (.int .u8 (a.kd : Int)) := HXB.out.cell 0 _ rfl; have HSR := hide (act_stamp HXB.out); obtain ⟨w10, hput, hm10, hk10⟩ := (HM.out.below HB9.out).put smTy (by unfold maxLen; omega) ⟨y.tx, HTX.out⟩ (y.tm, y.tx); have HM10 := hide hm10; have HK10 := hide hk10; clear hb4 hk4 hm10 hk10) | (refine wp_load_box rfl _ rfl wr.heap.size rfl HX8.out Tryz.underlying34 rfl infoTx15 ?_) | (refine wp_load_box rfl _ rfl wr.heap.size rfl HX8b.out Tryz.underlying34 rfl infoTx15 ?_) | (refine wp_load_box rfl _ rfl w8.heap.size rfl HX9.out Tryz.underlying36 rfl infoSt15 ?_))
        go_roundg g
        case measure => omega
        case rel => exact ⟨k + 1, _, by omega, by first | rfl | go_num, by first | (split <;> omega) | omega, hide (HM10.out.as (st_as rfl HST.out)), hide ((HK.out.trans (KeepBut.of_below (fun _ => False) HB9.out) (fun _ _ e => e.elim)).trans HK10.out (fun _ _ e => e))⟩
      · have HG := hide hg
        have HAT := hide hat
        have HTM := hide htm
        clear hg HG1 hat htm
        by_cases h4 : r = 4
        · have hz4 : (r : Int) = 4 := by omega
          have HE : Hid (((0, y.tx) : StE) = (y.tm, y.tx)) := hide (by rw [HTM.out]; unfold newTm; rw [if_pos (by rw [← HRR.out]; exact h4)])
          clear h4
          go_wp2_with (first | (refine wpList_load_mid rfl 34 _ rfl b (off + k * 3) rfl (txCs (txI y.tx)) _ HRg.out Tryz.underlying34 rfl infoTx15 ?_) | (refine wp_store_box rfl rfl _ _ rfl wr.heap.size rfl (cs' := #[.int .u8 (y.tx.1 : Int), .int .u32 (y.tx.2.1 : Int), .int .u32 (y.tx.2.2 : Int)]) rfl HZ.out rfl infoTx15 (by simp [Value.oneCell']) ?_; intro w8 hb3 hk3; have HX8 := hide hb3; have HB8 : Hid (Below wr.heap.size wr w8) := hide (HZB.out.trans (hk3.below HZB.out.size (fun k hk => by omega))); have HN8 : Hid (wr.heap.size < w8.heap.size) := hide hb3.lt; have L8 := (HMW.out.below (HB.out.trans (HB8.out.mono HB.out.size))).look smTy ⟨y.tx, HTX.out⟩; rw [HG.out] at L8; simp only [Option.getD_none, Option.isSome_none] at L8; have HZ9 := hide (box_new w8 #[.int .u32 0, .int .u8 0, .int .u32 0, .int .u32 0] 36); have HZC := hide (alloc_below14 w8 (.cells #[.int .u32 0, .int .u8 0, .int .u32 0, .int .u32 0] 36)); clear hb3 hk3) | (refine wp_store_box rfl rfl _ _ rfl w8.heap.size rfl (cs' := seA zStE) rfl HZ9.out rfl infoSt15 (by simp [Value.oneCell']) ?_; intro w9 hb4 hk4; have HX9 := hide hb4; have HC9 : Hid (Below w8.heap.size w8 w9) := hide (HZC.out.trans (hk4.below HZC.out.size (fun k hk => by omega))); have HX8b := hide (HX8.out.belowI HC9.out); have HB9 : Hid (Below wr.heap.size wr w9) := hide (HB8.out.trans (HC9.out.mono HB8.out.size)); have HXB := hide ((HX7.out.keep HK.out (fun e => HPB.out e)).belowI HB9.out); have c0 : w9.cell? ⟨p5, 0, none⟩ = some (.int .u8 (a.kd : Int)) := HXB.out.cell 0 _ rfl; have HSR := hide (act_stamp HXB.out); obtain ⟨w10, hput, hm10, hk10⟩ := (HM.out.below HB9.out).put smTy (by unfold maxLen; omega) ⟨y.tx, HTX.out⟩ (0, y.tx); replace hput : (Instr.mapUpdate 63 (.map (some bo)) (txVN y.tx) (.agg #[.int .u32 0, .int .u8 (y.tx.1 : Int), .int .u32 (y.tx.2.1 : Int), .int .u32 (y.tx.2.2 : Int)])).run Tryz.prog w9 = .ok () w10 := hput; have HM10 := hide hm10; have HK10 := hide hk10; clear hb4 hk4 hm10 hk10) | (refine wp_load_box rfl _ rfl wr.heap.size rfl HX8.out Tryz.underlying34 rfl infoTx15 ?_) | (refine wp_load_box rfl _ rfl wr.heap.size rfl HX8b.out Tryz.underlying34 rfl infoTx15 ?_) | (refine wp_load_box rfl _ rfl w8.heap.size rfl HX9.out Tryz.underlying36 rfl infoSt15 ?_))
          go_roundg g
          case measure => omega
          case rel => exact ⟨k + 1, _, by omega, by first | rfl | go_num, by first | (split <;> omega) | omega, hide (HM10.out.as (st_as HE.out HST.out)), hide ((HK.out.trans (KeepBut.of_below (fun _ => False) HB9.out) (fun _ _ e => e.elim)).trans HK10.out (fun _ _ e => e))⟩
        · have hz4 : ¬ (r : Int) = 4 := by omega
          have HE : Hid (((a.tm, a.t) : StE) = (y.tm, y.tx)) := hide (by rw [HTM.out, HAT.out]; unfold newTm; rw [if_neg (by rw [← HRR.out]; exact h4)])
          clear h4
          go_wp2_with (first | (refine wpList_load_mid rfl 34 _ rfl b (off + k * 3) rfl (txCs (txI y.tx)) _ HRg.out Tryz.underlying34 rfl infoTx15 ?_) | (refine wp_store_box rfl rfl _ _ rfl wr.heap.size rfl (cs' := #[.int .u8 (y.tx.1 : Int), .int .u32 (y.tx.2.1 : Int), .int .u32 (y.tx.2.2 : Int)]) rfl HZ.out rfl infoTx15 (by simp [Value.oneCell']) ?_; intro w8 hb3 hk3; have HX8 := hide hb3; have HB8 : Hid (Below wr.heap.size wr w8) := hide (HZB.out.trans (hk3.below HZB.out.size (fun k hk => by omega))); have HN8 : Hid (wr.heap.size < w8.heap.size) := hide hb3.lt; have L8 := (HMW.out.below (HB.out.trans (HB8.out.mono HB.out.size))).look smTy ⟨y.tx, HTX.out⟩; rw [HG.out] at L8; simp only [Option.getD_none, Option.isSome_none] at L8; have HZ9 := hide (box_new w8 #[.int .u32 0, .int .u8 0, .int .u32 0, .int .u32 0] 36); have HZC := hide (alloc_below14 w8 (.cells #[.int .u32 0, .int .u8 0, .int .u32 0, .int .u32 0] 36)); clear hb3 hk3) | (refine wp_store_box rfl rfl _ _ rfl w8.heap.size rfl (cs' := seA zStE) rfl HZ9.out rfl infoSt15 (by simp [Value.oneCell']) ?_; intro w9 hb4 hk4; have HX9 := hide hb4; have HC9 : Hid (Below w8.heap.size w8 w9) := hide (HZC.out.trans (hk4.below HZC.out.size (fun k hk => by omega))); have HX8b := hide (HX8.out.belowI HC9.out); have HB9 : Hid (Below wr.heap.size wr w9) := hide (HB8.out.trans (HC9.out.mono HB8.out.size)); have HXB := hide ((HX7.out.keep HK.out (fun e => HPB.out e)).belowI HB9.out); have c0 : w9.cell? ⟨p5, 0, none⟩ = some (.int .u8 (a.kd : Int)) := HXB.out.cell 0 _ rfl; have HSR := hide (act_stamp HXB.out); obtain ⟨w10, hput, hm10, hk10⟩ := (HM.out.below HB9.out).put smTy (by unfold maxLen; omega) ⟨y.tx, HTX.out⟩ (a.tm, a.t); have HM10 := hide hm10; have HK10 := hide hk10; clear hb4 hk4 hm10 hk10) | (refine wp_load_box rfl _ rfl wr.heap.size rfl HX8.out Tryz.underlying34 rfl infoTx15 ?_) | (refine wp_load_box rfl _ rfl wr.heap.size rfl HX8b.out Tryz.underlying34 rfl infoTx15 ?_) | (refine wp_load_box rfl _ rfl w8.heap.size rfl HX9.out Tryz.underlying36 rfl infoSt15 ?_) | (refine wpList_load_mid rfl 36 _ rfl p5 1 rfl (seA (a.tm, a.t)).toList _ HSR.out Tryz.underlying36 rfl infoSt15 ?_))
          go_roundg g
          case measure => omega
          case rel => exact ⟨k + 1, _, by omega, by first | rfl | go_num, by first | (split <;> omega) | omega, hide (HM10.out.as (st_as HE.out HST.out)), hide ((HK.out.trans (KeepBut.of_below (fun _ => False) HB9.out) (fun _ _ e => e.elim)).trans HK10.out (fun _ _ e => e))⟩
end
end Go.Proofs.YtddflccjmigloaaGreat
