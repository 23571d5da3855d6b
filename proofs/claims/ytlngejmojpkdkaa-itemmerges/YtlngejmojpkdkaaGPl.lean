/-
  ItemPlays: a table takes any items, in any order, as the document says. Over any table that fulfils the bundle. Own work.
-/
import Derived.Test.YtlngejmojpkdkaaGRefb
import Derived.Test.YtlngejmojpkdkaaG17
import Derived.Deep.LoopGhost
import Derived.Deep.RegionHeld
namespace Go.Proofs.Ytlngejmojpkdkaa
section
open Go.RowKit Classical

theorem en13_ins : ∀ args w, (callFunc 12 args).run Try.prog w = .ok (.enter 12 args) w := enters_of Try.func12 (by kernel_rfl) rfl
theorem en13_rins : ∀ args w, (callFunc 13 args).run Try.prog w = .ok (.enter 13 args) w := enters_of Try.func13 (by kernel_rfl) rfl
theorem en13_all : ∀ args w, (callFunc 15 args).run Try.prog w = .ok (.enter 15 args) w := enters_of Try.func15 (by kernel_rfl) rfl
theorem en13_sw : ∀ args w, (callFunc 14 args).run Try.prog w = .ok (.enter 14 args) w := enters_of Try.func14 (by kernel_rfl) rfl
theorem neq_int13 (R : Int) (w : World) : (binOp .neq 3 (.int .i64 R) (.int .i64 R)).run Try.prog w = .ok (.bool false) w := by simp [go_sem]
theorem yt_wit {ρ : Operand → Value} {w : World} {dst : Option Tmp} {ty : TypeId} {pos : String} {aft : Array Edge} {gd : Option (Nat × Bool)} (x : Operand) {p : Nat} (hx : ρ x = .pointer (some ⟨p, 0, none⟩)) : (execOp ρ ⟨dst, .fieldAddr 38 x 1, ty, pos, aft, gd⟩).run Try.prog w = .ok (.value (.pointer (some ⟨p, 8, none⟩))) w := by simp [go_sem, hx]
theorem zeroIt_ok13 : ItOk zeroIt := ⟨by decide, (fun c hc => by cases hc), (show Cf.Ok zeroCf from ⟨by decide, by decide, by decide, by decide, by decide⟩)⟩
def RP8 (i : Nat) (w w' : World) : Prop := (i = 5 ∨ i = 10) ∨ Below w.heap.size w w'
def IP8 (q p bx : Nat) (x : WrP) (R : Int) (t' : List WrP) : Nat → Value → World → Prop
  | 0, v, _ => v = .pointer (some ⟨q, 0, none⟩)
  | 1, v, _ => v = .pointer (some ⟨bx, 0, none⟩)
  | 2, v, _ => v = .agg (eightA x.key)
  | 3, v, _ => v = .pointer (some ⟨bx, 8, none⟩)
  | 4, v, _ => v = .agg (itA x.it)
  | 5, v, _ => v = .int .i64 R
  | 6, v, _ => v = .pointer (some ⟨bx, 0, none⟩)
  | 7, v, _ => v = .agg (eightA x.key)
  | 8, v, _ => v = .pointer (some ⟨bx, 8, none⟩)
  | 9, v, _ => v = .agg (itA x.it)
  | 10, v, _ => v = .int .i64 R
  | 11, v, _ => v = .bool false
  | 12, v, _ => v = .bool false
  | 13, v, _ => v = .pointer (some ⟨q, 0, none⟩)
  | 14, v, W => RSrc wrE W v t'
  | 15, v, _ => v = .pointer (some ⟨p, 0, none⟩)
  | 16, v, W => RSrc wrE W v t'
  | 17, v, _ => v = .bool true
  | 18, v, _ => v = .bool false
  | 19, v, _ => v = .bool false
  | 20, v, _ => v = .bool false
  | 21, v, _ => v = .pointer (some ⟨q, 0, none⟩)
  | 22, v, _ => v = .int .i64 ((t'.length : Nat) : Int)
  | 23, v, _ => v = .pointer (some ⟨p, 0, none⟩)
  | 24, v, _ => ∃ ao c, v = .slice ao t'.length c
  | 25, v, _ => v = .int .i64 ((t'.length : Nat) : Int)
  | 26, v, _ => v = .bool false
  | 27, v, _ => v = .bool false
  | _, _, _ => True

section
variable {D : World → Nat → (Nat → Prop) → List WrP → Prop}
set_option maxRecDepth 100000 in
set_option maxHeartbeats 12800000 in
theorem walkP13 (H : TableDo D) (v : Value) (fs : List WrP) (w : World) (hL : RSrc wrE w v fs) (hok : ∀ x ∈ fs, KeyOk x.key ∧ ItOk x.it) (hv : ∀ x ∈ fs, x.it.val.length ≤ 9223372036854775807) :
    Calls Try.prog 3 #[v] w fun e w' => e = .returned (.bool true) ∧ Below w.heap.size w w' := by
  obtain ⟨ao, cap, rfl, _, _⟩ := hL.shape
  have HL := hide hL
  have HV := hide hv
  have HOK := hide hok
  have HA := hide (fun w => alive_by13 H w)
  obtain ⟨LF, hLF⟩ : ∃ LF, LF = fs.length := ⟨_, rfl⟩
  rw [← hLF] at HL ⊢
  clear hL hv hok hLF
  go_enter Try.func3, Try.ntmps3
  go_wp2_with fail
  refine (H.new w).mono ?_
  rintro e w1 ⟨q, F1, rfl, hD1, hF1, hB1⟩
  obtain ⟨F, hU⟩ := duo_new H (⟨F1, hD1, hF1, hB1⟩ : Since13 D w q [] w1)
  have HU := hide hU
  have CL := hide (long_any13 _ fs _ (HL.out.below hU.B) HV.out)
  clear hD1 hF1 hB1 hU
  obtain ⟨p, hp⟩ : ∃ p, p = w1.heap.size := ⟨_, rfl⟩
  by_cases hb : 65536 < bulk13 fs
  · rw [decide_eq_true hb] at CL
    clear hb
    go_wp2_with fail
    refine CL.out.mono ?_
    rintro e w2 ⟨rfl, hB2⟩
    have HB2 := hide (HU.out.B.trans (hB2.mono HU.out.B.size))
    clear hB2
    go_wp2_with fail
    refine (HA.out w2).mono ?_
    rintro e w3 ⟨rfl, hB3⟩
    have HB3 := hide (HB2.out.trans (hB3.mono HB2.out.size))
    clear hB3
    go_wp2_with fail
    go_ret
    exact ⟨rfl, HB3.out⟩
  · rw [decide_eq_false hb] at CL
    clear hb
    go_wp2_with fail
    refine CL.out.mono ?_
    rintro e w2 ⟨rfl, hB2⟩
    have HU2 := hide (HU.out.below H hB2)
    have CS := hide (short_any13 _ fs w2 w HL.out)
    rw [← hp] at HU2 ⊢
    clear hB2 CL HU hp
    go_wp2_with fail
    refine CS.out.mono ?_
    rintro e w3 ⟨v3, rfl, hw3, hT⟩
    subst hw3
    obtain ⟨LN, hLN⟩ : ∃ LN, LN = (fs.take 150).length := ⟨_, rfl⟩
    have HLN := hide hLN
    have hln : LN ≤ 150 := by rw [hLN, List.length_take]; omega
    obtain ⟨ao2, cap2, e2, _, _⟩ := hT.shape
    rw [← hLN] at e2
    subst e2
    have HT := hide hT
    have HOK2 : Hid (∀ x ∈ fs.take 150, (KeyOk x.key ∧ ItOk x.it) ∧ x.it.val.length ≤ 9223372036854775807) := hide (fun x hx => ⟨HOK.out x (List.mem_of_mem_take hx), HV.out x (List.mem_of_mem_take hx)⟩)
    clear hT hLN CS HL HV HOK
    generalize fs.take 150 = ts at *
    go_wp2_with fail
    go_loopg [26] LN (fun g ix wr => ∃ (k : Nat) (t : List WrP) (F : Nat → Prop) (vb : Value), k + g = LN ∧ ix = .int .i64 (k : Int) ∧ Hid (Duo13 D w q p F vb t t wr))
    case atStart => exact ⟨0, [], F, .slice none 0 0, by omega, rfl, HU2⟩
    case round =>
      obtain ⟨k, t, F, vb, hk, rfl, HU⟩ := hrel
      cases gk with
      | zero =>
        obtain rfl : k = LN := by omega
        have hz : ¬ ((k : Int) < (k : Int)) := by omega
        go_wp2_with fail
        refine (HA.out wr).mono ?_
        rintro e w5 ⟨rfl, hB5⟩
        have HB5 := hide (HU.out.B.trans (hB5.mono HU.out.B.size))
        clear hB5
        go_wp2_with fail
        go_ret
        exact ⟨rfl, HB5.out⟩
      | succ g =>
        have hz : (k : Int) < (LN : Int) := by omega
        have hkt : k < ts.length := by rw [← HLN.out]; omega
        obtain ⟨en9, b9, o9, e9, hb9, hcl⟩ := (HT.out.below HU.out.B).at recWR.len hkt
        obtain rfl := e9
        have HRG : Hid (wr.rangeAt b9 (o9 + k * 21) (wrE ts[k])) := hide (fun j u hu => hcl j u hu)
        obtain ⟨⟨hxk, hxi⟩, hxv⟩ := HOK2.out _ (List.getElem_mem hkt)
        generalize ts[k] = x at *
        have HXK := hide hxk
        have HXI := hide hxi
        have HXV := hide hxv
        have HZ := hide (box_new wr (wrA zeroWr) 38)
        have HZB := hide (alloc_below13 wr (.cells (wrA zeroWr) 38))
        clear en9 hb9 hcl hxk hxi hxv hkt
        go_wp2_with (first | (refine wpList_load_mid rfl 38 _ rfl b9 (o9 + k * 21) rfl (wrE x) _ HRG.out Try.underlying38 rfl infoWrite ?_) | (refine wp_store_box rfl rfl _ _ rfl wr.heap.size rfl (cs' := wrA x) rfl HZ.out rfl infoWrite (wrA_one13 x) ?_; intro w4 hb4 hk4; have HX4 := hide hb4; have HB4 := hide (HZB.out.trans (hk4.below HZB.out.size (fun j hj => by omega))); clear hb4 hk4))
        have HU4 := hide (HU.out.below H HB4.out)
        have HFL : Hid (∀ j, F j → j < wr.heap.size) := hide (fun j hj => H.lt HU.out.dd j hj)
        have HPL : Hid (p < wr.heap.size) := hide HU.out.rr.box.lt
        obtain ⟨bx, hbx⟩ : ∃ bx, bx = wr.heap.size := ⟨_, rfl⟩
        rw [← hbx] at HX4 HFL HPL ⊢
        have HBX := hide hbx
        have CI : Hid (∀ W, D W q F t → Calls Try.prog 12 #[.pointer (some ⟨q, 0, none⟩), .agg (eightA x.key), .agg (itA x.it)] W fun e w' => e = .returned (.int .i64 (insA t x.key x.it)) ∧ TDid D W w' q F (insD t x.key x.it)) := hide (fun W hD => H.ins x.key x.it hD HXK.out HXI.out HXV.out)
        have CR : Hid (∀ W, RTb W p vb t → Calls Try.prog 13 #[.pointer (some ⟨p, 0, none⟩), .agg (eightA x.key), .agg (itA x.it)] W fun e w' => e = .returned (.int .i64 (insA t x.key x.it)) ∧ RTid W w' p vb (insD t x.key x.it)) := hide (fun W hD => rins_any p vb t x.key x.it W hD HXK.out HXI.out HXV.out)
        clear hbx HRG HZ HZB
        generalize insA t x.key x.it = R at *
        generalize insD t x.key x.it = t' at *
        have hRR : (R == R) = true := by simp
        go_wp2_with fail
        refine wp_region_let (by kernel_rfl) (fun f => [(30, f 0), (31, f 1), (32, f 2), (33, f 3), (34, f 4), (35, f 5), (36, f 6), (37, f 7), (38, f 8), (39, f 9), (40, f 10), (41, f 11), (42, f 12), (43, f 13), (44, f 14), (45, f 15), (46, f 16), (47, f 17), (48, f 18), (49, f 19), (50, f 20), (51, f 21), (52, f 22), (53, f 23), (54, f 24), (55, f 25), (56, f 26), (57, f 27)]) (fun f => rfl) (IP8 q p bx x R t') (fun l W => Box W bx (wrA x) 38 ∧ Ph 5 10 (fun W => Duo13 D w q p F vb t t W) (fun W => ∃ F', Duo13 D w q p F' vb t' t W) (fun W => ∃ F' vb', Duo13 D w q p F' vb' t' t' W) l W) RP8 (by kernel_rfl) ?_ ?_ ?_ ?_
        · intro i j v W W' hij hng hI hR
          by_cases hj : j = 14 ∨ j = 16
          · rcases hR with hi | hB
            · exfalso
              rcases hj with rfl | rfl <;> rcases hi with rfl | rfl <;> exact absurd hng (by decide +kernel)
            · rcases hj with rfl | rfl
              · exact RSrc.below hI hB
              · exact RSrc.below hI hB
          · match j, hI with
            | 0, hI => exact hI
            | 1, hI => exact hI
            | 2, hI => exact hI
            | 3, hI => exact hI
            | 4, hI => exact hI
            | 5, hI => exact hI
            | 6, hI => exact hI
            | 7, hI => exact hI
            | 8, hI => exact hI
            | 9, hI => exact hI
            | 10, hI => exact hI
            | 11, hI => exact hI
            | 12, hI => exact hI
            | 13, hI => exact hI
            | 14, hI => exact absurd (.inl rfl) hj
            | 15, hI => exact hI
            | 16, hI => exact absurd (.inr rfl) hj
            | 17, hI => exact hI
            | 18, hI => exact hI
            | 19, hI => exact hI
            | 20, hI => exact hI
            | 21, hI => exact hI
            | 22, hI => exact hI
            | 23, hI => exact hI
            | 24, hI => exact hI
            | 25, hI => exact hI
            | 26, hI => exact hI
            | 27, hI => exact hI
            | j + 28, hI => trivial
        · exact ⟨HX4.out.belowI (below_drew13 w4), fun _ => HU4.out.below H (below_drew13 w4), fun h => (by cases h), fun h => (by cases h)⟩
        · intro i o hi listed A w1 hsz hN hS hold hdeps
          obtain ⟨hX, hP⟩ := hS
          have hlt : i < 28 := (Array.getElem?_eq_some_iff.1 hi).1
          have hc : i = 0 ∨ i = 1 ∨ i = 2 ∨ i = 3 ∨ i = 4 ∨ i = 5 ∨ i = 6 ∨ i = 7 ∨ i = 8 ∨ i = 9 ∨ i = 10 ∨ i = 11 ∨ i = 12 ∨ i = 13 ∨ i = 14 ∨ i = 15 ∨ i = 16 ∨ i = 17 ∨ i = 18 ∨ i = 19 ∨ i = 20 ∨ i = 21 ∨ i = 22 ∨ i = 23 ∨ i = 24 ∨ i = 25 ∨ i = 26 ∨ i = 27 := by omega
          clear hlt
          rcases hc with rfl | rfl | rfl | rfl | rfl | rfl | rfl | rfl | rfl | rfl | rfl | rfl | rfl | rfl | rfl | rfl | rfl | rfl | rfl | rfl | rfl | rfl | rfl | rfl | rfl | rfl | rfl | rfl
          · obtain rfl := Option.some.inj hi
            have s3 : A.tmps.getD 3 undef = .pointer (some ⟨q, 0, none⟩) := hold 3 (by kernel_rfl)
            exact t_value hi rfl rfl (y_move _ s3) ⟨hX, hP.skip (by decide) (by decide)⟩ (.inr (Below.refl _ _)) rfl
          · obtain rfl := Option.some.inj hi
            have s6 : A.tmps.getD 6 undef = .pointer (some ⟨bx, 0, none⟩) := hold 6 (by kernel_rfl)
            exact t_value hi rfl rfl (yt_wkey _ s6) ⟨hX, hP.skip (by decide) (by decide)⟩ (.inr (Below.refl _ _)) rfl
          · obtain rfl := Option.some.inj hi
            have s31 : A.tmps.getD 31 undef = .pointer (some ⟨bx, 0, none⟩) := slot_I hdeps 1 rfl (by kernel_rfl)
            exact t_value hi rfl rfl (y_loadMid _ _ s31 (wr_key hX) Try.underlying31 rfl infoKey13) ⟨hX, hP.skip (by decide) (by decide)⟩ (.inr (Below.refl _ _)) rfl
          · obtain rfl := Option.some.inj hi
            have s6 : A.tmps.getD 6 undef = .pointer (some ⟨bx, 0, none⟩) := hold 6 (by kernel_rfl)
            exact t_value hi rfl rfl (yt_wit _ s6) ⟨hX, hP.skip (by decide) (by decide)⟩ (.inr (Below.refl _ _)) rfl
          · obtain rfl := Option.some.inj hi
            have s33 : A.tmps.getD 33 undef = .pointer (some ⟨bx, 8, none⟩) := slot_I hdeps 3 rfl (by kernel_rfl)
            exact t_value hi rfl rfl (y_loadMid _ _ s33 (wr_it hX) Try.underlying36 rfl infoIt13) ⟨hX, hP.skip (by decide) (by decide)⟩ (.inr (Below.refl _ _)) rfl
          · obtain rfl := Option.some.inj hi
            have s30 : A.tmps.getD 30 undef = .pointer (some ⟨q, 0, none⟩) := slot_I hdeps 0 rfl (by kernel_rfl)
            have s32 : A.tmps.getD 32 undef = .agg (eightA x.key) := slot_I hdeps 2 rfl (by kernel_rfl)
            have s34 : A.tmps.getD 34 undef = .agg (itA x.it) := slot_I hdeps 4 rfl (by kernel_rfl)
            have h10 : listed.getD 10 true = false := unlisted_of hN.un hN.cl 28 10 (by kernel_rfl)
            have hU := hP.1 hN.un
            exact t_enter hi rfl rfl (y_call 12 _ #[.pointer (some ⟨q, 0, none⟩), .agg (eightA x.key), .agg (itA x.it)] _ rfl (by simp only [List.map_toArray, List.map_cons, List.map_nil, show A.eval (.tmp 30) = .pointer (some ⟨q, 0, none⟩) from s30, show A.eval (.tmp 32) = .agg (eightA x.key) from s32, show A.eval (.tmp 34) = .agg (itA x.it) from s34]; try rfl) en13_ins) (Calls.mono (CI.out w1 hU.dd) fun e w' ⟨he, F5, h5, hk5, hf5⟩ => ⟨_, he, ⟨hX.keep hk5 (fun hf => Nat.lt_irrefl _ (HFL.out _ hf)), Ph.first (by decide) h10 (hU.prog ⟨F5, h5, hk5, hf5⟩)⟩, .inl (.inl rfl), rfl⟩)
          · obtain rfl := Option.some.inj hi
            have s6 : A.tmps.getD 6 undef = .pointer (some ⟨bx, 0, none⟩) := hold 6 (by kernel_rfl)
            exact t_value hi rfl rfl (yt_wkey _ s6) ⟨hX, hP.skip (by decide) (by decide)⟩ (.inr (Below.refl _ _)) rfl
          · obtain rfl := Option.some.inj hi
            have s36 : A.tmps.getD 36 undef = .pointer (some ⟨bx, 0, none⟩) := slot_I hdeps 6 rfl (by kernel_rfl)
            exact t_value hi rfl rfl (y_loadMid _ _ s36 (wr_key hX) Try.underlying31 rfl infoKey13) ⟨hX, hP.skip (by decide) (by decide)⟩ (.inr (Below.refl _ _)) rfl
          · obtain rfl := Option.some.inj hi
            have s6 : A.tmps.getD 6 undef = .pointer (some ⟨bx, 0, none⟩) := hold 6 (by kernel_rfl)
            exact t_value hi rfl rfl (yt_wit _ s6) ⟨hX, hP.skip (by decide) (by decide)⟩ (.inr (Below.refl _ _)) rfl
          · obtain rfl := Option.some.inj hi
            have s38 : A.tmps.getD 38 undef = .pointer (some ⟨bx, 8, none⟩) := slot_I hdeps 8 rfl (by kernel_rfl)
            exact t_value hi rfl rfl (y_loadMid _ _ s38 (wr_it hX) Try.underlying36 rfl infoIt13) ⟨hX, hP.skip (by decide) (by decide)⟩ (.inr (Below.refl _ _)) rfl
          · obtain rfl := Option.some.inj hi
            have s4 : A.tmps.getD 4 undef = .pointer (some ⟨p, 0, none⟩) := hold 4 (by kernel_rfl)
            have s37 : A.tmps.getD 37 undef = .agg (eightA x.key) := slot_I hdeps 7 rfl (by kernel_rfl)
            have s39 : A.tmps.getD 39 undef = .agg (itA x.it) := slot_I hdeps 9 rfl (by kernel_rfl)
            have h5 : listed.getD 5 true = true := listed_dep hN 5 (by kernel_rfl)
            obtain ⟨F5, hU⟩ := hP.2.1 h5 hN.un
            exact t_enter hi rfl rfl (y_call 13 _ #[.pointer (some ⟨p, 0, none⟩), .agg (eightA x.key), .agg (itA x.it)] _ rfl (by simp only [List.map_toArray, List.map_cons, List.map_nil, show A.eval (.tmp 4) = .pointer (some ⟨p, 0, none⟩) from s4, show A.eval (.tmp 37) = .agg (eightA x.key) from s37, show A.eval (.tmp 39) = .agg (itA x.it) from s39]; try rfl) en13_rins) (Calls.mono (CR.out w1 hU.rr) fun e w' ⟨he, vb6, h6, hk6, hf6⟩ => ⟨_, he, ⟨hX.keep hk6 (fun e => by have := HPL.out; omega), Ph.second (by decide) h5 (by obtain ⟨vb', h⟩ := hU.ref H ⟨vb6, h6, hk6, hf6⟩; exact ⟨F5, vb', h⟩)⟩, .inl (.inr rfl), rfl⟩)
          · obtain rfl := Option.some.inj hi
            have s35 : A.tmps.getD 35 undef = .int .i64 R := slot_I hdeps 5 rfl (by kernel_rfl)
            have s40 : A.tmps.getD 40 undef = .int .i64 R := slot_I hdeps 10 rfl (by kernel_rfl)
            exact t_value hi rfl rfl (y_bin _ _ _ _ _ s35 s40 (neq_int13 R w1) (by kernel_rfl)) ⟨hX, hP.skip (by decide) (by decide)⟩ (.inr (Below.refl _ _)) rfl
          · obtain rfl := Option.some.inj hi
            have s41 : A.tmps.getD 41 undef = .bool false := slot_I hdeps 11 rfl (by kernel_rfl)
            exact t_value hi rfl rfl (y_move _ s41) ⟨hX, hP.skip (by decide) (by decide)⟩ (.inr (Below.refl _ _)) rfl
          · obtain rfl := Option.some.inj hi
            have g13 : A.tmps.getD 42 undef = .bool false := slot_I hdeps 12 rfl (by kernel_rfl)
            have s3 : A.tmps.getD 3 undef = .pointer (some ⟨q, 0, none⟩) := hold 3 (by kernel_rfl)
            exact t_value hi (wanted_not rfl rfl g13) rfl (y_move _ s3) ⟨hX, hP.skip (by decide) (by decide)⟩ (.inr (Below.refl _ _)) rfl
          · obtain rfl := Option.some.inj hi
            have g14 : A.tmps.getD 42 undef = .bool false := slot_I hdeps 12 rfl (by kernel_rfl)
            have s43 : A.tmps.getD 43 undef = .pointer (some ⟨q, 0, none⟩) := slot_I hdeps 13 rfl (by kernel_rfl)
            obtain ⟨F9, vb9, hU⟩ := hP.2.2 (listed_hangs hN 12 10 28 (by kernel_rfl) (by kernel_rfl))
            exact t_enter hi (wanted_not rfl rfl g14) rfl (y_call 15 _ #[.pointer (some ⟨q, 0, none⟩)] _ rfl (by simp only [List.map_toArray, List.map_cons, List.map_nil, show A.eval (.tmp 43) = .pointer (some ⟨q, 0, none⟩) from s43]; try rfl) en13_all) (Calls.mono (H.all hU.dd) fun e w' ⟨va, he, hva, hB⟩ => ⟨va, he, ⟨hX.belowI hB, (hP.map (fun h => h.below H hB) (fun ⟨F, h⟩ => ⟨F, h.below H hB⟩) (fun ⟨F, v, h⟩ => ⟨F, v, h.below H hB⟩)).skip (by decide) (by decide)⟩, .inr hB, RSrc.of_own hva⟩)
          · obtain rfl := Option.some.inj hi
            have g15 : A.tmps.getD 42 undef = .bool false := slot_I hdeps 12 rfl (by kernel_rfl)
            have s4 : A.tmps.getD 4 undef = .pointer (some ⟨p, 0, none⟩) := hold 4 (by kernel_rfl)
            exact t_value hi (wanted_not rfl rfl g15) rfl (yt_field _ s4) ⟨hX, hP.skip (by decide) (by decide)⟩ (.inr (Below.refl _ _)) rfl
          · obtain rfl := Option.some.inj hi
            have g16 : A.tmps.getD 42 undef = .bool false := slot_I hdeps 12 rfl (by kernel_rfl)
            have s45 : A.tmps.getD 45 undef = .pointer (some ⟨p, 0, none⟩) := slot_I hdeps 15 rfl (by kernel_rfl)
            obtain ⟨F9, vb9, hU⟩ := hP.2.2 (listed_hangs hN 12 10 28 (by kernel_rfl) (by kernel_rfl))
            exact t_value hi (wanted_not rfl rfl g16) rfl (yt_cell _ s45 (hU.rr.box.cell 0 _ rfl)) ⟨hX, hP.skip (by decide) (by decide)⟩ (.inr (Below.refl _ _)) hU.rr.src
          · obtain rfl := Option.some.inj hi
            have g17 : A.tmps.getD 42 undef = .bool false := slot_I hdeps 12 rfl (by kernel_rfl)
            have s44 : RSrc wrE w1 (A.tmps.getD 44 undef) t' := slot_I hdeps 14 rfl (by kernel_rfl)
            have s46 : RSrc wrE w1 (A.tmps.getD 46 undef) t' := slot_I hdeps 16 rfl (by kernel_rfl)
            obtain ⟨F9, vb9, hU⟩ := hP.2.2 (listed_hangs hN 12 10 28 (by kernel_rfl) (by kernel_rfl))
            have hsw := rsameWrites_any _ _ t' t' w1 s44 s46 hU.rr.oks hU.rr.oks
            rw [decide_eq_true rfl] at hsw
            exact t_enter hi (wanted_not rfl rfl g17) rfl (y_call 14 _ #[A.tmps.getD 44 undef, A.tmps.getD 46 undef] _ rfl (by simp only [List.map_toArray, List.map_cons, List.map_nil]; try rfl) en13_sw) (Calls.mono hsw fun e w' ⟨he, hB⟩ => ⟨_, he, ⟨hX.belowI hB, (hP.map (fun h => h.below H hB) (fun ⟨F, h⟩ => ⟨F, h.below H hB⟩) (fun ⟨F, v, h⟩ => ⟨F, v, h.below H hB⟩)).skip (by decide) (by decide)⟩, .inr hB, rfl⟩)
          · obtain rfl := Option.some.inj hi
            have g18 : A.tmps.getD 42 undef = .bool false := slot_I hdeps 12 rfl (by kernel_rfl)
            have s47 : A.tmps.getD 47 undef = .bool true := slot_I hdeps 17 rfl (by kernel_rfl)
            exact t_value hi (wanted_not rfl rfl g18) rfl (y_not (a := true) _ _ s47) ⟨hX, hP.skip (by decide) (by decide)⟩ (.inr (Below.refl _ _)) rfl
          · obtain rfl := Option.some.inj hi
            have s42 : A.tmps.getD 42 undef = .bool false := slot_I hdeps 12 rfl (by kernel_rfl)
            have s48 : A.tmps.getD 48 undef = .bool false := slot_I hdeps 18 rfl (by kernel_rfl)
            exact t_value hi rfl rfl (y_pickF _ _ _ s42 s48) ⟨hX, hP.skip (by decide) (by decide)⟩ (.inr (Below.refl _ _)) rfl
          · obtain rfl := Option.some.inj hi
            have s49 : A.tmps.getD 49 undef = .bool false := slot_I hdeps 19 rfl (by kernel_rfl)
            exact t_value hi rfl rfl (y_move _ s49) ⟨hX, hP.skip (by decide) (by decide)⟩ (.inr (Below.refl _ _)) rfl
          · obtain rfl := Option.some.inj hi
            have g21 : A.tmps.getD 50 undef = .bool false := slot_I hdeps 20 rfl (by kernel_rfl)
            have s3 : A.tmps.getD 3 undef = .pointer (some ⟨q, 0, none⟩) := hold 3 (by kernel_rfl)
            exact t_value hi (wanted_not rfl rfl g21) rfl (y_move _ s3) ⟨hX, hP.skip (by decide) (by decide)⟩ (.inr (Below.refl _ _)) rfl
          · obtain rfl := Option.some.inj hi
            have g22 : A.tmps.getD 50 undef = .bool false := slot_I hdeps 20 rfl (by kernel_rfl)
            have s51 : A.tmps.getD 51 undef = .pointer (some ⟨q, 0, none⟩) := slot_I hdeps 21 rfl (by kernel_rfl)
            obtain ⟨F9, vb9, hU⟩ := hP.2.2 (listed_hangs hN 20 10 28 (by kernel_rfl) (by kernel_rfl))
            exact t_enter hi (wanted_not rfl rfl g22) rfl (y_call 16 _ #[.pointer (some ⟨q, 0, none⟩)] _ rfl (by simp only [List.map_toArray, List.map_cons, List.map_nil, show A.eval (.tmp 51) = .pointer (some ⟨q, 0, none⟩) from s51]; try rfl) en13_len) (Calls.mono (H.len hU.dd) fun e w' ⟨he, hB⟩ => ⟨_, he, ⟨hX.belowI hB, (hP.map (fun h => h.below H hB) (fun ⟨F, h⟩ => ⟨F, h.below H hB⟩) (fun ⟨F, v, h⟩ => ⟨F, v, h.below H hB⟩)).skip (by decide) (by decide)⟩, .inr hB, rfl⟩)
          · obtain rfl := Option.some.inj hi
            have g23 : A.tmps.getD 50 undef = .bool false := slot_I hdeps 20 rfl (by kernel_rfl)
            have s4 : A.tmps.getD 4 undef = .pointer (some ⟨p, 0, none⟩) := hold 4 (by kernel_rfl)
            exact t_value hi (wanted_not rfl rfl g23) rfl (yt_field _ s4) ⟨hX, hP.skip (by decide) (by decide)⟩ (.inr (Below.refl _ _)) rfl
          · obtain rfl := Option.some.inj hi
            have g24 : A.tmps.getD 50 undef = .bool false := slot_I hdeps 20 rfl (by kernel_rfl)
            have s53 : A.tmps.getD 53 undef = .pointer (some ⟨p, 0, none⟩) := slot_I hdeps 23 rfl (by kernel_rfl)
            obtain ⟨F9, vb9, hU⟩ := hP.2.2 (listed_hangs hN 20 10 28 (by kernel_rfl) (by kernel_rfl))
            exact t_value hi (wanted_not rfl rfl g24) rfl (yt_cell _ s53 (hU.rr.box.cell 0 _ rfl)) ⟨hX, hP.skip (by decide) (by decide)⟩ (.inr (Below.refl _ _)) (by obtain ⟨ao, c, e, _⟩ := hU.rr.src.shape; exact ⟨ao, c, e⟩)
          · obtain rfl := Option.some.inj hi
            have g25 : A.tmps.getD 50 undef = .bool false := slot_I hdeps 20 rfl (by kernel_rfl)
            have s54 : ∃ ao c, (A.tmps.getD 54 undef) = .slice ao t'.length c := slot_I hdeps 24 rfl (by kernel_rfl)
            obtain ⟨ao, c, s54⟩ := s54
            exact t_value hi (wanted_not rfl rfl g25) rfl (y_len _ _ s54 Try.underlying22) ⟨hX, hP.skip (by decide) (by decide)⟩ (.inr (Below.refl _ _)) rfl
          · obtain rfl := Option.some.inj hi
            have g26 : A.tmps.getD 50 undef = .bool false := slot_I hdeps 20 rfl (by kernel_rfl)
            have s52 : A.tmps.getD 52 undef = .int .i64 ((t'.length : Nat) : Int) := slot_I hdeps 22 rfl (by kernel_rfl)
            have s55 : A.tmps.getD 55 undef = .int .i64 ((t'.length : Nat) : Int) := slot_I hdeps 25 rfl (by kernel_rfl)
            exact t_value hi (wanted_not rfl rfl g26) rfl (y_bin _ _ _ _ _ s52 s55 (neq_int13 _ w1) (by kernel_rfl)) ⟨hX, hP.skip (by decide) (by decide)⟩ (.inr (Below.refl _ _)) rfl
          · obtain rfl := Option.some.inj hi
            have s50 : A.tmps.getD 50 undef = .bool false := slot_I hdeps 20 rfl (by kernel_rfl)
            have s56 : A.tmps.getD 56 undef = .bool false := slot_I hdeps 26 rfl (by kernel_rfl)
            exact t_value hi rfl rfl (y_pickF _ _ _ s50 s56) ⟨hX, hP.skip (by decide) (by decide)⟩ (.inr (Below.refl _ _)) rfl
        · intro listed w9 f hall hS hI
          obtain ⟨hX9, hP9⟩ := hS
          obtain ⟨F9, vb9, hU9⟩ := hP9.2.2 (hall 10 (by decide))
          have HX9 := hide hX9
          have HU9 := hide hU9
          have e0 : f 0 = .pointer (some ⟨q, 0, none⟩) := hI 0 (by decide)
          have e1 : f 1 = .pointer (some ⟨bx, 0, none⟩) := hI 1 (by decide)
          have e2 : f 2 = .agg (eightA x.key) := hI 2 (by decide)
          have e3 : f 3 = .pointer (some ⟨bx, 8, none⟩) := hI 3 (by decide)
          have e4 : f 4 = .agg (itA x.it) := hI 4 (by decide)
          have e5 : f 5 = .int .i64 R := hI 5 (by decide)
          have e6 : f 6 = .pointer (some ⟨bx, 0, none⟩) := hI 6 (by decide)
          have e7 : f 7 = .agg (eightA x.key) := hI 7 (by decide)
          have e8 : f 8 = .pointer (some ⟨bx, 8, none⟩) := hI 8 (by decide)
          have e9 : f 9 = .agg (itA x.it) := hI 9 (by decide)
          have e10 : f 10 = .int .i64 R := hI 10 (by decide)
          have e11 : f 11 = .bool false := hI 11 (by decide)
          have e12 : f 12 = .bool false := hI 12 (by decide)
          have e13 : f 13 = .pointer (some ⟨q, 0, none⟩) := hI 13 (by decide)
          have e15 : f 15 = .pointer (some ⟨p, 0, none⟩) := hI 15 (by decide)
          have e17 : f 17 = .bool true := hI 17 (by decide)
          have e18 : f 18 = .bool false := hI 18 (by decide)
          have e19 : f 19 = .bool false := hI 19 (by decide)
          have e20 : f 20 = .bool false := hI 20 (by decide)
          have e21 : f 21 = .pointer (some ⟨q, 0, none⟩) := hI 21 (by decide)
          have e22 : f 22 = .int .i64 ((t'.length : Nat) : Int) := hI 22 (by decide)
          have e23 : f 23 = .pointer (some ⟨p, 0, none⟩) := hI 23 (by decide)
          have e25 : f 25 = .int .i64 ((t'.length : Nat) : Int) := hI 25 (by decide)
          have e26 : f 26 = .bool false := hI 26 (by decide)
          have e27 : f 27 = .bool false := hI 27 (by decide)
          simp only [e0, e1, e2, e3, e4, e5, e6, e7, e8, e9, e10, e11, e12, e13, e15, e17, e18, e19, e20, e21, e22, e23, e25, e26, e27]
          clear hI hall hX9 hP9 hU9 e0 e1 e2 e3 e4 e5 e6 e7 e8 e9 e10 e11 e12 e13 e15 e17 e18 e19 e20 e21 e22 e23 e25 e26 e27
          generalize f 14 = v14
          generalize f 16 = v16
          generalize f 24 = v24
          clear f
          simp only [putAll, Act.put, List.setIfInBounds_toArray, List.set_cons_succ, List.set_cons_zero]
          have HKX9 := hide (wr_key HX9.out)
          have HGO : Hid (ItOk ((getT t' x.key).getD zeroIt)) := hide (by
            cases hg : getT t' x.key with
            | none => exact zeroIt_ok13
            | some i => exact get_ok13 HU9.out.rr.oks HU9.out.rr.ok hg)
          have CG := hide (fun W (hD : D W q F9 t') => H.get x.key hD HXK.out)
          obtain ⟨ar, cr, hvr, _, _⟩ := HU9.out.rr.src.shape
          subst hvr
          have CH : Hid (∀ W, RTb W p (.slice ar t'.length cr) t' → Calls Try.prog 18 #[.pointer (some ⟨p, 0, none⟩), .agg (eightA x.key)] W fun e w' => e = .returned (.tuple #[.agg (itA ((getT t' x.key).getD zeroIt)), .bool (getT t' x.key).isSome]) ∧ Below W.heap.size W w') := hide (fun W h => rget_any p t'.length cr ar t' x.key W (h.box.cell 0 _ rfl) h.box.lt h.src HXK.out (fun y hy => (h.oks y hy).1) (Nat.le_trans h.ok.few (by decide)))
          generalize (getT t' x.key).getD zeroIt = G1 at *
          generalize (getT t' x.key).isSome = B1 at *
          have hq2 : ∀ W, (binOp .neq 36 (.agg (itA G1)) (.agg (itA G1))).run Try.prog W = .ok (.bool false) W := fun W => by rw [neq_it14 HGO.out HGO.out W, decide_eq_true rfl]; rfl
          go_wp2_with (first | (refine wpList_load_mid rfl 31 _ rfl bx 0 rfl (eightE x.key) _ HKX9.out Try.underlying31 rfl infoKey13 ?_))
          refine (CG.out w9 HU9.out.dd).mono ?_
          rintro e wA ⟨rfl, hBA⟩
          have HUA := hide (HU9.out.below H hBA)
          have HXA := hide (HX9.out.belowI hBA)
          have HZA := hide (box_new wA (itA zeroIt) 36)
          have HZAB := hide (alloc_below13 wA (.cells (itA zeroIt) 36))
          have hlx := HXA.out.lt
          clear hBA HKX9 HX9
          go_wp2_with (first | ((with_reducible show wpList _ _ _ (⟨none, .store _ _ _, _, _, _, _⟩ :: _) _ _); refine wp_store_box rfl rfl _ _ rfl wA.heap.size rfl (cs' := itA G1) rfl HZA.out rfl infoIt13 (itA_one13 _) ?_; intro wB hb4 hk4; have HGB := hide hb4; have hBB := HZAB.out.trans (hk4.below HZAB.out.size (fun j hj => by omega)); have HUB := hide (HUA.out.below H hBB); have HXB := hide ((HXA.out.belowI HZAB.out).keep hk4 (by omega)); have HKB := hide (wr_key HXB.out); clear hb4 hk4 hBB) | ((with_reducible show wpList _ _ _ (⟨_, .load 31 _, _, _, _, _⟩ :: _) _ _); refine wpList_load_mid rfl 31 _ rfl bx 0 rfl (eightE x.key) _ HKB.out Try.underlying31 rfl infoKey13 ?_))
          refine (CH.out wB HUB.out.rr).mono ?_
          rintro e wC ⟨rfl, hBC⟩
          have HUC := hide (HUB.out.below H hBC)
          have HGC := hide (HGB.out.belowI hBC)
          have HZC := hide (box_new wC (itA zeroIt) 36)
          have HZCB := hide (alloc_below13 wC (.cells (itA zeroIt) 36))
          have hlg := HGC.out.lt
          have hbb : (B1 == B1) = true := by simp
          have hbn : (B1 != B1) = false := by simp
          clear hBC HKB HXB HUB HGB HUA HXA HZA HZAB
          go_wp2_with (first | ((with_reducible show wpList _ _ _ (⟨none, .store _ _ _, _, _, _, _⟩ :: _) _ _); refine wp_store_box rfl rfl _ _ rfl wC.heap.size rfl (cs' := itA G1) rfl HZC.out rfl infoIt13 (itA_one13 _) ?_; intro wD hb4 hk4; have HHD := hide hb4; have hBD := HZCB.out.trans (hk4.below HZCB.out.size (fun j hj => by omega)); have HUD := hide (HUC.out.below H hBD); have HGD := hide ((HGC.out.belowI HZCB.out).keep hk4 (by omega)); clear hb4 hk4 hBD) | ((with_reducible show wpList _ _ _ (⟨_, .load 36 _, _, _, _, _⟩ :: _) _ _); refine wp_load_box rfl _ rfl wA.heap.size rfl HGD.out Try.underlying36 rfl infoIt13 ?_) | ((with_reducible show wpList _ _ _ (⟨_, .load 36 _, _, _, _, _⟩ :: _) _ _); refine wp_load_box rfl _ rfl wC.heap.size rfl HHD.out Try.underlying36 rfl infoIt13 ?_))
          all_goals
            go_roundg g
            case measure => omega
            case rel => exact ⟨k + 1, t', F9, _, by omega, by first | rfl | go_num, HUD⟩
end
end
end Go.Proofs.Ytlngejmojpkdkaa
