/-
  Walk of the law IdsSets. Own work.
-/
import Derived.Test.YtkdccigcpcchlaaIdInv
import Derived.Test.YtkdccigcpcchlaaIdSame
import Derived.Test.YtkdccigcpcchlaaIdActs
import Derived.Test.YtkdccigcpcchlaaIdLawKit
namespace Go.Proofs.Ytkdccigcpcchlaa
open Go.RowKit Go.Maps

/-- Both sets lie apart. -/
structure Two (w0 w : World) (p b q n : Nat) (D : DataW Unit) (v : Value) (L : List TxP) : Prop where
  set : SetAt w p b n D
  ref : RSet w q v L
  below : Below w0.heap.size w0 w
  pge : w0.heap.size ≤ p
  bge : w0.heap.size ≤ b
  qge : w0.heap.size ≤ q
  pq : p ≠ q
  bq : b ≠ q
  vg : ∀ g, v.ownBlock = some g → w0.heap.size ≤ g ∧ g ≠ p ∧ g ≠ b
theorem Two.later {w0 w w' : World} {p b q n : Nat} {D : DataW Unit} {v : Value} {L : List TxP} (h : Two w0 w p b q n D v L) (hB : Below w.heap.size w w') : Two w0 w' p b q n D v L :=
  ⟨h.set.below hB, h.ref.below hB, h.below.trans (hB.mono h.below.size), h.pge, h.bge, h.qge, h.pq, h.bq, h.vg⟩
theorem Two.step {w0 w w' : World} {p b q n n' : Nat} {D D' : DataW Unit} {v : Value} {L : List TxP} (h : Two w0 w p b q n D v L) (hs : SetAt w' p b n' D') (hk : KeepBut (fun k => k = b) w w') : Two w0 w' p b q n' D' v L :=
  ⟨hs, h.ref.keep hk (fun e => h.bq e.symm) (fun g hg e => (h.vg g hg).2.2 e), h.below.trans (hk.below h.below.size (fun k hk => by rw [hk]; exact h.bge)), h.pge, h.bge, h.qge, h.pq, h.bq, h.vg⟩
theorem Two.rstep {w0 w w' : World} {p b q n : Nat} {D : DataW Unit} {v v' : Value} {L L' : List TxP} (h : Two w0 w p b q n D v L) (hr : RSet w' q v' L') (hk : KeepBut (fun k => k = q) w w') (hg : ∀ g, v'.ownBlock = some g → w.heap.size ≤ g) : Two w0 w' p b q n D v' L' :=
  ⟨h.set.keep hk h.pq h.bq, hr, h.below.trans (hk.below h.below.size (fun k hk => by rw [hk]; exact h.qge)), h.pge, h.bge, h.qge, h.pq, h.bq, fun g e => by
    have h1 := hg g e
    have h2 := h.set.box.lt
    have h3 := h.set.own.lt
    have h4 := h.below.size
    exact ⟨by omega, by omega, by omega⟩⟩
/-- What the loop of the law keeps. -/
def LoopI (w0 w : World) (p b q k : Nat) : Prop := ∃ n D v L, Two w0 w p b q n D v L ∧ Alike D L ∧ n ≤ k ∧ L.length ≤ k
/-- The program's list is the reference's row. -/
theorem list_alike (p b n : Nat) (D : DataW Unit) (L : List TxP) (w : World) (h : SetAt w p b n D) (hA : Alike D L) (hn : n ≤ 1000000) :
    Calls Try.prog 51 #[.pointer (some ⟨p, 0, none⟩)] w fun e w' => ∃ v, e = .returned v ∧ w'.ownsRow w.heap.size 35 3 v L.length (rowOf L) ∧ Below w.heap.size w w' := by
  refine (list_any p b n D w h hn).mono ?_
  rintro e w' ⟨v, ss, rfl, hN, ho, hB⟩
  have hs := hA.sorts hN
  have hl : ss.length = L.length := by rw [← hs, sortT_length]
  rw [hs, hl] at ho
  exact ⟨v, rfl, ho, hB⟩
theorem infoAct : (Try.prog.info? 87).map (·.size) = some 4 := by kernel_rfl
namespace sets5
set_option maxRecDepth 100000 in
set_option maxHeartbeats 8000000 in
theorem walkN (vs : Value) (xs : List ActP) (w : World) (hA : ALies w vs xs) (hok : ∀ a ∈ xs, actOk a) :
    Calls Try.prog 7 #[vs] w fun e w' => e = .returned (.bool true) ∧ Below w.heap.size w w' := by
  obtain ⟨ao, ac, hv, hlc, hno, hmx⟩ := hA.shape
  subst hv
  have HA := hide hA
  have HOK := hide hok
  have HI := hide infoAct
  clear hA hok
  go_enter Try.func7, Try.ntmps7
  go_wp2_with fail
  refine (idNew_any w).mono ?_
  rintro e w1 ⟨p, b, rfl, hS, hp, hb, hB⟩
  have hB2 := hB.alloc hB.size (.cells #[.slice none 0 0] 85)
  have hT : Two w (w1.alloc (.cells #[.slice none 0 0] 85)) p b w1.heap.size 0 (.map []) (.slice none 0 0) [] := ⟨hS.below ((Below.refl _ _).alloc (Nat.le_refl _) _), ⟨box_new w1 _ _, World.ownsRow_nil _ _ _ _, by simp⟩, hB2, hp, hb, hB.size, Nat.ne_of_lt hS.box.lt, Nat.ne_of_lt hS.own.lt, fun g hg => by cases hg⟩
  have HT := hide hT
  clear hS hB hB2 hT
  go_wp2_with fail
  refine (alive_any _).mono ?_
  rintro e w2 ⟨rfl, hB⟩
  have HL0 : Hid (LoopI w w2 p b w1.heap.size 0) := hide ⟨0, .map [], .slice none 0 0, [], HT.out.later hB, Alike.start, Nat.le_refl _, Nat.le_refl _⟩
  generalize w1.heap.size = q at *
  clear hB HT
  obtain ⟨m, hm⟩ : ∃ m : Nat, m = min xs.length 200 := ⟨_, rfl⟩
  have e1 : min (xs.length : Int) 200 = (m : Int) := by omega
  have e2 : max (m : Int) 0 = (m : Int) := by omega
  have hm200 : m ≤ 200 := by omega
  have hmx2 : m ≤ xs.length := by omega
  clear hm
  go_wp2_with fail
  go_loopw [23] (fun i wr => ∃ k : Nat, k ≤ m ∧ i = .int .i64 k ∧ Hid (LoopI w wr p b q k)) (fun i _ => m - (intOf i).toNat)
  case atStart => exact ⟨0, by omega, rfl, HL0⟩
  case round =>
    obtain ⟨k, hk, rfl, HL⟩ := hrel
    by_cases hlt : k < m
    · have d1 : decide ((k : Int) < (m : Int)) = true := by simp; omega
      obtain ⟨n, D, v, L, hT, hAl, hn, hLl⟩ := HL.out
      have hkx : k < xs.length := by omega
      obtain ⟨ab, off, cap, hv, hab, c0, c1, c2, c3⟩ := HA.out.at hT.below k hkx
      cases hv
      have hoka := HOK.out _ (List.getElem_mem hkx)
      obtain ⟨dd, ta, tb, tc, hx⟩ : ∃ d a b c, xs[k] = (d, a, b, c) := ⟨_, _, _, _, rfl⟩
      rw [hx] at c0 c1 c2 c3 hoka
      dsimp only at c0 c1 c2 c3
      have habr : ab < wr.heap.size := Nat.lt_of_lt_of_le hab hT.below.size
      have ht : txOk (ta, tb, tc) := hoka.2
      have hd0 := hoka.1.1
      have hd1 := hoka.1.2
      dsimp only at hd0 hd1
      have hbr := hT.set.own.lt
      have hqr := hT.ref.box.lt
      have HT := hide hT
      have HAL := hide hAl
      have HX := hide (box_new wr #[.int .u8 0, .int .u8 0, .int .u32 0, .int .u32 0] 87)
      have HSt : Hid (∀ (W : World), Box W wr.heap.size #[.int .u8 dd, .int .u8 ta, .int .u32 tb, .int .u32 tc] 87 → KeepBut (fun k => k = wr.heap.size) (wr.alloc (.cells #[.int .u8 0, .int .u8 0, .int .u32 0, .int .u32 0] 87)) W → Below wr.heap.size wr W) := hide (fun W _ hk => (Below.refl wr.heap.size wr).grown (grown_new _ hk) (Nat.le_refl _) (fun j e => by cases e))
      clear hT hAl hx hoka hab HL HL0
      by_cases h0 : dd % 3 = 0
      · have q0 : (dd % 3 == 0) = true := by simpa using h0
        by_cases hf : foundF L (ta, tb, tc) = true
        · have hf2 := hf
          have C1 : Hid (∀ W, SetAt W p b n D → Calls Try.prog 44 #[.pointer (some ⟨p, 0, none⟩), .agg #[.int .u8 ta, .int .u32 tb, .int .u32 tc]] W fun e w' => e = .returned (.bool false) ∧ SetAt w' p b (n + 1) (addD D (ta, tb, tc)) ∧ KeepBut (fun k => k = b) W w') := hide (fun W hW => by
            have h := add_any p b n D (ta, tb, tc) ht W hW (by omega)
            rw [← HAL.out.found (ta, tb, tc) ht, hf] at h
            exact h)
          have C2 : Hid (∀ W, RSet W q v L → Calls Try.prog 45 #[.pointer (some ⟨q, 0, none⟩), .agg #[.int .u8 ta, .int .u32 tb, .int .u32 tc]] W fun e w' => e = .returned (.bool false) ∧ Below W.heap.size W w') := hide (fun W hW => by
            have h := radd_old q v L (ta, tb, tc) ht W hW (by omega) hf
            exact h)
          have HAL2 : Hid (Alike (addD D (ta, tb, tc)) L) := hide (HAL.out.add_old (ta, tb, tc) ht hf)
          have HLN : Hid (L.length ≤ k + 1) := hide (by omega)
          have hn2 : (n + 1) ≤ k + 1 := by omega
          go_wp2_with (refine wp_store_box (cs' := #[.int .u8 dd, .int .u8 ta, .int .u32 tb, .int .u32 tc]) rfl rfl _ _ rfl _ rfl rfl HX.out rfl HI.out (by simp [Value.oneCell']) ?_; intro w3 hb3 hk3; have HB3 := hide hb3; have HBe := hide (HSt.out _ hb3 hk3); clear hb3 hk3; obtain ⟨z0, z1, z2, z3⟩ := HB3.out.four; have zl := HB3.out.lt)
          have hd3 := (Below.refl w3.heap.size w3).drew
          have HTd := hide ((HT.out.later HBe.out).later hd3)
          have HXd := hide (HB3.out.belowI hd3)
          clear hd3
          go_region_held (fun w' => w'.cell? ⟨wr.heap.size, 1, none⟩ = some (.int .u8 ta) ∧ w'.cell? ⟨wr.heap.size, 2, none⟩ = some (.int .u32 tb) ∧ w'.cell? ⟨wr.heap.size, 3, none⟩ = some (.int .u32 tc)) (go_keep) (first
            | (go_at_call 44; refine (C1.out _ HTd.out.set).mono ?_; rintro e w4 ⟨rfl, hs, hB4⟩; have HT4 := hide (HTd.out.step hs hB4); have HX4 := hide (HXd.out.keep hB4 (by omega)); obtain ⟨_, a1, a2, a3⟩ := HX4.out.four; have al := HX4.out.lt; clear hs hB4)
            | (go_at_call 45; refine (C2.out _ HT4.out.ref).mono ?_; rintro e w5 ⟨rfl, hB5⟩; have HT5 := hide (HT4.out.later hB5); have HX5 := hide (HX4.out.belowI hB5); clear hB5; obtain ⟨_, b1, b2, b3⟩ := HX5.out.four; have bl := HX5.out.lt))
          have p5 := HT5.out.ref.box.cell 0 _ rfl
          have l5 := HT5.out.ref.box.lt
          have HT5d := hide (HT5.out.later ((Below.refl w5.heap.size w5).drew))
          have C3 := hide (fun W (hW : SetAt W p b (n + 1) (addD D (ta, tb, tc))) => list_alike p b _ _ _ W hW HAL2.out (by omega))
          clear HTd HX HXd HB3 HBe HT HAL C1 C2 HX4 HT4 HX5
          go_wp2_with fail
          go_region_held (fun w' => w'.cell? ⟨q, 0, none⟩ = some v) (go_keep) (first
            | (go_at_call 51; refine (C3.out _ HT5d.out.set).mono ?_; rintro e w6 ⟨vl, rfl, ho6, hB6⟩; have HT6 := hide (HT5d.out.later hB6); have HO6 := hide ho6; have p6 := HT6.out.ref.box.cell 0 _ rfl; have l6 := HT6.out.ref.box.lt; clear ho6 hB6)
            | (go_at_call 50; refine (same5_any _ _ _ _ _ _ HO6.out HT6.out.ref.own (by have := HLN.out; omega)).mono ?_; rintro e w7 ⟨rfl, hB7⟩; have HT7 := hide (HT6.out.later hB7); have p7 := HT7.out.ref.box.cell 0 _ rfl; have l7 := HT7.out.ref.box.lt; clear hB7))
          go_wp2_with fail
          go_roundw
          case rel => exact ⟨k + 1, hlt, by simp, hide ⟨_, _, _, _, HT7.out, HAL2.out, hn2, HLN.out⟩⟩
          case measure => simp [intOf]; omega
        · have hf : foundF L (ta, tb, tc) = false := by simpa using hf
          have hf2 := hf
          have C1 : Hid (∀ W, SetAt W p b n D → Calls Try.prog 44 #[.pointer (some ⟨p, 0, none⟩), .agg #[.int .u8 ta, .int .u32 tb, .int .u32 tc]] W fun e w' => e = .returned (.bool true) ∧ SetAt w' p b (n + 1) (addD D (ta, tb, tc)) ∧ KeepBut (fun k => k = b) W w') := hide (fun W hW => by
            have h := add_any p b n D (ta, tb, tc) ht W hW (by omega)
            rw [← HAL.out.found (ta, tb, tc) ht, hf] at h
            exact h)
          have C2 : Hid (∀ W, RSet W q v L → Calls Try.prog 45 #[.pointer (some ⟨q, 0, none⟩), .agg #[.int .u8 ta, .int .u32 tb, .int .u32 tc]] W fun e w' => e = .returned (.bool true) ∧ ∃ v', RSet w' q v' (insF L (ta, tb, tc)) ∧ KeepBut (fun k => k = q) W w' ∧ (∀ g, v'.ownBlock = some g → W.heap.size ≤ g)) := hide (fun W hW => radd_new q v L (ta, tb, tc) ht W hW (by omega) hf)
          have HAL2 : Hid (Alike (addD D (ta, tb, tc)) (insF L (ta, tb, tc))) := hide (HAL.out.add (ta, tb, tc) ht hf)
          have HLN : Hid ((insF L (ta, tb, tc)).length ≤ k + 1) := hide (by rw [ins_length]; omega)
          have hn2 : (n + 1) ≤ k + 1 := by omega
          go_wp2_with (refine wp_store_box (cs' := #[.int .u8 dd, .int .u8 ta, .int .u32 tb, .int .u32 tc]) rfl rfl _ _ rfl _ rfl rfl HX.out rfl HI.out (by simp [Value.oneCell']) ?_; intro w3 hb3 hk3; have HB3 := hide hb3; have HBe := hide (HSt.out _ hb3 hk3); clear hb3 hk3; obtain ⟨z0, z1, z2, z3⟩ := HB3.out.four; have zl := HB3.out.lt)
          have hd3 := (Below.refl w3.heap.size w3).drew
          have HTd := hide ((HT.out.later HBe.out).later hd3)
          have HXd := hide (HB3.out.belowI hd3)
          clear hd3
          go_region_held (fun w' => w'.cell? ⟨wr.heap.size, 1, none⟩ = some (.int .u8 ta) ∧ w'.cell? ⟨wr.heap.size, 2, none⟩ = some (.int .u32 tb) ∧ w'.cell? ⟨wr.heap.size, 3, none⟩ = some (.int .u32 tc)) (go_keep) (first
            | (go_at_call 44; refine (C1.out _ HTd.out.set).mono ?_; rintro e w4 ⟨rfl, hs, hB4⟩; have HT4 := hide (HTd.out.step hs hB4); have HX4 := hide (HXd.out.keep hB4 (by omega)); obtain ⟨_, a1, a2, a3⟩ := HX4.out.four; have al := HX4.out.lt; clear hs hB4)
            | (go_at_call 45; refine (C2.out _ HT4.out.ref).mono ?_; rintro e w5 ⟨rfl, v5, hr, hk5, hg5⟩; have HT5 := hide (HT4.out.rstep hr hk5 hg5); have HX5 := hide (HX4.out.keep hk5 (by omega)); clear hr hk5 hg5; obtain ⟨_, b1, b2, b3⟩ := HX5.out.four; have bl := HX5.out.lt))
          have p5 := HT5.out.ref.box.cell 0 _ rfl
          have l5 := HT5.out.ref.box.lt
          have HT5d := hide (HT5.out.later ((Below.refl w5.heap.size w5).drew))
          have C3 := hide (fun W (hW : SetAt W p b (n + 1) (addD D (ta, tb, tc))) => list_alike p b _ _ _ W hW HAL2.out (by omega))
          clear HTd HX HXd HB3 HBe HT HAL C1 C2 HX4 HT4 HX5
          go_wp2_with fail
          go_region_held (fun w' => w'.cell? ⟨q, 0, none⟩ = some v5) (go_keep) (first
            | (go_at_call 51; refine (C3.out _ HT5d.out.set).mono ?_; rintro e w6 ⟨vl, rfl, ho6, hB6⟩; have HT6 := hide (HT5d.out.later hB6); have HO6 := hide ho6; have p6 := HT6.out.ref.box.cell 0 _ rfl; have l6 := HT6.out.ref.box.lt; clear ho6 hB6)
            | (go_at_call 50; refine (same5_any _ _ _ _ _ _ HO6.out HT6.out.ref.own (by have := HLN.out; omega)).mono ?_; rintro e w7 ⟨rfl, hB7⟩; have HT7 := hide (HT6.out.later hB7); have p7 := HT7.out.ref.box.cell 0 _ rfl; have l7 := HT7.out.ref.box.lt; clear hB7))
          go_wp2_with fail
          go_roundw
          case rel => exact ⟨k + 1, hlt, by simp, hide ⟨_, _, _, _, HT7.out, HAL2.out, hn2, HLN.out⟩⟩
          case measure => simp [intOf]; omega
      · have q0 : (dd % 3 == 0) = false := by simpa using h0
        by_cases h1 : dd % 3 = 1
        · have q1 : (dd % 3 == 1) = true := by simpa using h1
          by_cases hf : foundF L (ta, tb, tc) = true
          · have hf2 := hf
            have C1 : Hid (∀ W, SetAt W p b n D → Calls Try.prog 46 #[.pointer (some ⟨p, 0, none⟩), .agg #[.int .u8 ta, .int .u32 tb, .int .u32 tc]] W fun e w' => e = .returned (.bool true) ∧ SetAt w' p b n (D.del (txKey (ta, tb, tc))) ∧ KeepBut (fun k => k = b) W w') := hide (fun W hW => by
              have h := drop_any p b n D (ta, tb, tc) ht W hW
              rw [← HAL.out.found (ta, tb, tc) ht, hf] at h
              exact h)
            have C2 : Hid (∀ W, RSet W q v L → Calls Try.prog 47 #[.pointer (some ⟨q, 0, none⟩), .agg #[.int .u8 ta, .int .u32 tb, .int .u32 tc]] W fun e w' => e = .returned (.bool true) ∧ ∃ v', RSet w' q v' (cutF L (ta, tb, tc)) ∧ KeepBut (fun k => k = q) W w' ∧ (∀ g, v'.ownBlock = some g → W.heap.size ≤ g)) := hide (fun W hW => rdrop_yes q v L (ta, tb, tc) ht W hW (by omega) hf)
            have HAL2 : Hid (Alike (D.del (txKey (ta, tb, tc))) (cutF L (ta, tb, tc))) := hide (HAL.out.cut (ta, tb, tc) ht hf)
            have HLN : Hid ((cutF L (ta, tb, tc)).length ≤ k + 1) := hide (Nat.le_trans (cut_length L (ta, tb, tc)) (by omega))
            have hn2 : n ≤ k + 1 := by omega
            go_wp2_with (refine wp_store_box (cs' := #[.int .u8 dd, .int .u8 ta, .int .u32 tb, .int .u32 tc]) rfl rfl _ _ rfl _ rfl rfl HX.out rfl HI.out (by simp [Value.oneCell']) ?_; intro w3 hb3 hk3; have HB3 := hide hb3; have HBe := hide (HSt.out _ hb3 hk3); clear hb3 hk3; obtain ⟨z0, z1, z2, z3⟩ := HB3.out.four; have zl := HB3.out.lt)
            have hd3 := (Below.refl w3.heap.size w3).drew
            have HTd := hide ((HT.out.later HBe.out).later hd3)
            have HXd := hide (HB3.out.belowI hd3)
            clear hd3
            go_region_held (fun w' => w'.cell? ⟨wr.heap.size, 1, none⟩ = some (.int .u8 ta) ∧ w'.cell? ⟨wr.heap.size, 2, none⟩ = some (.int .u32 tb) ∧ w'.cell? ⟨wr.heap.size, 3, none⟩ = some (.int .u32 tc)) (go_keep) (first
              | (go_at_call 46; refine (C1.out _ HTd.out.set).mono ?_; rintro e w4 ⟨rfl, hs, hB4⟩; have HT4 := hide (HTd.out.step hs hB4); have HX4 := hide (HXd.out.keep hB4 (by omega)); obtain ⟨_, a1, a2, a3⟩ := HX4.out.four; have al := HX4.out.lt; clear hs hB4)
              | (go_at_call 47; refine (C2.out _ HT4.out.ref).mono ?_; rintro e w5 ⟨rfl, v5, hr, hk5, hg5⟩; have HT5 := hide (HT4.out.rstep hr hk5 hg5); have HX5 := hide (HX4.out.keep hk5 (by omega)); clear hr hk5 hg5; obtain ⟨_, b1, b2, b3⟩ := HX5.out.four; have bl := HX5.out.lt))
            have p5 := HT5.out.ref.box.cell 0 _ rfl
            have l5 := HT5.out.ref.box.lt
            have HT5d := hide (HT5.out.later ((Below.refl w5.heap.size w5).drew))
            have C3 := hide (fun W (hW : SetAt W p b n (D.del (txKey (ta, tb, tc)))) => list_alike p b _ _ _ W hW HAL2.out (by omega))
            clear HTd HX HXd HB3 HBe HT HAL C1 C2 HX4 HT4 HX5
            go_wp2_with fail
            go_region_held (fun w' => w'.cell? ⟨q, 0, none⟩ = some v5) (go_keep) (first
              | (go_at_call 51; refine (C3.out _ HT5d.out.set).mono ?_; rintro e w6 ⟨vl, rfl, ho6, hB6⟩; have HT6 := hide (HT5d.out.later hB6); have HO6 := hide ho6; have p6 := HT6.out.ref.box.cell 0 _ rfl; have l6 := HT6.out.ref.box.lt; clear ho6 hB6)
              | (go_at_call 50; refine (same5_any _ _ _ _ _ _ HO6.out HT6.out.ref.own (by have := HLN.out; omega)).mono ?_; rintro e w7 ⟨rfl, hB7⟩; have HT7 := hide (HT6.out.later hB7); have p7 := HT7.out.ref.box.cell 0 _ rfl; have l7 := HT7.out.ref.box.lt; clear hB7))
            go_wp2_with fail
            go_roundw
            case rel => exact ⟨k + 1, hlt, by simp, hide ⟨_, _, _, _, HT7.out, HAL2.out, hn2, HLN.out⟩⟩
            case measure => simp [intOf]; omega
          · have hf : foundF L (ta, tb, tc) = false := by simpa using hf
            have hf2 := hf
            have C1 : Hid (∀ W, SetAt W p b n D → Calls Try.prog 46 #[.pointer (some ⟨p, 0, none⟩), .agg #[.int .u8 ta, .int .u32 tb, .int .u32 tc]] W fun e w' => e = .returned (.bool false) ∧ SetAt w' p b n (D.del (txKey (ta, tb, tc))) ∧ KeepBut (fun k => k = b) W w') := hide (fun W hW => by
              have h := drop_any p b n D (ta, tb, tc) ht W hW
              rw [← HAL.out.found (ta, tb, tc) ht, hf] at h
              exact h)
            have C2 : Hid (∀ W, RSet W q v L → Calls Try.prog 47 #[.pointer (some ⟨q, 0, none⟩), .agg #[.int .u8 ta, .int .u32 tb, .int .u32 tc]] W fun e w' => e = .returned (.bool false) ∧ Below W.heap.size W w') := hide (fun W hW => by
              have h := rdrop_no q v L (ta, tb, tc) ht W hW (by omega) hf
              exact h)
            have HAL2 : Hid (Alike (D.del (txKey (ta, tb, tc))) L) := hide (HAL.out.cut_no (ta, tb, tc) ht hf)
            have HLN : Hid (L.length ≤ k + 1) := hide (by omega)
            have hn2 : n ≤ k + 1 := by omega
            go_wp2_with (refine wp_store_box (cs' := #[.int .u8 dd, .int .u8 ta, .int .u32 tb, .int .u32 tc]) rfl rfl _ _ rfl _ rfl rfl HX.out rfl HI.out (by simp [Value.oneCell']) ?_; intro w3 hb3 hk3; have HB3 := hide hb3; have HBe := hide (HSt.out _ hb3 hk3); clear hb3 hk3; obtain ⟨z0, z1, z2, z3⟩ := HB3.out.four; have zl := HB3.out.lt)
            have hd3 := (Below.refl w3.heap.size w3).drew
            have HTd := hide ((HT.out.later HBe.out).later hd3)
            have HXd := hide (HB3.out.belowI hd3)
            clear hd3
            go_region_held (fun w' => w'.cell? ⟨wr.heap.size, 1, none⟩ = some (.int .u8 ta) ∧ w'.cell? ⟨wr.heap.size, 2, none⟩ = some (.int .u32 tb) ∧ w'.cell? ⟨wr.heap.size, 3, none⟩ = some (.int .u32 tc)) (go_keep) (first
              | (go_at_call 46; refine (C1.out _ HTd.out.set).mono ?_; rintro e w4 ⟨rfl, hs, hB4⟩; have HT4 := hide (HTd.out.step hs hB4); have HX4 := hide (HXd.out.keep hB4 (by omega)); obtain ⟨_, a1, a2, a3⟩ := HX4.out.four; have al := HX4.out.lt; clear hs hB4)
              | (go_at_call 47; refine (C2.out _ HT4.out.ref).mono ?_; rintro e w5 ⟨rfl, hB5⟩; have HT5 := hide (HT4.out.later hB5); have HX5 := hide (HX4.out.belowI hB5); clear hB5; obtain ⟨_, b1, b2, b3⟩ := HX5.out.four; have bl := HX5.out.lt))
            have p5 := HT5.out.ref.box.cell 0 _ rfl
            have l5 := HT5.out.ref.box.lt
            have HT5d := hide (HT5.out.later ((Below.refl w5.heap.size w5).drew))
            have C3 := hide (fun W (hW : SetAt W p b n (D.del (txKey (ta, tb, tc)))) => list_alike p b _ _ _ W hW HAL2.out (by omega))
            clear HTd HX HXd HB3 HBe HT HAL C1 C2 HX4 HT4 HX5
            go_wp2_with fail
            go_region_held (fun w' => w'.cell? ⟨q, 0, none⟩ = some v) (go_keep) (first
              | (go_at_call 51; refine (C3.out _ HT5d.out.set).mono ?_; rintro e w6 ⟨vl, rfl, ho6, hB6⟩; have HT6 := hide (HT5d.out.later hB6); have HO6 := hide ho6; have p6 := HT6.out.ref.box.cell 0 _ rfl; have l6 := HT6.out.ref.box.lt; clear ho6 hB6)
              | (go_at_call 50; refine (same5_any _ _ _ _ _ _ HO6.out HT6.out.ref.own (by have := HLN.out; omega)).mono ?_; rintro e w7 ⟨rfl, hB7⟩; have HT7 := hide (HT6.out.later hB7); have p7 := HT7.out.ref.box.cell 0 _ rfl; have l7 := HT7.out.ref.box.lt; clear hB7))
            go_wp2_with fail
            go_roundw
            case rel => exact ⟨k + 1, hlt, by simp, hide ⟨_, _, _, _, HT7.out, HAL2.out, hn2, HLN.out⟩⟩
            case measure => simp [intOf]; omega
        · have q1 : (dd % 3 == 1) = false := by simpa using h1
          by_cases hf : foundF L (ta, tb, tc) = true
          · have hf2 := hf
            have C1 : Hid (∀ W, SetAt W p b n D → Calls Try.prog 48 #[.pointer (some ⟨p, 0, none⟩), .agg #[.int .u8 ta, .int .u32 tb, .int .u32 tc]] W fun e w' => e = .returned (.bool true) ∧ Below W.heap.size W w') := hide (fun W hW => by
              have h := has_any p b n D (ta, tb, tc) ht W hW
              rw [← HAL.out.found (ta, tb, tc) ht, hf] at h
              exact h)
            have C2 : Hid (∀ W, RSet W q v L → Calls Try.prog 49 #[.pointer (some ⟨q, 0, none⟩), .agg #[.int .u8 ta, .int .u32 tb, .int .u32 tc]] W fun e w' => e = .returned (.bool true) ∧ Below W.heap.size W w') := hide (fun W hW => by
              have h := rhas_any q v L (ta, tb, tc) ht W hW (by omega)
              rw [hf] at h
              exact h)
            have HAL2 : Hid (Alike D L) := hide (HAL.out)
            have HLN : Hid (L.length ≤ k + 1) := hide (by omega)
            have hn2 : n ≤ k + 1 := by omega
            go_wp2_with (refine wp_store_box (cs' := #[.int .u8 dd, .int .u8 ta, .int .u32 tb, .int .u32 tc]) rfl rfl _ _ rfl _ rfl rfl HX.out rfl HI.out (by simp [Value.oneCell']) ?_; intro w3 hb3 hk3; have HB3 := hide hb3; have HBe := hide (HSt.out _ hb3 hk3); clear hb3 hk3; obtain ⟨z0, z1, z2, z3⟩ := HB3.out.four; have zl := HB3.out.lt)
            have hd3 := (Below.refl w3.heap.size w3).drew
            have HTd := hide ((HT.out.later HBe.out).later hd3)
            have HXd := hide (HB3.out.belowI hd3)
            clear hd3
            go_region_held (fun w' => w'.cell? ⟨wr.heap.size, 1, none⟩ = some (.int .u8 ta) ∧ w'.cell? ⟨wr.heap.size, 2, none⟩ = some (.int .u32 tb) ∧ w'.cell? ⟨wr.heap.size, 3, none⟩ = some (.int .u32 tc)) (go_keep) (first
              | (go_at_call 48; refine (C1.out _ HTd.out.set).mono ?_; rintro e w4 ⟨rfl, hB4⟩; have HT4 := hide (HTd.out.later hB4); have HX4 := hide (HXd.out.belowI hB4); obtain ⟨_, a1, a2, a3⟩ := HX4.out.four; have al := HX4.out.lt; clear hB4)
              | (go_at_call 49; refine (C2.out _ HT4.out.ref).mono ?_; rintro e w5 ⟨rfl, hB5⟩; have HT5 := hide (HT4.out.later hB5); have HX5 := hide (HX4.out.belowI hB5); clear hB5; obtain ⟨_, b1, b2, b3⟩ := HX5.out.four; have bl := HX5.out.lt))
            have p5 := HT5.out.ref.box.cell 0 _ rfl
            have l5 := HT5.out.ref.box.lt
            have HT5d := hide (HT5.out.later ((Below.refl w5.heap.size w5).drew))
            have C3 := hide (fun W (hW : SetAt W p b n D) => list_alike p b _ _ _ W hW HAL2.out (by omega))
            clear HTd HX HXd HB3 HBe HT HAL C1 C2 HX4 HT4 HX5
            go_wp2_with fail
            go_region_held (fun w' => w'.cell? ⟨q, 0, none⟩ = some v) (go_keep) (first
              | (go_at_call 51; refine (C3.out _ HT5d.out.set).mono ?_; rintro e w6 ⟨vl, rfl, ho6, hB6⟩; have HT6 := hide (HT5d.out.later hB6); have HO6 := hide ho6; have p6 := HT6.out.ref.box.cell 0 _ rfl; have l6 := HT6.out.ref.box.lt; clear ho6 hB6)
              | (go_at_call 50; refine (same5_any _ _ _ _ _ _ HO6.out HT6.out.ref.own (by have := HLN.out; omega)).mono ?_; rintro e w7 ⟨rfl, hB7⟩; have HT7 := hide (HT6.out.later hB7); have p7 := HT7.out.ref.box.cell 0 _ rfl; have l7 := HT7.out.ref.box.lt; clear hB7))
            go_wp2_with fail
            go_roundw
            case rel => exact ⟨k + 1, hlt, by simp, hide ⟨_, _, _, _, HT7.out, HAL2.out, hn2, HLN.out⟩⟩
            case measure => simp [intOf]; omega
          · have hf : foundF L (ta, tb, tc) = false := by simpa using hf
            have hf2 := hf
            have C1 : Hid (∀ W, SetAt W p b n D → Calls Try.prog 48 #[.pointer (some ⟨p, 0, none⟩), .agg #[.int .u8 ta, .int .u32 tb, .int .u32 tc]] W fun e w' => e = .returned (.bool false) ∧ Below W.heap.size W w') := hide (fun W hW => by
              have h := has_any p b n D (ta, tb, tc) ht W hW
              rw [← HAL.out.found (ta, tb, tc) ht, hf] at h
              exact h)
            have C2 : Hid (∀ W, RSet W q v L → Calls Try.prog 49 #[.pointer (some ⟨q, 0, none⟩), .agg #[.int .u8 ta, .int .u32 tb, .int .u32 tc]] W fun e w' => e = .returned (.bool false) ∧ Below W.heap.size W w') := hide (fun W hW => by
              have h := rhas_any q v L (ta, tb, tc) ht W hW (by omega)
              rw [hf] at h
              exact h)
            have HAL2 : Hid (Alike D L) := hide (HAL.out)
            have HLN : Hid (L.length ≤ k + 1) := hide (by omega)
            have hn2 : n ≤ k + 1 := by omega
            go_wp2_with (refine wp_store_box (cs' := #[.int .u8 dd, .int .u8 ta, .int .u32 tb, .int .u32 tc]) rfl rfl _ _ rfl _ rfl rfl HX.out rfl HI.out (by simp [Value.oneCell']) ?_; intro w3 hb3 hk3; have HB3 := hide hb3; have HBe := hide (HSt.out _ hb3 hk3); clear hb3 hk3; obtain ⟨z0, z1, z2, z3⟩ := HB3.out.four; have zl := HB3.out.lt)
            have hd3 := (Below.refl w3.heap.size w3).drew
            have HTd := hide ((HT.out.later HBe.out).later hd3)
            have HXd := hide (HB3.out.belowI hd3)
            clear hd3
            go_region_held (fun w' => w'.cell? ⟨wr.heap.size, 1, none⟩ = some (.int .u8 ta) ∧ w'.cell? ⟨wr.heap.size, 2, none⟩ = some (.int .u32 tb) ∧ w'.cell? ⟨wr.heap.size, 3, none⟩ = some (.int .u32 tc)) (go_keep) (first
              | (go_at_call 48; refine (C1.out _ HTd.out.set).mono ?_; rintro e w4 ⟨rfl, hB4⟩; have HT4 := hide (HTd.out.later hB4); have HX4 := hide (HXd.out.belowI hB4); obtain ⟨_, a1, a2, a3⟩ := HX4.out.four; have al := HX4.out.lt; clear hB4)
              | (go_at_call 49; refine (C2.out _ HT4.out.ref).mono ?_; rintro e w5 ⟨rfl, hB5⟩; have HT5 := hide (HT4.out.later hB5); have HX5 := hide (HX4.out.belowI hB5); clear hB5; obtain ⟨_, b1, b2, b3⟩ := HX5.out.four; have bl := HX5.out.lt))
            have p5 := HT5.out.ref.box.cell 0 _ rfl
            have l5 := HT5.out.ref.box.lt
            have HT5d := hide (HT5.out.later ((Below.refl w5.heap.size w5).drew))
            have C3 := hide (fun W (hW : SetAt W p b n D) => list_alike p b _ _ _ W hW HAL2.out (by omega))
            clear HTd HX HXd HB3 HBe HT HAL C1 C2 HX4 HT4 HX5
            go_wp2_with fail
            go_region_held (fun w' => w'.cell? ⟨q, 0, none⟩ = some v) (go_keep) (first
              | (go_at_call 51; refine (C3.out _ HT5d.out.set).mono ?_; rintro e w6 ⟨vl, rfl, ho6, hB6⟩; have HT6 := hide (HT5d.out.later hB6); have HO6 := hide ho6; have p6 := HT6.out.ref.box.cell 0 _ rfl; have l6 := HT6.out.ref.box.lt; clear ho6 hB6)
              | (go_at_call 50; refine (same5_any _ _ _ _ _ _ HO6.out HT6.out.ref.own (by have := HLN.out; omega)).mono ?_; rintro e w7 ⟨rfl, hB7⟩; have HT7 := hide (HT6.out.later hB7); have p7 := HT7.out.ref.box.cell 0 _ rfl; have l7 := HT7.out.ref.box.lt; clear hB7))
            go_wp2_with fail
            go_roundw
            case rel => exact ⟨k + 1, hlt, by simp, hide ⟨_, _, _, _, HT7.out, HAL2.out, hn2, HLN.out⟩⟩
            case measure => simp [intOf]; omega
    · have d1 : decide ((k : Int) < (m : Int)) = false := by simp; omega
      obtain ⟨n, D, v, L, hT, _, _, _⟩ := HL.out
      have HB := hide hT.below
      clear hT HL HL0
      have hB2 := (HB.out.alloc HB.out.size (.cells #[.map none] 92)).alloc (by have := HB.out.size; simp; omega) (.cells #[.pointer none, .pointer (some ⟨wr.heap.size, 0, none⟩)] 81)
      have HB2 := hide hB2
      have HS2 : Hid (Box ((wr.alloc (.cells #[.map none] 92)).alloc (.cells #[.pointer none, .pointer (some ⟨wr.heap.size, 0, none⟩)] 81)) wr.heap.size #[.map none] 92) := hide ((box_new wr _ _).belowI ((Below.refl _ _).alloc (Nat.le_refl _) _))
      have HP2 : Hid (Box ((wr.alloc (.cells #[.map none] 92)).alloc (.cells #[.pointer none, .pointer (some ⟨wr.heap.size, 0, none⟩)] 81)) (wr.heap.size + 1) #[.pointer none, .pointer (some ⟨wr.heap.size, 0, none⟩)] 81) := hide (by
        have := box_new (wr.alloc (.cells #[.map none] 92)) #[.pointer none, .pointer (some ⟨wr.heap.size, 0, none⟩)] 81
        rw [World.size_alloc] at this
        exact this)
      clear hB2 HB
      go_wp2_with fail
      go_loopw [73] (fun i wq => ∃ j : Nat, j ≤ 2 ∧ i = .int .i64 j ∧ Hid (Below w.heap.size w wq) ∧ Hid (Box wq wr.heap.size #[.map none] 92) ∧ Hid (Box wq (wr.heap.size + 1) #[.pointer none, .pointer (some ⟨wr.heap.size, 0, none⟩)] 81)) (fun i _ => 2 - (intOf i).toNat)
      case atStart => exact ⟨0, by omega, rfl, HB2, HS2, HP2⟩
      case round =>
        obtain ⟨j, hj, rfl, HBq, HSq, HPq⟩ := hrel
        clear HB2 HS2 HP2
        have hc : j = 0 ∨ j = 1 ∨ j = 2 := by omega
        rcases hc with rfl | rfl | rfl
        · obtain ⟨y0, y1⟩ := HPq.out.two
          have yl := HPq.out.lt
          go_wp2_with fail
          refine (add_nil (0, 1, 1) _).mono ?_
          rintro e w4 ⟨rfl, hB4⟩
          have HB4 := hide hB4
          clear hB4
          go_wp2_with fail
          refine (has_nil (0, 0, 0) _).mono ?_
          rintro e w5 ⟨rfl, hB5⟩
          have HB5 := hide (HB4.out.trans (hB5.mono HB4.out.size))
          clear hB5
          go_wp2_with fail
          refine (drop_nil (0, 0, 0) _).mono ?_
          rintro e w6 ⟨rfl, hB6⟩
          have HB6 := hide (HB5.out.trans (hB6.mono HB5.out.size))
          clear hB6
          go_wp2_with fail
          refine (list_nil _).mono ?_
          rintro e w7 ⟨rfl, rfl⟩
          go_wp2_with fail
          go_roundw
          case rel => exact ⟨1, by omega, rfl, hide (HBq.out.trans (HB6.out.mono HBq.out.size)), hide (HSq.out.belowI HB6.out), hide (HPq.out.belowI HB6.out)⟩
          case measure => simp [intOf]
        · obtain ⟨y0, y1⟩ := HPq.out.two
          have yl := HPq.out.lt
          go_wp2_with fail
          refine (add_none _ (0, 1, 1) _ HSq.out).mono ?_
          rintro e w4 ⟨rfl, hB4⟩
          have HB4 := hide hB4
          clear hB4
          go_wp2_with fail
          refine (has_none _ (0, 0, 0) (by unfold txOk; decide) _ (HSq.out.belowI HB4.out)).mono ?_
          rintro e w5 ⟨rfl, hB5⟩
          have HB5 := hide (HB4.out.trans (hB5.mono HB4.out.size))
          clear hB5
          go_wp2_with fail
          refine (drop_none _ (0, 0, 0) (by unfold txOk; decide) _ (HSq.out.belowI HB5.out)).mono ?_
          rintro e w6 ⟨rfl, hB6⟩
          have HB6 := hide (HB5.out.trans (hB6.mono HB5.out.size))
          clear hB6
          go_wp2_with fail
          refine (list_none _ _ (HSq.out.belowI HB6.out)).mono ?_
          rintro e w7 ⟨vl, rfl, ho, hB7⟩
          obtain ⟨la, lc, rfl⟩ := row_shape (L := []) ho
          have HB7 := hide (HB6.out.trans (hB7.mono HB6.out.size))
          clear hB7 ho
          go_wp2_with fail
          go_roundw
          case rel => exact ⟨2, by omega, rfl, hide (HBq.out.trans (HB7.out.mono HBq.out.size)), hide (HSq.out.belowI HB7.out), hide (HPq.out.belowI HB7.out)⟩
          case measure => simp [intOf]
        · go_wp2_with fail
          go_ret
          exact ⟨rfl, HBq.out⟩
end sets5
end Go.Proofs.Ytkdccigcpcchlaa
