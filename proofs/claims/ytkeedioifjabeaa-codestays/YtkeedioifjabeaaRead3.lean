/-
  The laws' 'read' of layer 3: both readers answer, and turn nothing but themselves. Own work.
-/
import Derived.Test.YtkeedioifjabeaaRReader3
import Derived.Test.YtkeedioifjabeaaEqVals
import Derived.Test.YtkeedioifjabeaaPair
namespace Go.Proofs.Ytkeedioifjabeaa
open Go.RowKit

set_option maxRecDepth 100000 in
set_option maxHeartbeats 3200000 in
theorem rnew_any (v : Value) (xs : List Int) (w : World) (h : Lies .u8 w v xs) (hr : xs.length ≤ 65536) :
    Calls Try.prog 29 #[v] w fun e w' => ∃ vb, e = .returned (.agg #[vb, .int .i64 0, .int .i64 0, .int .i64 0]) ∧ w'.ownsRow w.heap.size 5 1 vb xs.length (xs.map (Value.int .u8)) ∧ Below w.heap.size w w' := by
  have hB0 := (Below.refl w.heap.size w).alloc (Nat.le_refl _) (.cells #[.slice none 0 0, .int .i64 0, .int .i64 0, .int .i64 0] 60)
  have HL := hide (h.below hB0)
  have HB0 := hide hB0
  have HBX := hide (box_new w #[.slice none 0 0, .int .i64 0, .int .i64 0, .int .i64 0] 60)
  have HI : Hid ((Try.prog.info? 60).map (·.size) = some 4) := hide (by kernel_rfl)
  obtain ⟨ao, cap, rfl⟩ := h.shape
  clear h hB0
  go_enter Try.func29, Try.ntmps29
  go_wp2_with (first
    | (at_builtin; refine append_lies _ rfl _ _ rfl (w.heap.size + 1) _ _ 0 [] xs rfl (World.ownsRow_nil _ _ _ _) rfl HL.out (by omega) (by simp) ?_; intro v1 w1 hown1 hgrow1; simp only [Nat.zero_add, List.nil_append] at hown1; have hB1 := (Below.refl (w.heap.size + 1) (w.alloc (.cells #[.slice none 0 0, .int .i64 0, .int .i64 0, .int .i64 0] 60))).grown hgrow1 (by simp) (fun k hk => by cases hk); have H1 := hide hown1; have HB1 := hide hB1; have HBX1 := hide (HBX.out.keep (KeepBut.of_below (fun _ => False) (by simpa using hB1)) (fun h => h)); obtain ⟨a1, c1, rfl⟩ := (Lies.of_own hown1).shape; clear hown1 hgrow1 hB1)
    | (refine wp_store_box rfl rfl _ _ rfl _ rfl rfl HBX1.out rfl HI.out (by simp [Value.oneCell']) ?_; intro w2 hb2 hk2; have HB2 := hide hb2; have HK2 := hide hk2; clear hb2 hk2))
  have hBW := HB0.out.trans (HB1.out.mono (Nat.le_succ _))
  refine bodyPost_ret (v := .agg #[.slice a1 xs.length c1, .int .i64 0, .int .i64 0, .int .i64 0]) (results_box Try.results29 _ _ w.heap.size rfl HB2.out Try.underlying60 rfl HI.out) rfl ⟨_, rfl, ?_, hBW.trans (HK2.out.below hBW.size (fun k hk => by omega))⟩
  have ho := owns_keep H1.out HK2.out (fun g hg e => by have := (H1.out.lt g hg).1; omega)
  obtain ⟨hl, h0 | ⟨g, cap', cur, e, hbg, r⟩⟩ := ho
  · exact ⟨hl, .inl h0⟩
  · exact ⟨hl, .inr ⟨g, cap', cur, e, by omega, r⟩⟩
/-- Without a fault no place is told. -/
def Good (r : RS) : Prop := r.why = 0 → r.fat = 0
theorem good_as {r r' : RS} {ys : List Int} (h : ReadAs r r' ys) (hg : Good r) (h0 : r.why = 0) : Good r' := by
  intro h1
  rcases h with ⟨_, _, _, h2⟩ | ⟨h2, _⟩
  · rw [h2]; exact hg h0
  · exact absurd h1 h2
theorem good_num (m : Nat) (r : RS) (hx : ∀ c ∈ r.bs, 0 ≤ c ∧ c < 256) (hg : Good r) : Good (numS m r).2 := by
  by_cases h0 : r.why = 0
  · obtain ⟨_, _, _, h⟩ := num_one m r h0 hx; exact good_as h hg h0
  · rw [num_stays h0]; exact hg
theorem good_byte (r : RS) (hg : Good r) : Good (byteS r).2 := by
  by_cases h0 : r.why = 0
  · exact good_as (byte_one r h0) hg h0
  · rw [byte_stays h0]; exact hg
theorem good_bool (r : RS) (hx : ∀ c ∈ r.bs, 0 ≤ c ∧ c < 256) (hg : Good r) : Good (boolS r).2 := by
  by_cases h0 : r.why = 0
  · exact good_as (bool_one r h0 hx) hg h0
  · rw [bool_stays h0]; exact hg
theorem good_text (m : Int) (r : RS) (hx : ∀ c ∈ r.bs, 0 ≤ c ∧ c < 256) (hg : Good r) : Good (textS m r).2 := by
  by_cases h0 : r.why = 0
  · exact good_as (text_one m r h0 hx) hg h0
  · rw [text_stays h0]; exact hg
theorem good_key (r : RS) (hg : Good r) : Good (keyS r).2 := by
  by_cases h0 : r.why = 0
  · exact good_as (key_one r h0) hg h0
  · rw [key_stays h0]; exact hg
/-- Both readers, apart. -/
structure TwoR (w : World) (p : Nat) (vb : Value) (q : Nat) (vr : Value) (all : List Int) (r : RS) : Prop where
  cr : CR w p vb all r
  rx : RX w q vr all
  good : Good r
  ne : p ≠ q
  bq : vb.ownBlock ≠ some q
  rp : vr.ownBlock ≠ some p
theorem RX.keep {S : Nat → Prop} {w w' : World} {q : Nat} {vb : Value} {all : List Int} (h : RX w q vb all) (hk : KeepBut S w w') (hp : ¬ S q) (hg : ∀ g, vb.ownBlock = some g → ¬ S g) : RX w' q vb all := by
  obtain ⟨a, y, f, h⟩ := h
  exact ⟨a, y, f, h.keep hk hp hg⟩
theorem TwoR.below {w w' : World} {p : Nat} {vb : Value} {q : Nat} {vr : Value} {all : List Int} {r : RS} (h : TwoR w p vb q vr all r) (hB : Below w.heap.size w w') : TwoR w' p vb q vr all r :=
  ⟨h.cr.below hB, h.rx.keep (KeepBut.of_below (fun _ => False) hB) (fun h => h) (fun _ _ h => h), h.good, h.ne, h.bq, h.rp⟩
theorem TwoR.one {w w' : World} {p : Nat} {vb : Value} {q : Nat} {vr : Value} {all : List Int} {r r' : RS} (h : TwoR w p vb q vr all r) (hc : CR w' p vb all r') (hk : KeepBut (fun k => k = p) w w') (hg : Good r') : TwoR w' p vb q vr all r' :=
  ⟨hc, h.rx.keep hk (fun e => h.ne e.symm) (fun _ hg e => h.rp (e ▸ hg)), hg, h.ne, h.bq, h.rp⟩
theorem TwoR.two {w w' : World} {p : Nat} {vb : Value} {q : Nat} {vr : Value} {all : List Int} {r : RS} (h : TwoR w p vb q vr all r) (hx : RX w' q vr all) (hk : KeepBut (fun k => k = q) w w') : TwoR w' p vb q vr all r :=
  ⟨h.cr.keep hk h.ne (fun _ hg e => h.bq (e ▸ hg)), hx, h.good, h.ne, h.bq, h.rp⟩
theorem RX.call {w : World} {q : Nat} {vr : Value} {all : List Int} {fn : FuncId} {args : Array Value} {Q : Ending → World → Prop} (h : RX w q vr all) (hc : ∀ a y f, RD w q vr all a y f → Calls Try.prog fn args w Q) : Calls Try.prog fn args w Q := by
  obtain ⟨a, y, f, h⟩ := h
  exact hc a y f h
set_option maxRecDepth 100000 in
set_option maxHeartbeats 6400000 in
theorem read_any (f : Fld) (hf : f.ok) (w : World) (p : Nat) (vb : Value) (q : Nat) (vr : Value) (all : List Int) (r : RS) (h : TwoR w p vb q vr all r) :
    Calls Try.prog 30 #[.pointer (some ⟨p, 0, none⟩), .pointer (some ⟨q, 0, none⟩), .agg (fcells f)] w fun e w' => (∃ b : Bool, e = .returned (.bool b)) ∧ (∃ r', TwoR w' p vb q vr all r') ∧ KeepBut (fun k => k = p ∨ k = q) w w' := by
  have hek := eql_key
  obtain ⟨kd, nn, st, mo⟩ := f
  have hkd := hf.kind
  have hlo := hf.lo
  have hhi := hf.hi
  simp only at hkd hlo hhi
  have hba := (Below.refl w.heap.size w).alloc (Nat.le_refl _) (.cells #[.int .u8 (kd : Nat), .int .u64 (nn : Nat), .string st, .int .i64 mo] 33)
  have H0 := hide (h.below hba)
  have HK0 := hide (KeepBut.of_below (fun k => k = p ∨ k = q) hba)
  have hb0 := box_new w #[.int .u8 (kd : Nat), .int .u64 (nn : Nat), .string st, .int .i64 mo] 33
  have HBX := hide hb0
  have hnp : Hid (¬ w.heap.size = p) := hide (fun e => by have := h.cr.box.lt; omega)
  have hnq : Hid (¬ w.heap.size = q) := hide (fun e => by obtain ⟨_, _, _, hh⟩ := h.rx; have := hh.box.lt; omega)
  have m0 := hb0.cell 0 _ rfl
  have m1 := hb0.cell 1 _ rfl
  have m3 := hb0.cell 3 _ rfl
  have hmod : ((kd : Int) % 5) = ((kd % 5 : Nat) : Int) := by omega
  have h5 : kd % 5 < 5 := by omega
  have e5 : kd % 5 = 0 ∨ kd % 5 = 1 ∨ kd % 5 = 2 ∨ kd % 5 = 3 ∨ kd % 5 = 4 := by omega
  have HX : Hid (∀ c ∈ r.bs, 0 ≤ c ∧ c < 256) := hide h.cr.byte'
  simp only [fcells]
  clear h hba hb0 hf
  rcases e5 with e5 | e5 | e5 | e5 | e5
  · rw [e5] at hmod
    clear e5 h5
    have C1 := hide (fun w' (h' : TwoR w' p vb q vr all r) => crnum_any p vb all r w' h'.cr nn)
    have C2 := hide (fun w' (h' : RX w' q vr all) => h'.call (fun a y f hh => rnum_any q vr all a y f w' hh (nn : Nat)))
    have HG := hide (good_num nn r HX.out H0.out.good)
    have HD := hide (H0.out.below (Below.refl _ _).drew)
    have HKD := hide HK0.out.drew
    have HBD := hide (HBX.out.keep (KeepBut.of_below (fun _ => False) (Below.refl _ _).drew) (fun h => h))
    go_enter Try.func30, Try.ntmps30
    go_wp2_with fail
    go_region_held (fun w' => w'.cell? ⟨w.heap.size, 1, none⟩ = some (.int .u64 (nn : Nat))) (go_keep) (first
      | (go_at_call 15; refine (C1.out _ HD.out).mono ?_; rintro e w1 ⟨rfl, h1, hk1⟩; have H1 := hide (HD.out.one h1 hk1 HG.out); have hbx1 := HBD.out.keep hk1 hnp.out; have HB1 := hide hbx1; have n1 := hbx1.cell 1 _ rfl; have HK1 := hide (HKD.out.trans (hk1.mono (fun _ h => .inl h)) (fun _ _ h => h)); clear h1 hk1 hbx1)
      | (go_at_call 49; refine (C2.out _ H1.out.rx).mono ?_; rintro e w2 ⟨⟨n2, rfl, hn0, hn1⟩, hx2, hk2⟩; have H2 := hide (H1.out.two hx2 hk2); have n2 := (HB1.out.keep hk2 hnq.out).cell 1 _ rfl; have HK2 := hide (HK1.out.trans (hk2.mono (fun _ h => .inr h)) (fun _ _ h => h)); clear hx2 hk2))
    go_wp2_with fail
    go_ret
    exact ⟨⟨_, rfl⟩, ⟨_, H2.out⟩, HK2.out⟩
  · rw [e5] at hmod
    clear e5 h5
    have C1 := hide (crbyte_any p vb all r _ H0.out.cr)
    have C2 := hide (fun w' (h' : RX w' q vr all) => h'.call (fun a y f hh => rbyte_any q vr all a y f w' hh))
    have HG := hide (good_byte r H0.out.good)
    skip
    go_enter Try.func30, Try.ntmps30
    go_wp2_with fail
    refine C1.out.mono ?_
    rintro e w1 ⟨rfl, h1, hk1⟩
    have H1 := hide (H0.out.one h1 hk1 HG.out)
    have HK1 := hide (HK0.out.trans (hk1.mono (fun _ h => .inl h)) (fun _ _ h => h))
    clear h1 hk1 m0 m1 m3
    go_wp2_with fail
    refine (C2.out _ H1.out.rx).mono ?_
    rintro e w2 ⟨⟨c2, rfl⟩, hx2, hk2⟩
    have H2 := hide (H1.out.two hx2 hk2)
    have HK2 := hide (HK1.out.trans (hk2.mono (fun _ h => .inr h)) (fun _ _ h => h))
    clear hx2 hk2
    skip
    go_wp2_with fail
    go_ret
    exact ⟨⟨_, rfl⟩, ⟨_, H2.out⟩, HK2.out⟩
  · rw [e5] at hmod
    clear e5 h5
    have C1 := hide (crbool_any p vb all r _ H0.out.cr)
    have C2 := hide (fun w' (h' : RX w' q vr all) => h'.call (fun a y f hh => rbool_any q vr all a y f w' hh))
    have HG := hide (good_bool r HX.out H0.out.good)
    skip
    go_enter Try.func30, Try.ntmps30
    go_wp2_with fail
    refine C1.out.mono ?_
    rintro e w1 ⟨rfl, h1, hk1⟩
    have H1 := hide (H0.out.one h1 hk1 HG.out)
    have HK1 := hide (HK0.out.trans (hk1.mono (fun _ h => .inl h)) (fun _ _ h => h))
    clear h1 hk1 m0 m1 m3
    go_wp2_with fail
    refine (C2.out _ H1.out.rx).mono ?_
    rintro e w2 ⟨⟨c2, rfl⟩, hx2, hk2⟩
    have H2 := hide (H1.out.two hx2 hk2)
    have HK2 := hide (HK1.out.trans (hk2.mono (fun _ h => .inr h)) (fun _ _ h => h))
    clear hx2 hk2
    skip
    go_wp2_with fail
    go_ret
    exact ⟨⟨_, rfl⟩, ⟨_, H2.out⟩, HK2.out⟩
  · rw [e5] at hmod
    clear e5 h5
    have C1 := hide (fun w' (h' : TwoR w' p vb q vr all r) => crtext_any p vb all r w' h'.cr mo hlo hhi)
    have C2 := hide (fun w' (h' : RX w' q vr all) => h'.call (fun a y f hh => rtext_any q vr all a y f w' hh mo hlo hhi))
    have HG := hide (good_text mo r HX.out H0.out.good)
    have HD := hide (H0.out.below (Below.refl _ _).drew)
    have HKD := hide HK0.out.drew
    have HBD := hide (HBX.out.keep (KeepBut.of_below (fun _ => False) (Below.refl _ _).drew) (fun h => h))
    go_enter Try.func30, Try.ntmps30
    go_wp2_with fail
    go_region_held (fun w' => w'.cell? ⟨w.heap.size, 3, none⟩ = some (.int .i64 mo)) (go_keep) (first
      | (go_at_call 18; refine (C1.out _ HD.out).mono ?_; rintro e w1 ⟨rfl, h1, hk1⟩; have H1 := hide (HD.out.one h1 hk1 HG.out); have hbx1 := HBD.out.keep hk1 hnp.out; have HB1 := hide hbx1; have n1 := hbx1.cell 3 _ rfl; have HK1 := hide (HKD.out.trans (hk1.mono (fun _ h => .inl h)) (fun _ _ h => h)); clear h1 hk1 hbx1)
      | (go_at_call 52; refine (C2.out _ H1.out.rx).mono ?_; rintro e w2 ⟨⟨s2, rfl⟩, hx2, hk2⟩; have H2 := hide (H1.out.two hx2 hk2); have n2 := (HB1.out.keep hk2 hnq.out).cell 3 _ rfl; have HK2 := hide (HK1.out.trans (hk2.mono (fun _ h => .inr h)) (fun _ _ h => h)); clear hx2 hk2))
    go_wp2_with fail
    go_ret
    exact ⟨⟨_, rfl⟩, ⟨_, H2.out⟩, HK2.out⟩
  · rw [e5] at hmod
    clear e5 h5
    have C1 := hide (crkey_any p vb all r _ H0.out.cr)
    have C2 := hide (fun w' (h' : RX w' q vr all) => h'.call (fun a y f hh => rkey_any q vr all a y f w' hh))
    have HG := hide (good_key r H0.out.good)
    obtain ⟨k0, k1, k2, k3, k4, k5, k6, k7, hK⟩ := eight _ (keyS_length r)
    rw [hK] at C1
    simp only [List.map_cons, List.map_nil] at C1
    clear hK
    go_enter Try.func30, Try.ntmps30
    go_wp2_with fail
    refine C1.out.mono ?_
    rintro e w1 ⟨rfl, h1, hk1⟩
    have H1 := hide (H0.out.one h1 hk1 HG.out)
    have HK1 := hide (HK0.out.trans (hk1.mono (fun _ h => .inl h)) (fun _ _ h => h))
    clear h1 hk1 m0 m1 m3
    go_wp2_with fail
    refine (C2.out _ H1.out.rx).mono ?_
    rintro e w2 ⟨⟨ks, hks, rfl⟩, hx2, hk2⟩
    have H2 := hide (H1.out.two hx2 hk2)
    have HK2 := hide (HK1.out.trans (hk2.mono (fun _ h => .inr h)) (fun _ _ h => h))
    clear hx2 hk2
    obtain ⟨j0, j1, j2, j3, j4, j5, j6, j7, rfl⟩ := eight ks hks
    simp only [List.map_cons, List.map_nil]
    go_wp2_with fail
    go_ret
    exact ⟨⟨_, rfl⟩, ⟨_, H2.out⟩, HK2.out⟩
end Go.Proofs.Ytkeedioifjabeaa
