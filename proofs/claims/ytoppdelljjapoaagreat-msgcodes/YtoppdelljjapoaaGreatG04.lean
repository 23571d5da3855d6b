/-
  Own texts put together: RWriter, Fields, Write, RSpec. Own work.
-/
import Derived.Test.YtoppdelljjapoaaGreatG02
import Derived.Test.YtoppdelljjapoaaGreatG03
import Derived.Lib.IndexBytes
namespace Go.Proofs.YtoppdelljjapoaaGreat
section
open Go.RowKit

set_option maxRecDepth 100000 in
set_option maxHeartbeats 800000 in
theorem rshort_any (v : Value) (xs : List Int) (n : Nat) (w : World) (h : Lies .u8 w v xs) (hr : xs.length + 10 ≤ 140737488355328) (hn : n < 18446744073709551616) :
    Calls Tryz.prog 116 #[v, .int .u64 n] w fun e w' => ∃ v', e = .returned v' ∧
      w'.ownsRow w.heap.size 5 1 v' (xs ++ shortS n).length ((xs ++ shortS n).map (Value.int .u8)) ∧ Below w.heap.size w w' := by
  obtain ⟨i0, hi, hz0, hz1, hz2⟩ := info_parts info5
  have hl10 := shortS_len10 hn
  go_enter Tryz.func116, Tryz.ntmps116
  go_wp2_with (at_builtin; refine append_lies _ rfl _ _ rfl w.heap.size (.slice none 0 0) v 0 [] xs rfl (World.ownsRow_nil _ _ _ _) rfl h (by omega) (Nat.le_refl _) ?_; intro v0 w0 hown0 hgrow0)
  simp only [Nat.zero_add, List.nil_append] at hown0
  have hB0 : Below w.heap.size w w0 := (Below.refl _ _).grown hgrow0 (Nat.le_refl _) (fun k hk => by cases hk)
  clear hgrow0
  go_loopw [1, 5] (fun m' o wr => ∃ (m : Nat) (zs : List Int), m' = .int .u64 m ∧ m < 18446744073709551616 ∧ Hid (zs ++ shortS m = xs ++ shortS n) ∧ wr.ownsRow w.heap.size 5 1 o zs.length (zs.map (Value.int .u8)) ∧ Below w.heap.size w wr) (fun m' _ _ => (intOf m').toNat)
  case atStart => exact ⟨n, xs, rfl, hn, rfl, hown0, hB0⟩
  case round =>
    obtain ⟨m, zs, rfl, hm, HZ, hown, hB⟩ := hrel
    have hzl : zs.length + (shortS m).length = xs.length + (shortS n).length := by rw [← List.length_append, HZ.out, List.length_append]
    have hbase := hB.size
    by_cases hlt : m < 128
    · have hsl : (shortS m).length = 1 := by rw [shortS_lt hlt]; rfl
      have HL : Hid ((zs ++ [(m : Int)]) = xs ++ shortS n) := by rw [← HZ.out, shortS_lt hlt]; rfl
      have hz64 : zs.length + 1 ≤ 140737488355328 := by omega
      have hd : decide ((128 : Int) ≤ (m : Int)) = false := by simp; omega
      have hm8 : (m : Int) % 256 = m := by omega
      clear hzl hlt
      go_wp2_with (at_builtin; refine wpList_append_own _ rfl _ _ 45 rfl w.heap.size 5 i0 (.int .u8 0) 1 1 Tryz.underlying45 hi hz0 hz1 hz2 rfl (by decide) _ _ _ rfl (hown.alloc _) ⟨wr.heap.size, 0, none⟩ 1 1 [.int .u8 m] rfl rfl (cell_one_new _ _ _) (by simp [Value.oneCell']) (by unfold maxLen; omega) (by omega) (by simp; omega) ?_; intro v' w1 hown1 hgrow1 _)
      go_ret
      refine ⟨v', rfl, ?_, (hB.alloc hbase _).grown hgrow1 (by simp; omega) (fun k hk => (hown.lt k hk).1)⟩
      rw [← HL.out]
      simpa using hown1
    · have HL : Hid ((zs ++ [(m : Int) % 128 + 128]) ++ shortS (m / 128) = xs ++ shortS n) := by
        have e : (m : Int) % 128 + 128 = ((m % 128 + 128 : Nat) : Int) := by omega
        rw [← HZ.out, shortS_ge hlt, e]; simp [Hid]
      have hsl : (shortS (m / 128)).length + 1 = (shortS m).length := by rw [shortS_ge hlt]; simp
      have hz64 : zs.length + 1 ≤ 140737488355328 := by omega
      have hd : decide ((128 : Int) ≤ (m : Int)) = true := by simp; omega
      have hmd : Hid (m / 128 < m) := hide (by omega)
      clear hzl hsl hlt
      go_wp2_with (at_builtin; refine wpList_append_own _ rfl _ _ 45 rfl w.heap.size 5 i0 (.int .u8 0) 1 1 Tryz.underlying45 hi hz0 hz1 hz2 rfl (by decide) _ _ _ rfl (hown.alloc _) ⟨wr.heap.size, 0, none⟩ 1 1 [.int .u8 ((m : Int) % 128 + 128)] rfl rfl (cell_one_new _ _ _) (by simp [Value.oneCell']) (by unfold maxLen; omega) (by omega) (by simp; omega) ?_; intro v' w1 hown1 hgrow1 _)
      go_roundw
      case rel => exact ⟨m / 128, zs ++ [(m : Int) % 128 + 128], by go_num, by omega, HL, by simpa using hown1, (hB.alloc hbase _).grown hgrow1 (by simp; omega) (fun k hk => (hown.lt k hk).1)⟩
      case measure => have := hmd.out; simp [intOf]; omega

theorem shortS_pos (n : Nat) : 1 ≤ (shortS n).length := by
  by_cases h : n < 128
  · rw [shortS_lt h]; simp
  · rw [shortS_ge h]; simp
theorem heap_alloc_last' (w : World) (o : Obj) : (w.alloc o).heap[w.heap.size]? = some o := by
  show (w.heap.push o)[w.heap.size]? = some o
  simp
/-- A writer of the reference's: a variable of its own, its bytes a row of their own. -/
structure RWr (w : World) (p : Nat) (v : Value) (xs : List Int) : Prop where
  box : Box w p #[v] 63
  own : w.ownsRow 0 5 1 v xs.length (xs.map (Value.int .u8))
theorem RWr.apart {w : World} {p : Nat} {v : Value} {xs : List Int} (h : RWr w p v xs) : v.ownBlock ≠ some p := by
  intro e
  obtain ⟨_, ⟨rfl, _⟩ | ⟨g, cap, cur, rfl, _, hh, _⟩⟩ := h.own
  · cases e
  · cases e
    have := h.box
    unfold Box at this
    rw [hh] at this
    cases this
/-- What a call that writes leaves: the writer with its new bytes; all else as it was. -/
structure RWrote (w w' : World) (p : Nat) (v v' : Value) (ys : List Int) : Prop where
  wr : RWr w' p v' ys
  keep : KeepBut (fun k => k = p ∨ v.ownBlock = some k) w w'
  place : v'.ownBlock = v.ownBlock ∨ ∃ g, v'.ownBlock = some g ∧ w.heap.size ≤ g
theorem owns_any {w : World} {base e size n : Nat} {v : Value} {xs : List Value} (h : w.ownsRow base e size v n xs) : w.ownsRow 0 e size v n xs := by
  obtain ⟨hl, h0 | ⟨g, cap, cur, rfl, _, r⟩⟩ := h
  · exact ⟨hl, .inl h0⟩
  · exact ⟨hl, .inr ⟨g, cap, cur, rfl, Nat.zero_le _, r⟩⟩
theorem owns_place {w : World} {base e size n : Nat} {v : Value} {xs : List Value} (h : w.ownsRow base e size v n xs) : v.ownBlock = none ∨ ∃ g, v.ownBlock = some g ∧ base ≤ g := by
  obtain ⟨_, ⟨rfl, _⟩ | ⟨g, cap, cur, rfl, hb, _⟩⟩ := h
  · exact .inl rfl
  · exact .inr ⟨g, rfl, hb⟩
theorem owns_lt {w : World} {base e size n g : Nat} {v : Value} {xs : List Value} (h : w.ownsRow base e size v n xs) (hg : v.ownBlock = some g) : g < w.heap.size := by
  obtain ⟨_, ⟨rfl, _⟩ | ⟨g2, cap, cur, rfl, _, hh, _⟩⟩ := h
  · cases hg
  · cases hg
    exact (Array.getElem?_eq_some_iff.1 hh).1
/-- Behind a new row, the variable's one cell is set. -/
theorem RWr.put {w w1 : World} {p : Nat} {v v' : Value} {xs ys : List Int} (h : RWr w p v xs) (hB : Below w.heap.size w w1) (ho : w1.ownsRow w.heap.size 5 1 v' ys.length (ys.map (Value.int .u8))) (hne : ys ≠ []) :
    RWrote w (w1.setCell ⟨p, 0, none⟩ v') p v v' ys := by
  have hb1 : Box w1 p #[v] 63 := (hB.block p h.box.lt).trans h.box
  have hpl : ∃ g, v'.ownBlock = some g ∧ w.heap.size ≤ g := by
    obtain ⟨hl, ⟨rfl, h0⟩ | ⟨g, cap, cur, rfl, hb, _⟩⟩ := ho
    · exact absurd (List.eq_nil_of_length_eq_zero h0) hne
    · exact ⟨g, rfl, hb⟩
  refine ⟨⟨?_, ?_⟩, ((KeepBut.of_below _ hB).setCell (.inl (.inl rfl)) _), .inr hpl⟩
  · have := hb1.set (i := 0) (v := v')
    simpa using this
  · refine owns_keep (owns_any ho) ((KeepBut.refl (fun k => k = p) w1).setCell (.inl rfl) _) ?_
    intro g hg e
    obtain ⟨g2, h1, h2⟩ := hpl
    rw [h1] at hg
    cases hg
    have := h.box.lt
    omega

set_option maxHeartbeats 800000 in
theorem rwnum_any (p : Nat) (v : Value) (xs : List Int) (n : Nat) (w : World) (h : RWr w p v xs) (hr : xs.length + 10 ≤ 140737488355328) (hn : n < 18446744073709551616) :
    Calls Tryz.prog 58 #[.pointer (some ⟨p, 0, none⟩), .int .u64 n] w fun e w' => e = .returned (.tuple #[]) ∧ ∃ v', RWrote w w' p v v' (xs ++ shortS n) := by
  have HH := hide h
  have hcell := h.box.cell 0 v rfl
  have hfro := h.box.frozen 0
  have hL := hide (Lies.of_own h.own)
  have hne : Hid (xs ++ shortS n ≠ []) := hide (by have := shortS_pos n; intro e; have h2 := congrArg List.length e; rw [List.length_append] at h2; simp only [List.length_nil] at h2; omega)
  clear h
  go_enter Tryz.func58, Tryz.ntmps58
  go_wp2_with fail
  refine (rshort_any v xs n w hL.out hr hn).mono ?_
  rintro e w1 ⟨v', rfl, hown, hB⟩
  obtain ⟨ao, c1, rfl⟩ := (Lies.of_own hown).shape
  obtain ⟨nn, hnn⟩ : ∃ nn, (xs ++ shortS n).length = nn := ⟨_, rfl⟩
  rw [hnn] at hown
  have HN := hide hnn
  rw [hnn]
  clear hnn
  have hc1 := hB.cell (p := ⟨p, 0, none⟩) HH.out.box.lt
  have hf1 := hB.frozen (p := ⟨p, 0, none⟩) HH.out.box.lt
  rw [hcell] at hc1
  rw [hfro] at hf1
  have HW := hide (HH.out.put hB (by rw [HN.out]; exact hown) hne.out)
  clear hown hB hcell hfro
  go_wp2_with fail
  go_end0
  exact ⟨rfl, _, HW.out⟩

set_option maxHeartbeats 800000 in
theorem rwbyte_any (p : Nat) (v : Value) (xs : List Int) (c : Int) (w : World) (h : RWr w p v xs) (hr : xs.length + 10 ≤ 140737488355328) :
    Calls Tryz.prog 56 #[.pointer (some ⟨p, 0, none⟩), .int .u8 c] w fun e w' => e = .returned (.tuple #[]) ∧ ∃ v', RWrote w w' p v v' (xs ++ [c]) := by
  obtain ⟨i0, hi, hz0, hz1, hz2⟩ := info_parts info5
  have HH := hide h
  have hcell := h.box.cell 0 v rfl
  have hfro := h.box.frozen 0
  have hL := hide (Lies.of_own h.own)
  have hlt := h.box.lt
  obtain ⟨a0, c0, rfl⟩ := (Lies.of_own h.own).shape
  clear h
  go_enter Tryz.func56, Tryz.ntmps56
  go_wp2_with (first
    | (at_builtin; refine append_lies _ rfl _ _ rfl w.heap.size (.slice none 0 0) _ 0 [] xs rfl (World.ownsRow_nil _ _ _ _) rfl hL.out (by omega) (Nat.le_refl _) ?_; intro v0 w0 hown0 hgrow0; simp only [Nat.zero_add, List.nil_append] at hown0; have hB0 := (Below.refl w.heap.size w).grown hgrow0 (Nat.le_refl _) (fun k hk => by cases hk); have H0 := hide hown0; have HB0 := hide hB0; have hs0 := hB0.size; clear hown0 hgrow0 hB0)
    | (at_builtin; refine wpList_append_own _ rfl _ _ 45 rfl w.heap.size 5 i0 (.int .u8 0) 1 1 Tryz.underlying45 hi hz0 hz1 hz2 rfl (by decide) _ _ _ rfl (H0.out.alloc _) ⟨w0.heap.size, 0, none⟩ 1 1 [.int .u8 c] rfl rfl (cell_one_new _ _ _) (by simp [Value.oneCell']) (by unfold maxLen; omega) (by omega) (by simp; omega) ?_; intro v1 w1 hown1 hgrow1 _; have hB1 := (HB0.out.alloc HB0.out.size (.cells #[.int .u8 c] 5)).grown hgrow1 (by simp; omega) (fun k hk => (H0.out.lt k hk).1); have hc1 := hB1.cell (p := ⟨p, 0, none⟩) hlt; have hf1 := hB1.frozen (p := ⟨p, 0, none⟩) hlt; rw [hcell] at hc1; rw [hfro] at hf1; have HW := hide (HH.out.put (ys := xs ++ [c]) hB1 (by simpa using hown1) (by simp)); obtain ⟨a1, c1, rfl⟩ := (Lies.of_own (xs := xs ++ [c]) (n := xs.length + 1) (by simpa using hown1)).shape; clear hown1 hgrow1 hB1))
  go_end0
  have hw := HW.out
  simp only [List.length_append, List.length_singleton] at hw
  exact ⟨rfl, _, hw⟩

theorem RWrote.trans {w w1 w2 : World} {p : Nat} {v v1 v2 : Value} {ys zs : List Int} (h : RWrote w w1 p v v1 ys) (h' : RWrote w1 w2 p v1 v2 zs) : RWrote w w2 p v v2 zs := by
  refine ⟨h'.wr, h.keep.trans h'.keep ?_, ?_⟩
  · intro k hk hS
    rcases hS with hS | hS
    · exact .inl hS
    · rcases h.place with e | ⟨g, e, hg⟩
      · exact .inr (e ▸ hS)
      · rw [e] at hS; cases hS; omega
  · rcases h'.place with e | ⟨g, e, hg⟩
    · rcases h.place with e2 | ⟨g, e2, hg⟩
      · exact .inl (e.trans e2)
      · exact .inr ⟨g, e.trans e2, hg⟩
    · exact .inr ⟨g, e, Nat.le_trans h.keep.size hg⟩
theorem RWr.same {w : World} {p : Nat} {v : Value} {xs : List Int} (h : RWr w p v xs) : RWrote w w p v v xs := ⟨h, KeepBut.refl _ _, .inl rfl⟩
theorem RWr.keep {S : Nat → Prop} {w w' : World} {p : Nat} {v : Value} {xs : List Int} (h : RWr w p v xs) (hk : KeepBut S w w') (hp : ¬ S p) (hg : ∀ g, v.ownBlock = some g → ¬ S g) : RWr w' p v xs :=
  ⟨h.box.keep hk hp, owns_keep h.own hk hg⟩

/-- Behind an append in place (or into a new row), the variable's one cell is set. -/
theorem RWr.put_at {w w1 : World} {p : Nat} {v v' : Value} {xs ys : List Int} (h : RWr w p v xs) (hg : w.grownBy w1 v.ownBlock) (ho : w1.ownsRow 0 5 1 v' ys.length (ys.map (Value.int .u8))) (hpl : v'.ownBlock = v.ownBlock ∨ v'.ownBlock = some w.heap.size) :
    Box w1 p #[v] 63 ∧ RWrote w (w1.setCell ⟨p, 0, none⟩ v') p v v' ys := by
  have hk : KeepBut (fun k => v.ownBlock = some k) w w1 := grown_keep hg (fun g e => e)
  have hb1 : Box w1 p #[v] 63 := h.box.keep hk h.apart
  refine ⟨hb1, ⟨?_, ?_⟩, ?_, ?_⟩
  · have := hb1.set (i := 0) (v := v')
    simpa using this
  · refine owns_keep ho ((KeepBut.refl (fun k => k = p) w1).setCell (.inl rfl) _) ?_
    intro g e hgp
    subst hgp
    rcases hpl with e2 | e2
    · rw [e2] at e; exact h.apart e
    · rw [e2] at e; cases e; exact Nat.lt_irrefl _ h.box.lt
  · exact (hk.mono (fun k hk => .inr hk)).setCell (.inl (.inl rfl)) _
  · rcases hpl with e | e
    · exact .inl e
    · exact .inr ⟨_, e, Nat.le_refl _⟩

set_option maxHeartbeats 800000 in
theorem rwtext_any (p : Nat) (v : Value) (xs : List Int) (s : ByteArray) (w : World) (h : RWr w p v xs) (hr : xs.length + s.size + 20 ≤ 140737488355328) :
    Calls Tryz.prog 72 #[.pointer (some ⟨p, 0, none⟩), .string s] w fun e w' => e = .returned (.tuple #[]) ∧ ∃ v', RWrote w w' p v v' (xs ++ shortS s.size ++ strI s) := by
  have C := hide (rwnum_any p v xs s.size w h (by omega) (by omega))
  have hl10 := shortS_len10 (n := s.size) (by omega)
  have hlen : (xs ++ shortS s.size).length ≤ xs.length + 10 := by rw [List.length_append]; omega
  clear h hl10
  generalize xs ++ shortS s.size = ys at *
  have hsl := strI_length s
  have HSL := hide hsl
  clear hsl
  go_enter Tryz.func72, Tryz.ntmps72
  go_wp2_with (first
    | (go_at_call 58; refine C.out.mono ?_; rintro e w1 ⟨rfl, v1, h1⟩; have H1 := hide h1; have hc1 := h1.wr.box.cell 0 v1 rfl; obtain ⟨a1, c1, rfl⟩ := (Lies.of_own h1.wr.own).shape; clear h1)
    | (at_builtin; refine append_str _ rfl _ _ rfl _ _ _ rfl H1.out.wr.own s rfl (by omega) ?_; intro v2 w2 hown2 hgrow2 hpl2; have hown3 : w2.ownsRow 0 5 1 v2 (ys ++ strI s).length ((ys ++ strI s).map (Value.int .u8)) := (by rw [List.length_append, HSL.out]; exact hown2); have H2 := hide (H1.out.wr.put_at hgrow2 hown3 hpl2); have hc2 := H2.out.1.cell 0 _ rfl; have hf2 := H2.out.1.frozen 0; obtain ⟨a2, c2, hv2⟩ := (Lies.of_own hown3).shape; rw [List.length_append, HSL.out] at hv2; subst hv2; clear hown2 hown3 hgrow2 hpl2))
  go_end0
  exact ⟨rfl, _, H1.out.trans H2.out.2⟩

set_option maxHeartbeats 800000 in
theorem rwkey_any (p : Nat) (v : Value) (xs : List Int) (ks : List Int) (w : World) (hk8 : ks.length = 8) (h : RWr w p v xs) (hr : xs.length + 20 ≤ 140737488355328) :
    Calls Tryz.prog 60 #[.pointer (some ⟨p, 0, none⟩), .agg (ks.map (Value.int .u8)).toArray] w fun e w' => e = .returned (.tuple #[]) ∧ ∃ v', RWrote w w' p v v' (xs ++ ks) := by
  have hsz : (ks.map (Value.int .u8)).toArray.size = 8 := by simp [hk8]
  have hat : Hid (∀ i, i < 8 → (ks.map (Value.int .u8)).toArray[i]? = some (.int .u8 (ks.getD i 0))) := hide (fun i hi => by simp [List.getD, hk8, hi])
  have HTK : Hid (∀ k, k < 8 → ks.take (k + 1) = ks.take k ++ [ks.getD k 0]) := hide (fun k hk => by rw [List.take_add_one]; simp [List.getD, hk8, hk])
  have HEND : Hid (ks.take 8 = ks) := hide (by rw [← hk8]; simp)
  have HKL : Hid (∀ k, (ks.take k).length ≤ 8) := hide (fun k => by rw [List.length_take]; omega)
  generalize (ks.map (Value.int .u8)).toArray = C at *
  have hBx : Box (w.alloc (.cells C 28)) w.heap.size C 28 := heap_alloc_last' w _
  have hA : RWr (w.alloc (.cells C 28)) p v xs := h.keep ((KeepBut.refl (fun _ => False) w).alloc _) (fun h => h) (fun _ _ h => h)
  have hlt := h.box.lt
  have hgn : Hid (v.ownBlock ≠ some w.heap.size) := hide (fun e => Nat.lt_irrefl _ (owns_lt h.own e))
  have hk0 : Hid (KeepBut (fun k => k = p ∨ v.ownBlock = some k) w (w.alloc (.cells C 28))) := hide ((KeepBut.refl _ w).alloc _)
  have hs0 : Hid ((w.alloc (.cells C 28)).heap.size = w.heap.size + 1) := hide (by simp)
  have HA := hide hA.same
  have HBx := hide hBx
  clear h hA hBx
  go_enter Tryz.func60, Tryz.ntmps60
  go_wp2_with fail
  generalize w.alloc (.cells C 28) = W0 at *
  go_loopw [4] (fun i wr => ∃ (k : Nat) (v' : Value), k ≤ 8 ∧ i = .int .i64 k ∧ Hid (RWrote W0 wr p v v' (xs ++ ks.take k)) ∧ Hid (Box wr w.heap.size C 28)) (fun i _ => 8 - (intOf i).toNat)
  case atStart => exact ⟨0, v, by omega, rfl, by simpa using HA, HBx⟩
  case round =>
    obtain ⟨k, v', hk, rfl, HW, HB⟩ := hrel
    by_cases hlt8 : k < 8
    · have hcell := HB.out.cell k _ (hat.out k hlt8)
      have HT := hide (HTK.out k hlt8)
      have hlen : (xs ++ ks.take k).length + 10 ≤ 140737488355328 := by have := HKL.out k; rw [List.length_append]; omega
      have CB := hide (fun c => rwbyte_any p v' (xs ++ ks.take k) c wr HW.out.wr hlen)
      have hvn : Hid (¬ (w.heap.size = p ∨ v'.ownBlock = some w.heap.size)) := hide (by
        intro hS
        rcases hS with hS | hS
        · omega
        · rcases HW.out.place with e | ⟨g, e, hg⟩
          · rw [e] at hS; exact hgn.out hS
          · rw [e] at hS; cases hS
            have := hs0.out
            omega)
      generalize ks.getD k 0 = c at *
      clear hlen
      go_wp2_with (go_at_call 56; refine (CB.out c).mono ?_; rintro e w1 ⟨rfl, v1, h1⟩; have H1 := hide h1; clear h1)
      go_roundw
      case rel => exact ⟨k + 1, v1, by omega, by go_num, hide (by have := HW.out.trans H1.out; rw [List.append_assoc, ← HT.out] at this; exact this), hide (HB.out.keep H1.out.keep hvn.out)⟩
      case measure => simp [intOf]; omega
    · obtain rfl : k = 8 := by omega
      rw [HEND.out] at HW
      clear HB
      go_wp2_with fail
      go_end0
      refine ⟨rfl, v', HW.out.wr, hk0.out.trans HW.out.keep (fun k _ h => h), ?_⟩
      rcases HW.out.place with e | ⟨g, e, hg⟩
      · exact .inl e
      · exact .inr ⟨g, e, Nat.le_trans hk0.out.size hg⟩
end
section
open Go.RowKit

structure Fld where
  kind : Nat
  n : Nat
  s : ByteArray
  most : Int
def fld0 : Fld := ⟨0, 0, ⟨#[]⟩, 0⟩
def fcells (f : Fld) : Array Value := #[.int .u8 (f.kind : Nat), .int .u64 (f.n : Nat), .string f.s, .int .i64 f.most]
/-- Numbers that fit their kinds. -/
structure Fld.ok (f : Fld) : Prop where
  kind : f.kind < 256
  n : f.n < 18446744073709551616
  lo : -9223372036854775808 ≤ f.most
  hi : f.most ≤ 9223372036854775807
  s : f.s.size ≤ 9223372036854775807
/-- A slice of fields lies there. -/
def FLies (w : World) (v : Value) (fs : List Fld) : Prop :=
  (fs = [] ∧ ∃ (ao : Option Addr) (cap : Nat), v = .slice ao 0 cap ∧ (ao = none → cap = 0)) ∨
  (fs ≠ [] ∧ ∃ b off cap : Nat, v = .slice (some ⟨b, off, none⟩) fs.length cap ∧ b < w.heap.size ∧ fs.length ≤ cap ∧ cap ≤ maxLen ∧
    ∀ t, t < fs.length → ∀ j, j < 4 → w.cell? ⟨b, off + t * 4 + j, none⟩ = (fcells (fs.getD t fld0))[j]?)
theorem FLies.below {w w' : World} {v : Value} {fs : List Fld} {B : Nat} (hB : Below B w w') (hs : w.heap.size ≤ B) (h : FLies w v fs) : FLies w' v fs := by
  rcases h with h | ⟨hx, b, off, cap, rfl, hb, hl, hm, hc⟩
  · exact .inl h
  · exact .inr ⟨hx, b, off, cap, rfl, Nat.lt_of_lt_of_le hb hB.size, hl, hm, fun t ht j hj => (hB.cell (p := ⟨b, off + t * 4 + j, none⟩) (Nat.lt_of_lt_of_le hb hs)).trans (hc t ht j hj)⟩
theorem FLies.shape {w : World} {v : Value} {fs : List Fld} (h : FLies w v fs) : ∃ (ao : Option Addr) (cap : Nat), v = .slice ao fs.length cap ∧ fs.length ≤ cap ∧ fs.length ≤ maxLen := by
  rcases h with ⟨rfl, ao, cap, rfl, _⟩ | ⟨_, b, off, cap, rfl, _, hl, hm, _⟩
  · exact ⟨ao, cap, rfl, by simp, by simp⟩
  · exact ⟨_, cap, rfl, hl, Nat.le_trans hl hm⟩
theorem FLies.take {w : World} {ao : Option Addr} {cap k : Nat} {fs : List Fld} (h : FLies w (.slice ao fs.length cap) fs) (hk : k ≤ fs.length) : FLies w (.slice ao k cap) (fs.take k) := by
  rcases h with ⟨rfl, ao', cap', e, hn⟩ | ⟨hne, b, off, cap', e, hb, hl, hm, hc⟩
  · cases e
    obtain rfl : k = 0 := by simpa using hk
    exact .inl ⟨by simp, ao, cap, rfl, hn⟩
  · cases e
    by_cases h0 : k = 0
    · subst h0
      exact .inl ⟨by simp, _, _, rfl, fun h => by cases h⟩
    · have hlen : (fs.take k).length = k := by simp; omega
      refine .inr ⟨?_, b, off, cap, by rw [hlen], hb, by omega, hm, fun t ht j hj => ?_⟩
      · intro e; rw [e] at hlen; simp at hlen; omega
      · rw [hc t (by omega) j hj]
        have : t < k := by omega
        simp [List.getD, this]
/-- How long the texts are, each counted up to 65536. -/
def total (fs : List Fld) : Nat := (fs.map fun f => min f.s.size 65536).sum
theorem total_snoc (fs : List Fld) (k : Nat) (h : k < fs.length) : total (fs.take (k + 1)) = total (fs.take k) + min (fs.getD k fld0).s.size 65536 := by
  unfold total
  rw [List.take_add_one, List.map_append, List.sum_append]
  congr 1
  simp [List.getD, h]
theorem total_len : ∀ fs : List Fld, total fs ≤ fs.length * 65536
  | [] => Nat.le_refl _
  | f :: fs => by
    have ih := total_len fs
    unfold total at ih ⊢
    rw [List.map_cons, List.sum_cons, List.length_cons, Nat.succ_mul]
    have := Nat.min_le_right f.s.size 65536
    omega
theorem total_le (fs : List Fld) (k : Nat) : total (fs.take k) ≤ k * 65536 :=
  Nat.le_trans (total_len _) (Nat.mul_le_mul_right _ (by rw [List.length_take]; exact Nat.min_le_left _ _))

/-- A text's first eight bytes, zeros behind. -/
def keyI (s : ByteArray) : List Int := (strI s).take 8 ++ List.replicate (8 - s.size) 0
theorem keyI_length (s : ByteArray) : (keyI s).length = 8 := by simp [keyI, strI_length]; omega
/-- So far filled. -/
def keyTo (s : ByteArray) (k : Nat) : List Int := (strI s).take k ++ List.replicate (8 - k) 0
theorem keyTo_zero (s : ByteArray) : keyTo s 0 = List.replicate 8 0 := by simp [keyTo]
theorem keyTo_end (s : ByteArray) (k : Nat) (h : k = 8 ∨ k = s.size) (h8 : k ≤ 8) (hs : k ≤ s.size) : keyTo s k = keyI s := by
  unfold keyTo keyI
  rcases h with rfl | rfl
  · rw [show 8 - s.size = 0 by omega]
  · congr 1
    rw [List.take_of_length_le (by rw [strI_length]; exact Nat.le_refl _), List.take_of_length_le (by rw [strI_length]; exact h8)]
theorem keyTo_next (s : ByteArray) (k : Nat) (h8 : k < 8) (hs : k < s.size) (c : UInt8) (hc : s.data.toList[k]? = some c) :
    ((keyTo s k).map (Value.int .u8)).toArray.setIfInBounds k (.int .u8 (c.toNat : Nat)) = ((keyTo s (k + 1)).map (Value.int .u8)).toArray := by
  have hl : (strI s).length = s.size := strI_length s
  rw [List.setIfInBounds_toArray]
  congr 1
  apply List.ext_getElem?
  intro i
  have h1 : ((keyTo s k).map (Value.int .u8)).length = 8 := by simp [keyTo, hl]; omega
  rw [List.getElem?_set, h1]
  have hsk : (strI s)[k]? = some (c.toNat : Int) := by unfold strI; rw [List.getElem?_map, hc]; rfl
  by_cases hi : k = i
  · subst hi
    rw [if_pos rfl, if_pos h8]
    simp only [keyTo, List.getElem?_map, List.getElem?_append, List.length_take, hl]
    rw [if_pos (by omega)]
    simp [hsk]
  · rw [if_neg hi]
    simp only [keyTo, List.getElem?_map, List.getElem?_append, List.length_take, hl]
    by_cases h2 : i < k
    · rw [if_pos (by omega), if_pos (by omega)]
      simp [h2, show i < k + 1 by omega]
    · rw [if_neg (by omega), if_neg (by omega)]
      simp only [List.getElem?_replicate]
      congr 1
      by_cases h3 : i < 8
      · rw [if_pos (by omega), if_pos (by omega)]
      · rw [if_neg (by omega), if_neg (by omega)]
theorem infoKey : (Tryz.prog.info? 28).map (fun i => (i.zero, i.size)) = some (some (.agg (Array.replicate 8 (.int .u8 0))), 8) := by kernel_rfl
end
section
open Go.RowKit

/-- What a call on a writer leaves: its bytes, its blocks (old ones of its own, or new ones), all else as it was. -/
def Stp (A : World → (Nat → Prop) → List Int → Prop) (F : Nat → Prop) (ys : List Int) (w w' : World) : Prop := ∃ F' : Nat → Prop, A w' F' ys ∧ KeepBut F w w' ∧ ∀ k, F' k → F k ∨ w.heap.size ≤ k
/-- The room that the walks ask for. -/
def roomFor (n : Nat) : Prop := n + 40 ≤ 140737488355328
/-- A field's bytes. -/
def fieldB (f : Fld) : List Int :=
  if f.kind % 5 = 0 then shortS f.n else if f.kind % 5 = 1 then [((f.n % 256 : Nat) : Int)] else if f.kind % 5 = 2 then [if f.n % 2 = 1 then 1 else 0] else if f.kind % 5 = 3 then shortS f.s.size ++ strI f.s else keyI f.s
theorem keyI_byte (s : ByteArray) : ∀ c ∈ keyI s, 0 ≤ c ∧ c < 256 := by
  intro c hc
  unfold keyI at hc
  rw [List.mem_append] at hc
  rcases hc with h | h
  · exact strI_byte s c (List.mem_of_mem_take h)
  · rw [List.mem_replicate] at h; omega
end
section
open Go

/-- What is left, how many bytes went, the first fault. -/
structure RS where
  bs : List Int
  went : Nat
  why : Int
  fat : Nat
def RS.fail (r : RS) (e : Int) : RS := { r with why := e, fat := r.went }
def RS.go (r : RS) (k : Nat) : RS := { r with bs := r.bs.drop k, went := r.went + k }
def numS (most : Nat) (r : RS) : Int × RS :=
  if r.why ≠ 0 then (0, r)
  else if (longS r.bs).2.2 ≠ 0 then (0, r.fail (longS r.bs).2.2)
  else if (most : Int) < (longS r.bs).1 then (0, r.fail 5)
  else ((longS r.bs).1, r.go (longS r.bs).2.1.toNat)
def byteS (r : RS) : Int × RS := if r.why ≠ 0 then (0, r) else if r.bs = [] then (0, r.fail 4) else (r.bs.getD 0 0, r.go 1)
def boolS (r : RS) : Bool × RS :=
  if r.why ≠ 0 then (false, r) else if r.bs = [] then (false, r.fail 4) else if 1 < r.bs.getD 0 0 then (false, r.fail 3) else (r.bs.getD 0 0 == 1, r.go 1)
def textS (most : Int) (r : RS) : List Int × RS :=
  if r.why ≠ 0 then ([], r)
  else if (longS r.bs).2.2 ≠ 0 then ([], r.fail (longS r.bs).2.2)
  else if 0 ≤ most ∧ most < (longS r.bs).1 then ([], r.fail 5)
  else if (r.bs.length : Int) - (longS r.bs).2.1 < (longS r.bs).1 then ([], r.fail 4)
  else ((r.bs.drop (longS r.bs).2.1.toNat).take (longS r.bs).1.toNat, r.go ((longS r.bs).2.1.toNat + (longS r.bs).1.toNat))
def keyS (r : RS) : List Int × RS := if r.why ≠ 0 then (List.replicate 8 0, r) else if r.bs.length < 8 then (List.replicate 8 0, r.fail 4) else (r.bs.take 8, r.go 8)
def leftS (r : RS) : Nat := if r.why ≠ 0 then 0 else r.bs.length
def endS (r : RS) : RS := if r.why ≠ 0 then r else if r.bs = [] then r else r.fail 3

/-! Behind a fault nothing is read, and the fault stays. -/
theorem num_stays {r : RS} (h : r.why ≠ 0) (m : Nat) : numS m r = (0, r) := by unfold numS; rw [if_pos h]
theorem byte_stays {r : RS} (h : r.why ≠ 0) : byteS r = (0, r) := by unfold byteS; rw [if_pos h]
theorem bool_stays {r : RS} (h : r.why ≠ 0) : boolS r = (false, r) := by unfold boolS; rw [if_pos h]
theorem text_stays {r : RS} (h : r.why ≠ 0) (m : Int) : textS m r = ([], r) := by unfold textS; rw [if_pos h]
theorem key_stays {r : RS} (h : r.why ≠ 0) : keyS r = (List.replicate 8 0, r) := by unfold keyS; rw [if_pos h]
theorem left_stays {r : RS} (h : r.why ≠ 0) : leftS r = 0 := by unfold leftS; rw [if_pos h]
theorem end_stays {r : RS} (h : r.why ≠ 0) : endS r = r := by unfold endS; rw [if_pos h]

/-! What is written is read. -/
theorem long_back' (n : Nat) (xs : List Int) (hn : n < 18446744073709551616) : longS (shortS n ++ xs) = ((n : Int), ((shortS n).length : Int), 0) := by
  have hs := size_short n xs
  have hl10 := shortS_len10 hn
  have hl0 : (shortS n).length ≠ 0 := by rw [shortS_eq]; split <;> simp
  have hg : ∀ i, i < (shortS n).length → (shortS n ++ xs).getD i 0 = (shortS n).getD i 0 := by
    intro i hi; simp [List.getD, List.getElem?_append_left hi]
  unfold longS
  rw [hs, if_neg hl0, if_neg, if_neg]
  · rw [List.take_left, val_short]
  · rintro (h | ⟨h, h'⟩)
    · omega
    · rw [hg _ (by omega)] at h'
      have := short_tenth n hn h
      rw [h] at h'
      simp only [Nat.add_one_sub_one] at h'
      omega
  · rintro ⟨h, h'⟩
    rw [hg _ (by omega)] at h'
    refine short_last n ?_ h'
    intro e
    subst e
    rw [shortS_lt (by decide)] at h
    simp at h
theorem go_append (ys zs : List Int) (w : Nat) (e : Int) (f : Nat) : RS.go ⟨ys ++ zs, w, e, f⟩ ys.length = ⟨zs, w + ys.length, e, f⟩ := by
  unfold RS.go; simp
theorem num_back (n : Nat) (hn : n < 18446744073709551616) (ys : List Int) (w : Nat) (m : Nat) (hm : n ≤ m) (f : Nat) : numS m ⟨shortS n ++ ys, w, 0, f⟩ = ((n : Int), ⟨ys, w + (shortS n).length, 0, f⟩) := by
  unfold numS
  rw [if_neg (by simp), long_back' n ys hn]
  simp only
  rw [if_neg (by simp), if_neg (by omega), Int.toNat_natCast, go_append]
theorem byte_back (c : Int) (ys : List Int) (w : Nat) (f : Nat) : byteS ⟨[c] ++ ys, w, 0, f⟩ = (c, ⟨ys, w + 1, 0, f⟩) := by
  unfold byteS
  rw [if_neg (by simp), if_neg (by simp)]
  simp [RS.go]
theorem bool_back (b : Bool) (ys : List Int) (w : Nat) (f : Nat) : boolS ⟨[if b then 1 else 0] ++ ys, w, 0, f⟩ = (b, ⟨ys, w + 1, 0, f⟩) := by
  unfold boolS
  rw [if_neg (by simp), if_neg (by simp)]
  cases b <;> simp [RS.go]
theorem text_back (s : List Int) (hs : s.length < 18446744073709551616) (ys : List Int) (w : Nat) (f : Nat) : textS (s.length : Int) ⟨shortS s.length ++ s ++ ys, w, 0, f⟩ = (s, ⟨ys, w + (shortS s.length).length + s.length, 0, f⟩) := by
  unfold textS
  rw [if_neg (by simp), List.append_assoc, long_back' s.length _ hs]
  simp only
  rw [if_neg (by simp), if_neg (by omega), if_neg (by simp; omega)]
  simp [RS.go, Nat.add_assoc]
theorem key_back (k : List Int) (hk : k.length = 8) (ys : List Int) (w : Nat) (f : Nat) : keyS ⟨k ++ ys, w, 0, f⟩ = (k, ⟨ys, w + 8, 0, f⟩) := by
  unfold keyS
  rw [if_neg (by simp), if_neg (by simp; omega)]
  have h1 : (k ++ ys).take 8 = k := by rw [← hk]; simp
  have h2 : (k ++ ys).drop 8 = ys := by rw [← hk]; simp
  simp [RS.go, h1, h2]

/-! What is read without a fault is written as the same bytes. -/
theorem long_cases' (xs : List Int) (hx : ∀ c ∈ xs, 0 ≤ c ∧ c < 256) :
    (∃ e : Int, longS xs = (0, 0, e) ∧ e ≠ 0) ∨ (∃ N s : Nat, longS xs = ((N : Int), (s : Int), 0) ∧ 1 ≤ s ∧ s ≤ xs.length ∧ N < 18446744073709551616 ∧ shortS N = xs.take s) := by
  unfold longS
  by_cases h0 : sizeS xs = 0
  · rw [if_pos h0]; exact .inl ⟨4, rfl, by decide⟩
  · rw [if_neg h0]
    by_cases hA : 1 < sizeS xs ∧ xs.getD (sizeS xs - 1) 0 = 0
    · rw [if_pos hA]; exact .inl ⟨3, rfl, by decide⟩
    · rw [if_neg hA]
      by_cases hB : 10 < sizeS xs ∨ sizeS xs = 10 ∧ 1 < xs.getD (sizeS xs - 1) 0
      · rw [if_pos hB]; exact .inl ⟨3, rfl, by decide⟩
      · rw [if_neg hB]
        refine .inr ⟨_, _, rfl, by omega, sizeS_le xs, ?_, ?_⟩
        · have hl := sizeS_le xs
          have hlt := valS_lt (xs.take (sizeS xs))
          have hlen : (xs.take (sizeS xs)).length = sizeS xs := by simp; omega
          rw [hlen] at hlt
          by_cases h10 : sizeS xs = 10
          · have hlast : xs.getD 9 0 ≤ 1 := by
              have : ¬ 1 < xs.getD (sizeS xs - 1) 0 := fun h' => hB (.inr ⟨h10, h'⟩)
              rw [h10] at this
              simpa using this
            have hb := hx (xs.getD 9 0) (by simp [List.getD, show 9 < xs.length by omega])
            rw [h10, take_snoc xs 9 (by omega), valS_snoc]
            have h9 := valS_lt (xs.take 9)
            have hl9 : (xs.take 9).length = 9 := by simp; omega
            rw [hl9] at h9 ⊢
            have e63 : (2 : Nat) ^ (7 * 9) = 9223372036854775808 := by decide
            rw [e63] at h9 ⊢
            have : (xs.getD 9 0 % 128).toNat ≤ 1 := by omega
            have := Nat.mul_le_mul_right 9223372036854775808 this
            omega
          · have : (2 : Nat) ^ (7 * sizeS xs) ≤ 2 ^ 63 := Nat.pow_le_pow_right (by decide) (by omega)
            have e63 : (2 : Nat) ^ 63 = 9223372036854775808 := by decide
            omega
        · exact shortS_val xs hx h0 (fun h => fun h' => hA ⟨h, h'⟩)
/-- What reading a field leaves: its bytes went, or nothing did and the fault tells where. -/
def ReadAs (r r' : RS) (ys : List Int) : Prop :=
  (r'.why = 0 ∧ r.bs = ys ++ r'.bs ∧ r'.went = r.went + ys.length ∧ r'.fat = r.fat) ∨ (r'.why ≠ 0 ∧ r'.bs = r.bs ∧ r'.went = r.went ∧ r'.fat = r.went)
theorem fail_as (r : RS) (e : Int) (he : e ≠ 0) (ys : List Int) : ReadAs r (r.fail e) ys := .inr ⟨he, rfl, rfl, rfl⟩
theorem go_as (r : RS) (h : r.why = 0) (k : Nat) (hk : k ≤ r.bs.length) : ReadAs r (r.go k) (r.bs.take k) :=
  .inl ⟨h, by simp [RS.go], by simp [RS.go]; omega, rfl⟩
theorem num_one (m : Nat) (r : RS) (h : r.why = 0) (hx : ∀ c ∈ r.bs, 0 ≤ c ∧ c < 256) : ∃ n : Nat, (numS m r).1 = (n : Int) ∧ n < 18446744073709551616 ∧ ReadAs r (numS m r).2 (shortS n) := by
  unfold numS
  rw [if_neg (by simp [h])]
  rcases long_cases' r.bs hx with ⟨e, hl, he⟩ | ⟨N, s, hl, h1, hs, hN, hS⟩
  · rw [hl]
    simp only
    rw [if_pos he]
    exact ⟨0, rfl, by decide, fail_as r e he _⟩
  · rw [hl]
    simp only
    rw [if_neg (by simp)]
    split
    · exact ⟨0, rfl, by decide, fail_as r 5 (by decide) _⟩
    · refine ⟨N, rfl, hN, ?_⟩
      rw [Int.toNat_natCast, hS]
      exact go_as r h s hs
theorem byte_one (r : RS) (h : r.why = 0) : ReadAs r (byteS r).2 [(byteS r).1] := by
  unfold byteS
  rw [if_neg (by simp [h])]
  by_cases h0 : r.bs = []
  · rw [if_pos h0]; exact fail_as r 4 (by decide) _
  · rw [if_neg h0]
    have := go_as r h 1 (by cases hb : r.bs with | nil => exact absurd hb h0 | cons => simp)
    cases hb : r.bs with
    | nil => exact absurd hb h0
    | cons c t => rw [hb] at this; simpa using this
theorem bool_one (r : RS) (h : r.why = 0) (hx : ∀ c ∈ r.bs, 0 ≤ c ∧ c < 256) : ReadAs r (boolS r).2 [if (boolS r).1 then 1 else 0] := by
  unfold boolS
  rw [if_neg (by simp [h])]
  by_cases h0 : r.bs = []
  · rw [if_pos h0]; exact fail_as r 4 (by decide) _
  · rw [if_neg h0]
    split
    · exact fail_as r 3 (by decide) _
    · rename_i hle
      have := go_as r h 1 (by cases hb : r.bs with | nil => exact absurd hb h0 | cons => simp)
      cases hb : r.bs with
      | nil => exact absurd hb h0
      | cons c t =>
        rw [hb] at this hle hx
        have hc := hx c (by simp)
        simp at hle
        have hc2 : c = 0 ∨ c = 1 := by omega
        rcases hc2 with rfl | rfl <;> simpa using this
theorem key_one (r : RS) (h : r.why = 0) : ReadAs r (keyS r).2 (keyS r).1 := by
  unfold keyS
  rw [if_neg (by simp [h])]
  split
  · exact fail_as r 4 (by decide) _
  · exact go_as r h 8 (by omega)
theorem text_one (m : Int) (r : RS) (h : r.why = 0) (hx : ∀ c ∈ r.bs, 0 ≤ c ∧ c < 256) : ReadAs r (textS m r).2 (shortS (textS m r).1.length ++ (textS m r).1) := by
  unfold textS
  rw [if_neg (by simp [h])]
  rcases long_cases' r.bs hx with ⟨e, hl, he⟩ | ⟨N, s, hl, h1, hs, hN, hS⟩
  · rw [hl]
    simp only
    rw [if_pos he]
    exact fail_as r e he _
  · rw [hl]
    simp only
    rw [if_neg (by simp)]
    split
    · exact fail_as r 5 (by decide) _
    · split
      · exact fail_as r 4 (by decide) _
      · rename_i hle
        simp only [Int.toNat_natCast]
        have hlen : ((r.bs.drop s).take N).length = N := by rw [List.length_take, List.length_drop]; omega
        rw [hlen, hS]
        have := go_as r h (s + N) (by omega)
        rw [List.take_add] at this
        exact this
end
end Go.Proofs.YtoppdelljjapoaaGreat
