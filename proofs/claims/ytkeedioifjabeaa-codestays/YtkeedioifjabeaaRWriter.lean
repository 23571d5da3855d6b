/-
  The reference's writer: Short, and Num, Byte, Bool, Text, Key of a writer that is a variable of its own. Own work.
-/
import Derived.Test.YtkeedioifjabeaaAppStr
import Derived.Test.YtkeedioifjabeaaBytes
namespace Go.Proofs.Ytkeedioifjabeaa
open Go.RowKit

set_option maxRecDepth 100000 in
set_option maxHeartbeats 800000 in
theorem rshort_any (v : Value) (xs : List Int) (n : Nat) (w : World) (h : Lies .u8 w v xs) (hr : xs.length + 10 ≤ 140737488355328) (hn : n < 18446744073709551616) :
    Calls Try.prog 54 #[v, .int .u64 n] w fun e w' => ∃ v', e = .returned v' ∧
      w'.ownsRow w.heap.size 5 1 v' (xs ++ shortS n).length ((xs ++ shortS n).map (Value.int .u8)) ∧ Below w.heap.size w w' := by
  obtain ⟨i0, hi, hz0, hz1, hz2⟩ := info_parts info5
  have hl10 := shortS_len10 hn
  go_enter Try.func54, Try.ntmps54
  go_wp2_with (at_builtin; refine append_lies _ rfl _ _ rfl w.heap.size (.slice none 0 0) v 0 [] xs rfl (World.ownsRow_nil _ _ _ _) rfl h (by omega) (Nat.le_refl _) ?_; intro v0 w0 hown0 hgrow0)
  simp only [Nat.zero_add, List.nil_append] at hown0
  have hB0 : Below w.heap.size w w0 := (Below.refl _ _).grown hgrow0 (Nat.le_refl _) (fun k hk => by cases hk)
  clear hgrow0
  go_loopw [1, 5] (fun m' o wr => ∃ (m : Nat) (zs : List Int), m' = .int .u64 m ∧ m < 18446744073709551616 ∧ Hid (zs ++ shortS m = xs ++ shortS n) ∧ wr.ownsRow w.heap.size 5 1 o zs.length (zs.map (Value.int .u8)) ∧ Below w.heap.size w wr) (fun m' _ _ => (intOf m').toNat)
  case atStart => exact ⟨n, xs, rfl, hn, rfl, hown0, hB0⟩
  case round =>
    obtain ⟨m, zs, rfl, hm, HZ, hown, hB⟩ := hrel
    have hzl : zs.length + (shortS m).length = xs.length + (shortS n).length := by rw [← List.length_append, HZ.out, List.length_append]
    have hbase := hB.size
    by_cases hlt : m < 128
    · have hsl : (shortS m).length = 1 := by rw [shortS_lt hlt]; rfl
      have HL : Hid ((zs ++ [(m : Int)]) = xs ++ shortS n) := by rw [← HZ.out, shortS_lt hlt]; rfl
      have hz64 : zs.length + 1 ≤ 140737488355328 := by omega
      have hd : decide ((128 : Int) ≤ (m : Int)) = false := by simp; omega
      have hm8 : (m : Int) % 256 = m := by omega
      clear hzl hlt
      go_wp2_with (at_builtin; refine wpList_append_own _ rfl _ _ 25 rfl w.heap.size 5 i0 (.int .u8 0) 1 1 Try.underlying25 hi hz0 hz1 hz2 rfl (by decide) _ _ _ rfl (hown.alloc _) ⟨wr.heap.size, 0, none⟩ 1 1 [.int .u8 m] rfl rfl (cell_one_new _ _ _) (by simp [Value.oneCell']) (by unfold maxLen; omega) (by omega) (by simp; omega) ?_; intro v' w1 hown1 hgrow1 _)
      go_ret
      refine ⟨v', rfl, ?_, (hB.alloc hbase _).grown hgrow1 (by simp; omega) (fun k hk => (hown.lt k hk).1)⟩
      rw [← HL.out]
      simpa using hown1
    · have HL : Hid ((zs ++ [(m : Int) % 128 + 128]) ++ shortS (m / 128) = xs ++ shortS n) := by
        have e : (m : Int) % 128 + 128 = ((m % 128 + 128 : Nat) : Int) := by omega
        rw [← HZ.out, shortS_ge hlt, e]; simp [Hid]
      have hsl : (shortS (m / 128)).length + 1 = (shortS m).length := by rw [shortS_ge hlt]; simp
      have hz64 : zs.length + 1 ≤ 140737488355328 := by omega
      have hd : decide ((128 : Int) ≤ (m : Int)) = true := by simp; omega
      have hmd : Hid (m / 128 < m) := hide (by omega)
      clear hzl hsl hlt
      go_wp2_with (at_builtin; refine wpList_append_own _ rfl _ _ 25 rfl w.heap.size 5 i0 (.int .u8 0) 1 1 Try.underlying25 hi hz0 hz1 hz2 rfl (by decide) _ _ _ rfl (hown.alloc _) ⟨wr.heap.size, 0, none⟩ 1 1 [.int .u8 ((m : Int) % 128 + 128)] rfl rfl (cell_one_new _ _ _) (by simp [Value.oneCell']) (by unfold maxLen; omega) (by omega) (by simp; omega) ?_; intro v' w1 hown1 hgrow1 _)
      go_roundw
      case rel => exact ⟨m / 128, zs ++ [(m : Int) % 128 + 128], by go_num, by omega, HL, by simpa using hown1, (hB.alloc hbase _).grown hgrow1 (by simp; omega) (fun k hk => (hown.lt k hk).1)⟩
      case measure => have := hmd.out; simp [intOf]; omega

theorem shortS_pos (n : Nat) : 1 ≤ (shortS n).length := by
  by_cases h : n < 128
  · rw [shortS_lt h]; simp
  · rw [shortS_ge h]; simp
theorem heap_alloc_last' (w : World) (o : Obj) : (w.alloc o).heap[w.heap.size]? = some o := by
  show (w.heap.push o)[w.heap.size]? = some o
  simp
/-- A writer of the reference's: a variable of its own, its bytes a row of their own. -/
structure RWr (w : World) (p : Nat) (v : Value) (xs : List Int) : Prop where
  box : Box w p #[v] 29
  own : w.ownsRow 0 5 1 v xs.length (xs.map (Value.int .u8))
theorem RWr.apart {w : World} {p : Nat} {v : Value} {xs : List Int} (h : RWr w p v xs) : v.ownBlock ≠ some p := by
  intro e
  obtain ⟨_, ⟨rfl, _⟩ | ⟨g, cap, cur, rfl, _, hh, _⟩⟩ := h.own
  · cases e
  · cases e
    have := h.box
    unfold Box at this
    rw [hh] at this
    cases this
/-- What a call that writes leaves: the writer with its new bytes; all else as it was. -/
structure RWrote (w w' : World) (p : Nat) (v v' : Value) (ys : List Int) : Prop where
  wr : RWr w' p v' ys
  keep : KeepBut (fun k => k = p ∨ v.ownBlock = some k) w w'
  place : v'.ownBlock = v.ownBlock ∨ ∃ g, v'.ownBlock = some g ∧ w.heap.size ≤ g
theorem owns_any {w : World} {base e size n : Nat} {v : Value} {xs : List Value} (h : w.ownsRow base e size v n xs) : w.ownsRow 0 e size v n xs := by
  obtain ⟨hl, h0 | ⟨g, cap, cur, rfl, _, r⟩⟩ := h
  · exact ⟨hl, .inl h0⟩
  · exact ⟨hl, .inr ⟨g, cap, cur, rfl, Nat.zero_le _, r⟩⟩
theorem owns_place {w : World} {base e size n : Nat} {v : Value} {xs : List Value} (h : w.ownsRow base e size v n xs) : v.ownBlock = none ∨ ∃ g, v.ownBlock = some g ∧ base ≤ g := by
  obtain ⟨_, ⟨rfl, _⟩ | ⟨g, cap, cur, rfl, hb, _⟩⟩ := h
  · exact .inl rfl
  · exact .inr ⟨g, rfl, hb⟩
theorem owns_lt {w : World} {base e size n g : Nat} {v : Value} {xs : List Value} (h : w.ownsRow base e size v n xs) (hg : v.ownBlock = some g) : g < w.heap.size := by
  obtain ⟨_, ⟨rfl, _⟩ | ⟨g2, cap, cur, rfl, _, hh, _⟩⟩ := h
  · cases hg
  · cases hg
    exact (Array.getElem?_eq_some_iff.1 hh).1
/-- Behind a new row, the variable's one cell is set. -/
theorem RWr.put {w w1 : World} {p : Nat} {v v' : Value} {xs ys : List Int} (h : RWr w p v xs) (hB : Below w.heap.size w w1) (ho : w1.ownsRow w.heap.size 5 1 v' ys.length (ys.map (Value.int .u8))) (hne : ys ≠ []) :
    RWrote w (w1.setCell ⟨p, 0, none⟩ v') p v v' ys := by
  have hb1 : Box w1 p #[v] 29 := (hB.block p h.box.lt).trans h.box
  have hpl : ∃ g, v'.ownBlock = some g ∧ w.heap.size ≤ g := by
    obtain ⟨hl, ⟨rfl, h0⟩ | ⟨g, cap, cur, rfl, hb, _⟩⟩ := ho
    · exact absurd (List.eq_nil_of_length_eq_zero h0) hne
    · exact ⟨g, rfl, hb⟩
  refine ⟨⟨?_, ?_⟩, ((KeepBut.of_below _ hB).setCell (.inl (.inl rfl)) _), .inr hpl⟩
  · have := hb1.set (i := 0) (v := v')
    simpa using this
  · refine owns_keep (owns_any ho) ((KeepBut.refl (fun k => k = p) w1).setCell (.inl rfl) _) ?_
    intro g hg e
    obtain ⟨g2, h1, h2⟩ := hpl
    rw [h1] at hg
    cases hg
    have := h.box.lt
    omega

set_option maxHeartbeats 800000 in
theorem rwnum_any (p : Nat) (v : Value) (xs : List Int) (n : Nat) (w : World) (h : RWr w p v xs) (hr : xs.length + 10 ≤ 140737488355328) (hn : n < 18446744073709551616) :
    Calls Try.prog 31 #[.pointer (some ⟨p, 0, none⟩), .int .u64 n] w fun e w' => e = .returned (.tuple #[]) ∧ ∃ v', RWrote w w' p v v' (xs ++ shortS n) := by
  have HH := hide h
  have hcell := h.box.cell 0 v rfl
  have hfro := h.box.frozen 0
  have hL := hide (Lies.of_own h.own)
  have hne : Hid (xs ++ shortS n ≠ []) := hide (by have := shortS_pos n; intro e; have h2 := congrArg List.length e; rw [List.length_append] at h2; simp only [List.length_nil] at h2; omega)
  clear h
  go_enter Try.func31, Try.ntmps31
  go_wp2_with fail
  refine (rshort_any v xs n w hL.out hr hn).mono ?_
  rintro e w1 ⟨v', rfl, hown, hB⟩
  obtain ⟨ao, c1, rfl⟩ := (Lies.of_own hown).shape
  obtain ⟨nn, hnn⟩ : ∃ nn, (xs ++ shortS n).length = nn := ⟨_, rfl⟩
  rw [hnn] at hown
  have HN := hide hnn
  rw [hnn]
  clear hnn
  have hc1 := hB.cell (p := ⟨p, 0, none⟩) HH.out.box.lt
  have hf1 := hB.frozen (p := ⟨p, 0, none⟩) HH.out.box.lt
  rw [hcell] at hc1
  rw [hfro] at hf1
  have HW := hide (HH.out.put hB (by rw [HN.out]; exact hown) hne.out)
  clear hown hB hcell hfro
  go_wp2_with fail
  go_end0
  exact ⟨rfl, _, HW.out⟩

set_option maxHeartbeats 800000 in
theorem rwbyte_any (p : Nat) (v : Value) (xs : List Int) (c : Int) (w : World) (h : RWr w p v xs) (hr : xs.length + 10 ≤ 140737488355328) :
    Calls Try.prog 32 #[.pointer (some ⟨p, 0, none⟩), .int .u8 c] w fun e w' => e = .returned (.tuple #[]) ∧ ∃ v', RWrote w w' p v v' (xs ++ [c]) := by
  obtain ⟨i0, hi, hz0, hz1, hz2⟩ := info_parts info5
  have HH := hide h
  have hcell := h.box.cell 0 v rfl
  have hfro := h.box.frozen 0
  have hL := hide (Lies.of_own h.own)
  have hlt := h.box.lt
  obtain ⟨a0, c0, rfl⟩ := (Lies.of_own h.own).shape
  clear h
  go_enter Try.func32, Try.ntmps32
  go_wp2_with (first
    | (at_builtin; refine append_lies _ rfl _ _ rfl w.heap.size (.slice none 0 0) _ 0 [] xs rfl (World.ownsRow_nil _ _ _ _) rfl hL.out (by omega) (Nat.le_refl _) ?_; intro v0 w0 hown0 hgrow0; simp only [Nat.zero_add, List.nil_append] at hown0; have hB0 := (Below.refl w.heap.size w).grown hgrow0 (Nat.le_refl _) (fun k hk => by cases hk); have H0 := hide hown0; have HB0 := hide hB0; have hs0 := hB0.size; clear hown0 hgrow0 hB0)
    | (at_builtin; refine wpList_append_own _ rfl _ _ 25 rfl w.heap.size 5 i0 (.int .u8 0) 1 1 Try.underlying25 hi hz0 hz1 hz2 rfl (by decide) _ _ _ rfl (H0.out.alloc _) ⟨w0.heap.size, 0, none⟩ 1 1 [.int .u8 c] rfl rfl (cell_one_new _ _ _) (by simp [Value.oneCell']) (by unfold maxLen; omega) (by omega) (by simp; omega) ?_; intro v1 w1 hown1 hgrow1 _; have hB1 := (HB0.out.alloc HB0.out.size (.cells #[.int .u8 c] 5)).grown hgrow1 (by simp; omega) (fun k hk => (H0.out.lt k hk).1); have hc1 := hB1.cell (p := ⟨p, 0, none⟩) hlt; have hf1 := hB1.frozen (p := ⟨p, 0, none⟩) hlt; rw [hcell] at hc1; rw [hfro] at hf1; have HW := hide (HH.out.put (ys := xs ++ [c]) hB1 (by simpa using hown1) (by simp)); obtain ⟨a1, c1, rfl⟩ := (Lies.of_own (xs := xs ++ [c]) (n := xs.length + 1) (by simpa using hown1)).shape; clear hown1 hgrow1 hB1))
  go_end0
  have hw := HW.out
  simp only [List.length_append, List.length_singleton] at hw
  exact ⟨rfl, _, hw⟩

theorem RWrote.trans {w w1 w2 : World} {p : Nat} {v v1 v2 : Value} {ys zs : List Int} (h : RWrote w w1 p v v1 ys) (h' : RWrote w1 w2 p v1 v2 zs) : RWrote w w2 p v v2 zs := by
  refine ⟨h'.wr, h.keep.trans h'.keep ?_, ?_⟩
  · intro k hk hS
    rcases hS with hS | hS
    · exact .inl hS
    · rcases h.place with e | ⟨g, e, hg⟩
      · exact .inr (e ▸ hS)
      · rw [e] at hS; cases hS; omega
  · rcases h'.place with e | ⟨g, e, hg⟩
    · rcases h.place with e2 | ⟨g, e2, hg⟩
      · exact .inl (e.trans e2)
      · exact .inr ⟨g, e.trans e2, hg⟩
    · exact .inr ⟨g, e, Nat.le_trans h.keep.size hg⟩
theorem RWr.same {w : World} {p : Nat} {v : Value} {xs : List Int} (h : RWr w p v xs) : RWrote w w p v v xs := ⟨h, KeepBut.refl _ _, .inl rfl⟩
theorem RWr.keep {S : Nat → Prop} {w w' : World} {p : Nat} {v : Value} {xs : List Int} (h : RWr w p v xs) (hk : KeepBut S w w') (hp : ¬ S p) (hg : ∀ g, v.ownBlock = some g → ¬ S g) : RWr w' p v xs :=
  ⟨h.box.keep hk hp, owns_keep h.own hk hg⟩

theorem rwbool_any (p : Nat) (v : Value) (xs : List Int) (b : Bool) (w : World) (h : RWr w p v xs) (hr : xs.length + 10 ≤ 140737488355328) :
    Calls Try.prog 33 #[.pointer (some ⟨p, 0, none⟩), .bool b] w fun e w' => e = .returned (.tuple #[]) ∧ ∃ v', RWrote w w' p v v' (xs ++ [if b then 1 else 0]) := by
  cases b
  · have C := hide (rwbyte_any p v xs 0 w h hr)
    clear h
    go_enter Try.func33, Try.ntmps33
    go_wp2_with (go_at_call 32; refine C.out.mono ?_; rintro e w1 ⟨rfl, v1, h1⟩; have H1 := hide h1; clear h1)
    go_end0
    exact ⟨rfl, _, H1.out⟩
  · have C := hide (rwbyte_any p v xs 1 w h hr)
    clear h
    go_enter Try.func33, Try.ntmps33
    go_wp2_with (go_at_call 32; refine C.out.mono ?_; rintro e w1 ⟨rfl, v1, h1⟩; have H1 := hide h1; clear h1)
    go_end0
    exact ⟨rfl, _, H1.out⟩

/-- Behind an append in place (or into a new row), the variable's one cell is set. -/
theorem RWr.put_at {w w1 : World} {p : Nat} {v v' : Value} {xs ys : List Int} (h : RWr w p v xs) (hg : w.grownBy w1 v.ownBlock) (ho : w1.ownsRow 0 5 1 v' ys.length (ys.map (Value.int .u8))) (hpl : v'.ownBlock = v.ownBlock ∨ v'.ownBlock = some w.heap.size) :
    Box w1 p #[v] 29 ∧ RWrote w (w1.setCell ⟨p, 0, none⟩ v') p v v' ys := by
  have hk : KeepBut (fun k => v.ownBlock = some k) w w1 := grown_keep hg (fun g e => e)
  have hb1 : Box w1 p #[v] 29 := h.box.keep hk h.apart
  refine ⟨hb1, ⟨?_, ?_⟩, ?_, ?_⟩
  · have := hb1.set (i := 0) (v := v')
    simpa using this
  · refine owns_keep ho ((KeepBut.refl (fun k => k = p) w1).setCell (.inl rfl) _) ?_
    intro g e hgp
    subst hgp
    rcases hpl with e2 | e2
    · rw [e2] at e; exact h.apart e
    · rw [e2] at e; cases e; exact Nat.lt_irrefl _ h.box.lt
  · exact (hk.mono (fun k hk => .inr hk)).setCell (.inl (.inl rfl)) _
  · rcases hpl with e | e
    · exact .inl e
    · exact .inr ⟨_, e, Nat.le_refl _⟩

set_option maxHeartbeats 800000 in
theorem rwtext_any (p : Nat) (v : Value) (xs : List Int) (s : ByteArray) (w : World) (h : RWr w p v xs) (hr : xs.length + s.size + 20 ≤ 140737488355328) :
    Calls Try.prog 34 #[.pointer (some ⟨p, 0, none⟩), .string s] w fun e w' => e = .returned (.tuple #[]) ∧ ∃ v', RWrote w w' p v v' (xs ++ shortS s.size ++ strI s) := by
  have C := hide (rwnum_any p v xs s.size w h (by omega) (by omega))
  have hl10 := shortS_len10 (n := s.size) (by omega)
  have hlen : (xs ++ shortS s.size).length ≤ xs.length + 10 := by rw [List.length_append]; omega
  clear h hl10
  generalize xs ++ shortS s.size = ys at *
  have hsl := strI_length s
  have HSL := hide hsl
  clear hsl
  go_enter Try.func34, Try.ntmps34
  go_wp2_with (first
    | (go_at_call 31; refine C.out.mono ?_; rintro e w1 ⟨rfl, v1, h1⟩; have H1 := hide h1; have hc1 := h1.wr.box.cell 0 v1 rfl; obtain ⟨a1, c1, rfl⟩ := (Lies.of_own h1.wr.own).shape; clear h1)
    | (at_builtin; refine append_str _ rfl _ _ rfl _ _ _ rfl H1.out.wr.own s rfl (by omega) ?_; intro v2 w2 hown2 hgrow2 hpl2; have hown3 : w2.ownsRow 0 5 1 v2 (ys ++ strI s).length ((ys ++ strI s).map (Value.int .u8)) := (by rw [List.length_append, HSL.out]; exact hown2); have H2 := hide (H1.out.wr.put_at hgrow2 hown3 hpl2); have hc2 := H2.out.1.cell 0 _ rfl; have hf2 := H2.out.1.frozen 0; obtain ⟨a2, c2, hv2⟩ := (Lies.of_own hown3).shape; rw [List.length_append, HSL.out] at hv2; subst hv2; clear hown2 hown3 hgrow2 hpl2))
  go_end0
  exact ⟨rfl, _, H1.out.trans H2.out.2⟩

set_option maxHeartbeats 800000 in
theorem rwkey_any (p : Nat) (v : Value) (xs : List Int) (ks : List Int) (w : World) (hk8 : ks.length = 8) (h : RWr w p v xs) (hr : xs.length + 20 ≤ 140737488355328) :
    Calls Try.prog 35 #[.pointer (some ⟨p, 0, none⟩), .agg (ks.map (Value.int .u8)).toArray] w fun e w' => e = .returned (.tuple #[]) ∧ ∃ v', RWrote w w' p v v' (xs ++ ks) := by
  have hsz : (ks.map (Value.int .u8)).toArray.size = 8 := by simp [hk8]
  have hat : Hid (∀ i, i < 8 → (ks.map (Value.int .u8)).toArray[i]? = some (.int .u8 (ks.getD i 0))) := hide (fun i hi => by simp [List.getD, hk8, hi])
  have HTK : Hid (∀ k, k < 8 → ks.take (k + 1) = ks.take k ++ [ks.getD k 0]) := hide (fun k hk => by rw [List.take_add_one]; simp [List.getD, hk8, hk])
  have HEND : Hid (ks.take 8 = ks) := hide (by rw [← hk8]; simp)
  have HKL : Hid (∀ k, (ks.take k).length ≤ 8) := hide (fun k => by rw [List.length_take]; omega)
  generalize (ks.map (Value.int .u8)).toArray = C at *
  have hBx : Box (w.alloc (.cells C 45)) w.heap.size C 45 := heap_alloc_last' w _
  have hA : RWr (w.alloc (.cells C 45)) p v xs := h.keep ((KeepBut.refl (fun _ => False) w).alloc _) (fun h => h) (fun _ _ h => h)
  have hlt := h.box.lt
  have hgn : Hid (v.ownBlock ≠ some w.heap.size) := hide (fun e => Nat.lt_irrefl _ (owns_lt h.own e))
  have hk0 : Hid (KeepBut (fun k => k = p ∨ v.ownBlock = some k) w (w.alloc (.cells C 45))) := hide ((KeepBut.refl _ w).alloc _)
  have hs0 : Hid ((w.alloc (.cells C 45)).heap.size = w.heap.size + 1) := hide (by simp)
  have HA := hide hA.same
  have HBx := hide hBx
  clear h hA hBx
  go_enter Try.func35, Try.ntmps35
  go_wp2_with fail
  generalize w.alloc (.cells C 45) = W0 at *
  go_loopw [4] (fun i wr => ∃ (k : Nat) (v' : Value), k ≤ 8 ∧ i = .int .i64 k ∧ Hid (RWrote W0 wr p v v' (xs ++ ks.take k)) ∧ Hid (Box wr w.heap.size C 45)) (fun i _ => 8 - (intOf i).toNat)
  case atStart => exact ⟨0, v, by omega, rfl, by simpa using HA, HBx⟩
  case round =>
    obtain ⟨k, v', hk, rfl, HW, HB⟩ := hrel
    by_cases hlt8 : k < 8
    · have hcell := HB.out.cell k _ (hat.out k hlt8)
      have HT := hide (HTK.out k hlt8)
      have hlen : (xs ++ ks.take k).length + 10 ≤ 140737488355328 := by have := HKL.out k; rw [List.length_append]; omega
      have CB := hide (fun c => rwbyte_any p v' (xs ++ ks.take k) c wr HW.out.wr hlen)
      have hvn : Hid (¬ (w.heap.size = p ∨ v'.ownBlock = some w.heap.size)) := hide (by
        intro hS
        rcases hS with hS | hS
        · omega
        · rcases HW.out.place with e | ⟨g, e, hg⟩
          · rw [e] at hS; exact hgn.out hS
          · rw [e] at hS; cases hS
            have := hs0.out
            omega)
      generalize ks.getD k 0 = c at *
      clear hlen
      go_wp2_with (go_at_call 32; refine (CB.out c).mono ?_; rintro e w1 ⟨rfl, v1, h1⟩; have H1 := hide h1; clear h1)
      go_roundw
      case rel => exact ⟨k + 1, v1, by omega, by go_num, hide (by have := HW.out.trans H1.out; rw [List.append_assoc, ← HT.out] at this; exact this), hide (HB.out.keep H1.out.keep hvn.out)⟩
      case measure => simp [intOf]; omega
    · obtain rfl : k = 8 := by omega
      rw [HEND.out] at HW
      clear HB
      go_wp2_with fail
      go_end0
      refine ⟨rfl, v', HW.out.wr, hk0.out.trans HW.out.keep (fun k _ h => h), ?_⟩
      rcases HW.out.place with e | ⟨g, e, hg⟩
      · exact .inl e
      · exact .inr ⟨g, e, Nat.le_trans hk0.out.size hg⟩
end Go.Proofs.Ytkeedioifjabeaa
