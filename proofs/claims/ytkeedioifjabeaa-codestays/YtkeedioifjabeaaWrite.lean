/-
  The laws' 'write' of layer 3, over whatever the program's writer is: a bundle of what its methods do ('CWr'). Own work.
-/
import Derived.Test.YtkeedioifjabeaaFields
namespace Go.Proofs.Ytkeedioifjabeaa
open Go.RowKit

/-- What a call on a writer leaves: its bytes, its blocks (old ones of its own, or new ones), all else as it was. -/
def Stp (A : World → (Nat → Prop) → List Int → Prop) (F : Nat → Prop) (ys : List Int) (w w' : World) : Prop := ∃ F' : Nat → Prop, A w' F' ys ∧ KeepBut F w w' ∧ ∀ k, F' k → F k ∨ w.heap.size ≤ k
/-- The room that the walks ask for. -/
def roomFor (n : Nat) : Prop := n + 40 ≤ 140737488355328
/-- The program's writer, by what its methods do: A: this pointer's writer has these bytes, in these blocks. -/
structure CWr (ptr : Value) where
  A : World → (Nat → Prop) → List Int → Prop
  lt : ∀ w F xs, A w F xs → ∀ k, F k → k < w.heap.size
  keep : ∀ w w' F S xs, A w F xs → KeepBut S w w' → (∀ k, F k → ¬ S k) → A w' F xs
  num : ∀ w F xs (n : Nat), A w F xs → roomFor xs.length → n < 18446744073709551616 → Calls Try.prog 24 #[ptr, .int .u64 n] w fun e w' => e = .returned (.tuple #[]) ∧ Stp A F (xs ++ shortS n) w w'
  byte : ∀ w F xs (c : Nat), A w F xs → roomFor xs.length → c < 256 → Calls Try.prog 25 #[ptr, .int .u8 c] w fun e w' => e = .returned (.tuple #[]) ∧ Stp A F (xs ++ [(c : Int)]) w w'
  bool : ∀ w F xs (b : Bool), A w F xs → roomFor xs.length → Calls Try.prog 26 #[ptr, .bool b] w fun e w' => e = .returned (.tuple #[]) ∧ Stp A F (xs ++ [if b then 1 else 0]) w w'
  text : ∀ w F xs (s : ByteArray), A w F xs → roomFor (xs.length + s.size) → Calls Try.prog 27 #[ptr, .string s] w fun e w' => e = .returned (.tuple #[]) ∧ Stp A F (xs ++ shortS s.size ++ strI s) w w'
  key : ∀ w F xs (ks : List Int), A w F xs → roomFor xs.length → ks.length = 8 → (∀ c ∈ ks, 0 ≤ c ∧ c < 256) → Calls Try.prog 28 #[ptr, .agg (ks.map (Value.int .u8)).toArray] w fun e w' => e = .returned (.tuple #[]) ∧ Stp A F (xs ++ ks) w w'
/-- A field's bytes. -/
def fieldB (f : Fld) : List Int :=
  if f.kind % 5 = 0 then shortS f.n else if f.kind % 5 = 1 then [((f.n % 256 : Nat) : Int)] else if f.kind % 5 = 2 then [if f.n % 2 = 1 then 1 else 0] else if f.kind % 5 = 3 then shortS f.s.size ++ strI f.s else keyI f.s
/-- Two writers with the same bytes, apart from each other. -/
structure Both {ptr : Value} (C : CWr ptr) (w : World) (F : Nat → Prop) (p : Nat) (v : Value) (xs : List Int) : Prop where
  c : C.A w F xs
  r : RWr w p v xs
  apart : ∀ k, F k → k ≠ p ∧ v.ownBlock ≠ some k
theorem Both.alloc {ptr : Value} {C : CWr ptr} {w : World} {F : Nat → Prop} {p : Nat} {v : Value} {xs : List Int} (h : Both C w F p v xs) (o : Obj) : Both C (w.alloc o) F p v xs :=
  ⟨C.keep _ _ _ (fun _ => False) _ h.c ((KeepBut.refl _ _).alloc _) (fun _ _ h => h), h.r.keep ((KeepBut.refl (fun _ => False) _).alloc _) (fun h => h) (fun _ _ h => h), h.apart⟩
/-- Behind the program's writer's call: the reference's is as it was. -/
theorem Both.mid {ptr : Value} {C : CWr ptr} {w w1 : World} {F : Nat → Prop} {p : Nat} {v : Value} {xs ys : List Int} (h : Both C w F p v xs) (h1 : Stp C.A F ys w w1) :
    ∃ F', C.A w1 F' ys ∧ RWr w1 p v xs ∧ KeepBut F w w1 ∧ (∀ k, F' k → F k ∨ w.heap.size ≤ k) ∧ ∀ k, F' k → k ≠ p ∧ v.ownBlock ≠ some k := by
  obtain ⟨F', hA, hK, hF⟩ := h1
  refine ⟨F', hA, h.r.keep hK (fun hp => (h.apart p hp).1 rfl) (fun g hg hFg => (h.apart g hFg).2 hg), hK, hF, fun k hk => ?_⟩
  rcases hF k hk with h2 | h2
  · exact h.apart k h2
  · refine ⟨fun e => ?_, fun e => ?_⟩
    · have := h.r.box.lt; omega
    · have := owns_lt h.r.own e; omega
/-- Behind both calls. -/
theorem Both.done {ptr : Value} {C : CWr ptr} {w0 w w1 w2 : World} {F F' : Nat → Prop} {p : Nat} {v v2 : Value} {ys : List Int} (h0 : KeepBut (fun _ => False) w0 w)
    (hA : C.A w1 F' ys) (hK : KeepBut F w w1) (hF : ∀ k, F' k → F k ∨ w.heap.size ≤ k) (hap : ∀ k, F' k → k ≠ p ∧ v.ownBlock ≠ some k) (h2 : RWrote w1 w2 p v v2 ys) :
    Both C w2 F' p v2 ys ∧ KeepBut (fun k => F k ∨ k = p ∨ v.ownBlock = some k) w0 w2 ∧ (∀ k, F' k → F k ∨ w0.heap.size ≤ k) ∧ ∀ g, v2.ownBlock = some g → v.ownBlock = some g ∨ w0.heap.size ≤ g := by
  refine ⟨⟨C.keep _ _ _ _ _ hA h2.keep (fun k hk hS => ?_), h2.wr, fun k hk => ⟨(hap k hk).1, fun e => ?_⟩⟩, ?_, fun k hk => (hF k hk).imp id (fun h => Nat.le_trans h0.size h), fun g hg => ?_⟩
  · rcases hS with e | e
    · exact (hap k hk).1 e
    · exact (hap k hk).2 e
  · rcases h2.place with e2 | ⟨g, e2, hg⟩
    · rw [e2] at e; exact (hap k hk).2 e
    · rw [e2] at e
      cases e
      have := C.lt _ _ _ hA k hk
      omega
  · refine KeepBut.trans (S' := fun k => F k ∨ k = p ∨ v.ownBlock = some k) (h0.mono (fun k hk => hk.elim)) ?_ (fun k _ hk => hk)
    exact (hK.mono (fun k hk => .inl hk)).trans h2.keep (fun k _ hk => .inr hk)
  · rcases h2.place with e2 | ⟨g2, e2, hg2⟩
    · exact .inl (e2 ▸ hg)
    · rw [e2] at hg
      cases hg
      exact .inr (Nat.le_trans (Nat.le_trans h0.size hK.size) hg2)

theorem Both.below {ptr : Value} {C : CWr ptr} {w w' : World} {F : Nat → Prop} {p : Nat} {v : Value} {xs : List Int} (h : Both C w F p v xs) (hB : Below w.heap.size w w') : Both C w' F p v xs :=
  ⟨C.keep _ _ _ (fun _ => False) _ h.c (KeepBut.of_below _ hB) (fun _ _ h => h), h.r.keep (KeepBut.of_below (fun _ => False) hB) (fun h => h) (fun _ _ h => h), h.apart⟩
theorem keyI_byte (s : ByteArray) : ∀ c ∈ keyI s, 0 ≤ c ∧ c < 256 := by
  intro c hc
  unfold keyI at hc
  rw [List.mem_append] at hc
  rcases hc with h | h
  · exact strI_byte s c (List.mem_of_mem_take h)
  · rw [List.mem_replicate] at h; omega
set_option maxRecDepth 100000 in
set_option maxHeartbeats 1600000 in
theorem write_any {ptr : Value} (C : CWr ptr) (f : Fld) (hf : f.ok) (w : World) (F : Nat → Prop) (p : Nat) (v : Value) (xs : List Int) (h : Both C w F p v xs) (hr : roomFor (xs.length + f.s.size)) :
    Calls Try.prog 11 #[ptr, .pointer (some ⟨p, 0, none⟩), .agg (fcells f)] w fun e w' => e = .returned (.tuple #[]) ∧ ∃ F' v', Both C w' F' p v' (xs ++ fieldB f) ∧ KeepBut (fun k => F k ∨ k = p ∨ v.ownBlock = some k) w w' ∧ (∀ k, F' k → F k ∨ w.heap.size ≤ k) ∧ ∀ g, v'.ownBlock = some g → v.ownBlock = some g ∨ w.heap.size ≤ g := by
  obtain ⟨kd, n, s, mo⟩ := f
  have hkd := hf.kind
  have hn := hf.n
  simp only at hkd hn hr
  unfold roomFor at hr
  have h0 := h.alloc (.cells (fcells ⟨kd, n, s, mo⟩) 33)
  have hk0 : Hid (KeepBut (fun _ => False) w (w.alloc (.cells (fcells ⟨kd, n, s, mo⟩) 33))) := hide ((KeepBut.refl _ _).alloc _)
  have hb0 := box_new w (fcells ⟨kd, n, s, mo⟩) 33
  have hFb : Hid (¬ F w.heap.size) := hide (fun hF => Nat.lt_irrefl _ (C.lt _ _ _ h.c _ hF))
  clear h hf
  simp only [fcells] at h0 hk0 hb0
  have H0 := hide h0
  have HB0 := hide hb0
  have m0 := hb0.cell 0 (.int .u8 (kd : Nat)) rfl
  have m1 := hb0.cell 1 (.int .u64 (n : Nat)) rfl
  have m2 := hb0.cell 2 (.string s) rfl
  clear h0 hb0
  have hmod : ((kd : Int) % 5) = ((kd % 5 : Nat) : Int) := by omega
  have h5 : kd % 5 < 5 := by omega
  have e : kd % 5 = 0 ∨ kd % 5 = 1 ∨ kd % 5 = 2 ∨ kd % 5 = 3 ∨ kd % 5 = 4 := by omega
  simp only [fcells]
  rcases e with e | e | e | e | e
  · have HFB : Hid (fieldB ⟨kd, n, s, mo⟩ = shortS n) := hide (by unfold fieldB; simp only [e]; rfl)
    rw [e] at hmod
    clear e h5
    go_enter Try.func11, Try.ntmps11
    go_wp2_with fail
    refine (C.num _ F xs n H0.out.c (by unfold roomFor; omega) hn).mono ?_
    rintro e w1 ⟨rfl, h1⟩
    obtain ⟨F1, hA1, hR1, hK1, hF1, hap1⟩ := H0.out.mid h1
    have hb1 := HB0.out.keep hK1 hFb.out
    have k1 := hb1.cell 1 (.int .u64 (n : Nat)) rfl
    have HA1 := hide hA1
    have HR1 := hide hR1
    have HK1 := hide hK1
    have HF1 := hide hF1
    have HP1 := hide hap1
    clear h1 hA1 hR1 hK1 hF1 hap1 hb1 m0 m1 m2
    go_wp2_with fail
    refine (rwnum_any p v xs n w1 HR1.out (by omega) hn).mono ?_
    rintro e w2 ⟨rfl, v2, h2⟩
    have H2 := hide h2
    clear h2
    go_wp2_with fail
    go_end0
    obtain ⟨hb, hk, hf', hv'⟩ := Both.done hk0.out HA1.out HK1.out HF1.out HP1.out H2.out
    exact ⟨rfl, F1, v2, by rw [HFB.out]; exact hb, hk, hf', hv'⟩
  · have HFB : Hid (fieldB ⟨kd, n, s, mo⟩ = [((n % 256 : Nat) : Int)]) := hide (by unfold fieldB; simp only [e]; rfl)
    rw [e] at hmod
    clear e h5
    have hm8 : (n : Int) % 256 = ((n % 256 : Nat) : Int) := by omega
    have hm9 : n % 256 < 256 := by omega
    generalize n % 256 = n8 at *
    go_enter Try.func11, Try.ntmps11
    go_wp2_with fail
    refine (C.byte _ F xs n8 H0.out.c (by unfold roomFor; omega) hm9).mono ?_
    rintro e w1 ⟨rfl, h1⟩
    obtain ⟨F1, hA1, hR1, hK1, hF1, hap1⟩ := H0.out.mid h1
    have hb1 := HB0.out.keep hK1 hFb.out
    have k1 := hb1.cell 1 (.int .u64 (n : Nat)) rfl
    have HA1 := hide hA1
    have HR1 := hide hR1
    have HK1 := hide hK1
    have HF1 := hide hF1
    have HP1 := hide hap1
    clear h1 hA1 hR1 hK1 hF1 hap1 hb1 m0 m1 m2
    go_wp2_with fail
    refine (rwbyte_any p v xs n8 w1 HR1.out (by omega)).mono ?_
    rintro e w2 ⟨rfl, v2, h2⟩
    have H2 := hide h2
    clear h2
    go_wp2_with fail
    go_end0
    obtain ⟨hb, hk, hf', hv'⟩ := Both.done hk0.out HA1.out HK1.out HF1.out HP1.out H2.out
    exact ⟨rfl, F1, v2, by rw [HFB.out]; exact hb, hk, hf', hv'⟩
  · have HFB : Hid (fieldB ⟨kd, n, s, mo⟩ = [if decide (n % 2 = 1) = true then 1 else 0]) := hide (by unfold fieldB; simp only [e, decide_eq_true_eq]; rfl)
    rw [e] at hmod
    clear e h5
    have hm2 : ((n : Int) % 2 == 1) = decide (n % 2 = 1) := by rw [Bool.eq_iff_iff]; simp; omega
    generalize decide (n % 2 = 1) = tb at *
    go_enter Try.func11, Try.ntmps11
    go_wp2_with fail
    refine (C.bool _ F xs tb H0.out.c (by unfold roomFor; omega)).mono ?_
    rintro e w1 ⟨rfl, h1⟩
    obtain ⟨F1, hA1, hR1, hK1, hF1, hap1⟩ := H0.out.mid h1
    have hb1 := HB0.out.keep hK1 hFb.out
    have k1 := hb1.cell 1 (.int .u64 (n : Nat)) rfl
    have HA1 := hide hA1
    have HR1 := hide hR1
    have HK1 := hide hK1
    have HF1 := hide hF1
    have HP1 := hide hap1
    clear h1 hA1 hR1 hK1 hF1 hap1 hb1 m0 m1 m2
    go_wp2_with fail
    refine (rwbool_any p v xs tb w1 HR1.out (by omega)).mono ?_
    rintro e w2 ⟨rfl, v2, h2⟩
    have H2 := hide h2
    clear h2
    go_wp2_with fail
    go_end0
    obtain ⟨hb, hk, hf', hv'⟩ := Both.done hk0.out HA1.out HK1.out HF1.out HP1.out H2.out
    exact ⟨rfl, F1, v2, by rw [HFB.out]; exact hb, hk, hf', hv'⟩
  · have HFB : Hid (fieldB ⟨kd, n, s, mo⟩ = shortS s.size ++ strI s) := hide (by unfold fieldB; simp only [e]; rfl)
    rw [e] at hmod
    clear e h5
    go_enter Try.func11, Try.ntmps11
    go_wp2_with fail
    refine (C.text _ F xs s H0.out.c (by unfold roomFor; omega)).mono ?_
    rintro e w1 ⟨rfl, h1⟩
    obtain ⟨F1, hA1, hR1, hK1, hF1, hap1⟩ := H0.out.mid h1
    have hb1 := HB0.out.keep hK1 hFb.out
    have k2 := hb1.cell 2 (.string s) rfl
    have HA1 := hide hA1
    have HR1 := hide hR1
    have HK1 := hide hK1
    have HF1 := hide hF1
    have HP1 := hide hap1
    clear h1 hA1 hR1 hK1 hF1 hap1 hb1 m0 m1 m2
    go_wp2_with fail
    refine (rwtext_any p v xs s w1 HR1.out (by omega)).mono ?_
    rintro e w2 ⟨rfl, v2, h2⟩
    have H2 := hide h2
    clear h2
    go_wp2_with fail
    go_end0
    obtain ⟨hb, hk, hf', hv'⟩ := Both.done hk0.out HA1.out HK1.out HF1.out HP1.out H2.out
    exact ⟨rfl, F1, v2, by rw [HFB.out, ← List.append_assoc]; exact hb, hk, hf', hv'⟩
  · have HFB : Hid (fieldB ⟨kd, n, s, mo⟩ = keyI s) := hide (by unfold fieldB; simp only [e]; rfl)
    rw [e] at hmod
    clear e h5
    have HKY := hide (fun W => key_any s W (by omega))
    have HK8 := hide (keyI_length s)
    have HKB := hide (keyI_byte s)
    obtain ⟨A, hA⟩ : ∃ A, ((keyI s).map (Value.int .u8)).toArray = A := ⟨_, rfl⟩
    have HAA := hide hA
    rw [hA] at HKY
    clear hA
    go_enter Try.func11, Try.ntmps11
    go_wp2_with fail
    refine (HKY.out _).mono ?_
    rintro e w1 ⟨rfl, hB1⟩
    have HB := hide (H0.out.below hB1)
    have hk1 : Hid (KeepBut (fun _ => False) w w1) := hide (hk0.out.trans (KeepBut.of_below (fun _ => False) hB1) (fun k _ h => h))
    have hbx : Hid (Box w1 w.heap.size #[.int .u8 (kd : Nat), .int .u64 (n : Nat), .string s, .int .i64 mo] 33) := hide (HB0.out.keep (KeepBut.of_below (fun _ => False) hB1) (fun h => h))
    have m3 := hbx.out.cell 2 (.string s) rfl
    clear hB1 H0 hk0 HB0 m0 m1 m2
    go_wp2_with fail
    have CK := hide (C.key w1 F xs (keyI s) HB.out.c (by unfold roomFor; omega) HK8.out HKB.out)
    rw [HAA.out] at CK
    refine CK.out.mono ?_
    rintro e w2 ⟨rfl, h2⟩
    obtain ⟨F2, hA2, hR2, hK2, hF2, hap2⟩ := HB.out.mid h2
    have m4 := (hbx.out.keep hK2 hFb.out).cell 2 (.string s) rfl
    have HA2 := hide hA2
    have HR2 := hide hR2
    have HK2 := hide hK2
    have HF2 := hide hF2
    have HP2 := hide hap2
    clear h2 hA2 hR2 hK2 hF2 hap2 m3
    go_wp2_with fail
    refine (HKY.out _).mono ?_
    rintro e w3 ⟨rfl, hB3⟩
    have HR3 := hide (HR2.out.keep (KeepBut.of_below (fun _ => False) hB3) (fun h => h) (fun _ _ h => h))
    have HA3 := hide (C.keep _ _ _ (fun _ => False) _ HA2.out (KeepBut.of_below _ hB3) (fun _ _ h => h))
    have HK3 := hide (HK2.out.trans (KeepBut.of_below F hB3) (fun k _ h => h))
    clear hB3 m4
    go_wp2_with fail
    have RK := hide (rwkey_any p v xs (keyI s) w3 HK8.out HR3.out (by omega))
    rw [HAA.out] at RK
    refine RK.out.mono ?_
    rintro e w4 ⟨rfl, v4, h4⟩
    have H4 := hide h4
    clear h4
    go_wp2_with fail
    go_end0
    obtain ⟨hb, hk, hf', hv'⟩ := Both.done hk1.out HA3.out HK3.out HF2.out HP2.out H4.out
    exact ⟨rfl, F2, v4, by rw [HFB.out]; exact hb, hk, hf', hv'⟩
end Go.Proofs.Ytkeedioifjabeaa
