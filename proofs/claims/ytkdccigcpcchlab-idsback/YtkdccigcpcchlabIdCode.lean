/-
  The program's fields of names, stamps and regs: written and read. Own work.
-/
import Derived.Test.YtkdccigcpcchlabIdUnless
import Derived.Test.YtkdccigcpcchlabIdPlain
namespace Go.Proofs.Ytkdccigcpcchlab
open Go.RowKit

theorem wrap64_u32 (n : Nat) (h : n < 4294967296) : IntKind.u64.wrap (n : Int) = (n : Int) := by rw [IntKind.wrap_u64]; omega
theorem putnum_any (p : Nat) (v : Value) (xs : List Int) (n : Nat) (w : World) (h : CW w p v xs) (hr : roomFor xs.length) (hn : n < 4294967296) :
    Calls Try.prog 29 #[.pointer (some ⟨p, 0, none⟩), .int .u32 n] w fun e w' => e = .returned (.tuple #[]) ∧ ∃ v', CWrote w w' p v v' (xs ++ shortS n) := by
  have C := hide (cwnum_any p v xs n w h hr (by omega))
  have hcv := wrap64_u32 n hn
  clear h hr
  go_enter Try.func29, Try.ntmps29
  go_wp2_with (go_at_call 43; refine C.out.mono ?_; rintro e w1 ⟨rfl, v1, h1⟩; have H1 := hide h1; clear h1)
  go_end0
  exact ⟨rfl, v1, H1.out⟩
/-- A name's bytes. -/
def txB (a : Int) (b c : Nat) : List Int := [a] ++ (shortS b ++ shortS c)
def stB (t : Nat) (a : Int) (b c : Nat) : List Int := shortS t ++ txB a b c
def regB (b c : Nat) : List Int := shortS b ++ shortS c
theorem short5 {n : Nat} (h : n < 4294967296) : (shortS n).length ≤ 5 := shortS_len 4 n (by omega)
set_option maxRecDepth 100000 in
theorem puttx_any (p : Nat) (v : Value) (xs : List Int) (a : Int) (b c : Nat) (w : World) (h : CW w p v xs) (hl : xs.length ≤ 1000) (hb : b < 4294967296) (hc : c < 4294967296) :
    Calls Try.prog 30 #[.pointer (some ⟨p, 0, none⟩), .agg #[.int .u8 a, .int .u32 b, .int .u32 c]] w fun e w' => e = .returned (.tuple #[]) ∧ ∃ v', CWrote w w' p v v' (xs ++ txB a b c) := by
  have hB0 := (Below.refl w.heap.size w).alloc (Nat.le_refl _) (.cells #[.int .u8 a, .int .u32 b, .int .u32 c] 24)
  have HX0 := hide (box_new w #[.int .u8 a, .int .u32 b, .int .u32 c] 24)
  have hp := h.box.lt
  have HVL : Hid (∀ g, v.ownBlock = some g → g < w.heap.size) := hide (fun g hg => owns_lt h.own hg)
  have C1 := hide (cwbyte_any p v xs a _ (h.below hB0) (by unfold roomFor; omega))
  have hb5 := short5 hb
  have HB0 := hide hB0
  clear h hB0
  go_enter Try.func30, Try.ntmps30
  go_wp2_with fail
  refine C1.out.mono ?_
  rintro e w1 ⟨rfl, v1, h1⟩
  have hX1 := HX0.out.keep h1.keep (fun hS => by
    rcases hS with e | e
    · omega
    · have := HVL.out _ e; omega)
  obtain ⟨x0, x1, x2⟩ := hX1.three
  have hxl := hX1.lt
  have HV1 : Hid (∀ g, v1.ownBlock = some g → g ≠ w.heap.size) := hide (fun g hg e => by
    rcases h1.place with e2 | ⟨g2, e2, h2⟩
    · have := HVL.out g (e2 ▸ hg); omega
    · rw [e2] at hg; cases hg; simp at h2; omega)
  have C2 := hide (putnum_any p v1 _ b w1 h1.wr (by unfold roomFor; simp; omega) hb)
  have H1 := hide (CWrote.before HB0.out h1)
  have HX1 := hide hX1
  clear h1 hX1 C1
  go_wp2_with fail
  refine C2.out.mono ?_
  rintro e w2 ⟨rfl, v2, h2⟩
  have hX2 := HX1.out.keep h2.keep (fun hS => by
    rcases hS with e | e
    · omega
    · exact HV1.out _ e rfl)
  clear x0 x1 x2
  obtain ⟨x0, x1, x2⟩ := hX2.three
  have hxl2 := hX2.lt
  have C3 := hide (putnum_any p v2 _ c w2 h2.wr (by unfold roomFor; simp; omega) hc)
  have H2 := hide (CWrote.trans H1.out h2)
  clear h2 hX2 C2
  go_wp2_with fail
  refine C3.out.mono ?_
  rintro e w3 ⟨rfl, v3, h3⟩
  have h3' := CWrote.trans H2.out h3
  have HE : Hid (xs ++ [a] ++ shortS b ++ shortS c = xs ++ txB a b c) := hide (by unfold txB; simp)
  rw [HE.out] at h3'
  have H3 := hide h3'
  clear h3 h3'
  go_wp2_with fail
  go_end0
  exact ⟨rfl, v3, H3.out⟩
set_option maxRecDepth 100000 in
theorem putst_any (p : Nat) (v : Value) (xs : List Int) (t : Nat) (a : Int) (b c : Nat) (w : World) (h : CW w p v xs) (hl : xs.length ≤ 900) (ht : t < 4294967296) (hb : b < 4294967296) (hc : c < 4294967296) :
    Calls Try.prog 11 #[.pointer (some ⟨p, 0, none⟩), .agg #[.int .u32 t, .int .u8 a, .int .u32 b, .int .u32 c]] w fun e w' => e = .returned (.tuple #[]) ∧ ∃ v', CWrote w w' p v v' (xs ++ stB t a b c) := by
  have hB0 := (Below.refl w.heap.size w).alloc (Nat.le_refl _) (.cells #[.int .u32 t, .int .u8 a, .int .u32 b, .int .u32 c] 26)
  have HX0 := hide (box_new w #[.int .u32 t, .int .u8 a, .int .u32 b, .int .u32 c] 26)
  have hp := h.box.lt
  have HVL : Hid (∀ g, v.ownBlock = some g → g < w.heap.size) := hide (fun g hg => owns_lt h.own hg)
  have C1 := hide (putnum_any p v xs t _ (h.below hB0) (by unfold roomFor; omega) ht)
  have ht5 := short5 ht
  have HB0 := hide hB0
  clear h hB0
  go_enter Try.func11, Try.ntmps11
  go_wp2_with fail
  refine C1.out.mono ?_
  rintro e w1 ⟨rfl, v1, h1⟩
  have hX1 := HX0.out.keep h1.keep (fun hS => by
    rcases hS with e | e
    · omega
    · have := HVL.out _ e; omega)
  obtain ⟨x0, x1, x2, x3⟩ := hX1.four
  have hxl := hX1.lt
  have C2 := hide (puttx_any p v1 _ a b c w1 h1.wr (by simp; omega) hb hc)
  have H1 := hide (CWrote.before HB0.out h1)
  clear h1 hX1 C1
  go_wp2_with fail
  refine C2.out.mono ?_
  rintro e w2 ⟨rfl, v2, h2⟩
  have h2' := CWrote.trans H1.out h2
  have HE : Hid (xs ++ shortS t ++ txB a b c = xs ++ stB t a b c) := hide (by unfold stB; simp)
  rw [HE.out] at h2'
  have H2 := hide h2'
  clear h2 h2'
  go_wp2_with fail
  go_end0
  exact ⟨rfl, v2, H2.out⟩
set_option maxRecDepth 100000 in
theorem putreg_any (p : Nat) (v : Value) (xs : List Int) (b c : Nat) (w : World) (h : CW w p v xs) (hl : xs.length ≤ 900) (hb : b < 4294967296) (hc : c < 4294967296) :
    Calls Try.prog 12 #[.pointer (some ⟨p, 0, none⟩), .agg #[.int .u32 b, .int .u32 c]] w fun e w' => e = .returned (.tuple #[]) ∧ ∃ v', CWrote w w' p v v' (xs ++ regB b c) := by
  have hB0 := (Below.refl w.heap.size w).alloc (Nat.le_refl _) (.cells #[.int .u32 b, .int .u32 c] 37)
  have HX0 := hide (box_new w #[.int .u32 b, .int .u32 c] 37)
  have hp := h.box.lt
  have HVL : Hid (∀ g, v.ownBlock = some g → g < w.heap.size) := hide (fun g hg => owns_lt h.own hg)
  have C1 := hide (putnum_any p v xs b _ (h.below hB0) (by unfold roomFor; omega) hb)
  have hb5 := short5 hb
  have HB0 := hide hB0
  clear h hB0
  go_enter Try.func12, Try.ntmps12
  go_wp2_with fail
  refine C1.out.mono ?_
  rintro e w1 ⟨rfl, v1, h1⟩
  have hX1 := HX0.out.keep h1.keep (fun hS => by
    rcases hS with e | e
    · omega
    · have := HVL.out _ e; omega)
  obtain ⟨x0, x1⟩ := hX1.two
  have hxl := hX1.lt
  have C2 := hide (putnum_any p v1 _ c w1 h1.wr (by unfold roomFor; simp; omega) hc)
  have H1 := hide (CWrote.before HB0.out h1)
  clear h1 hX1 C1
  go_wp2_with fail
  refine C2.out.mono ?_
  rintro e w2 ⟨rfl, v2, h2⟩
  have h2' := CWrote.trans H1.out h2
  have HE : Hid (xs ++ shortS b ++ shortS c = xs ++ regB b c) := hide (by unfold regB; simp)
  rw [HE.out] at h2'
  have H2 := hide h2'
  clear h2 h2'
  go_wp2_with fail
  go_end0
  exact ⟨rfl, v2, H2.out⟩
end Go.Proofs.Ytkdccigcpcchlab
