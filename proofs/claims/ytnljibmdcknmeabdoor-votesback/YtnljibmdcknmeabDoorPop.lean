/-
  How many bits of a number of 64 bits are 1, by the steps that the library's OnesCount64 goes: they count what the list of its bits has. Plain numbers, of no program. Own work.
-/
import Derived.Test.YtnljibmdcknmeabDoorSets
namespace Go.Proofs.YtnljibmdcknmeabDoor
open Go

theorem and_bytes (q r p t : Nat) (hr : r < 256) (ht : t < 256) : (256 * q + r) &&& (256 * p + t) = 256 * (q &&& p) + (r &&& t) := by
  have d : ((256 * q + r) &&& (256 * p + t)) / 2 ^ 8 = (256 * q + r) / 2 ^ 8 &&& (256 * p + t) / 2 ^ 8 := Nat.and_div_two_pow
  have m : ((256 * q + r) &&& (256 * p + t)) % 2 ^ 8 = (256 * q + r) % 2 ^ 8 &&& (256 * p + t) % 2 ^ 8 := Nat.and_mod_two_pow
  have e1 : (256 * q + r) / 2 ^ 8 = q := by omega
  have e2 : (256 * p + t) / 2 ^ 8 = p := by omega
  have e3 : (256 * q + r) % 2 ^ 8 = r := by omega
  have e4 : (256 * p + t) % 2 ^ 8 = t := by omega
  rw [e1, e2] at d
  rw [e3, e4] at m
  generalize (256 * q + r) &&& (256 * p + t) = X at *
  omega

/-- The three steps on one byte. -/
def p1 (r : Nat) : Nat := (r / 2 &&& 0x55) + (r &&& 0x55)
def p2 (r : Nat) : Nat := (r / 4 &&& 0x33) + (r &&& 0x33)
def p3 (r : Nat) : Nat := (r / 16 + r) &&& 0x0f
/-- Each on a number, under a mask. -/
def f1 (x p : Nat) : Nat := (x / 2 &&& p) + (x &&& p)
def f2 (x p : Nat) : Nat := (x / 4 &&& p) + (x &&& p)
def f3 (x p : Nat) : Nat := (x / 16 + x) &&& p
theorem low1 : ∀ a : Fin 2, ∀ r : Fin 256, (128 * a.val + r.val / 2) &&& 0x55 = r.val / 2 &&& 0x55 := by decide +kernel
theorem low2 : ∀ a : Fin 4, ∀ r : Fin 256, (64 * a.val + r.val / 4) &&& 0x33 = r.val / 4 &&& 0x33 := by decide +kernel
theorem f1_step (q r p : Nat) (hr : r < 256) : f1 (256 * q + r) (256 * p + 0x55) = 256 * f1 q p + p1 r := by
  unfold f1 p1
  have e : (256 * q + r) / 2 = 256 * (q / 2) + (128 * (q % 2) + r / 2) := by omega
  have l := low1 ⟨q % 2, by omega⟩ ⟨r, hr⟩
  simp only at l
  rw [e, and_bytes _ _ _ _ (by omega) (by decide), and_bytes _ _ _ _ hr (by decide), l]
  omega
theorem f2_step (q r p : Nat) (hr : r < 256) : f2 (256 * q + r) (256 * p + 0x33) = 256 * f2 q p + p2 r := by
  unfold f2 p2
  have e : (256 * q + r) / 4 = 256 * (q / 4) + (64 * (q % 4) + r / 4) := by omega
  have l := low2 ⟨q % 4, by omega⟩ ⟨r, hr⟩
  simp only at l
  rw [e, and_bytes _ _ _ _ (by omega) (by decide), and_bytes _ _ _ _ hr (by decide), l]
  omega
theorem low3 : ∀ a : Fin 5, ∀ r : Fin 69, (16 * a.val + r.val / 16 + r.val) &&& 0x0f = (r.val / 16 + r.val) &&& 0x0f := by decide +kernel
theorem f3_step (q r p : Nat) (hr : r ≤ 68) (hq : q % 16 ≤ 4) : f3 (256 * q + r) (256 * p + 0x0f) = 256 * f3 q p + p3 r := by
  unfold f3 p3
  have e : (256 * q + r) / 16 + (256 * q + r) = 256 * (q / 16 + q) + (16 * (q % 16) + r / 16 + r) := by omega
  have l := low3 ⟨q % 16, by omega⟩ ⟨r, by omega⟩
  simp only at l
  rw [e, and_bytes _ _ _ _ (by omega) (by decide), l]

/-- Eight bytes as one number. -/
def join8 (a b c d e f g h : Nat) : Nat := 256 * (256 * (256 * (256 * (256 * (256 * (256 * h + g) + f) + e) + d) + c) + b) + a
theorem f_zero1 : f1 0 0 = 0 := by decide
theorem m55 : (6148914691236517205 : Nat) = 256 * (256 * (256 * (256 * (256 * (256 * (256 * (256 * 0 + 0x55) + 0x55) + 0x55) + 0x55) + 0x55) + 0x55) + 0x55) + 0x55 := by decide
theorem m33 : (3689348814741910323 : Nat) = 256 * (256 * (256 * (256 * (256 * (256 * (256 * (256 * 0 + 0x33) + 0x33) + 0x33) + 0x33) + 0x33) + 0x33) + 0x33) + 0x33 := by decide
theorem m0f : (1085102592571150095 : Nat) = 256 * (256 * (256 * (256 * (256 * (256 * (256 * (256 * 0 + 0x0f) + 0x0f) + 0x0f) + 0x0f) + 0x0f) + 0x0f) + 0x0f) + 0x0f := by decide
theorem join_more (a b c d e f g h : Nat) : join8 a b c d e f g h = 256 * (256 * (256 * (256 * (256 * (256 * (256 * (256 * 0 + h) + g) + f) + e) + d) + c) + b) + a := by unfold join8; omega
theorem f1_join (a b c d e f g h : Nat) (ha : a < 256) (hb : b < 256) (hc : c < 256) (hd : d < 256) (he : e < 256) (hf : f < 256) (hg : g < 256) (hh : h < 256) :
    f1 (join8 a b c d e f g h) 6148914691236517205 = join8 (p1 a) (p1 b) (p1 c) (p1 d) (p1 e) (p1 f) (p1 g) (p1 h) := by
  rw [join_more, m55, f1_step _ _ _ ha, f1_step _ _ _ hb, f1_step _ _ _ hc, f1_step _ _ _ hd, f1_step _ _ _ he, f1_step _ _ _ hf, f1_step _ _ _ hg, f1_step _ _ _ hh, join_more]
  rfl
theorem f2_join (a b c d e f g h : Nat) (ha : a < 256) (hb : b < 256) (hc : c < 256) (hd : d < 256) (he : e < 256) (hf : f < 256) (hg : g < 256) (hh : h < 256) :
    f2 (join8 a b c d e f g h) 3689348814741910323 = join8 (p2 a) (p2 b) (p2 c) (p2 d) (p2 e) (p2 f) (p2 g) (p2 h) := by
  rw [join_more, m33, f2_step _ _ _ ha, f2_step _ _ _ hb, f2_step _ _ _ hc, f2_step _ _ _ hd, f2_step _ _ _ he, f2_step _ _ _ hf, f2_step _ _ _ hg, f2_step _ _ _ hh, join_more]
  rfl
theorem f3_join (a b c d e f g h : Nat) (ha : a ≤ 68) (hb : b ≤ 68) (hc : c ≤ 68) (hd : d ≤ 68) (he : e ≤ 68) (hf : f ≤ 68) (hg : g ≤ 68) (hh : h ≤ 68)
    (hb' : b % 16 ≤ 4) (hc' : c % 16 ≤ 4) (hd' : d % 16 ≤ 4) (he' : e % 16 ≤ 4) (hf' : f % 16 ≤ 4) (hg' : g % 16 ≤ 4) (hh' : h % 16 ≤ 4) :
    f3 (join8 a b c d e f g h) 1085102592571150095 = join8 (p3 a) (p3 b) (p3 c) (p3 d) (p3 e) (p3 f) (p3 g) (p3 h) := by
  rw [join_more, m0f, f3_step _ _ _ ha (by omega), f3_step _ _ _ hb (by omega), f3_step _ _ _ hc (by omega), f3_step _ _ _ hd (by omega), f3_step _ _ _ he (by omega), f3_step _ _ _ hf (by omega), f3_step _ _ _ hg (by omega), f3_step _ _ _ hh (by omega), join_more]
  rfl
/-- How many bits of a byte are 1. -/
def pop8 (r : Nat) : Nat := ((List.range 8).filter (fun i => r.testBit i)).length
theorem byte_all : ∀ r : Fin 256, p1 r.val < 256 ∧ p2 (p1 r.val) ≤ 68 ∧ p2 (p1 r.val) % 16 ≤ 4 ∧ p3 (p2 (p1 r.val)) = pop8 r.val ∧ pop8 r.val ≤ 8 := by decide +kernel

theorem join_lt (a b c d e f g h : Nat) (ha : a < 256) (hb : b < 256) (hc : c < 256) (hd : d < 256) (he : e < 256) (hf : f < 256) (hg : g < 256) (hh : h < 256) : join8 a b c d e f g h < 18446744073709551616 := by
  unfold join8; omega
theorem join_split (s : Nat) (hs : s < 18446744073709551616) : ∃ a b c d e f g h : Nat, a < 256 ∧ b < 256 ∧ c < 256 ∧ d < 256 ∧ e < 256 ∧ f < 256 ∧ g < 256 ∧ h < 256 ∧ s = join8 a b c d e f g h := by
  refine ⟨s % 256, s / 256 % 256, s / 65536 % 256, s / 16777216 % 256, s / 4294967296 % 256, s / 1099511627776 % 256, s / 281474976710656 % 256, s / 72057594037927936, ?_⟩
  unfold join8
  refine ⟨by omega, by omega, by omega, by omega, by omega, by omega, by omega, by omega, by omega⟩

/-- The last steps: the bytes are added up. -/
theorem sums (a b c d e f g h : Nat) (ha : a ≤ 8) (hb : b ≤ 8) (hc : c ≤ 8) (hd : d ≤ 8) (he : e ≤ 8) (hf : f ≤ 8) (hg : g ≤ 8) (hh : h ≤ 8) :
    ∃ x4 x5 x6 : Nat, x4 = join8 a b c d e f g h + join8 a b c d e f g h / 256 ∧ x5 = x4 + x4 / 65536 ∧ x6 = x5 + x5 / 4294967296 ∧
      x4 < 18446744073709551616 ∧ x5 < 18446744073709551616 ∧ x6 < 9223372036854775808 ∧ x6 % 128 = a + b + c + d + e + f + g + h := by
  have e1 : join8 a b c d e f g h / 256 = join8 b c d e f g h 0 := by unfold join8; omega
  have e2 : join8 a b c d e f g h + join8 b c d e f g h 0 = join8 (a + b) (b + c) (c + d) (d + e) (e + f) (f + g) (g + h) h := by unfold join8; omega
  have e3 : join8 (a + b) (b + c) (c + d) (d + e) (e + f) (f + g) (g + h) h / 65536 = join8 (c + d) (d + e) (e + f) (f + g) (g + h) h 0 0 := by unfold join8; omega
  have e4 : join8 (a + b) (b + c) (c + d) (d + e) (e + f) (f + g) (g + h) h + join8 (c + d) (d + e) (e + f) (f + g) (g + h) h 0 0 = join8 (a + b + (c + d)) (b + c + (d + e)) (c + d + (e + f)) (d + e + (f + g)) (e + f + (g + h)) (f + g + h) (g + h) h := by unfold join8; omega
  have e5 : join8 (a + b + (c + d)) (b + c + (d + e)) (c + d + (e + f)) (d + e + (f + g)) (e + f + (g + h)) (f + g + h) (g + h) h / 4294967296 = join8 (e + f + (g + h)) (f + g + h) (g + h) h 0 0 0 0 := by unfold join8; omega
  refine ⟨_, _, _, rfl, rfl, rfl, ?_⟩
  rw [e1, e2, e3, e4, e5]
  refine ⟨?_, ?_, ?_, ?_⟩
  all_goals (unfold join8; omega)

theorem testBit_join (q r i : Nat) (hr : r < 256) : (256 * q + r).testBit i = if i < 8 then r.testBit i else q.testBit (i - 8) := by
  by_cases hi : i < 8
  · rw [if_pos hi]
    have e : (256 * q + r) % 2 ^ 8 = r := by omega
    have t := Nat.testBit_mod_two_pow (256 * q + r) 8 i
    rw [e] at t
    rw [t]; simp [hi]
  · rw [if_neg hi]
    have e : (256 * q + r) / 2 ^ 8 = q := by omega
    have t := Nat.testBit_div_two_pow (256 * q + r) (n := 8) (i := i - 8)
    rw [e] at t
    rw [t, show i - 8 + 8 = i by omega]
/-- Bits counted, from a byte on. -/
def cnt (n s : Nat) : Nat := ((List.range n).filter (fun i => s.testBit i)).length
theorem range_add (m : Nat) : List.range (8 + m) = List.range 8 ++ (List.range m).map (fun i => 8 + i) := by
  rw [List.range_eq_range', List.range_eq_range', List.range_eq_range', ← List.range'_append_1 (s := 0) (m := 8) (n := m)]
  congr 1
  rw [List.map_add_range']
theorem cnt_step (m q r : Nat) (hr : r < 256) : cnt (8 + m) (256 * q + r) = pop8 r + cnt m q := by
  unfold cnt pop8
  rw [range_add, List.filter_append, List.length_append, List.filter_map, List.length_map]
  congr 1
  · congr 1
    apply List.filter_congr
    intro i hi
    simp at hi
    rw [testBit_join q r i hr, if_pos hi]
  · congr 1
    apply List.filter_congr
    intro i _
    simp only [Function.comp]
    rw [testBit_join q r _ hr, if_neg (by omega), show 8 + i - 8 = i by omega]
theorem cnt_join (a b c d e f g h : Nat) (ha : a < 256) (hb : b < 256) (hc : c < 256) (hd : d < 256) (he : e < 256) (hf : f < 256) (hg : g < 256) (hh : h < 256) :
    cnt 64 (join8 a b c d e f g h) = pop8 a + pop8 b + pop8 c + pop8 d + pop8 e + pop8 f + pop8 g + pop8 h := by
  rw [join_more]
  show cnt (8 + (8 + (8 + (8 + (8 + (8 + (8 + (8 + 0)))))))) _ = _
  rw [cnt_step _ _ _ ha, cnt_step _ _ _ hb, cnt_step _ _ _ hc, cnt_step _ _ _ hd, cnt_step _ _ _ he, cnt_step _ _ _ hf, cnt_step _ _ _ hg, cnt_step _ _ _ hh]
  have : cnt 0 0 = 0 := rfl
  rw [this]; omega

/-- All of it, as the library's steps. -/
theorem pop_all (s : Nat) (hs : s < 18446744073709551616) : ∃ x1 x2 x3 x4 x5 x6 : Nat,
    x1 = f1 s 6148914691236517205 ∧ x2 = f2 x1 3689348814741910323 ∧ x3 = f3 x2 1085102592571150095 ∧ x4 = x3 + x3 / 256 ∧ x5 = x4 + x4 / 65536 ∧ x6 = x5 + x5 / 4294967296 ∧
    x1 < 18446744073709551616 ∧ x2 < 9223372036854775808 ∧ x3 < 18446744073709551616 ∧ x4 < 18446744073709551616 ∧ x5 < 18446744073709551616 ∧ x6 < 9223372036854775808 ∧ x6 % 128 = (listS s).length := by
  obtain ⟨a, b, c, d, e, f, g, h, ha, hb, hc, hd, he, hf, hg, hh, rfl⟩ := join_split s hs
  obtain ⟨A1, A2, A3, A4, A5⟩ := byte_all ⟨a, ha⟩
  obtain ⟨B1, B2, B3, B4, B5⟩ := byte_all ⟨b, hb⟩
  obtain ⟨C1, C2, C3, C4, C5⟩ := byte_all ⟨c, hc⟩
  obtain ⟨D1, D2, D3, D4, D5⟩ := byte_all ⟨d, hd⟩
  obtain ⟨E1, E2, E3, E4, E5⟩ := byte_all ⟨e, he⟩
  obtain ⟨F1, F2, F3, F4, F5⟩ := byte_all ⟨f, hf⟩
  obtain ⟨G1, G2, G3, G4, G5⟩ := byte_all ⟨g, hg⟩
  obtain ⟨H1, H2, H3, H4, H5⟩ := byte_all ⟨h, hh⟩
  simp only at A1 A2 A3 A4 A5 B1 B2 B3 B4 B5 C1 C2 C3 C4 C5 D1 D2 D3 D4 D5 E1 E2 E3 E4 E5 F1 F2 F3 F4 F5 G1 G2 G3 G4 G5 H1 H2 H3 H4 H5
  have g1 := f1_join a b c d e f g h ha hb hc hd he hf hg hh
  have g2 := f2_join _ _ _ _ _ _ _ _ A1 B1 C1 D1 E1 F1 G1 H1
  have g3 := f3_join _ _ _ _ _ _ _ _ A2 B2 C2 D2 E2 F2 G2 H2 B3 C3 D3 E3 F3 G3 H3
  rw [A4, B4, C4, D4, E4, F4, G4, H4] at g3
  obtain ⟨x4, x5, x6, q4, q5, q6, l4, l5, l6, hsum⟩ := sums _ _ _ _ _ _ _ _ A5 B5 C5 D5 E5 F5 G5 H5
  have hl : (listS (join8 a b c d e f g h)).length = cnt 64 (join8 a b c d e f g h) := by simp [listS, listN, cnt]
  rw [hl, cnt_join a b c d e f g h ha hb hc hd he hf hg hh, ← hsum]
  refine ⟨_, _, _, x4, x5, x6, g1.symm, g2.symm, g3.symm, q4, q5, q6, ?_, ?_, ?_, l4, l5, l6, rfl⟩
  · exact join_lt _ _ _ _ _ _ _ _ A1 B1 C1 D1 E1 F1 G1 H1
  · unfold join8; omega
  · unfold join8; omega
end Go.Proofs.YtnljibmdcknmeabDoor
