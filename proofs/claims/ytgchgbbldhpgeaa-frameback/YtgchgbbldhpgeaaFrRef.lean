/-
  The reference of layer 4: Size, Put, Next. Own work.
-/
import Derived.Test.YtgchgbbldhpgeaaFrMore
import Derived.Test.YtgchgbbldhpgeaaPutGet
import Derived.Test.YtgchgbbldhpgeaaGets
import Derived.Test.YtgchgbbldhpgeaaCuts
import Derived.Deep.QuietTactic
import Derived.BigQuiet
namespace Go.Proofs.Ytgchgbbldhpgeaa
open Go.RowKit

theorem owns_base {w : World} {b b' e size n : Nat} {v : Value} {xs : List Value} (h : w.ownsRow b e size v n xs) (hb : b' ≤ b) : w.ownsRow b' e size v n xs := by
  obtain ⟨hl, h0 | ⟨g, cap, cur, rfl, hg, r⟩⟩ := h
  · exact ⟨hl, .inl h0⟩
  · exact ⟨hl, .inr ⟨g, cap, cur, rfl, Nat.le_trans hb hg, r⟩⟩
def sizeF (n : Int) : Int := if n < 0 ∨ 4096 < n then 0 else 8 + n
theorem r4size_any (n : Int) (w : World) (hlo : -9223372036854775808 ≤ n) (hhi : n ≤ 9223372036854775807) : Calls Try.prog 15 #[.int .i64 n] w fun e w' => e = .returned (.int .i64 (sizeF n)) ∧ w' = w := by
  unfold sizeF
  by_cases h : n < 0 ∨ 4096 < n
  · rw [if_pos h]
    rcases h with h | h
    · go_enter Try.func15, Try.ntmps15
      go_wp2_with fail
      go_ret
      exact ⟨rfl, rfl⟩
    · have h0 : 0 ≤ n := by omega
      go_enter Try.func15, Try.ntmps15
      go_wp2_with fail
      go_ret
      exact ⟨rfl, rfl⟩
  · rw [if_neg h]
    have h0 : 0 ≤ n := by omega
    have h1 : n ≤ 4096 := by omega
    go_enter Try.func15, Try.ntmps15
    go_wp2_with fail
    go_ret
    exact ⟨rfl, rfl⟩
theorem lies_two (w : World) (a b : Int) : Lies .u8 (w.alloc (.cells #[.int .u8 a, .int .u8 b] 5)) (.slice (some ⟨w.heap.size, 0, none⟩) 2 2) [a, b] :=
  .inr ⟨by simp, w.heap.size, 0, 2, rfl, by simp, by simp, by unfold maxLen; omega, fun i hi => by
    have h2 : i = 0 ∨ i = 1 := by simp at hi; omega
    rcases h2 with rfl | rfl
    · simp [List.getD]
    · simp [List.getD]⟩
theorem frameF_parts (bs load : List Int) : (((bs ++ [167, 94]) ++ lenB load) ++ putS (sumF (lenB load) load) 4) ++ load = bs ++ frameF load := by simp [frameF, headF]
theorem owns_as {w : World} {b n : Nat} {v : Value} {ys zs : List Int} (h : w.ownsRow b 5 1 v n (ys.map (Value.int .u8))) (hz : zs = ys) : w.ownsRow b 5 1 v zs.length (zs.map (Value.int .u8)) := by
  subst hz
  have h1 : n = zs.length := by have := h.1; simpa using this.symm
  rw [← h1]
  exact h
set_option maxRecDepth 100000 in
set_option maxHeartbeats 3200000 in
theorem r4put_any (vb vl : Value) (bs load : List Int) (w : World) (hb : Lies .u8 w vb bs) (hL : Lies .u8 w vl load) (hx : ∀ c ∈ load, 0 ≤ c ∧ c < 256) (hbl : bs.length ≤ 100000) :
    Calls Try.prog 12 #[vb, vl] w fun e w' => if load.length ≤ 4096 then ∃ v', e = .returned (.tuple #[v', .int .i64 0]) ∧ w'.ownsRow w.heap.size 5 1 v' (bs ++ frameF load).length ((bs ++ frameF load).map (Value.int .u8)) ∧ Below w.heap.size w w'
      else e = .returned (.tuple #[.slice none 0 0, .int .i64 5]) ∧ w' = w := by
  have hmx := hL.len
  unfold maxLen at hmx
  obtain ⟨al, cl, rfl⟩ := hL.shape
  by_cases h4 : load.length ≤ 4096
  · simp only [if_pos h4]
    have h4' : (load.length : Int) ≤ 4096 := by omega
    have C1 := hide (rput_any (.slice none 0 0) [] load.length 2 w (Lies.nil _ _) (by simp) (by omega))
    rw [List.nil_append, show clamp8 2 = 2 from rfl] at C1
    have HL := hide hL
    have HB := hide hb
    have HX := hide hx
    have hl2 : (lenB load).length = 2 := putS_len _ _
    obtain ⟨ab, cb, rfl⟩ := hb.shape
    have hsl : moreI (moreI 0 (lenB load)) load < 4294967296 := sumF_lt (ls := lenB load) (putS_bytes _ _) hx
    have hs0 : moreI 0 (lenB load) < 4294967296 := moreI_lt (by decide) (putS_bytes _ _)
    have HBL : Hid (∀ c ∈ lenB load, 0 ≤ c ∧ c < 256) := hide (putS_bytes _ _)
    obtain ⟨y3, hy3⟩ : ∃ y, y = bs ++ [167, 94] := ⟨_, rfl⟩
    obtain ⟨y4, hy4⟩ : ∃ y, y = y3 ++ lenB load := ⟨_, rfl⟩
    obtain ⟨y5, hy5⟩ : ∃ y, y = y4 ++ putS (moreI (moreI 0 (lenB load)) load) 4 := ⟨_, rfl⟩
    have hn3 : y3.length = bs.length + 2 := by rw [hy3]; simp
    have hn4 : y4.length = bs.length + 4 := by rw [hy4, List.length_append, hn3, hl2]
    have hn5 : y5.length = bs.length + 8 := by rw [hy5, List.length_append, hn4, putS_len]
    have HFP : Hid (bs ++ frameF load = y5 ++ load) := hide (by rw [← frameF_parts, hy5, hy4, hy3]; rfl)
    have Y3 := hide hy3
    have Y4 := hide hy4
    have Y5 := hide hy5
    have hb3 : y3.length ≤ 100002 := by omega
    have hb4 : y4.length ≤ 100004 := by omega
    have hb5 : y5.length ≤ 100008 := by omega
    clear hb hL hx hy3 hy4 hy5 hn3 hn4 hn5
    go_enter Try.func12, Try.ntmps12
    go_wp2_with fail
    refine C1.out.mono ?_
    rintro e w1 ⟨vn, rfl, hon, hB1⟩
    have hLn : Lies .u8 w1 vn (lenB load) := Lies.of_own hon
    have HLN := hide hLn
    obtain ⟨an, cn, rfl⟩ := hLn.shape
    have HB1 := hide hB1
    have HLB1 := hide (HB.out.below hB1)
    clear hon hB1 C1 hLn
    rw [hl2] at HLN ⊢
    go_wp2_with (first
      | (at_builtin; refine append_lies _ rfl _ _ rfl w1.heap.size _ _ _ _ (lenB load) rfl H3.out rfl HLN3.out (by omega) HS3.out ?_; intro v4 w4 hown4 hgrow4; have hown4 := owns_as hown4 Y4.out; have H4 := hide hown4; have HB4 := hide (HB3.out.grown hgrow4 HS3.out (fun k hk => (H3.out.lt k hk).1)); obtain ⟨a4, c4, e4⟩ := (Lies.of_own hown4).shape; subst e4; clear hown4 hgrow4)
      | (at_builtin; refine append_lies _ rfl _ _ rfl w1.heap.size _ _ _ bs [167, 94] rfl (H2.out.alloc _) rfl (lies_two _ _ _) (by simp; omega) HS2.out ?_; intro v3 w3 hown3 hgrow3; have hown3 := owns_as hown3 Y3.out; have H3 := hide hown3; have hB3 := (HB2.out.alloc HB2.out.size (.cells #[.int .u8 167, .int .u8 94] 5)).grown hgrow3 HS2.out (fun k hk => (H2.out.lt k hk).1); have HB3 := hide hB3; have HLN3 := hide (HLN.out.below hB3); have HS3 := hide hB3.size; obtain ⟨a3, c3, e3⟩ := (Lies.of_own hown3).shape; subst e3; clear hown3 hgrow3 hB3)
      | (at_builtin; refine append_lies _ rfl _ _ rfl w1.heap.size _ _ 0 [] bs rfl (World.ownsRow_nil _ _ _ _) rfl HLB1.out (by omega) (Nat.le_refl _) ?_; intro v2 w2 hown2 hgrow2; simp only [Nat.zero_add, List.nil_append] at hown2; have H2 := hide hown2; have hB2 := (Below.refl w1.heap.size w1).grown hgrow2 (Nat.le_refl _) (fun k hk => by cases hk); have HB2 := hide hB2; have HS2 : Hid (w1.heap.size ≤ (w2.alloc (.cells #[.int .u8 167, .int .u8 94] 5)).heap.size) := hide (Nat.le_trans hB2.size (by simp)); obtain ⟨a2, c2, e2⟩ := (Lies.of_own hown2).shape; subst e2; clear hown2 hgrow2 hB2))
    refine (rmore_any 0 _ (lenB load) _ (by decide) (HLN.out.below HB4.out) HBL.out).mono ?_
    rintro e w5 ⟨rfl, rfl⟩
    go_wp2_with fail
    refine (rmore_any _ _ load _ hs0 ((HL.out.below HB1.out).below HB4.out) HX.out).mono ?_
    rintro e w5 ⟨rfl, rfl⟩
    generalize moreI (moreI 0 (lenB load)) load = sm at *
    go_wp2_with fail
    refine (rput_any _ y4 sm 4 _ (Lies.of_own H4.out) (by omega) (by omega)).mono ?_
    rintro e w6 ⟨v6, rfl, hon6, hB6⟩
    rw [show clamp8 4 = 4 from rfl] at hon6
    have hown6 := owns_as hon6 Y5.out
    have hown6 := owns_base hown6 (Nat.le_trans HB1.out.size HB4.out.size)
    have H6 := hide hown6
    have hB7 : Below w.heap.size w w6 := (HB1.out.trans (HB4.out.mono HB1.out.size)).trans (hB6.mono (Nat.le_trans HB1.out.size HB4.out.size))
    have HB7 := hide hB7
    obtain ⟨a6, c6, e6⟩ := (Lies.of_own hown6).shape
    subst e6
    have HL6 := hide (HL.out.below hB7)
    have HS6 := hide hB7.size
    clear hon6 hB6 hown6 hB7
    go_wp2_with (at_builtin; refine append_lies _ rfl _ _ rfl w.heap.size _ _ _ _ load rfl H6.out rfl HL6.out (by omega) HS6.out ?_; intro v8 w8 hown8 hgrow8; have hown8 := owns_as hown8 HFP.out; have H8 := hide hown8; have HB8 := hide (HB7.out.grown hgrow8 HS6.out (fun k hk => (H6.out.lt k hk).1)); clear hown8 hgrow8)
    go_ret2
    exact ⟨_, rfl, H8.out, HB8.out⟩
  · simp only [if_neg h4]
    have h4' : (4096 : Int) < (load.length : Int) := by omega
    clear hL hb hx
    generalize load.length = n at *
    go_enter Try.func12, Try.ntmps12
    go_wp2_with fail
    go_ret2
    exact ⟨rfl, rfl⟩
end Go.Proofs.Ytgchgbbldhpgeaa
