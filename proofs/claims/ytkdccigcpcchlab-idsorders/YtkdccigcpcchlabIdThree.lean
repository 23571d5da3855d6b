/-
  The function literals of IdsOrders. Own work.
-/
import Derived.Test.YtkdccigcpcchlabIdCmp2
import Derived.Test.YtkdccigcpcchlabIdCmp3
import Derived.Test.YtkdccigcpcchlabIdKey
namespace Go.Proofs.Ytkdccigcpcchlab
open Go.RowKit

theorem three_sign (x y z b : Int) (w : World) (hb : -1 ≤ b ∧ b ≤ 1) (h1 : x = -b) (h3 : 0 < x ∨ 0 < y ∨ z ≤ 0) (h4 : x < 0 ∨ y < 0 ∨ 0 ≤ z) :
    Calls Try.prog 5 #[.int .i64 x, .int .i64 y, .int .i64 z, .int .i64 b, .bool (x == 0)] w fun e w' => e = .returned (.bool true) ∧ w' = w := by
  subst h1
  have hb1 := hb.1
  have hb2 := hb.2
  clear hb
  have hc : b = -1 ∨ b = 0 ∨ b = 1 := by omega
  rcases hc with rfl | rfl | rfl
  · by_cases hy : y < 0
    · clear h3 h4
      go_enter Try.func5, Try.ntmps5
      go_wp2
      go_ret
      exact ⟨rfl, rfl⟩
    · have hz : 0 ≤ z := by omega
      have hy' : decide (y < 0) = false := decide_eq_false (by omega)
      clear h3 h4
      go_enter Try.func5, Try.ntmps5
      go_wp2
      go_ret
      exact ⟨rfl, rfl⟩
  · by_cases hy : y < 0
    · have hz : z ≤ 0 := by omega
      have hy' : decide (0 < y) = false := decide_eq_false (by omega)
      clear h3 h4
      go_enter Try.func5, Try.ntmps5
      go_wp2
      go_ret
      exact ⟨rfl, rfl⟩
    · have hz : 0 ≤ z := by omega
      have hy' : decide (y < 0) = false := decide_eq_false (by omega)
      by_cases hy2 : 0 < y
      · clear h3 h4
        go_enter Try.func5, Try.ntmps5
        go_wp2
        go_ret
        exact ⟨rfl, rfl⟩
      · have hz2 : z ≤ 0 := by omega
        have hy3 : decide (0 < y) = false := decide_eq_false (by omega)
        clear h3 h4
        go_enter Try.func5, Try.ntmps5
        go_wp2
        go_ret
        exact ⟨rfl, rfl⟩
  · by_cases hy2 : 0 < y
    · clear h3 h4
      go_enter Try.func5, Try.ntmps5
      go_wp2
      go_ret
      exact ⟨rfl, rfl⟩
    · have hz2 : z ≤ 0 := by omega
      have hy3 : decide (0 < y) = false := decide_eq_false (by omega)
      clear h3 h4
      go_enter Try.func5, Try.ntmps5
      go_wp2
      go_ret
      exact ⟨rfl, rfl⟩
/-- As the law calls it: of an order. -/
theorem three_any (a b c : List Int) (same : Bool) (w : World) (h1 : a.length = b.length) (h2 : b.length = c.length) (hs : same = decide (a = b)) :
    Calls Try.prog 5 #[.int .i64 (lexF a b), .int .i64 (lexF b c), .int .i64 (lexF a c), .int .i64 (lexF b a), .bool same] w fun e w' => e = .returned (.bool true) ∧ w' = w := by
  have n1 := lexF_neg a b
  have n2 := lexF_neg b c
  have n3 := lexF_neg a c
  have z := lexF_zero a b h1
  have t1 := lexF_trans a b c h1 h2
  have t2 := lexF_trans c b a h2.symm h1.symm
  have hr := lexF_rng b a
  have hs2 : same = (lexF a b == 0) := by
    rw [hs]
    by_cases e : a = b
    · rw [decide_eq_true e, z.2 e]; rfl
    · rw [decide_eq_false e, beq_eq_false_iff_ne.2 (fun h => e (z.1 h))]
  rw [hs2]
  refine three_sign _ _ _ _ w hr (by omega) ?_ ?_
  · by_cases h3 : 0 < lexF a b
    · exact .inl h3
    · by_cases h4 : 0 < lexF b c
      · exact .inr (.inl h4)
      · exact .inr (.inr (t1 (by omega) (by omega)))
  · by_cases h3 : lexF a b < 0
    · exact .inl h3
    · by_cases h4 : lexF b c < 0
      · exact .inr (.inl h4)
      · exact .inr (.inr (by have := t2 (by omega) (by omega); omega))
/-- What the law's key of a stamp has. -/
def skeyF (s n b : Int) : List Int := [s % 256, n, b % 256, 0, 0, 0, 0, 0]
set_option maxRecDepth 100000 in
theorem skey_any (s n b m : Int) (w : World) : Calls Try.prog 6 #[.agg #[.int .u32 s, .int .u8 n, .int .u32 b, .int .u32 m]] w fun e w' => e = .returned (.agg #[.int .u8 (s % 256), .int .u8 n, .int .u8 (b % 256), .int .u8 0, .int .u8 0, .int .u8 0, .int .u8 0, .int .u8 0]) ∧ Below w.heap.size w w' := by
  have hw : ∀ x : Int, IntKind.u8.wrap x = x % 256 := fun x => by rw [IntKind.wrap_u8]
  have HI := hide infoKeyI
  go_enter Try.func6, Try.ntmps6
  go_wp2
  have hbx : Box ((w.alloc (.cells #[.int .u32 s, .int .u8 n, .int .u32 b, .int .u32 m] 26)).alloc (.cells #[.int .u8 (s % 256), .int .u8 n, .int .u8 (b % 256), .int .u8 0, .int .u8 0, .int .u8 0, .int .u8 0, .int .u8 0] 29)) (w.heap.size + 1) #[.int .u8 (s % 256), .int .u8 n, .int .u8 (b % 256), .int .u8 0, .int .u8 0, .int .u8 0, .int .u8 0, .int .u8 0] 29 := by
    have := box_new (w.alloc (.cells #[.int .u32 s, .int .u8 n, .int .u32 b, .int .u32 m] 26)) #[.int .u8 (s % 256), .int .u8 n, .int .u8 (b % 256), .int .u8 0, .int .u8 0, .int .u8 0, .int .u8 0, .int .u8 0] 29
    rw [World.size_alloc] at this
    exact this
  exact bodyPost_ret (results_box Try.results6 _ _ (w.heap.size + 1) rfl hbx Try.underlying29 rfl HI.out) rfl ⟨rfl, ((Below.refl _ _).alloc (Nat.le_refl _) _).alloc (by simp) _⟩
end Go.Proofs.Ytkdccigcpcchlab
