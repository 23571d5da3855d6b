/-
  A clock that nobody made: nil, or all zeros: what the program answers. Own work.
-/
import Derived.Test.YtgjdlclkibiffaaPkDo
import Derived.Test.YtgjdlclkibiffaaE9Full
namespace Go.Proofs.Ytgjdlclkibiffaa
open Go.RowKit

def Nb9 (w : World) (v : Value) : Prop := v = .pointer none ∨ ∃ z, v = .pointer (some ⟨z, 0, none⟩) ∧ Box w z #[.int .u32 0, .map none, .slice none 0 0, .slice none 0 0, .slice none 0 0, .slice none 0 0, .slice none 0 0, .slice none 0 0, .slice none 0 0, .slice none 0 0, .slice none 0 0, .slice none 0 0, .slice none 0 0, .slice none 0 0, .slice none 0 0, .slice none 0 0, .slice none 0 0, .slice none 0 0, .slice none 0 0, .slice none 0 0, .slice none 0 0, .slice none 0 0, .slice none 0 0, .slice none 0 0, .slice none 0 0, .slice none 0 0, .slice none 0 0, .slice none 0 0, .slice none 0 0, .slice none 0 0, .slice none 0 0, .slice none 0 0, .slice none 0 0, .slice none 0 0, .slice none 0 0, .slice none 0 0, .slice none 0 0, .slice none 0 0, .slice none 0 0, .slice none 0 0, .slice none 0 0, .slice none 0 0, .slice none 0 0, .slice none 0 0, .slice none 0 0, .slice none 0 0, .slice none 0 0, .slice none 0 0, .slice none 0 0, .slice none 0 0, .slice none 0 0, .slice none 0 0, .slice none 0 0, .slice none 0 0, .slice none 0 0, .slice none 0 0, .slice none 0 0, .slice none 0 0, .slice none 0 0, .slice none 0 0, .slice none 0 0, .slice none 0 0, .slice none 0 0, .slice none 0 0, .slice none 0 0, .slice none 0 0] 69
theorem Nb9.below {w w' : World} {v : Value} (h : Nb9 w v) (hB : Below w.heap.size w w') : Nb9 w' v := by
  rcases h with h | ⟨z, h, hb⟩
  · exact .inl h
  · exact .inr ⟨z, h, hb.belowI hB⟩
theorem neq_nil9 (w : World) : (binOp .neq 23 (.pointer none) (.pointer none)).run Try.prog w = .ok (.bool false) w := by
  have h1 : ∀ d, (Op.equalIn (d + 1) 23 (.pointer none) (.pointer none)).run Try.prog w = .ok true w := by
    intro d; simp [Op.equalIn, run_underlying Try.underlying23]
  have h2 : (Op.equal 23 (.pointer none) (.pointer none)).run Try.prog w = .ok true w := h1 9999
  simp [binOp, h2]
set_option maxRecDepth 100000 in
theorem nb9given_any {w : World} {v : Value} (h : Nb9 w v) :
    Calls Try.prog 26 #[v] w fun e w' => e = .returned (.bool false) ∧ w' = w := by
  rcases h with rfl | ⟨z, rfl, hb⟩
  · have hq := neq_nil9
    go_enter Try.func26, Try.ntmps26
    go_wp2
    go_ret
    exact ⟨rfl, rfl⟩
  · have m1 := hb.cell 1 _ rfl
    have hq := fun W => neq_ptr9 W ⟨z, 0, none⟩
    have hn := neqNoneMap
    clear hb
    go_enter Try.func26, Try.ntmps26
    go_wp2
    go_ret
    exact ⟨rfl, rfl⟩
set_option maxRecDepth 100000 in
theorem nb9now_any {w : World} {v : Value}  (h : Nb9 w v) :
    Calls Try.prog 24 #[v] w fun e w' => e = .returned (.int .u32 0) ∧ Below w.heap.size w w' := by
  have C := hide (nb9given_any h)
  clear h
  go_enter Try.func24, Try.ntmps24
  go_wp2_with (first | (go_at_call 26; refine C.out.mono ?_; rintro e W ⟨rfl, rfl⟩))
  go_ret
  exact ⟨rfl, Below.refl _ _⟩
set_option maxRecDepth 100000 in
theorem nb9len_any {w : World} {v : Value}  (h : Nb9 w v) :
    Calls Try.prog 25 #[v] w fun e w' => e = .returned (.int .i64 0) ∧ Below w.heap.size w w' := by
  have C := hide (nb9given_any h)
  clear h
  go_enter Try.func25, Try.ntmps25
  go_wp2_with (first | (go_at_call 26; refine C.out.mono ?_; rintro e W ⟨rfl, rfl⟩))
  go_ret
  exact ⟨rfl, Below.refl _ _⟩
set_option maxRecDepth 100000 in
theorem nb9tick_any {w : World} {v : Value}  (h : Nb9 w v) :
    Calls Try.prog 11 #[v] w fun e w' => ∃ u, e = .returned (.tuple #[u, .int .i64 2]) ∧ RSrc nmE w' u [] ∧ Below w.heap.size w w' := by
  have C := hide (nb9given_any h)
  clear h
  go_enter Try.func11, Try.ntmps11
  go_wp2_with (first | (go_at_call 26; refine C.out.mono ?_; rintro e W ⟨rfl, rfl⟩))
  go_ret2
  exact ⟨_, rfl, RSrc.nil _, Below.refl _ _⟩
set_option maxRecDepth 100000 in
theorem nb9until_any {w : World} {v : Value} (n : NmP) (h : Nb9 w v) :
    Calls Try.prog 20 #[v, .agg (nmA n)] w fun e w' => e = .returned (.tuple #[.int .u32 0, .bool false]) ∧ Below w.heap.size w w' := by
  have hA := alloc_below9 w (.cells (nmA n) 47)
  have hX := box_new w (nmA n) 47
  obtain ⟨w1, hw1⟩ : ∃ w1, w1 = w.alloc (.cells (nmA n) 47) := ⟨_, rfl⟩
  rw [← hw1] at hA hX
  have hW := hw1.symm
  have C := hide (nb9given_any (h.below hA))
  have HA := hide hA
  clear h hX hA hw1
  go_enter Try.func20, Try.ntmps20
  go_wp2_with (first | (go_at_call 26; refine C.out.mono ?_; rintro e W ⟨rfl, rfl⟩))
  go_ret2
  exact ⟨rfl, HA.out⟩
set_option maxRecDepth 100000 in
theorem nb9set_any {w : World} {v : Value} (n : NmP) (after : Int) (h : Nb9 w v) :
    Calls Try.prog 18 #[v, .agg (nmA n), .int .u32 after] w fun e w' => e = .returned (.int .i64 2) ∧ Below w.heap.size w w' := by
  have hA := alloc_below9 w (.cells (nmA n) 47)
  have hX := box_new w (nmA n) 47
  obtain ⟨w1, hw1⟩ : ∃ w1, w1 = w.alloc (.cells (nmA n) 47) := ⟨_, rfl⟩
  rw [← hw1] at hA hX
  have hW := hw1.symm
  have C := hide (nb9given_any (h.below hA))
  have HA := hide hA
  clear h hX hA hw1
  go_enter Try.func18, Try.ntmps18
  go_wp2_with (first | (go_at_call 26; refine C.out.mono ?_; rintro e W ⟨rfl, rfl⟩))
  go_ret
  exact ⟨rfl, HA.out⟩
set_option maxRecDepth 100000 in
theorem nb9stop_any {w : World} {v : Value} (n : NmP) (h : Nb9 w v) :
    Calls Try.prog 15 #[v, .agg (nmA n)] w fun e w' => e = .returned (.bool false) ∧ Below w.heap.size w w' := by
  have hA := alloc_below9 w (.cells (nmA n) 47)
  have hX := box_new w (nmA n) 47
  obtain ⟨w1, hw1⟩ : ∃ w1, w1 = w.alloc (.cells (nmA n) 47) := ⟨_, rfl⟩
  rw [← hw1] at hA hX
  have hW := hw1.symm
  have C := hide (nb9until_any n (h.below hA))
  have HA := hide hA
  have x0 := hX.cell 0 _ rfl
  have x1 := hX.cell 1 _ rfl
  have x2 := hX.cell 2 _ rfl
  have x3 := hX.cell 3 _ rfl
  clear h hX hA hw1
  go_enter Try.func15, Try.ntmps15
  go_wp2_with (first | (go_at_call 20; refine C.out.mono ?_; rintro e W ⟨rfl, hB⟩; have HB := hide hB; clear hB))
  go_ret
  exact ⟨rfl, HA.out.trans (HB.out.mono HA.out.size)⟩
set_option maxRecDepth 100000 in
theorem nb9next_any {w : World} {v : Value} (h : Nb9 w v) :
    Calls Try.prog 22 #[v] w fun e w' => e = .returned (.tuple #[.agg (nmA nilN), .int .u32 0, .bool false]) ∧ Below w.heap.size w w' := by
  have hA := alloc_below9 w (.cells (nmA nilN) 47)
  have hX := box_new w (nmA nilN) 47
  obtain ⟨w1, hw1⟩ : ∃ w1, w1 = w.alloc (.cells (nmA nilN) 47) := ⟨_, rfl⟩
  rw [← hw1] at hA hX
  have hW := hw1.symm
  have C := hide (nb9given_any (h.below hA))
  have HA := hide hA
  have HX := hide hX
  simp only [nilN] at hW
  clear h hX hA hw1
  go_enter Try.func22, Try.ntmps22
  go_wp2_with (first | (go_at_call 26; refine C.out.mono ?_; rintro e w1 ⟨rfl, rfl⟩) | (refine wp_store_box rfl rfl _ _ rfl w.heap.size rfl (cs' := nmA nilN) rfl HX.out rfl infoCN (nmA_one nilN) ?_; intro w5 hb5 hk5; have HB5 := hide hb5; have HK5 := hide hk5; clear hb5 hk5))
  refine bodyPost_ret (v := .tuple #[.agg (nmA nilN), .int .u32 0, .bool false]) (results_box39 (v1 := .int .u32 0) (v2 := .bool false) Try.results22 _ _ w.heap.size rfl rfl rfl HB5.out Try.underlying47 rfl infoCN) rfl ⟨rfl, ?_⟩
  exact HA.out.trans (HK5.out.below HA.out.size (fun k e => Nat.le_of_eq e.symm))
theorem nb9_do : NobDo9 Nb9 where
  below := fun h hB => h.below hB
  tick := fun h => nb9tick_any h
  next := fun h => nb9next_any h
  unt := fun n h => nb9until_any n h
  set := fun n a h => nb9set_any n a h
  stop := fun n h => nb9stop_any n h
  now := fun h => nb9now_any h
  len := fun h => nb9len_any h
end Go.Proofs.Ytgjdlclkibiffaa
