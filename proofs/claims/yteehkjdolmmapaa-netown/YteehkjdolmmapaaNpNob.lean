/-
  A network that nobody made: nil, or all zeros: what the program answers. Own work.
-/
import Derived.Test.YteehkjdolmmapaaNpMore
import Derived.Test.YteehkjdolmmapaaNtOwnP
namespace Go.Proofs.Yteehkjdolmmapaa
open Go.RowKit

def Nb8 (w : World) (v : Value) : Prop := v = .pointer none ∨ ∃ z, v = .pointer (some ⟨z, 0, none⟩) ∧ Box w z #[.bool false, .int .i64 0, .slice none 0 0, .int .u32 0] 65
theorem Nb8.below {w w' : World} {v : Value} (h : Nb8 w v) (hB : Below w.heap.size w w') : Nb8 w' v := by
  rcases h with h | ⟨z, h, hb⟩
  · exact .inl h
  · exact .inr ⟨z, h, hb.below8 hB⟩
theorem neq_nil8 (w : World) : (binOp .neq 25 (.pointer none) (.pointer none)).run Try.prog w = .ok (.bool false) w := by
  have h1 : ∀ d, (Op.equalIn (d + 1) 25 (.pointer none) (.pointer none)).run Try.prog w = .ok true w := by
    intro d; simp [Op.equalIn, run_underlying Try.underlying25]
  have h2 : (Op.equal 25 (.pointer none) (.pointer none)).run Try.prog w = .ok true w := h1 9999
  simp [binOp, h2]
theorem nbgiven_any {w : World} {v : Value} (h : Nb8 w v) :
    Calls Try.prog 35 #[v] w fun e w' => e = .returned (.bool false) ∧ w' = w := by
  rcases h with rfl | ⟨z, rfl, hb⟩
  · go_enter Try.func35, Try.ntmps35
    go_wp2
    go_ret
    exact ⟨rfl, rfl⟩
  · have m0 := hb.cell 0 _ rfl
    clear hb
    go_enter Try.func35, Try.ntmps35
    go_wp2
    go_ret
    exact ⟨rfl, rfl⟩
set_option maxRecDepth 100000 in
theorem nbthere_any {w : World} {v : Value} (i : Int) (h : Nb8 w v) :
    Calls Try.prog 36 #[v, .int .i64 i] w fun e w' => e = .returned (.int .i64 2) ∧ w' = w := by
  have C := hide (nbgiven_any h)
  clear h
  go_enter Try.func36, Try.ntmps36
  go_wp2_with fail
  refine C.out.mono ?_
  rintro e w1 ⟨rfl, rfl⟩
  go_wp2_with fail
  go_ret
  exact ⟨rfl, rfl⟩
set_option maxRecDepth 100000 in
theorem nbdrop_any {w : World} {v : Value} (i : Int) (h : Nb8 w v) :
    Calls Try.prog 28 #[v, .int .i64 i] w fun e w' => e = .returned (.int .i64 2) ∧ Below w.heap.size w w' := by
  have C := hide (nbthere_any i h)
  clear h
  go_enter Try.func28, Try.ntmps28
  go_wp2_with fail
  refine C.out.mono ?_
  rintro e w1 ⟨rfl, rfl⟩
  go_wp2_with fail
  go_ret
  exact ⟨rfl, Below.refl _ _⟩
set_option maxRecDepth 100000 in
theorem nbtwice_any {w : World} {v : Value} (i : Int) (h : Nb8 w v) :
    Calls Try.prog 24 #[v, .int .i64 i] w fun e w' => e = .returned (.int .i64 2) ∧ Below w.heap.size w w' := by
  have C := hide (nbthere_any i h)
  clear h
  go_enter Try.func24, Try.ntmps24
  go_wp2_with fail
  refine C.out.mono ?_
  rintro e w1 ⟨rfl, rfl⟩
  go_wp2_with fail
  go_ret
  exact ⟨rfl, Below.refl _ _⟩
set_option maxRecDepth 100000 in
theorem nblate_any {w : World} {v : Value} (i : Int) (h : Nb8 w v) :
    Calls Try.prog 27 #[v, .int .i64 i] w fun e w' => e = .returned (.int .i64 2) ∧ Below w.heap.size w w' := by
  have C := hide (nbthere_any i h)
  clear h
  go_enter Try.func27, Try.ntmps27
  go_wp2_with fail
  refine C.out.mono ?_
  rintro e w1 ⟨rfl, rfl⟩
  go_wp2_with fail
  go_ret
  exact ⟨rfl, Below.refl _ _⟩
set_option maxRecDepth 100000 in
theorem nbat_any {w : World} {v : Value} (i : Int) (h : Nb8 w v) :
    Calls Try.prog 21 #[v, .int .i64 i] w fun e w' => e = .returned (.tuple #[.agg (wcs nilW (.slice none 0 0)), .int .i64 2]) ∧ Below w.heap.size w w' := by
  have hA := alloc_below8 w (.cells #[.int .u8 0, .int .u8 0, .slice none 0 0] 50)
  have HX := hide (box_new w #[.int .u8 0, .int .u8 0, .slice none 0 0] 50)
  obtain ⟨w1, hw1⟩ : ∃ w1, w1 = w.alloc (.cells #[.int .u8 0, .int .u8 0, .slice none 0 0] 50) := ⟨_, rfl⟩
  have hW1 := hw1.symm
  rw [← hw1] at hA HX
  have C := hide (nbthere_any i (h.below hA))
  have HB := hide hA
  clear h hA hw1
  go_enter Try.func21, Try.ntmps21
  go_wp2_with fail
  refine C.out.mono ?_
  rintro e w2 ⟨rfl, rfl⟩
  go_wp2_with (first
    | (refine wp_store_box rfl rfl _ _ rfl w.heap.size rfl rfl HX.out rfl infoW (wcs_one nilW none 0 0) ?_; intro w4 hb4 hk4; have HX4 := hide hb4; have HK4 := hide hk4; clear hb4 hk4))
  refine bodyPost_ret (results_two8 rfl _ _ w.heap.size rfl rfl HX4.out Try.underlying50 rfl infoW) rfl ?_
  exact ⟨rfl, HB.out.trans (HK4.out.below HB.out.size (fun k e => by omega))⟩
set_option maxRecDepth 100000 in
theorem nbtake_any {w : World} {v : Value} (i : Int) (h : Nb8 w v) :
    Calls Try.prog 25 #[v, .int .i64 i] w fun e w' => e = .returned (.tuple #[.agg (wcs nilW (.slice none 0 0)), .int .i64 2]) ∧ Below w.heap.size w w' := by
  have hA := alloc_below8 w (.cells #[.int .u8 0, .int .u8 0, .slice none 0 0] 50)
  have HX := hide (box_new w #[.int .u8 0, .int .u8 0, .slice none 0 0] 50)
  obtain ⟨w1, hw1⟩ : ∃ w1, w1 = w.alloc (.cells #[.int .u8 0, .int .u8 0, .slice none 0 0] 50) := ⟨_, rfl⟩
  have hW1 := hw1.symm
  rw [← hw1] at hA HX
  have C := hide (nbthere_any i (h.below hA))
  have HB := hide hA
  clear h hA hw1
  go_enter Try.func25, Try.ntmps25
  go_wp2_with fail
  refine C.out.mono ?_
  rintro e w2 ⟨rfl, rfl⟩
  go_wp2_with (first
    | (refine wp_store_box rfl rfl _ _ rfl w.heap.size rfl rfl HX.out rfl infoW (wcs_one nilW none 0 0) ?_; intro w4 hb4 hk4; have HX4 := hide hb4; have HK4 := hide hk4; clear hb4 hk4))
  refine bodyPost_ret (results_two8 rfl _ _ w.heap.size rfl rfl HX4.out Try.underlying50 rfl infoW) rfl ?_
  exact ⟨rfl, HB.out.trans (HK4.out.below HB.out.size (fun k e => by omega))⟩
set_option maxRecDepth 100000 in
theorem nblen_any {w : World} {v : Value} (h : Nb8 w v) :
    Calls Try.prog 16 #[v] w fun e w' => e = .returned (.int .i64 0) ∧ Below w.heap.size w w' := by
  have C := hide (nbgiven_any h)
  clear h
  go_enter Try.func16, Try.ntmps16
  go_wp2_with fail
  refine C.out.mono ?_
  rintro e w1 ⟨rfl, rfl⟩
  go_wp2_with fail
  go_ret
  exact ⟨rfl, Below.refl _ _⟩
set_option maxRecDepth 100000 in
theorem nblost_any {w : World} {v : Value} (h : Nb8 w v) :
    Calls Try.prog 17 #[v] w fun e w' => e = .returned (.int .i64 0) ∧ Below w.heap.size w w' := by
  have C := hide (nbgiven_any h)
  clear h
  go_enter Try.func17, Try.ntmps17
  go_wp2_with fail
  refine C.out.mono ?_
  rintro e w1 ⟨rfl, rfl⟩
  go_wp2_with fail
  go_ret
  exact ⟨rfl, Below.refl _ _⟩
set_option maxRecDepth 100000 in
theorem nbto_any {w : World} {v : Value} (node : Nat) (h : Nb8 w v) :
    Calls Try.prog 19 #[v, .int .u8 (node : Int)] w fun e w' => ∃ u, e = .returned u ∧ Lies .i64 w' u [] ∧ Below w.heap.size w w' := by
  have C := hide (nbgiven_any h)
  clear h
  go_enter Try.func19, Try.ntmps19
  go_wp2_with fail
  refine C.out.mono ?_
  rintro e w1 ⟨rfl, rfl⟩
  go_wp2_with fail
  go_ret
  exact ⟨_, rfl, Lies.nil _ _, Below.refl _ _⟩
set_option maxRecDepth 100000 in
theorem nbsend_any {w : World} {v : Value} (x : Wr) (ao : Option Addr) (l c : Nat) (h : Nb8 w v) :
    Calls Try.prog 23 #[v, .agg (wcs x (.slice ao l c))] w fun e w' => e = .returned (.int .i64 2) ∧ Below w.heap.size w w' := by
  unfold wcs
  have hA := alloc_below8 w (.cells #[.int .u8 (x.fr : Int), .int .u8 (x.to : Int), .slice ao l c] 50)
  have C := hide (nbgiven_any (h.below hA))
  have HB := hide hA
  clear h hA
  go_enter Try.func23, Try.ntmps23
  go_wp2_with fail
  refine C.out.mono ?_
  rintro e w1 ⟨rfl, rfl⟩
  go_wp2_with fail
  go_ret
  exact ⟨rfl, HB.out⟩
theorem nb8_do : NobDo8 Nb8 where
  below := fun h hB => h.below hB
  sen := fun x ao l c h => nbsend_any x ao l c h
  tak := fun i h => nbtake_any i h
  at' := fun i h => nbat_any i h
  dro := fun i h => nbdrop_any i h
  twi := fun i h => nbtwice_any i h
  lat := fun i h => nblate_any i h
  len := fun h => nblen_any h
  los := fun h => nblost_any h
  to' := fun node h _ => nbto_any node h
end Go.Proofs.Yteehkjdolmmapaa
