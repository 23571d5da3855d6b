/-
  The reference of layer 11: kept. Own work.
-/
import Derived.Test.YtencmgepffdodaaGreatG32
namespace Go.Proofs.YtencmgepffdodaaGreat
section
open Go.RowKit Classical

def keptP (m : RecP) : RecP := if (fieldsR m.kind).isEmpty then zeroR 0 else putRs (fieldsR m.kind) m (zeroR m.kind)
def keptW (kind : Nat) (v : Value) : Value := if kind = 2 ∨ kind = 5 then v else .slice none 0 0
def keptM (kind : Nat) (v : Value) : Value := if kind = 5 then v else .slice none 0 0
set_option maxRecDepth 100000 in
set_option maxHeartbeats 6400000 in
theorem rkept11_1 (m : RecP) (hk : m.kind = 1) (ao bo : Option Addr) (l c k d : Nat) (w : World) : Calls Tryz.prog 23 #[.agg (recA m (.slice ao l c) (.slice bo k d))] w fun e w' => e = .returned (.agg (recA (keptP m) (keptW m.kind (.slice ao l c)) (keptM m.kind (.slice bo k d)))) ∧ Below w.heap.size w w' := by
  have hA0 := alloc_below10 w (.cells (recA m (.slice ao l c) (.slice bo k d)) 37)
  have hX0 := box_new w (recA m (.slice ao l c) (.slice bo k d)) 37
  have hZ0 : (w.alloc (.cells (recA m (.slice ao l c) (.slice bo k d)) 37)).heap.size = w.heap.size + 1 := by simp
  obtain ⟨w0, hw0⟩ : ∃ w0, w0 = w.alloc (.cells (recA m (.slice ao l c) (.slice bo k d)) 37) := ⟨_, rfl⟩
  rw [← hw0] at hA0 hX0 hZ0
  have hA1 := alloc_below10 w0 (.cells #[.int .u8 0, .int .u32 0, .int .u8 0, .int .u32 0, .int .u32 0, .int .u32 0, .int .u32 0, .int .u64 0, .slice none 0 0, .slice none 0 0, .int .u8 0, .int .u8 0, .int .u8 0, .int .u8 0, .int .u8 0, .int .u8 0, .int .u8 0, .int .u8 0, .int .u32 0, .string ⟨#[]⟩, .int .u32 0, .int .u8 0, .int .u8 0, .int .u8 0, .int .u8 0, .int .u8 0, .int .u8 0, .int .u8 0, .int .u8 0, .int .u8 0, .int .u8 0] 37)
  have hX1 := box_new w0 #[.int .u8 0, .int .u32 0, .int .u8 0, .int .u32 0, .int .u32 0, .int .u32 0, .int .u32 0, .int .u64 0, .slice none 0 0, .slice none 0 0, .int .u8 0, .int .u8 0, .int .u8 0, .int .u8 0, .int .u8 0, .int .u8 0, .int .u8 0, .int .u8 0, .int .u32 0, .string ⟨#[]⟩, .int .u32 0, .int .u8 0, .int .u8 0, .int .u8 0, .int .u8 0, .int .u8 0, .int .u8 0, .int .u8 0, .int .u8 0, .int .u8 0, .int .u8 0] 37
  obtain ⟨w1, hw1⟩ : ∃ w1, w1 = w0.alloc (.cells #[.int .u8 0, .int .u32 0, .int .u8 0, .int .u32 0, .int .u32 0, .int .u32 0, .int .u32 0, .int .u64 0, .slice none 0 0, .slice none 0 0, .int .u8 0, .int .u8 0, .int .u8 0, .int .u8 0, .int .u8 0, .int .u8 0, .int .u8 0, .int .u8 0, .int .u32 0, .string ⟨#[]⟩, .int .u32 0, .int .u8 0, .int .u8 0, .int .u8 0, .int .u8 0, .int .u8 0, .int .u8 0, .int .u8 0, .int .u8 0, .int .u8 0, .int .u8 0] 37) := ⟨_, rfl⟩
  rw [← hw1] at hA1 hX1
  obtain ⟨p0, hp0⟩ : ∃ p, w.heap.size = p := ⟨_, rfl⟩
  obtain ⟨p1, hp1⟩ : ∃ p, w0.heap.size = p := ⟨_, rfl⟩
  rw [hp0] at hA0 hX0 hZ0 ⊢
  rw [hp1] at hA1 hX1 hZ0
  have hX := hX0.belowI (hp1 ▸ hA1)
  have HB := hide (hA0.trans (hA1.mono (by omega)))
  have HX1 := hide hX1
  have HZ := hide (And.intro hZ0 hX.lt)
  have hW0 := hw0.symm
  have hW1 := hw1.symm
  have HE : keptP m = putRs [0] m (zeroR 1) := by unfold keptP; rw [hk]; rfl
  have HW : keptW m.kind (.slice ao l c) = (.slice none 0 0) := by rw [hk]; rfl
  have HM : keptM m.kind (.slice bo k d) = (.slice none 0 0) := by rw [hk]; rfl
  have x0 : w1.cell? ⟨p0, 0, none⟩ = some (.int .u8 1) := by have h : w1.cell? ⟨p0, 0, none⟩ = some (.int .u8 (m.kind : Int)) := hX.cell 0 _ rfl; rw [hk] at h; exact h
  have x1 := hX.cell 1 _ rfl
  rw [HE, HW, HM]
  clear hA0 hA1 hX0 hX1 hX hw0 hw1 hZ0 HE HW HM
  go_enter Tryz.func23, Tryz.ntmps23
  go_wp2_with (first
    | (refine wp_store_box (cs' := recA (putRs [0] m (zeroR 1)) (.slice none 0 0) (.slice none 0 0)) rfl rfl _ _ rfl p1 rfl rfl HX1.out rfl infoRRec (by simp [Value.oneCell']) ?_; intro w3 hb3 hk3; have HB3 := hide hb3; have HK3 := hide hk3; clear hb3 hk3))
  refine bodyPost_ret (v := .agg (recA (putRs [0] m (zeroR 1)) (.slice none 0 0) (.slice none 0 0))) (results_box Tryz.results23 _ _ p1 rfl HB3.out Tryz.underlying37 rfl infoRRec) rfl ⟨rfl, HB.out.trans (HK3.out.below (by have := HZ.out; omega) (fun j e => by have := HZ.out; have e : j = p1 := e; omega))⟩
set_option maxRecDepth 100000 in
set_option maxHeartbeats 6400000 in
theorem rkept11_2 (m : RecP) (hk : m.kind = 2) (ao bo : Option Addr) (l c k d : Nat) (w : World) : Calls Tryz.prog 23 #[.agg (recA m (.slice ao l c) (.slice bo k d))] w fun e w' => e = .returned (.agg (recA (keptP m) (keptW m.kind (.slice ao l c)) (keptM m.kind (.slice bo k d)))) ∧ Below w.heap.size w w' := by
  have hA0 := alloc_below10 w (.cells (recA m (.slice ao l c) (.slice bo k d)) 37)
  have hX0 := box_new w (recA m (.slice ao l c) (.slice bo k d)) 37
  have hZ0 : (w.alloc (.cells (recA m (.slice ao l c) (.slice bo k d)) 37)).heap.size = w.heap.size + 1 := by simp
  obtain ⟨w0, hw0⟩ : ∃ w0, w0 = w.alloc (.cells (recA m (.slice ao l c) (.slice bo k d)) 37) := ⟨_, rfl⟩
  rw [← hw0] at hA0 hX0 hZ0
  have hA1 := alloc_below10 w0 (.cells #[.int .u8 0, .int .u32 0, .int .u8 0, .int .u32 0, .int .u32 0, .int .u32 0, .int .u32 0, .int .u64 0, .slice none 0 0, .slice none 0 0, .int .u8 0, .int .u8 0, .int .u8 0, .int .u8 0, .int .u8 0, .int .u8 0, .int .u8 0, .int .u8 0, .int .u32 0, .string ⟨#[]⟩, .int .u32 0, .int .u8 0, .int .u8 0, .int .u8 0, .int .u8 0, .int .u8 0, .int .u8 0, .int .u8 0, .int .u8 0, .int .u8 0, .int .u8 0] 37)
  have hX1 := box_new w0 #[.int .u8 0, .int .u32 0, .int .u8 0, .int .u32 0, .int .u32 0, .int .u32 0, .int .u32 0, .int .u64 0, .slice none 0 0, .slice none 0 0, .int .u8 0, .int .u8 0, .int .u8 0, .int .u8 0, .int .u8 0, .int .u8 0, .int .u8 0, .int .u8 0, .int .u32 0, .string ⟨#[]⟩, .int .u32 0, .int .u8 0, .int .u8 0, .int .u8 0, .int .u8 0, .int .u8 0, .int .u8 0, .int .u8 0, .int .u8 0, .int .u8 0, .int .u8 0] 37
  obtain ⟨w1, hw1⟩ : ∃ w1, w1 = w0.alloc (.cells #[.int .u8 0, .int .u32 0, .int .u8 0, .int .u32 0, .int .u32 0, .int .u32 0, .int .u32 0, .int .u64 0, .slice none 0 0, .slice none 0 0, .int .u8 0, .int .u8 0, .int .u8 0, .int .u8 0, .int .u8 0, .int .u8 0, .int .u8 0, .int .u8 0, .int .u32 0, .string ⟨#[]⟩, .int .u32 0, .int .u8 0, .int .u8 0, .int .u8 0, .int .u8 0, .int .u8 0, .int .u8 0, .int .u8 0, .int .u8 0, .int .u8 0, .int .u8 0] 37) := ⟨_, rfl⟩
  rw [← hw1] at hA1 hX1
  obtain ⟨p0, hp0⟩ : ∃ p, w.heap.size = p := ⟨_, rfl⟩
  obtain ⟨p1, hp1⟩ : ∃ p, w0.heap.size = p := ⟨_, rfl⟩
  rw [hp0] at hA0 hX0 hZ0 ⊢
  rw [hp1] at hA1 hX1 hZ0
  have hX := hX0.belowI (hp1 ▸ hA1)
  have HB := hide (hA0.trans (hA1.mono (by omega)))
  have HX1 := hide hX1
  have HZ := hide (And.intro hZ0 hX.lt)
  have hW0 := hw0.symm
  have hW1 := hw1.symm
  have HE : keptP m = putRs [1, 2, 4] m (zeroR 2) := by unfold keptP; rw [hk]; rfl
  have HW : keptW m.kind (.slice ao l c) = (.slice ao l c) := by rw [hk]; rfl
  have HM : keptM m.kind (.slice bo k d) = (.slice none 0 0) := by rw [hk]; rfl
  have x0 : w1.cell? ⟨p0, 0, none⟩ = some (.int .u8 2) := by have h : w1.cell? ⟨p0, 0, none⟩ = some (.int .u8 (m.kind : Int)) := hX.cell 0 _ rfl; rw [hk] at h; exact h
  have x2 := hX.cell 2 _ rfl
  have x3 := hX.cell 3 _ rfl
  have x4 := hX.cell 4 _ rfl
  have x5 := hX.cell 5 _ rfl
  have x6 := hX.cell 6 _ rfl
  have x8 := hX.cell 8 _ rfl
  rw [HE, HW, HM]
  clear hA0 hA1 hX0 hX1 hX hw0 hw1 hZ0 HE HW HM
  go_enter Tryz.func23, Tryz.ntmps23
  go_wp2_with (first
    | (refine wp_store_box (cs' := recA (putRs [1, 2, 4] m (zeroR 2)) (.slice ao l c) (.slice none 0 0)) rfl rfl _ _ rfl p1 rfl rfl HX1.out rfl infoRRec (by simp [Value.oneCell']) ?_; intro w3 hb3 hk3; have HB3 := hide hb3; have HK3 := hide hk3; clear hb3 hk3))
  refine bodyPost_ret (v := .agg (recA (putRs [1, 2, 4] m (zeroR 2)) (.slice ao l c) (.slice none 0 0))) (results_box Tryz.results23 _ _ p1 rfl HB3.out Tryz.underlying37 rfl infoRRec) rfl ⟨rfl, HB.out.trans (HK3.out.below (by have := HZ.out; omega) (fun j e => by have := HZ.out; have e : j = p1 := e; omega))⟩
set_option maxRecDepth 100000 in
set_option maxHeartbeats 6400000 in
theorem rkept11_3 (m : RecP) (hk : m.kind = 3) (ao bo : Option Addr) (l c k d : Nat) (w : World) : Calls Tryz.prog 23 #[.agg (recA m (.slice ao l c) (.slice bo k d))] w fun e w' => e = .returned (.agg (recA (keptP m) (keptW m.kind (.slice ao l c)) (keptM m.kind (.slice bo k d)))) ∧ Below w.heap.size w w' := by
  have hA0 := alloc_below10 w (.cells (recA m (.slice ao l c) (.slice bo k d)) 37)
  have hX0 := box_new w (recA m (.slice ao l c) (.slice bo k d)) 37
  have hZ0 : (w.alloc (.cells (recA m (.slice ao l c) (.slice bo k d)) 37)).heap.size = w.heap.size + 1 := by simp
  obtain ⟨w0, hw0⟩ : ∃ w0, w0 = w.alloc (.cells (recA m (.slice ao l c) (.slice bo k d)) 37) := ⟨_, rfl⟩
  rw [← hw0] at hA0 hX0 hZ0
  have hA1 := alloc_below10 w0 (.cells #[.int .u8 0, .int .u32 0, .int .u8 0, .int .u32 0, .int .u32 0, .int .u32 0, .int .u32 0, .int .u64 0, .slice none 0 0, .slice none 0 0, .int .u8 0, .int .u8 0, .int .u8 0, .int .u8 0, .int .u8 0, .int .u8 0, .int .u8 0, .int .u8 0, .int .u32 0, .string ⟨#[]⟩, .int .u32 0, .int .u8 0, .int .u8 0, .int .u8 0, .int .u8 0, .int .u8 0, .int .u8 0, .int .u8 0, .int .u8 0, .int .u8 0, .int .u8 0] 37)
  have hX1 := box_new w0 #[.int .u8 0, .int .u32 0, .int .u8 0, .int .u32 0, .int .u32 0, .int .u32 0, .int .u32 0, .int .u64 0, .slice none 0 0, .slice none 0 0, .int .u8 0, .int .u8 0, .int .u8 0, .int .u8 0, .int .u8 0, .int .u8 0, .int .u8 0, .int .u8 0, .int .u32 0, .string ⟨#[]⟩, .int .u32 0, .int .u8 0, .int .u8 0, .int .u8 0, .int .u8 0, .int .u8 0, .int .u8 0, .int .u8 0, .int .u8 0, .int .u8 0, .int .u8 0] 37
  obtain ⟨w1, hw1⟩ : ∃ w1, w1 = w0.alloc (.cells #[.int .u8 0, .int .u32 0, .int .u8 0, .int .u32 0, .int .u32 0, .int .u32 0, .int .u32 0, .int .u64 0, .slice none 0 0, .slice none 0 0, .int .u8 0, .int .u8 0, .int .u8 0, .int .u8 0, .int .u8 0, .int .u8 0, .int .u8 0, .int .u8 0, .int .u32 0, .string ⟨#[]⟩, .int .u32 0, .int .u8 0, .int .u8 0, .int .u8 0, .int .u8 0, .int .u8 0, .int .u8 0, .int .u8 0, .int .u8 0, .int .u8 0, .int .u8 0] 37) := ⟨_, rfl⟩
  rw [← hw1] at hA1 hX1
  obtain ⟨p0, hp0⟩ : ∃ p, w.heap.size = p := ⟨_, rfl⟩
  obtain ⟨p1, hp1⟩ : ∃ p, w0.heap.size = p := ⟨_, rfl⟩
  rw [hp0] at hA0 hX0 hZ0 ⊢
  rw [hp1] at hA1 hX1 hZ0
  have hX := hX0.belowI (hp1 ▸ hA1)
  have HB := hide (hA0.trans (hA1.mono (by omega)))
  have HX1 := hide hX1
  have HZ := hide (And.intro hZ0 hX.lt)
  have hW0 := hw0.symm
  have hW1 := hw1.symm
  have HE : keptP m = putRs [1] m (zeroR 3) := by unfold keptP; rw [hk]; rfl
  have HW : keptW m.kind (.slice ao l c) = (.slice none 0 0) := by rw [hk]; rfl
  have HM : keptM m.kind (.slice bo k d) = (.slice none 0 0) := by rw [hk]; rfl
  have x0 : w1.cell? ⟨p0, 0, none⟩ = some (.int .u8 3) := by have h : w1.cell? ⟨p0, 0, none⟩ = some (.int .u8 (m.kind : Int)) := hX.cell 0 _ rfl; rw [hk] at h; exact h
  have x2 := hX.cell 2 _ rfl
  have x3 := hX.cell 3 _ rfl
  have x4 := hX.cell 4 _ rfl
  rw [HE, HW, HM]
  clear hA0 hA1 hX0 hX1 hX hw0 hw1 hZ0 HE HW HM
  go_enter Tryz.func23, Tryz.ntmps23
  go_wp2_with (first
    | (refine wp_store_box (cs' := recA (putRs [1] m (zeroR 3)) (.slice none 0 0) (.slice none 0 0)) rfl rfl _ _ rfl p1 rfl rfl HX1.out rfl infoRRec (by simp [Value.oneCell']) ?_; intro w3 hb3 hk3; have HB3 := hide hb3; have HK3 := hide hk3; clear hb3 hk3))
  refine bodyPost_ret (v := .agg (recA (putRs [1] m (zeroR 3)) (.slice none 0 0) (.slice none 0 0))) (results_box Tryz.results23 _ _ p1 rfl HB3.out Tryz.underlying37 rfl infoRRec) rfl ⟨rfl, HB.out.trans (HK3.out.below (by have := HZ.out; omega) (fun j e => by have := HZ.out; have e : j = p1 := e; omega))⟩
set_option maxRecDepth 100000 in
set_option maxHeartbeats 6400000 in
theorem rkept11_4 (m : RecP) (hk : m.kind = 4) (ao bo : Option Addr) (l c k d : Nat) (w : World) : Calls Tryz.prog 23 #[.agg (recA m (.slice ao l c) (.slice bo k d))] w fun e w' => e = .returned (.agg (recA (keptP m) (keptW m.kind (.slice ao l c)) (keptM m.kind (.slice bo k d)))) ∧ Below w.heap.size w w' := by
  have hA0 := alloc_below10 w (.cells (recA m (.slice ao l c) (.slice bo k d)) 37)
  have hX0 := box_new w (recA m (.slice ao l c) (.slice bo k d)) 37
  have hZ0 : (w.alloc (.cells (recA m (.slice ao l c) (.slice bo k d)) 37)).heap.size = w.heap.size + 1 := by simp
  obtain ⟨w0, hw0⟩ : ∃ w0, w0 = w.alloc (.cells (recA m (.slice ao l c) (.slice bo k d)) 37) := ⟨_, rfl⟩
  rw [← hw0] at hA0 hX0 hZ0
  have hA1 := alloc_below10 w0 (.cells #[.int .u8 0, .int .u32 0, .int .u8 0, .int .u32 0, .int .u32 0, .int .u32 0, .int .u32 0, .int .u64 0, .slice none 0 0, .slice none 0 0, .int .u8 0, .int .u8 0, .int .u8 0, .int .u8 0, .int .u8 0, .int .u8 0, .int .u8 0, .int .u8 0, .int .u32 0, .string ⟨#[]⟩, .int .u32 0, .int .u8 0, .int .u8 0, .int .u8 0, .int .u8 0, .int .u8 0, .int .u8 0, .int .u8 0, .int .u8 0, .int .u8 0, .int .u8 0] 37)
  have hX1 := box_new w0 #[.int .u8 0, .int .u32 0, .int .u8 0, .int .u32 0, .int .u32 0, .int .u32 0, .int .u32 0, .int .u64 0, .slice none 0 0, .slice none 0 0, .int .u8 0, .int .u8 0, .int .u8 0, .int .u8 0, .int .u8 0, .int .u8 0, .int .u8 0, .int .u8 0, .int .u32 0, .string ⟨#[]⟩, .int .u32 0, .int .u8 0, .int .u8 0, .int .u8 0, .int .u8 0, .int .u8 0, .int .u8 0, .int .u8 0, .int .u8 0, .int .u8 0, .int .u8 0] 37
  obtain ⟨w1, hw1⟩ : ∃ w1, w1 = w0.alloc (.cells #[.int .u8 0, .int .u32 0, .int .u8 0, .int .u32 0, .int .u32 0, .int .u32 0, .int .u32 0, .int .u64 0, .slice none 0 0, .slice none 0 0, .int .u8 0, .int .u8 0, .int .u8 0, .int .u8 0, .int .u8 0, .int .u8 0, .int .u8 0, .int .u8 0, .int .u32 0, .string ⟨#[]⟩, .int .u32 0, .int .u8 0, .int .u8 0, .int .u8 0, .int .u8 0, .int .u8 0, .int .u8 0, .int .u8 0, .int .u8 0, .int .u8 0, .int .u8 0] 37) := ⟨_, rfl⟩
  rw [← hw1] at hA1 hX1
  obtain ⟨p0, hp0⟩ : ∃ p, w.heap.size = p := ⟨_, rfl⟩
  obtain ⟨p1, hp1⟩ : ∃ p, w0.heap.size = p := ⟨_, rfl⟩
  rw [hp0] at hA0 hX0 hZ0 ⊢
  rw [hp1] at hA1 hX1 hZ0
  have hX := hX0.belowI (hp1 ▸ hA1)
  have HB := hide (hA0.trans (hA1.mono (by omega)))
  have HX1 := hide hX1
  have HZ := hide (And.intro hZ0 hX.lt)
  have hW0 := hw0.symm
  have hW1 := hw1.symm
  have HE : keptP m = putRs [1] m (zeroR 4) := by unfold keptP; rw [hk]; rfl
  have HW : keptW m.kind (.slice ao l c) = (.slice none 0 0) := by rw [hk]; rfl
  have HM : keptM m.kind (.slice bo k d) = (.slice none 0 0) := by rw [hk]; rfl
  have x0 : w1.cell? ⟨p0, 0, none⟩ = some (.int .u8 4) := by have h : w1.cell? ⟨p0, 0, none⟩ = some (.int .u8 (m.kind : Int)) := hX.cell 0 _ rfl; rw [hk] at h; exact h
  have x2 := hX.cell 2 _ rfl
  have x3 := hX.cell 3 _ rfl
  have x4 := hX.cell 4 _ rfl
  rw [HE, HW, HM]
  clear hA0 hA1 hX0 hX1 hX hw0 hw1 hZ0 HE HW HM
  go_enter Tryz.func23, Tryz.ntmps23
  go_wp2_with (first
    | (refine wp_store_box (cs' := recA (putRs [1] m (zeroR 4)) (.slice none 0 0) (.slice none 0 0)) rfl rfl _ _ rfl p1 rfl rfl HX1.out rfl infoRRec (by simp [Value.oneCell']) ?_; intro w3 hb3 hk3; have HB3 := hide hb3; have HK3 := hide hk3; clear hb3 hk3))
  refine bodyPost_ret (v := .agg (recA (putRs [1] m (zeroR 4)) (.slice none 0 0) (.slice none 0 0))) (results_box Tryz.results23 _ _ p1 rfl HB3.out Tryz.underlying37 rfl infoRRec) rfl ⟨rfl, HB.out.trans (HK3.out.below (by have := HZ.out; omega) (fun j e => by have := HZ.out; have e : j = p1 := e; omega))⟩
set_option maxRecDepth 100000 in
set_option maxHeartbeats 6400000 in
theorem rkept11_5 (m : RecP) (hk : m.kind = 5) (ao bo : Option Addr) (l c k d : Nat) (w : World) : Calls Tryz.prog 23 #[.agg (recA m (.slice ao l c) (.slice bo k d))] w fun e w' => e = .returned (.agg (recA (keptP m) (keptW m.kind (.slice ao l c)) (keptM m.kind (.slice bo k d)))) ∧ Below w.heap.size w w' := by
  have hA0 := alloc_below10 w (.cells (recA m (.slice ao l c) (.slice bo k d)) 37)
  have hX0 := box_new w (recA m (.slice ao l c) (.slice bo k d)) 37
  have hZ0 : (w.alloc (.cells (recA m (.slice ao l c) (.slice bo k d)) 37)).heap.size = w.heap.size + 1 := by simp
  obtain ⟨w0, hw0⟩ : ∃ w0, w0 = w.alloc (.cells (recA m (.slice ao l c) (.slice bo k d)) 37) := ⟨_, rfl⟩
  rw [← hw0] at hA0 hX0 hZ0
  have hA1 := alloc_below10 w0 (.cells #[.int .u8 0, .int .u32 0, .int .u8 0, .int .u32 0, .int .u32 0, .int .u32 0, .int .u32 0, .int .u64 0, .slice none 0 0, .slice none 0 0, .int .u8 0, .int .u8 0, .int .u8 0, .int .u8 0, .int .u8 0, .int .u8 0, .int .u8 0, .int .u8 0, .int .u32 0, .string ⟨#[]⟩, .int .u32 0, .int .u8 0, .int .u8 0, .int .u8 0, .int .u8 0, .int .u8 0, .int .u8 0, .int .u8 0, .int .u8 0, .int .u8 0, .int .u8 0] 37)
  have hX1 := box_new w0 #[.int .u8 0, .int .u32 0, .int .u8 0, .int .u32 0, .int .u32 0, .int .u32 0, .int .u32 0, .int .u64 0, .slice none 0 0, .slice none 0 0, .int .u8 0, .int .u8 0, .int .u8 0, .int .u8 0, .int .u8 0, .int .u8 0, .int .u8 0, .int .u8 0, .int .u32 0, .string ⟨#[]⟩, .int .u32 0, .int .u8 0, .int .u8 0, .int .u8 0, .int .u8 0, .int .u8 0, .int .u8 0, .int .u8 0, .int .u8 0, .int .u8 0, .int .u8 0] 37
  obtain ⟨w1, hw1⟩ : ∃ w1, w1 = w0.alloc (.cells #[.int .u8 0, .int .u32 0, .int .u8 0, .int .u32 0, .int .u32 0, .int .u32 0, .int .u32 0, .int .u64 0, .slice none 0 0, .slice none 0 0, .int .u8 0, .int .u8 0, .int .u8 0, .int .u8 0, .int .u8 0, .int .u8 0, .int .u8 0, .int .u8 0, .int .u32 0, .string ⟨#[]⟩, .int .u32 0, .int .u8 0, .int .u8 0, .int .u8 0, .int .u8 0, .int .u8 0, .int .u8 0, .int .u8 0, .int .u8 0, .int .u8 0, .int .u8 0] 37) := ⟨_, rfl⟩
  rw [← hw1] at hA1 hX1
  obtain ⟨p0, hp0⟩ : ∃ p, w.heap.size = p := ⟨_, rfl⟩
  obtain ⟨p1, hp1⟩ : ∃ p, w0.heap.size = p := ⟨_, rfl⟩
  rw [hp0] at hA0 hX0 hZ0 ⊢
  rw [hp1] at hA1 hX1 hZ0
  have hX := hX0.belowI (hp1 ▸ hA1)
  have HB := hide (hA0.trans (hA1.mono (by omega)))
  have HX1 := hide hX1
  have HZ := hide (And.intro hZ0 hX.lt)
  have hW0 := hw0.symm
  have hW1 := hw1.symm
  have HE : keptP m = putRs [1, 3, 4, 5] m (zeroR 5) := by unfold keptP; rw [hk]; rfl
  have HW : keptW m.kind (.slice ao l c) = (.slice ao l c) := by rw [hk]; rfl
  have HM : keptM m.kind (.slice bo k d) = (.slice bo k d) := by rw [hk]; rfl
  have x0 : w1.cell? ⟨p0, 0, none⟩ = some (.int .u8 5) := by have h : w1.cell? ⟨p0, 0, none⟩ = some (.int .u8 (m.kind : Int)) := hX.cell 0 _ rfl; rw [hk] at h; exact h
  have x2 := hX.cell 2 _ rfl
  have x3 := hX.cell 3 _ rfl
  have x4 := hX.cell 4 _ rfl
  have x7 := hX.cell 7 _ rfl
  have x8 := hX.cell 8 _ rfl
  have x9 := hX.cell 9 _ rfl
  rw [HE, HW, HM]
  clear hA0 hA1 hX0 hX1 hX hw0 hw1 hZ0 HE HW HM
  go_enter Tryz.func23, Tryz.ntmps23
  go_wp2_with (first
    | (refine wp_store_box (cs' := recA (putRs [1, 3, 4, 5] m (zeroR 5)) (.slice ao l c) (.slice bo k d)) rfl rfl _ _ rfl p1 rfl rfl HX1.out rfl infoRRec (by simp [Value.oneCell']) ?_; intro w3 hb3 hk3; have HB3 := hide hb3; have HK3 := hide hk3; clear hb3 hk3))
  refine bodyPost_ret (v := .agg (recA (putRs [1, 3, 4, 5] m (zeroR 5)) (.slice ao l c) (.slice bo k d))) (results_box Tryz.results23 _ _ p1 rfl HB3.out Tryz.underlying37 rfl infoRRec) rfl ⟨rfl, HB.out.trans (HK3.out.below (by have := HZ.out; omega) (fun j e => by have := HZ.out; have e : j = p1 := e; omega))⟩
set_option maxRecDepth 100000 in
set_option maxHeartbeats 6400000 in
theorem rkept11_6 (m : RecP) (hk : m.kind = 6) (ao bo : Option Addr) (l c k d : Nat) (w : World) : Calls Tryz.prog 23 #[.agg (recA m (.slice ao l c) (.slice bo k d))] w fun e w' => e = .returned (.agg (recA (keptP m) (keptW m.kind (.slice ao l c)) (keptM m.kind (.slice bo k d)))) ∧ Below w.heap.size w w' := by
  have hA0 := alloc_below10 w (.cells (recA m (.slice ao l c) (.slice bo k d)) 37)
  have hX0 := box_new w (recA m (.slice ao l c) (.slice bo k d)) 37
  have hZ0 : (w.alloc (.cells (recA m (.slice ao l c) (.slice bo k d)) 37)).heap.size = w.heap.size + 1 := by simp
  obtain ⟨w0, hw0⟩ : ∃ w0, w0 = w.alloc (.cells (recA m (.slice ao l c) (.slice bo k d)) 37) := ⟨_, rfl⟩
  rw [← hw0] at hA0 hX0 hZ0
  have hA1 := alloc_below10 w0 (.cells #[.int .u8 0, .int .u32 0, .int .u8 0, .int .u32 0, .int .u32 0, .int .u32 0, .int .u32 0, .int .u64 0, .slice none 0 0, .slice none 0 0, .int .u8 0, .int .u8 0, .int .u8 0, .int .u8 0, .int .u8 0, .int .u8 0, .int .u8 0, .int .u8 0, .int .u32 0, .string ⟨#[]⟩, .int .u32 0, .int .u8 0, .int .u8 0, .int .u8 0, .int .u8 0, .int .u8 0, .int .u8 0, .int .u8 0, .int .u8 0, .int .u8 0, .int .u8 0] 37)
  have hX1 := box_new w0 #[.int .u8 0, .int .u32 0, .int .u8 0, .int .u32 0, .int .u32 0, .int .u32 0, .int .u32 0, .int .u64 0, .slice none 0 0, .slice none 0 0, .int .u8 0, .int .u8 0, .int .u8 0, .int .u8 0, .int .u8 0, .int .u8 0, .int .u8 0, .int .u8 0, .int .u32 0, .string ⟨#[]⟩, .int .u32 0, .int .u8 0, .int .u8 0, .int .u8 0, .int .u8 0, .int .u8 0, .int .u8 0, .int .u8 0, .int .u8 0, .int .u8 0, .int .u8 0] 37
  obtain ⟨w1, hw1⟩ : ∃ w1, w1 = w0.alloc (.cells #[.int .u8 0, .int .u32 0, .int .u8 0, .int .u32 0, .int .u32 0, .int .u32 0, .int .u32 0, .int .u64 0, .slice none 0 0, .slice none 0 0, .int .u8 0, .int .u8 0, .int .u8 0, .int .u8 0, .int .u8 0, .int .u8 0, .int .u8 0, .int .u8 0, .int .u32 0, .string ⟨#[]⟩, .int .u32 0, .int .u8 0, .int .u8 0, .int .u8 0, .int .u8 0, .int .u8 0, .int .u8 0, .int .u8 0, .int .u8 0, .int .u8 0, .int .u8 0] 37) := ⟨_, rfl⟩
  rw [← hw1] at hA1 hX1
  obtain ⟨p0, hp0⟩ : ∃ p, w.heap.size = p := ⟨_, rfl⟩
  obtain ⟨p1, hp1⟩ : ∃ p, w0.heap.size = p := ⟨_, rfl⟩
  rw [hp0] at hA0 hX0 hZ0 ⊢
  rw [hp1] at hA1 hX1 hZ0
  have hX := hX0.belowI (hp1 ▸ hA1)
  have HB := hide (hA0.trans (hA1.mono (by omega)))
  have HX1 := hide hX1
  have HZ := hide (And.intro hZ0 hX.lt)
  have hW0 := hw0.symm
  have hW1 := hw1.symm
  have HE : keptP m = putRs [1] m (zeroR 6) := by unfold keptP; rw [hk]; rfl
  have HW : keptW m.kind (.slice ao l c) = (.slice none 0 0) := by rw [hk]; rfl
  have HM : keptM m.kind (.slice bo k d) = (.slice none 0 0) := by rw [hk]; rfl
  have x0 : w1.cell? ⟨p0, 0, none⟩ = some (.int .u8 6) := by have h : w1.cell? ⟨p0, 0, none⟩ = some (.int .u8 (m.kind : Int)) := hX.cell 0 _ rfl; rw [hk] at h; exact h
  have x2 := hX.cell 2 _ rfl
  have x3 := hX.cell 3 _ rfl
  have x4 := hX.cell 4 _ rfl
  rw [HE, HW, HM]
  clear hA0 hA1 hX0 hX1 hX hw0 hw1 hZ0 HE HW HM
  go_enter Tryz.func23, Tryz.ntmps23
  go_wp2_with (first
    | (refine wp_store_box (cs' := recA (putRs [1] m (zeroR 6)) (.slice none 0 0) (.slice none 0 0)) rfl rfl _ _ rfl p1 rfl rfl HX1.out rfl infoRRec (by simp [Value.oneCell']) ?_; intro w3 hb3 hk3; have HB3 := hide hb3; have HK3 := hide hk3; clear hb3 hk3))
  refine bodyPost_ret (v := .agg (recA (putRs [1] m (zeroR 6)) (.slice none 0 0) (.slice none 0 0))) (results_box Tryz.results23 _ _ p1 rfl HB3.out Tryz.underlying37 rfl infoRRec) rfl ⟨rfl, HB.out.trans (HK3.out.below (by have := HZ.out; omega) (fun j e => by have := HZ.out; have e : j = p1 := e; omega))⟩
set_option maxRecDepth 100000 in
set_option maxHeartbeats 6400000 in
theorem rkept11_7 (m : RecP) (hk : m.kind = 7) (ao bo : Option Addr) (l c k d : Nat) (w : World) : Calls Tryz.prog 23 #[.agg (recA m (.slice ao l c) (.slice bo k d))] w fun e w' => e = .returned (.agg (recA (keptP m) (keptW m.kind (.slice ao l c)) (keptM m.kind (.slice bo k d)))) ∧ Below w.heap.size w w' := by
  have hA0 := alloc_below10 w (.cells (recA m (.slice ao l c) (.slice bo k d)) 37)
  have hX0 := box_new w (recA m (.slice ao l c) (.slice bo k d)) 37
  have hZ0 : (w.alloc (.cells (recA m (.slice ao l c) (.slice bo k d)) 37)).heap.size = w.heap.size + 1 := by simp
  obtain ⟨w0, hw0⟩ : ∃ w0, w0 = w.alloc (.cells (recA m (.slice ao l c) (.slice bo k d)) 37) := ⟨_, rfl⟩
  rw [← hw0] at hA0 hX0 hZ0
  have hA1 := alloc_below10 w0 (.cells #[.int .u8 0, .int .u32 0, .int .u8 0, .int .u32 0, .int .u32 0, .int .u32 0, .int .u32 0, .int .u64 0, .slice none 0 0, .slice none 0 0, .int .u8 0, .int .u8 0, .int .u8 0, .int .u8 0, .int .u8 0, .int .u8 0, .int .u8 0, .int .u8 0, .int .u32 0, .string ⟨#[]⟩, .int .u32 0, .int .u8 0, .int .u8 0, .int .u8 0, .int .u8 0, .int .u8 0, .int .u8 0, .int .u8 0, .int .u8 0, .int .u8 0, .int .u8 0] 37)
  have hX1 := box_new w0 #[.int .u8 0, .int .u32 0, .int .u8 0, .int .u32 0, .int .u32 0, .int .u32 0, .int .u32 0, .int .u64 0, .slice none 0 0, .slice none 0 0, .int .u8 0, .int .u8 0, .int .u8 0, .int .u8 0, .int .u8 0, .int .u8 0, .int .u8 0, .int .u8 0, .int .u32 0, .string ⟨#[]⟩, .int .u32 0, .int .u8 0, .int .u8 0, .int .u8 0, .int .u8 0, .int .u8 0, .int .u8 0, .int .u8 0, .int .u8 0, .int .u8 0, .int .u8 0] 37
  obtain ⟨w1, hw1⟩ : ∃ w1, w1 = w0.alloc (.cells #[.int .u8 0, .int .u32 0, .int .u8 0, .int .u32 0, .int .u32 0, .int .u32 0, .int .u32 0, .int .u64 0, .slice none 0 0, .slice none 0 0, .int .u8 0, .int .u8 0, .int .u8 0, .int .u8 0, .int .u8 0, .int .u8 0, .int .u8 0, .int .u8 0, .int .u32 0, .string ⟨#[]⟩, .int .u32 0, .int .u8 0, .int .u8 0, .int .u8 0, .int .u8 0, .int .u8 0, .int .u8 0, .int .u8 0, .int .u8 0, .int .u8 0, .int .u8 0] 37) := ⟨_, rfl⟩
  rw [← hw1] at hA1 hX1
  obtain ⟨p0, hp0⟩ : ∃ p, w.heap.size = p := ⟨_, rfl⟩
  obtain ⟨p1, hp1⟩ : ∃ p, w0.heap.size = p := ⟨_, rfl⟩
  rw [hp0] at hA0 hX0 hZ0 ⊢
  rw [hp1] at hA1 hX1 hZ0
  have hX := hX0.belowI (hp1 ▸ hA1)
  have HB := hide (hA0.trans (hA1.mono (by omega)))
  have HX1 := hide hX1
  have HZ := hide (And.intro hZ0 hX.lt)
  have hW0 := hw0.symm
  have hW1 := hw1.symm
  have HE : keptP m = putRs [6, 7] m (zeroR 7) := by unfold keptP; rw [hk]; rfl
  have HW : keptW m.kind (.slice ao l c) = (.slice none 0 0) := by rw [hk]; rfl
  have HM : keptM m.kind (.slice bo k d) = (.slice none 0 0) := by rw [hk]; rfl
  have x0 : w1.cell? ⟨p0, 0, none⟩ = some (.int .u8 7) := by have h : w1.cell? ⟨p0, 0, none⟩ = some (.int .u8 (m.kind : Int)) := hX.cell 0 _ rfl; rw [hk] at h; exact h
  have x10 := hX.cell 10 _ rfl
  have x11 := hX.cell 11 _ rfl
  have x12 := hX.cell 12 _ rfl
  have x13 := hX.cell 13 _ rfl
  have x14 := hX.cell 14 _ rfl
  have x15 := hX.cell 15 _ rfl
  have x16 := hX.cell 16 _ rfl
  have x17 := hX.cell 17 _ rfl
  have x18 := hX.cell 18 _ rfl
  have x19 := hX.cell 19 _ rfl
  have x20 := hX.cell 20 _ rfl
  have x21 := hX.cell 21 _ rfl
  have x22 := hX.cell 22 _ rfl
  have x23 := hX.cell 23 _ rfl
  have x24 := hX.cell 24 _ rfl
  have x25 := hX.cell 25 _ rfl
  have x26 := hX.cell 26 _ rfl
  have x27 := hX.cell 27 _ rfl
  have x28 := hX.cell 28 _ rfl
  have x29 := hX.cell 29 _ rfl
  have x30 := hX.cell 30 _ rfl
  rw [HE, HW, HM]
  clear hA0 hA1 hX0 hX1 hX hw0 hw1 hZ0 HE HW HM
  go_enter Tryz.func23, Tryz.ntmps23
  go_wp2_with (first
    | (refine wp_store_box (cs' := recA (putRs [6, 7] m (zeroR 7)) (.slice none 0 0) (.slice none 0 0)) rfl rfl _ _ rfl p1 rfl rfl HX1.out rfl infoRRec (by simp [Value.oneCell']) ?_; intro w3 hb3 hk3; have HB3 := hide hb3; have HK3 := hide hk3; clear hb3 hk3))
  refine bodyPost_ret (v := .agg (recA (putRs [6, 7] m (zeroR 7)) (.slice none 0 0) (.slice none 0 0))) (results_box Tryz.results23 _ _ p1 rfl HB3.out Tryz.underlying37 rfl infoRRec) rfl ⟨rfl, HB.out.trans (HK3.out.below (by have := HZ.out; omega) (fun j e => by have := HZ.out; have e : j = p1 := e; omega))⟩
set_option maxRecDepth 100000 in
set_option maxHeartbeats 6400000 in
theorem rkept11_0 (m : RecP) (hk : (fieldsR m.kind).isEmpty = true) (ao bo : Option Addr) (l c k d : Nat) (w : World) : Calls Tryz.prog 23 #[.agg (recA m (.slice ao l c) (.slice bo k d))] w fun e w' => e = .returned (.agg (recA (keptP m) (keptW m.kind (.slice ao l c)) (keptM m.kind (.slice bo k d)))) ∧ Below w.heap.size w w' := by
  have hA0 := alloc_below10 w (.cells (recA m (.slice ao l c) (.slice bo k d)) 37)
  have hX0 := box_new w (recA m (.slice ao l c) (.slice bo k d)) 37
  have hZ0 : (w.alloc (.cells (recA m (.slice ao l c) (.slice bo k d)) 37)).heap.size = w.heap.size + 1 := by simp
  obtain ⟨w0, hw0⟩ : ∃ w0, w0 = w.alloc (.cells (recA m (.slice ao l c) (.slice bo k d)) 37) := ⟨_, rfl⟩
  rw [← hw0] at hA0 hX0 hZ0
  have hA1 := alloc_below10 w0 (.cells #[.int .u8 0, .int .u32 0, .int .u8 0, .int .u32 0, .int .u32 0, .int .u32 0, .int .u32 0, .int .u64 0, .slice none 0 0, .slice none 0 0, .int .u8 0, .int .u8 0, .int .u8 0, .int .u8 0, .int .u8 0, .int .u8 0, .int .u8 0, .int .u8 0, .int .u32 0, .string ⟨#[]⟩, .int .u32 0, .int .u8 0, .int .u8 0, .int .u8 0, .int .u8 0, .int .u8 0, .int .u8 0, .int .u8 0, .int .u8 0, .int .u8 0, .int .u8 0] 37)
  have hX1 := box_new w0 #[.int .u8 0, .int .u32 0, .int .u8 0, .int .u32 0, .int .u32 0, .int .u32 0, .int .u32 0, .int .u64 0, .slice none 0 0, .slice none 0 0, .int .u8 0, .int .u8 0, .int .u8 0, .int .u8 0, .int .u8 0, .int .u8 0, .int .u8 0, .int .u8 0, .int .u32 0, .string ⟨#[]⟩, .int .u32 0, .int .u8 0, .int .u8 0, .int .u8 0, .int .u8 0, .int .u8 0, .int .u8 0, .int .u8 0, .int .u8 0, .int .u8 0, .int .u8 0] 37
  obtain ⟨w1, hw1⟩ : ∃ w1, w1 = w0.alloc (.cells #[.int .u8 0, .int .u32 0, .int .u8 0, .int .u32 0, .int .u32 0, .int .u32 0, .int .u32 0, .int .u64 0, .slice none 0 0, .slice none 0 0, .int .u8 0, .int .u8 0, .int .u8 0, .int .u8 0, .int .u8 0, .int .u8 0, .int .u8 0, .int .u8 0, .int .u32 0, .string ⟨#[]⟩, .int .u32 0, .int .u8 0, .int .u8 0, .int .u8 0, .int .u8 0, .int .u8 0, .int .u8 0, .int .u8 0, .int .u8 0, .int .u8 0, .int .u8 0] 37) := ⟨_, rfl⟩
  rw [← hw1] at hA1 hX1
  obtain ⟨p0, hp0⟩ : ∃ p, w.heap.size = p := ⟨_, rfl⟩
  obtain ⟨p1, hp1⟩ : ∃ p, w0.heap.size = p := ⟨_, rfl⟩
  rw [hp0] at hA0 hX0 hZ0 ⊢
  rw [hp1] at hA1 hX1 hZ0
  have hX := hX0.belowI (hp1 ▸ hA1)
  have HB := hide (hA0.trans (hA1.mono (by omega)))
  have HX1 := hide hX1
  have HZ := hide (And.intro hZ0 hX.lt)
  have hW0 := hw0.symm
  have hW1 := hw1.symm
  have hks : m.kind ≠ 1 ∧ m.kind ≠ 2 ∧ m.kind ≠ 3 ∧ m.kind ≠ 4 ∧ m.kind ≠ 5 ∧ m.kind ≠ 6 ∧ m.kind ≠ 7 := by
    refine ⟨?_, ?_, ?_, ?_, ?_, ?_, ?_⟩ <;> (intro h; rw [h] at hk; exact absurd hk (by decide))
  have HE : keptP m = zeroR 0 := by unfold keptP; rw [hk]; rfl
  have HW : keptW m.kind (.slice ao l c) = (.slice none 0 0) := by unfold keptW; rw [if_neg (by omega)]
  have HM : keptM m.kind (.slice bo k d) = (.slice none 0 0) := by unfold keptM; rw [if_neg (by omega)]
  have x0 : w1.cell? ⟨p0, 0, none⟩ = some (.int .u8 (m.kind : Int)) := hX.cell 0 _ rfl
  have e1 : ((m.kind : Int) == 1) = false := by rw [beq_eq_false_iff_ne]; omega
  have e2 : ((m.kind : Int) == 2) = false := by rw [beq_eq_false_iff_ne]; omega
  have e3 : ((m.kind : Int) == 3) = false := by rw [beq_eq_false_iff_ne]; omega
  have e4 : ((m.kind : Int) == 4) = false := by rw [beq_eq_false_iff_ne]; omega
  have e5 : ((m.kind : Int) == 5) = false := by rw [beq_eq_false_iff_ne]; omega
  have e6 : ((m.kind : Int) == 6) = false := by rw [beq_eq_false_iff_ne]; omega
  have e7 : ((m.kind : Int) == 7) = false := by rw [beq_eq_false_iff_ne]; omega
  rw [HE, HW, HM]
  clear hA0 hA1 hX0 hX1 hX hw0 hw1 hZ0 HE HW HM
  go_enter Tryz.func23, Tryz.ntmps23
  go_wp2_with (first
    | (refine wp_store_box (cs' := recA (zeroR 0) (.slice none 0 0) (.slice none 0 0)) rfl rfl _ _ rfl p1 rfl rfl HX1.out rfl infoRRec (by simp [Value.oneCell']) ?_; intro w3 hb3 hk3; have HB3 := hide hb3; have HK3 := hide hk3; clear hb3 hk3))
  refine bodyPost_ret (v := .agg (recA (zeroR 0) (.slice none 0 0) (.slice none 0 0))) (results_box Tryz.results23 _ _ p1 rfl HB3.out Tryz.underlying37 rfl infoRRec) rfl ⟨rfl, HB.out.trans (HK3.out.below (by have := HZ.out; omega) (fun j e => by have := HZ.out; have e : j = p1 := e; omega))⟩
theorem rkept11_any (m : RecP) (ao bo : Option Addr) (l c k d : Nat) (w : World) : Calls Tryz.prog 23 #[.agg (recA m (.slice ao l c) (.slice bo k d))] w fun e w' => e = .returned (.agg (recA (keptP m) (keptW m.kind (.slice ao l c)) (keptM m.kind (.slice bo k d)))) ∧ Below w.heap.size w w' := by
  by_cases h : (fieldsR m.kind).isEmpty = true
  · exact rkept11_0 m h ao bo l c k d w
  · rcases fieldsR_kind (fun e => h (by rw [e]; rfl)) with h | h | h | h | h | h | h
    · exact rkept11_1 m h ao bo l c k d w
    · exact rkept11_2 m h ao bo l c k d w
    · exact rkept11_3 m h ao bo l c k d w
    · exact rkept11_4 m h ao bo l c k d w
    · exact rkept11_5 m h ao bo l c k d w
    · exact rkept11_6 m h ao bo l c k d w
    · exact rkept11_7 m h ao bo l c k d w
theorem keptW_src {w : World} {m : RecP} {s : Value} (h : RSrc wrE w s m.wr) : RSrc wrE w (keptW m.kind s) (keptP m).wr := by
  by_cases hz : (fieldsR m.kind).isEmpty = true
  · have hks : ¬ (m.kind = 2 ∨ m.kind = 5) := by rintro (h | h) <;> (rw [h] at hz; exact absurd hz (by decide))
    unfold keptP keptW
    rw [if_pos hz, if_neg hks]
    exact RSrc.nil w
  · unfold keptP keptW
    rw [if_neg hz]
    rcases fieldsR_kind (fun e => hz (by rw [e]; rfl)) with e | e | e | e | e | e | e <;> rw [e] <;> first | exact h | exact RSrc.nil w
theorem keptM_lies {w : World} {m : RecP} {s : Value} (h : Lies .u64 w s (misI m.mis)) (hn : Lies .u64 w (.slice none 0 0) []) : Lies .u64 w (keptM m.kind s) (misI (keptP m).mis) := by
  by_cases hz : (fieldsR m.kind).isEmpty = true
  · have hks : ¬ (m.kind = 5) := by intro h; rw [h] at hz; exact absurd hz (by decide)
    unfold keptP keptM
    rw [if_pos hz, if_neg hks]
    exact hn
  · unfold keptP keptM
    rw [if_neg hz]
    rcases fieldsR_kind (fun e => hz (by rw [e]; rfl)) with e | e | e | e | e | e | e <;> rw [e] <;> first | exact h | exact hn
end
end Go.Proofs.YtencmgepffdodaaGreat
