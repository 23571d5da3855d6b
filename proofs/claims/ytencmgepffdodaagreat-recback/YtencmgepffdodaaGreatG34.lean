/-
  Own texts put together: RpIn1. Own work.
-/
import Derived.Test.YtencmgepffdodaaGreatG33
import Derived.Laws.EntriesVeiled
namespace Go.Proofs.YtencmgepffdodaaGreat
section
open Go.RowKit Classical

/-- A field: its four functions, and the variables that they have. -/
structure FvA (lo hi q off : Nat) (mv pv gv : Value) (tp tm tw tg tz : TypeId) (Z : Array Value) (f1 f2 f3 f4 : FuncId) (ba bm bp bg bz : Nat) (w : World) (vs : List Value) : Prop where
  eq : vs = [.func (.func f1) #[] #[.pointer (some ⟨ba, 0, none⟩), .pointer (some ⟨bz, 0, none⟩)], .func (.func f2) #[] #[.pointer (some ⟨bm, 0, none⟩), .pointer (some ⟨ba, 0, none⟩)], .func (.func f3) #[] #[.pointer (some ⟨bp, 0, none⟩), .pointer (some ⟨ba, 0, none⟩)], .func (.func f4) #[] #[.pointer (some ⟨bg, 0, none⟩), .pointer (some ⟨ba, 0, none⟩)]]
  a : Box w ba #[.pointer (some ⟨q, off, none⟩)] tp
  m : Box w bm #[mv] tm
  p : Box w bp #[pv] tw
  g : Box w bg #[gv] tg
  z : Box w bz Z tz
  lo : lo ≤ ba ∧ lo ≤ bm ∧ lo ≤ bp ∧ lo ≤ bg ∧ lo ≤ bz
  hi : ba < hi ∧ bm < hi ∧ bp < hi ∧ bg < hi ∧ bz < hi
theorem FvA.keep {lo hi q off : Nat} {mv pv gv : Value} {tp tm tw tg tz : TypeId} {Z : Array Value} {f1 f2 f3 f4 : FuncId} {ba bm bp bg bz : Nat} {w w' : World} {vs : List Value} {S : Nat → Prop} (h : FvA lo hi q off mv pv gv tp tm tw tg tz Z f1 f2 f3 f4 ba bm bp bg bz w vs) (hk : KeepBut S w w') (hS : ∀ k, S k → k < lo ∨ hi ≤ k) : FvA lo hi q off mv pv gv tp tm tw tg tz Z f1 f2 f3 f4 ba bm bp bg bz w' vs := by
  obtain ⟨l1, l2, l3, l4, l5⟩ := h.lo
  obtain ⟨g1, g2, g3, g4, g5⟩ := h.hi
  exact ⟨h.eq, h.a.keep hk (fun e => by have := hS _ e; omega), h.m.keep hk (fun e => by have := hS _ e; omega), h.p.keep hk (fun e => by have := hS _ e; omega), h.g.keep hk (fun e => by have := hS _ e; omega), h.z.keep hk (fun e => by have := hS _ e; omega), h.lo, h.hi⟩
theorem FvA.mono {lo lo' hi hi' q off : Nat} {mv pv gv : Value} {tp tm tw tg tz : TypeId} {Z : Array Value} {f1 f2 f3 f4 : FuncId} {ba bm bp bg bz : Nat} {w : World} {vs : List Value} (h : FvA lo hi q off mv pv gv tp tm tw tg tz Z f1 f2 f3 f4 ba bm bp bg bz w vs) (hh : hi ≤ hi') (hl : lo' ≤ lo) : FvA lo' hi' q off mv pv gv tp tm tw tg tz Z f1 f2 f3 f4 ba bm bp bg bz w vs := by
  obtain ⟨g1, g2, g3, g4, g5⟩ := h.hi
  obtain ⟨l1, l2, l3, l4, l5⟩ := h.lo
  exact ⟨h.eq, h.a, h.m, h.p, h.g, h.z, by omega, by omega⟩
theorem six_boxes (w : World) (c1 c2 c3 c4 c5 c6 : Array Value) (t1 t2 t3 t4 t5 t6 : TypeId) : ∀ W, W = (((((w.alloc (.cells c1 t1)).alloc (.cells c2 t2)).alloc (.cells c3 t3)).alloc (.cells c4 t4)).alloc (.cells c5 t5)).alloc (.cells c6 t6) → Box W w.heap.size c1 t1 ∧ Box W (w.heap.size + 1) c2 t2 ∧ Box W (w.heap.size + 2) c3 t3 ∧ Box W (w.heap.size + 3) c4 t4 ∧ Box W (w.heap.size + 4) c5 t5 ∧ Box W (w.heap.size + 5) c6 t6 ∧ Below w.heap.size w W ∧ W.heap.size = w.heap.size + 6 := by
  rintro W rfl
  have b1 := box_new w c1 t1
  have b2 := box_new (w.alloc (.cells c1 t1)) c2 t2
  have b3 := box_new ((w.alloc (.cells c1 t1)).alloc (.cells c2 t2)) c3 t3
  have b4 := box_new (((w.alloc (.cells c1 t1)).alloc (.cells c2 t2)).alloc (.cells c3 t3)) c4 t4
  have b5 := box_new ((((w.alloc (.cells c1 t1)).alloc (.cells c2 t2)).alloc (.cells c3 t3)).alloc (.cells c4 t4)) c5 t5
  have b6 := box_new (((((w.alloc (.cells c1 t1)).alloc (.cells c2 t2)).alloc (.cells c3 t3)).alloc (.cells c4 t4)).alloc (.cells c5 t5)) c6 t6
  simp only [World.size_alloc] at b1 b2 b3 b4 b5 b6
  refine ⟨?_, ?_, ?_, ?_, ?_, b6, ?_, by simp only [World.size_alloc]⟩
  · exact ((((b1.belowI (alloc_below10 _ _)).belowI (alloc_below10 _ _)).belowI (alloc_below10 _ _)).belowI (alloc_below10 _ _)).belowI (alloc_below10 _ _)
  · exact (((b2.belowI (alloc_below10 _ _)).belowI (alloc_below10 _ _)).belowI (alloc_below10 _ _)).belowI (alloc_below10 _ _)
  · exact ((b3.belowI (alloc_below10 _ _)).belowI (alloc_below10 _ _)).belowI (alloc_below10 _ _)
  · exact (b4.belowI (alloc_below10 _ _)).belowI (alloc_below10 _ _)
  · exact b5.belowI (alloc_below10 _ _)
  · exact ((((((Below.refl w.heap.size w).alloc (Nat.le_refl _) _).alloc (by simp) _).alloc (by simp; omega) _).alloc (by simp; omega) _).alloc (by simp; omega) _).alloc (by simp; omega) _
theorem infoFld : (Tryz.prog.info? 70).map (·.size) = some 4 := by kernel_rfl
theorem fld_one (a b c d : Fn) (x y z u : Array Value) : (#[.func a #[] x, .func b #[] y, .func c #[] z, .func d #[] u] : Array Value).all (·.oneCell') = true := by simp [Value.oneCell']
set_option maxRecDepth 100000 in
theorem fieldAt_tx (q off : Nat) (f g h : Fn) (cf cg ch : Array Value) (w : World) :
    Calls Tryz.prog 63 #[.pointer (some ⟨q, off, none⟩), .func f #[] cf, .func g #[] cg, .func h #[] ch] w fun e w' => ∃ vs ba bm bp bg bz, e = .returned (.agg vs.toArray) ∧ FvA w.heap.size w'.heap.size q off (.func f #[] cf) (.func g #[] cg) (.func h #[] ch) 117 73 118 119 24 ((txE (0, 0, 0)).toArray) 109 110 111 112 ba bm bp bg bz w' vs ∧ Below w.heap.size w w' ∧ w.heap.size + 6 ≤ w'.heap.size := by
  have hmf := make_fn
  have HI := hide infoFld
  go_enter Tryz.func63, Tryz.ntmps63
  go_wp2_with fail
  obtain ⟨b1, b2, b3, b4, b5, b6, hB, hsz⟩ := six_boxes w #[.pointer (some ⟨q, off, none⟩)] #[.func f #[] cf] #[.func g #[] cg] #[.func h #[] ch] #[.func (.func 109) #[] #[.pointer (some ⟨w.heap.size, 0, none⟩), .pointer (some ⟨(w.heap.size + 5), 0, none⟩)], .func (.func 110) #[] #[.pointer (some ⟨(w.heap.size + 1), 0, none⟩), .pointer (some ⟨w.heap.size, 0, none⟩)], .func (.func 111) #[] #[.pointer (some ⟨(w.heap.size + 2), 0, none⟩), .pointer (some ⟨w.heap.size, 0, none⟩)], .func (.func 112) #[] #[.pointer (some ⟨(w.heap.size + 3), 0, none⟩), .pointer (some ⟨w.heap.size, 0, none⟩)]] ((txE (0, 0, 0)).toArray) 117 73 118 119 70 24 _ rfl
  refine bodyPost_ret (v := .agg #[.func (.func 109) #[] #[.pointer (some ⟨w.heap.size, 0, none⟩), .pointer (some ⟨(w.heap.size + 5), 0, none⟩)], .func (.func 110) #[] #[.pointer (some ⟨(w.heap.size + 1), 0, none⟩), .pointer (some ⟨w.heap.size, 0, none⟩)], .func (.func 111) #[] #[.pointer (some ⟨(w.heap.size + 2), 0, none⟩), .pointer (some ⟨w.heap.size, 0, none⟩)], .func (.func 112) #[] #[.pointer (some ⟨(w.heap.size + 3), 0, none⟩), .pointer (some ⟨w.heap.size, 0, none⟩)]]) (results_box Tryz.results63 _ _ (w.heap.size + 4) rfl b5 Tryz.underlying70 rfl HI.out) rfl ⟨_, w.heap.size, w.heap.size + 1, w.heap.size + 2, w.heap.size + 3, w.heap.size + 5, rfl, ⟨rfl, b1, b2, b3, b4, b6, by omega, ?_⟩, hB, Nat.le_of_eq hsz.symm⟩
  have hs2 : _ = _ := hsz
  refine ⟨?_, ?_, ?_, ?_, ?_⟩ <;> exact Nat.lt_of_lt_of_le (by omega) (Nat.le_of_eq hs2.symm)
set_option maxRecDepth 100000 in
theorem fieldAt_u32 (q off : Nat) (f g h : Fn) (cf cg ch : Array Value) (w : World) :
    Calls Tryz.prog 59 #[.pointer (some ⟨q, off, none⟩), .func f #[] cf, .func g #[] cg, .func h #[] ch] w fun e w' => ∃ vs ba bm bp bg bz, e = .returned (.agg vs.toArray) ∧ FvA w.heap.size w'.heap.size q off (.func f #[] cf) (.func g #[] cg) (.func h #[] ch) 112 113 114 115 22 (#[.int .u32 0]) 104 105 106 107 ba bm bp bg bz w' vs ∧ Below w.heap.size w w' ∧ w.heap.size + 6 ≤ w'.heap.size := by
  have hmf := make_fn
  have HI := hide infoFld
  go_enter Tryz.func59, Tryz.ntmps59
  go_wp2_with fail
  obtain ⟨b1, b2, b3, b4, b5, b6, hB, hsz⟩ := six_boxes w #[.pointer (some ⟨q, off, none⟩)] #[.func f #[] cf] #[.func g #[] cg] #[.func h #[] ch] #[.func (.func 104) #[] #[.pointer (some ⟨w.heap.size, 0, none⟩), .pointer (some ⟨(w.heap.size + 5), 0, none⟩)], .func (.func 105) #[] #[.pointer (some ⟨(w.heap.size + 1), 0, none⟩), .pointer (some ⟨w.heap.size, 0, none⟩)], .func (.func 106) #[] #[.pointer (some ⟨(w.heap.size + 2), 0, none⟩), .pointer (some ⟨w.heap.size, 0, none⟩)], .func (.func 107) #[] #[.pointer (some ⟨(w.heap.size + 3), 0, none⟩), .pointer (some ⟨w.heap.size, 0, none⟩)]] (#[.int .u32 0]) 112 113 114 115 70 22 _ rfl
  refine bodyPost_ret (v := .agg #[.func (.func 104) #[] #[.pointer (some ⟨w.heap.size, 0, none⟩), .pointer (some ⟨(w.heap.size + 5), 0, none⟩)], .func (.func 105) #[] #[.pointer (some ⟨(w.heap.size + 1), 0, none⟩), .pointer (some ⟨w.heap.size, 0, none⟩)], .func (.func 106) #[] #[.pointer (some ⟨(w.heap.size + 2), 0, none⟩), .pointer (some ⟨w.heap.size, 0, none⟩)], .func (.func 107) #[] #[.pointer (some ⟨(w.heap.size + 3), 0, none⟩), .pointer (some ⟨w.heap.size, 0, none⟩)]]) (results_box Tryz.results59 _ _ (w.heap.size + 4) rfl b5 Tryz.underlying70 rfl HI.out) rfl ⟨_, w.heap.size, w.heap.size + 1, w.heap.size + 2, w.heap.size + 3, w.heap.size + 5, rfl, ⟨rfl, b1, b2, b3, b4, b6, by omega, ?_⟩, hB, Nat.le_of_eq hsz.symm⟩
  have hs2 : _ = _ := hsz
  refine ⟨?_, ?_, ?_, ?_, ?_⟩ <;> exact Nat.lt_of_lt_of_le (by omega) (Nat.le_of_eq hs2.symm)
set_option maxRecDepth 100000 in
theorem fieldAt_reg (q off : Nat) (f g h : Fn) (cf cg ch : Array Value) (w : World) :
    Calls Tryz.prog 67 #[.pointer (some ⟨q, off, none⟩), .func f #[] cf, .func g #[] cg, .func h #[] ch] w fun e w' => ∃ vs ba bm bp bg bz, e = .returned (.agg vs.toArray) ∧ FvA w.heap.size w'.heap.size q off (.func f #[] cf) (.func g #[] cg) (.func h #[] ch) 121 74 122 123 26 ((rgE (0, 0)).toArray) 117 118 119 120 ba bm bp bg bz w' vs ∧ Below w.heap.size w w' ∧ w.heap.size + 6 ≤ w'.heap.size := by
  have hmf := make_fn
  have HI := hide infoFld
  go_enter Tryz.func67, Tryz.ntmps67
  go_wp2_with fail
  obtain ⟨b1, b2, b3, b4, b5, b6, hB, hsz⟩ := six_boxes w #[.pointer (some ⟨q, off, none⟩)] #[.func f #[] cf] #[.func g #[] cg] #[.func h #[] ch] #[.func (.func 117) #[] #[.pointer (some ⟨w.heap.size, 0, none⟩), .pointer (some ⟨(w.heap.size + 5), 0, none⟩)], .func (.func 118) #[] #[.pointer (some ⟨(w.heap.size + 1), 0, none⟩), .pointer (some ⟨w.heap.size, 0, none⟩)], .func (.func 119) #[] #[.pointer (some ⟨(w.heap.size + 2), 0, none⟩), .pointer (some ⟨w.heap.size, 0, none⟩)], .func (.func 120) #[] #[.pointer (some ⟨(w.heap.size + 3), 0, none⟩), .pointer (some ⟨w.heap.size, 0, none⟩)]] ((rgE (0, 0)).toArray) 121 74 122 123 70 26 _ rfl
  refine bodyPost_ret (v := .agg #[.func (.func 117) #[] #[.pointer (some ⟨w.heap.size, 0, none⟩), .pointer (some ⟨(w.heap.size + 5), 0, none⟩)], .func (.func 118) #[] #[.pointer (some ⟨(w.heap.size + 1), 0, none⟩), .pointer (some ⟨w.heap.size, 0, none⟩)], .func (.func 119) #[] #[.pointer (some ⟨(w.heap.size + 2), 0, none⟩), .pointer (some ⟨w.heap.size, 0, none⟩)], .func (.func 120) #[] #[.pointer (some ⟨(w.heap.size + 3), 0, none⟩), .pointer (some ⟨w.heap.size, 0, none⟩)]]) (results_box Tryz.results67 _ _ (w.heap.size + 4) rfl b5 Tryz.underlying70 rfl HI.out) rfl ⟨_, w.heap.size, w.heap.size + 1, w.heap.size + 2, w.heap.size + 3, w.heap.size + 5, rfl, ⟨rfl, b1, b2, b3, b4, b6, by omega, ?_⟩, hB, Nat.le_of_eq hsz.symm⟩
  have hs2 : _ = _ := hsz
  refine ⟨?_, ?_, ?_, ?_, ?_⟩ <;> exact Nat.lt_of_lt_of_le (by omega) (Nat.le_of_eq hs2.symm)
set_option maxRecDepth 100000 in
theorem fieldAt_key (q off : Nat) (f g h : Fn) (cf cg ch : Array Value) (w : World) :
    Calls Tryz.prog 77 #[.pointer (some ⟨q, off, none⟩), .func f #[] cf, .func g #[] cg, .func h #[] ch] w fun e w' => ∃ vs ba bm bp bg bz, e = .returned (.agg vs.toArray) ∧ FvA w.heap.size w'.heap.size q off (.func f #[] cf) (.func g #[] cg) (.func h #[] ch) 131 75 132 133 31 (eightA [0, 0, 0, 0, 0, 0, 0, 0]) 139 140 141 142 ba bm bp bg bz w' vs ∧ Below w.heap.size w w' ∧ w.heap.size + 6 ≤ w'.heap.size := by
  have hmf := make_fn
  have HI := hide infoFld
  go_enter Tryz.func77, Tryz.ntmps77
  go_wp2_with fail
  obtain ⟨b1, b2, b3, b4, b5, b6, hB, hsz⟩ := six_boxes w #[.pointer (some ⟨q, off, none⟩)] #[.func f #[] cf] #[.func g #[] cg] #[.func h #[] ch] #[.func (.func 139) #[] #[.pointer (some ⟨w.heap.size, 0, none⟩), .pointer (some ⟨(w.heap.size + 5), 0, none⟩)], .func (.func 140) #[] #[.pointer (some ⟨(w.heap.size + 1), 0, none⟩), .pointer (some ⟨w.heap.size, 0, none⟩)], .func (.func 141) #[] #[.pointer (some ⟨(w.heap.size + 2), 0, none⟩), .pointer (some ⟨w.heap.size, 0, none⟩)], .func (.func 142) #[] #[.pointer (some ⟨(w.heap.size + 3), 0, none⟩), .pointer (some ⟨w.heap.size, 0, none⟩)]] (eightA [0, 0, 0, 0, 0, 0, 0, 0]) 131 75 132 133 70 31 _ rfl
  refine bodyPost_ret (v := .agg #[.func (.func 139) #[] #[.pointer (some ⟨w.heap.size, 0, none⟩), .pointer (some ⟨(w.heap.size + 5), 0, none⟩)], .func (.func 140) #[] #[.pointer (some ⟨(w.heap.size + 1), 0, none⟩), .pointer (some ⟨w.heap.size, 0, none⟩)], .func (.func 141) #[] #[.pointer (some ⟨(w.heap.size + 2), 0, none⟩), .pointer (some ⟨w.heap.size, 0, none⟩)], .func (.func 142) #[] #[.pointer (some ⟨(w.heap.size + 3), 0, none⟩), .pointer (some ⟨w.heap.size, 0, none⟩)]]) (results_box Tryz.results77 _ _ (w.heap.size + 4) rfl b5 Tryz.underlying70 rfl HI.out) rfl ⟨_, w.heap.size, w.heap.size + 1, w.heap.size + 2, w.heap.size + 3, w.heap.size + 5, rfl, ⟨rfl, b1, b2, b3, b4, b6, by omega, ?_⟩, hB, Nat.le_of_eq hsz.symm⟩
  have hs2 : _ = _ := hsz
  refine ⟨?_, ?_, ?_, ?_, ?_⟩ <;> exact Nat.lt_of_lt_of_le (by omega) (Nat.le_of_eq hs2.symm)
set_option maxRecDepth 100000 in
theorem fieldAt_u64 (q off : Nat) (f g h : Fn) (cf cg ch : Array Value) (w : World) :
    Calls Tryz.prog 71 #[.pointer (some ⟨q, off, none⟩), .func f #[] cf, .func g #[] cg, .func h #[] ch] w fun e w' => ∃ vs ba bm bp bg bz, e = .returned (.agg vs.toArray) ∧ FvA w.heap.size w'.heap.size q off (.func f #[] cf) (.func g #[] cg) (.func h #[] ch) 125 126 127 128 27 (#[.int .u64 0]) 122 123 124 125 ba bm bp bg bz w' vs ∧ Below w.heap.size w w' ∧ w.heap.size + 6 ≤ w'.heap.size := by
  have hmf := make_fn
  have HI := hide infoFld
  go_enter Tryz.func71, Tryz.ntmps71
  go_wp2_with fail
  obtain ⟨b1, b2, b3, b4, b5, b6, hB, hsz⟩ := six_boxes w #[.pointer (some ⟨q, off, none⟩)] #[.func f #[] cf] #[.func g #[] cg] #[.func h #[] ch] #[.func (.func 122) #[] #[.pointer (some ⟨w.heap.size, 0, none⟩), .pointer (some ⟨(w.heap.size + 5), 0, none⟩)], .func (.func 123) #[] #[.pointer (some ⟨(w.heap.size + 1), 0, none⟩), .pointer (some ⟨w.heap.size, 0, none⟩)], .func (.func 124) #[] #[.pointer (some ⟨(w.heap.size + 2), 0, none⟩), .pointer (some ⟨w.heap.size, 0, none⟩)], .func (.func 125) #[] #[.pointer (some ⟨(w.heap.size + 3), 0, none⟩), .pointer (some ⟨w.heap.size, 0, none⟩)]] (#[.int .u64 0]) 125 126 127 128 70 27 _ rfl
  refine bodyPost_ret (v := .agg #[.func (.func 122) #[] #[.pointer (some ⟨w.heap.size, 0, none⟩), .pointer (some ⟨(w.heap.size + 5), 0, none⟩)], .func (.func 123) #[] #[.pointer (some ⟨(w.heap.size + 1), 0, none⟩), .pointer (some ⟨w.heap.size, 0, none⟩)], .func (.func 124) #[] #[.pointer (some ⟨(w.heap.size + 2), 0, none⟩), .pointer (some ⟨w.heap.size, 0, none⟩)], .func (.func 125) #[] #[.pointer (some ⟨(w.heap.size + 3), 0, none⟩), .pointer (some ⟨w.heap.size, 0, none⟩)]]) (results_box Tryz.results71 _ _ (w.heap.size + 4) rfl b5 Tryz.underlying70 rfl HI.out) rfl ⟨_, w.heap.size, w.heap.size + 1, w.heap.size + 2, w.heap.size + 3, w.heap.size + 5, rfl, ⟨rfl, b1, b2, b3, b4, b6, by omega, ?_⟩, hB, Nat.le_of_eq hsz.symm⟩
  have hs2 : _ = _ := hsz
  refine ⟨?_, ?_, ?_, ?_, ?_⟩ <;> exact Nat.lt_of_lt_of_le (by omega) (Nat.le_of_eq hs2.symm)
set_option maxRecDepth 100000 in
theorem fieldAt_item (q off : Nat) (f g h : Fn) (cf cg ch : Array Value) (w : World) :
    Calls Tryz.prog 81 #[.pointer (some ⟨q, off, none⟩), .func f #[] cf, .func g #[] cg, .func h #[] ch] w fun e w' => ∃ vs ba bm bp bg bz, e = .returned (.agg vs.toArray) ∧ FvA w.heap.size w'.heap.size q off (.func f #[] cf) (.func g #[] cg) (.func h #[] ch) 135 76 136 137 35 (itA zeroIt) 146 147 148 149 ba bm bp bg bz w' vs ∧ Below w.heap.size w w' ∧ w.heap.size + 6 ≤ w'.heap.size := by
  have hmf := make_fn
  have HI := hide infoFld
  go_enter Tryz.func81, Tryz.ntmps81
  go_wp2_with fail
  obtain ⟨b1, b2, b3, b4, b5, b6, hB, hsz⟩ := six_boxes w #[.pointer (some ⟨q, off, none⟩)] #[.func f #[] cf] #[.func g #[] cg] #[.func h #[] ch] #[.func (.func 146) #[] #[.pointer (some ⟨w.heap.size, 0, none⟩), .pointer (some ⟨(w.heap.size + 5), 0, none⟩)], .func (.func 147) #[] #[.pointer (some ⟨(w.heap.size + 1), 0, none⟩), .pointer (some ⟨w.heap.size, 0, none⟩)], .func (.func 148) #[] #[.pointer (some ⟨(w.heap.size + 2), 0, none⟩), .pointer (some ⟨w.heap.size, 0, none⟩)], .func (.func 149) #[] #[.pointer (some ⟨(w.heap.size + 3), 0, none⟩), .pointer (some ⟨w.heap.size, 0, none⟩)]] (itA zeroIt) 135 76 136 137 70 35 _ rfl
  refine bodyPost_ret (v := .agg #[.func (.func 146) #[] #[.pointer (some ⟨w.heap.size, 0, none⟩), .pointer (some ⟨(w.heap.size + 5), 0, none⟩)], .func (.func 147) #[] #[.pointer (some ⟨(w.heap.size + 1), 0, none⟩), .pointer (some ⟨w.heap.size, 0, none⟩)], .func (.func 148) #[] #[.pointer (some ⟨(w.heap.size + 2), 0, none⟩), .pointer (some ⟨w.heap.size, 0, none⟩)], .func (.func 149) #[] #[.pointer (some ⟨(w.heap.size + 3), 0, none⟩), .pointer (some ⟨w.heap.size, 0, none⟩)]]) (results_box Tryz.results81 _ _ (w.heap.size + 4) rfl b5 Tryz.underlying70 rfl HI.out) rfl ⟨_, w.heap.size, w.heap.size + 1, w.heap.size + 2, w.heap.size + 3, w.heap.size + 5, rfl, ⟨rfl, b1, b2, b3, b4, b6, by omega, ?_⟩, hB, Nat.le_of_eq hsz.symm⟩
  have hs2 : _ = _ := hsz
  refine ⟨?_, ?_, ?_, ?_, ?_⟩ <;> exact Nat.lt_of_lt_of_le (by omega) (Nat.le_of_eq hs2.symm)
end
end Go.Proofs.YtencmgepffdodaaGreat
