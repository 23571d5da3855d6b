/-
  Own texts put together: MpIn1. Own work.
-/
import Derived.Test.YtoppdelljjapoaaGreatG33
import Derived.Laws.EntriesVeiled
namespace Go.Proofs.YtoppdelljjapoaaGreat
section
open Go.RowKit Classical

/-- A field: its four functions, and the variables that they have. -/
structure FvA (lo hi q off : Nat) (mv pv gv : Value) (tp tm tw tg tz : TypeId) (Z : Array Value) (f1 f2 f3 f4 : FuncId) (ba bm bp bg bz : Nat) (w : World) (vs : List Value) : Prop where
  eq : vs = [.func (.func f1) #[] #[.pointer (some ⟨ba, 0, none⟩), .pointer (some ⟨bz, 0, none⟩)], .func (.func f2) #[] #[.pointer (some ⟨bm, 0, none⟩), .pointer (some ⟨ba, 0, none⟩)], .func (.func f3) #[] #[.pointer (some ⟨bp, 0, none⟩), .pointer (some ⟨ba, 0, none⟩)], .func (.func f4) #[] #[.pointer (some ⟨bg, 0, none⟩), .pointer (some ⟨ba, 0, none⟩)]]
  a : Box w ba #[.pointer (some ⟨q, off, none⟩)] tp
  m : Box w bm #[mv] tm
  p : Box w bp #[pv] tw
  g : Box w bg #[gv] tg
  z : Box w bz Z tz
  lo : lo ≤ ba ∧ lo ≤ bm ∧ lo ≤ bp ∧ lo ≤ bg ∧ lo ≤ bz
  hi : ba < hi ∧ bm < hi ∧ bp < hi ∧ bg < hi ∧ bz < hi
theorem FvA.keep {lo hi q off : Nat} {mv pv gv : Value} {tp tm tw tg tz : TypeId} {Z : Array Value} {f1 f2 f3 f4 : FuncId} {ba bm bp bg bz : Nat} {w w' : World} {vs : List Value} {S : Nat → Prop} (h : FvA lo hi q off mv pv gv tp tm tw tg tz Z f1 f2 f3 f4 ba bm bp bg bz w vs) (hk : KeepBut S w w') (hS : ∀ k, S k → k < lo ∨ hi ≤ k) : FvA lo hi q off mv pv gv tp tm tw tg tz Z f1 f2 f3 f4 ba bm bp bg bz w' vs := by
  obtain ⟨l1, l2, l3, l4, l5⟩ := h.lo
  obtain ⟨g1, g2, g3, g4, g5⟩ := h.hi
  exact ⟨h.eq, h.a.keep hk (fun e => by have := hS _ e; omega), h.m.keep hk (fun e => by have := hS _ e; omega), h.p.keep hk (fun e => by have := hS _ e; omega), h.g.keep hk (fun e => by have := hS _ e; omega), h.z.keep hk (fun e => by have := hS _ e; omega), h.lo, h.hi⟩
theorem FvA.mono {lo lo' hi hi' q off : Nat} {mv pv gv : Value} {tp tm tw tg tz : TypeId} {Z : Array Value} {f1 f2 f3 f4 : FuncId} {ba bm bp bg bz : Nat} {w : World} {vs : List Value} (h : FvA lo hi q off mv pv gv tp tm tw tg tz Z f1 f2 f3 f4 ba bm bp bg bz w vs) (hh : hi ≤ hi') (hl : lo' ≤ lo) : FvA lo' hi' q off mv pv gv tp tm tw tg tz Z f1 f2 f3 f4 ba bm bp bg bz w vs := by
  obtain ⟨g1, g2, g3, g4, g5⟩ := h.hi
  obtain ⟨l1, l2, l3, l4, l5⟩ := h.lo
  exact ⟨h.eq, h.a, h.m, h.p, h.g, h.z, by omega, by omega⟩
theorem six_boxes (w : World) (c1 c2 c3 c4 c5 c6 : Array Value) (t1 t2 t3 t4 t5 t6 : TypeId) : ∀ W, W = (((((w.alloc (.cells c1 t1)).alloc (.cells c2 t2)).alloc (.cells c3 t3)).alloc (.cells c4 t4)).alloc (.cells c5 t5)).alloc (.cells c6 t6) → Box W w.heap.size c1 t1 ∧ Box W (w.heap.size + 1) c2 t2 ∧ Box W (w.heap.size + 2) c3 t3 ∧ Box W (w.heap.size + 3) c4 t4 ∧ Box W (w.heap.size + 4) c5 t5 ∧ Box W (w.heap.size + 5) c6 t6 ∧ Below w.heap.size w W ∧ W.heap.size = w.heap.size + 6 := by
  rintro W rfl
  have b1 := box_new w c1 t1
  have b2 := box_new (w.alloc (.cells c1 t1)) c2 t2
  have b3 := box_new ((w.alloc (.cells c1 t1)).alloc (.cells c2 t2)) c3 t3
  have b4 := box_new (((w.alloc (.cells c1 t1)).alloc (.cells c2 t2)).alloc (.cells c3 t3)) c4 t4
  have b5 := box_new ((((w.alloc (.cells c1 t1)).alloc (.cells c2 t2)).alloc (.cells c3 t3)).alloc (.cells c4 t4)) c5 t5
  have b6 := box_new (((((w.alloc (.cells c1 t1)).alloc (.cells c2 t2)).alloc (.cells c3 t3)).alloc (.cells c4 t4)).alloc (.cells c5 t5)) c6 t6
  simp only [World.size_alloc] at b1 b2 b3 b4 b5 b6
  refine ⟨?_, ?_, ?_, ?_, ?_, b6, ?_, by simp only [World.size_alloc]⟩
  · exact ((((b1.belowI (alloc_below10 _ _)).belowI (alloc_below10 _ _)).belowI (alloc_below10 _ _)).belowI (alloc_below10 _ _)).belowI (alloc_below10 _ _)
  · exact (((b2.belowI (alloc_below10 _ _)).belowI (alloc_below10 _ _)).belowI (alloc_below10 _ _)).belowI (alloc_below10 _ _)
  · exact ((b3.belowI (alloc_below10 _ _)).belowI (alloc_below10 _ _)).belowI (alloc_below10 _ _)
  · exact (b4.belowI (alloc_below10 _ _)).belowI (alloc_below10 _ _)
  · exact b5.belowI (alloc_below10 _ _)
  · exact ((((((Below.refl w.heap.size w).alloc (Nat.le_refl _) _).alloc (by simp) _).alloc (by simp; omega) _).alloc (by simp; omega) _).alloc (by simp; omega) _).alloc (by simp; omega) _
theorem infoFld : (Tryz.prog.info? 92).map (·.size) = some 4 := by kernel_rfl
theorem fld_one (a b c d : Fn) (x y z u : Array Value) : (#[.func a #[] x, .func b #[] y, .func c #[] z, .func d #[] u] : Array Value).all (·.oneCell') = true := by simp [Value.oneCell']
set_option maxRecDepth 100000 in
theorem fieldAt_tx (q off : Nat) (f g h : Fn) (cf cg ch : Array Value) (w : World) :
    Calls Tryz.prog 91 #[.pointer (some ⟨q, off, none⟩), .func f #[] cf, .func g #[] cg, .func h #[] ch] w fun e w' => ∃ vs ba bm bp bg bz, e = .returned (.agg vs.toArray) ∧ FvA w.heap.size w'.heap.size q off (.func f #[] cf) (.func g #[] cg) (.func h #[] ch) 131 132 133 134 24 ((txE (0, 0, 0)).toArray) 129 130 131 132 ba bm bp bg bz w' vs ∧ Below w.heap.size w w' := by
  have hmf := make_fn
  have HI := hide infoFld
  go_enter Tryz.func91, Tryz.ntmps91
  go_wp2_with fail
  obtain ⟨b1, b2, b3, b4, b5, b6, hB, hsz⟩ := six_boxes w #[.pointer (some ⟨q, off, none⟩)] #[.func f #[] cf] #[.func g #[] cg] #[.func h #[] ch] #[.func (.func 129) #[] #[.pointer (some ⟨w.heap.size, 0, none⟩), .pointer (some ⟨(w.heap.size + 5), 0, none⟩)], .func (.func 130) #[] #[.pointer (some ⟨(w.heap.size + 1), 0, none⟩), .pointer (some ⟨w.heap.size, 0, none⟩)], .func (.func 131) #[] #[.pointer (some ⟨(w.heap.size + 2), 0, none⟩), .pointer (some ⟨w.heap.size, 0, none⟩)], .func (.func 132) #[] #[.pointer (some ⟨(w.heap.size + 3), 0, none⟩), .pointer (some ⟨w.heap.size, 0, none⟩)]] ((txE (0, 0, 0)).toArray) 131 132 133 134 92 24 _ rfl
  refine bodyPost_ret (v := .agg #[.func (.func 129) #[] #[.pointer (some ⟨w.heap.size, 0, none⟩), .pointer (some ⟨(w.heap.size + 5), 0, none⟩)], .func (.func 130) #[] #[.pointer (some ⟨(w.heap.size + 1), 0, none⟩), .pointer (some ⟨w.heap.size, 0, none⟩)], .func (.func 131) #[] #[.pointer (some ⟨(w.heap.size + 2), 0, none⟩), .pointer (some ⟨w.heap.size, 0, none⟩)], .func (.func 132) #[] #[.pointer (some ⟨(w.heap.size + 3), 0, none⟩), .pointer (some ⟨w.heap.size, 0, none⟩)]]) (results_box Tryz.results91 _ _ (w.heap.size + 4) rfl b5 Tryz.underlying92 rfl HI.out) rfl ⟨_, w.heap.size, w.heap.size + 1, w.heap.size + 2, w.heap.size + 3, w.heap.size + 5, rfl, ⟨rfl, b1, b2, b3, b4, b6, by omega, ?_⟩, hB⟩
  have hs2 : _ = _ := hsz
  refine ⟨?_, ?_, ?_, ?_, ?_⟩ <;> exact Nat.lt_of_lt_of_le (by omega) (Nat.le_of_eq hs2.symm)
set_option maxRecDepth 100000 in
theorem fieldAt_u32 (q off : Nat) (f g h : Fn) (cf cg ch : Array Value) (w : World) :
    Calls Tryz.prog 95 #[.pointer (some ⟨q, off, none⟩), .func f #[] cf, .func g #[] cg, .func h #[] ch] w fun e w' => ∃ vs ba bm bp bg bz, e = .returned (.agg vs.toArray) ∧ FvA w.heap.size w'.heap.size q off (.func f #[] cf) (.func g #[] cg) (.func h #[] ch) 136 100 115 122 22 (#[.int .u32 0]) 136 137 138 139 ba bm bp bg bz w' vs ∧ Below w.heap.size w w' := by
  have hmf := make_fn
  have HI := hide infoFld
  go_enter Tryz.func95, Tryz.ntmps95
  go_wp2_with fail
  obtain ⟨b1, b2, b3, b4, b5, b6, hB, hsz⟩ := six_boxes w #[.pointer (some ⟨q, off, none⟩)] #[.func f #[] cf] #[.func g #[] cg] #[.func h #[] ch] #[.func (.func 136) #[] #[.pointer (some ⟨w.heap.size, 0, none⟩), .pointer (some ⟨(w.heap.size + 5), 0, none⟩)], .func (.func 137) #[] #[.pointer (some ⟨(w.heap.size + 1), 0, none⟩), .pointer (some ⟨w.heap.size, 0, none⟩)], .func (.func 138) #[] #[.pointer (some ⟨(w.heap.size + 2), 0, none⟩), .pointer (some ⟨w.heap.size, 0, none⟩)], .func (.func 139) #[] #[.pointer (some ⟨(w.heap.size + 3), 0, none⟩), .pointer (some ⟨w.heap.size, 0, none⟩)]] (#[.int .u32 0]) 136 100 115 122 92 22 _ rfl
  refine bodyPost_ret (v := .agg #[.func (.func 136) #[] #[.pointer (some ⟨w.heap.size, 0, none⟩), .pointer (some ⟨(w.heap.size + 5), 0, none⟩)], .func (.func 137) #[] #[.pointer (some ⟨(w.heap.size + 1), 0, none⟩), .pointer (some ⟨w.heap.size, 0, none⟩)], .func (.func 138) #[] #[.pointer (some ⟨(w.heap.size + 2), 0, none⟩), .pointer (some ⟨w.heap.size, 0, none⟩)], .func (.func 139) #[] #[.pointer (some ⟨(w.heap.size + 3), 0, none⟩), .pointer (some ⟨w.heap.size, 0, none⟩)]]) (results_box Tryz.results95 _ _ (w.heap.size + 4) rfl b5 Tryz.underlying92 rfl HI.out) rfl ⟨_, w.heap.size, w.heap.size + 1, w.heap.size + 2, w.heap.size + 3, w.heap.size + 5, rfl, ⟨rfl, b1, b2, b3, b4, b6, by omega, ?_⟩, hB⟩
  have hs2 : _ = _ := hsz
  refine ⟨?_, ?_, ?_, ?_, ?_⟩ <;> exact Nat.lt_of_lt_of_le (by omega) (Nat.le_of_eq hs2.symm)
set_option maxRecDepth 100000 in
theorem fieldAt_reg (q off : Nat) (f g h : Fn) (cf cg ch : Array Value) (w : World) :
    Calls Tryz.prog 96 #[.pointer (some ⟨q, off, none⟩), .func f #[] cf, .func g #[] cg, .func h #[] ch] w fun e w' => ∃ vs ba bm bp bg bz, e = .returned (.agg vs.toArray) ∧ FvA w.heap.size w'.heap.size q off (.func f #[] cf) (.func g #[] cg) (.func h #[] ch) 138 126 139 140 26 ((rgE (0, 0)).toArray) 140 141 142 143 ba bm bp bg bz w' vs ∧ Below w.heap.size w w' := by
  have hmf := make_fn
  have HI := hide infoFld
  go_enter Tryz.func96, Tryz.ntmps96
  go_wp2_with fail
  obtain ⟨b1, b2, b3, b4, b5, b6, hB, hsz⟩ := six_boxes w #[.pointer (some ⟨q, off, none⟩)] #[.func f #[] cf] #[.func g #[] cg] #[.func h #[] ch] #[.func (.func 140) #[] #[.pointer (some ⟨w.heap.size, 0, none⟩), .pointer (some ⟨(w.heap.size + 5), 0, none⟩)], .func (.func 141) #[] #[.pointer (some ⟨(w.heap.size + 1), 0, none⟩), .pointer (some ⟨w.heap.size, 0, none⟩)], .func (.func 142) #[] #[.pointer (some ⟨(w.heap.size + 2), 0, none⟩), .pointer (some ⟨w.heap.size, 0, none⟩)], .func (.func 143) #[] #[.pointer (some ⟨(w.heap.size + 3), 0, none⟩), .pointer (some ⟨w.heap.size, 0, none⟩)]] ((rgE (0, 0)).toArray) 138 126 139 140 92 26 _ rfl
  refine bodyPost_ret (v := .agg #[.func (.func 140) #[] #[.pointer (some ⟨w.heap.size, 0, none⟩), .pointer (some ⟨(w.heap.size + 5), 0, none⟩)], .func (.func 141) #[] #[.pointer (some ⟨(w.heap.size + 1), 0, none⟩), .pointer (some ⟨w.heap.size, 0, none⟩)], .func (.func 142) #[] #[.pointer (some ⟨(w.heap.size + 2), 0, none⟩), .pointer (some ⟨w.heap.size, 0, none⟩)], .func (.func 143) #[] #[.pointer (some ⟨(w.heap.size + 3), 0, none⟩), .pointer (some ⟨w.heap.size, 0, none⟩)]]) (results_box Tryz.results96 _ _ (w.heap.size + 4) rfl b5 Tryz.underlying92 rfl HI.out) rfl ⟨_, w.heap.size, w.heap.size + 1, w.heap.size + 2, w.heap.size + 3, w.heap.size + 5, rfl, ⟨rfl, b1, b2, b3, b4, b6, by omega, ?_⟩, hB⟩
  have hs2 : _ = _ := hsz
  refine ⟨?_, ?_, ?_, ?_, ?_⟩ <;> exact Nat.lt_of_lt_of_le (by omega) (Nat.le_of_eq hs2.symm)
set_option maxRecDepth 100000 in
theorem fieldAt_key (q off : Nat) (f g h : Fn) (cf cg ch : Array Value) (w : World) :
    Calls Tryz.prog 99 #[.pointer (some ⟨q, off, none⟩), .func f #[] cf, .func g #[] cg, .func h #[] ch] w fun e w' => ∃ vs ba bm bp bg bz, e = .returned (.agg vs.toArray) ∧ FvA w.heap.size w'.heap.size q off (.func f #[] cf) (.func g #[] cg) (.func h #[] ch) 142 102 143 144 28 (eightA [0, 0, 0, 0, 0, 0, 0, 0]) 145 146 147 148 ba bm bp bg bz w' vs ∧ Below w.heap.size w w' := by
  have hmf := make_fn
  have HI := hide infoFld
  go_enter Tryz.func99, Tryz.ntmps99
  go_wp2_with fail
  obtain ⟨b1, b2, b3, b4, b5, b6, hB, hsz⟩ := six_boxes w #[.pointer (some ⟨q, off, none⟩)] #[.func f #[] cf] #[.func g #[] cg] #[.func h #[] ch] #[.func (.func 145) #[] #[.pointer (some ⟨w.heap.size, 0, none⟩), .pointer (some ⟨(w.heap.size + 5), 0, none⟩)], .func (.func 146) #[] #[.pointer (some ⟨(w.heap.size + 1), 0, none⟩), .pointer (some ⟨w.heap.size, 0, none⟩)], .func (.func 147) #[] #[.pointer (some ⟨(w.heap.size + 2), 0, none⟩), .pointer (some ⟨w.heap.size, 0, none⟩)], .func (.func 148) #[] #[.pointer (some ⟨(w.heap.size + 3), 0, none⟩), .pointer (some ⟨w.heap.size, 0, none⟩)]] (eightA [0, 0, 0, 0, 0, 0, 0, 0]) 142 102 143 144 92 28 _ rfl
  refine bodyPost_ret (v := .agg #[.func (.func 145) #[] #[.pointer (some ⟨w.heap.size, 0, none⟩), .pointer (some ⟨(w.heap.size + 5), 0, none⟩)], .func (.func 146) #[] #[.pointer (some ⟨(w.heap.size + 1), 0, none⟩), .pointer (some ⟨w.heap.size, 0, none⟩)], .func (.func 147) #[] #[.pointer (some ⟨(w.heap.size + 2), 0, none⟩), .pointer (some ⟨w.heap.size, 0, none⟩)], .func (.func 148) #[] #[.pointer (some ⟨(w.heap.size + 3), 0, none⟩), .pointer (some ⟨w.heap.size, 0, none⟩)]]) (results_box Tryz.results99 _ _ (w.heap.size + 4) rfl b5 Tryz.underlying92 rfl HI.out) rfl ⟨_, w.heap.size, w.heap.size + 1, w.heap.size + 2, w.heap.size + 3, w.heap.size + 5, rfl, ⟨rfl, b1, b2, b3, b4, b6, by omega, ?_⟩, hB⟩
  have hs2 : _ = _ := hsz
  refine ⟨?_, ?_, ?_, ?_, ?_⟩ <;> exact Nat.lt_of_lt_of_le (by omega) (Nat.le_of_eq hs2.symm)
set_option maxRecDepth 100000 in
theorem fieldAt_u8 (q off : Nat) (f g h : Fn) (cf cg ch : Array Value) (w : World) :
    Calls Tryz.prog 100 #[.pointer (some ⟨q, off, none⟩), .func f #[] cf, .func g #[] cg, .func h #[] ch] w fun e w' => ∃ vs ba bm bp bg bz, e = .returned (.agg vs.toArray) ∧ FvA w.heap.size w'.heap.size q off (.func f #[] cf) (.func g #[] cg) (.func h #[] ch) 146 127 128 129 5 (#[.int .u8 0]) 149 150 151 152 ba bm bp bg bz w' vs ∧ Below w.heap.size w w' := by
  have hmf := make_fn
  have HI := hide infoFld
  go_enter Tryz.func100, Tryz.ntmps100
  go_wp2_with fail
  obtain ⟨b1, b2, b3, b4, b5, b6, hB, hsz⟩ := six_boxes w #[.pointer (some ⟨q, off, none⟩)] #[.func f #[] cf] #[.func g #[] cg] #[.func h #[] ch] #[.func (.func 149) #[] #[.pointer (some ⟨w.heap.size, 0, none⟩), .pointer (some ⟨(w.heap.size + 5), 0, none⟩)], .func (.func 150) #[] #[.pointer (some ⟨(w.heap.size + 1), 0, none⟩), .pointer (some ⟨w.heap.size, 0, none⟩)], .func (.func 151) #[] #[.pointer (some ⟨(w.heap.size + 2), 0, none⟩), .pointer (some ⟨w.heap.size, 0, none⟩)], .func (.func 152) #[] #[.pointer (some ⟨(w.heap.size + 3), 0, none⟩), .pointer (some ⟨w.heap.size, 0, none⟩)]] (#[.int .u8 0]) 146 127 128 129 92 5 _ rfl
  refine bodyPost_ret (v := .agg #[.func (.func 149) #[] #[.pointer (some ⟨w.heap.size, 0, none⟩), .pointer (some ⟨(w.heap.size + 5), 0, none⟩)], .func (.func 150) #[] #[.pointer (some ⟨(w.heap.size + 1), 0, none⟩), .pointer (some ⟨w.heap.size, 0, none⟩)], .func (.func 151) #[] #[.pointer (some ⟨(w.heap.size + 2), 0, none⟩), .pointer (some ⟨w.heap.size, 0, none⟩)], .func (.func 152) #[] #[.pointer (some ⟨(w.heap.size + 3), 0, none⟩), .pointer (some ⟨w.heap.size, 0, none⟩)]]) (results_box Tryz.results100 _ _ (w.heap.size + 4) rfl b5 Tryz.underlying92 rfl HI.out) rfl ⟨_, w.heap.size, w.heap.size + 1, w.heap.size + 2, w.heap.size + 3, w.heap.size + 5, rfl, ⟨rfl, b1, b2, b3, b4, b6, by omega, ?_⟩, hB⟩
  have hs2 : _ = _ := hsz
  refine ⟨?_, ?_, ?_, ?_, ?_⟩ <;> exact Nat.lt_of_lt_of_le (by omega) (Nat.le_of_eq hs2.symm)
set_option maxRecDepth 100000 in
theorem fieldAt_item (q off : Nat) (f g h : Fn) (cf cg ch : Array Value) (w : World) :
    Calls Tryz.prog 101 #[.pointer (some ⟨q, off, none⟩), .func f #[] cf, .func g #[] cg, .func h #[] ch] w fun e w' => ∃ vs ba bm bp bg bz, e = .returned (.agg vs.toArray) ∧ FvA w.heap.size w'.heap.size q off (.func f #[] cf) (.func g #[] cg) (.func h #[] ch) 148 41 64 75 32 (itA zeroIt) 153 154 155 156 ba bm bp bg bz w' vs ∧ Below w.heap.size w w' := by
  have hmf := make_fn
  have HI := hide infoFld
  go_enter Tryz.func101, Tryz.ntmps101
  go_wp2_with fail
  obtain ⟨b1, b2, b3, b4, b5, b6, hB, hsz⟩ := six_boxes w #[.pointer (some ⟨q, off, none⟩)] #[.func f #[] cf] #[.func g #[] cg] #[.func h #[] ch] #[.func (.func 153) #[] #[.pointer (some ⟨w.heap.size, 0, none⟩), .pointer (some ⟨(w.heap.size + 5), 0, none⟩)], .func (.func 154) #[] #[.pointer (some ⟨(w.heap.size + 1), 0, none⟩), .pointer (some ⟨w.heap.size, 0, none⟩)], .func (.func 155) #[] #[.pointer (some ⟨(w.heap.size + 2), 0, none⟩), .pointer (some ⟨w.heap.size, 0, none⟩)], .func (.func 156) #[] #[.pointer (some ⟨(w.heap.size + 3), 0, none⟩), .pointer (some ⟨w.heap.size, 0, none⟩)]] (itA zeroIt) 148 41 64 75 92 32 _ rfl
  refine bodyPost_ret (v := .agg #[.func (.func 153) #[] #[.pointer (some ⟨w.heap.size, 0, none⟩), .pointer (some ⟨(w.heap.size + 5), 0, none⟩)], .func (.func 154) #[] #[.pointer (some ⟨(w.heap.size + 1), 0, none⟩), .pointer (some ⟨w.heap.size, 0, none⟩)], .func (.func 155) #[] #[.pointer (some ⟨(w.heap.size + 2), 0, none⟩), .pointer (some ⟨w.heap.size, 0, none⟩)], .func (.func 156) #[] #[.pointer (some ⟨(w.heap.size + 3), 0, none⟩), .pointer (some ⟨w.heap.size, 0, none⟩)]]) (results_box Tryz.results101 _ _ (w.heap.size + 4) rfl b5 Tryz.underlying92 rfl HI.out) rfl ⟨_, w.heap.size, w.heap.size + 1, w.heap.size + 2, w.heap.size + 3, w.heap.size + 5, rfl, ⟨rfl, b1, b2, b3, b4, b6, by omega, ?_⟩, hB⟩
  have hs2 : _ = _ := hsz
  refine ⟨?_, ?_, ?_, ?_, ?_⟩ <;> exact Nat.lt_of_lt_of_le (by omega) (Nat.le_of_eq hs2.symm)
/-! The literals of the writes. -/
theorem wn7_any (b1 q : Nat) (ao : Option Addr) (n c : Nat) (w : World) (h1 : w.cell? ⟨b1, 0, none⟩ = some (.pointer (some ⟨q, 0, none⟩))) (h2 : w.cell? ⟨q, 32, none⟩ = some (.slice ao n c)) :
    Calls Tryz.prog 102 #[.pointer (some ⟨b1, 0, none⟩)] w fun e w' => e = .returned (.bool (decide (n = 0))) ∧ Below w.heap.size w w' := by
  go_enter Tryz.func102, Tryz.ntmps102
  go_wp2
  go_ret
  refine ⟨?_, Below.refl _ _⟩
  cases n <;> rfl
theorem wn8_any (b1 q : Nat) (ao : Option Addr) (n c : Nat) (ws : List WrP) (w : World) (h1 : w.cell? ⟨b1, 0, none⟩ = some (.pointer (some ⟨q, 0, none⟩))) (h2 : w.cell? ⟨q, 32, none⟩ = some (.slice ao n c)) (hs : RSrc wrE w (.slice ao n c) ws) (hok : ∀ x ∈ ws, KeyOk x.key ∧ ItOk x.it) :
    Calls Tryz.prog 103 #[.pointer (some ⟨b1, 0, none⟩)] w fun e w' => e = .returned (.bool (wsMayB ws)) ∧ Below w.heap.size w w' := by
  have C := hide (writesMay_any _ ws w hs hok)
  clear hs hok
  generalize wsMayB ws = b at *
  go_enter Tryz.func103, Tryz.ntmps103
  go_wp2_with (first | (go_at_call 16; refine C.out.mono ?_; rintro e w2 ⟨rfl, hB2⟩; have HB2 := hide hB2; clear hB2))
  go_ret
  exact ⟨rfl, HB2.out⟩
theorem wn9_any (pw b1 q : Nat) (ao : Option Addr) (n c : Nat) (R : World → Prop) (w : World) (h1 : w.cell? ⟨b1, 0, none⟩ = some (.pointer (some ⟨q, 0, none⟩))) (h2 : w.cell? ⟨q, 32, none⟩ = some (.slice ao n c))
    (hC : Calls Tryz.prog 28 #[.pointer (some ⟨pw, 0, none⟩), .slice ao n c] w fun e w' => e = .returned (.tuple #[]) ∧ R w') :
    Calls Tryz.prog 104 #[.pointer (some ⟨pw, 0, none⟩), .pointer (some ⟨b1, 0, none⟩)] w fun e w' => e = .returned (.tuple #[]) ∧ R w' := by
  have C := hide hC
  clear hC
  go_enter Tryz.func104, Tryz.ntmps104
  go_wp2_with (first | (go_at_call 28; refine C.out.mono ?_; rintro e w2 ⟨rfl, hR⟩; have HR := hide hR; clear hR))
  go_end0
  exact ⟨rfl, HR.out⟩
end
end Go.Proofs.YtoppdelljjapoaaGreat
