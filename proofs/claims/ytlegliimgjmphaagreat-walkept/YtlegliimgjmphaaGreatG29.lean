/-
  Own texts put together: RpIn1. Own work.
-/
import Derived.Test.YtlegliimgjmphaaGreatG28
import Derived.Laws.EntriesVeiled
namespace Go.Proofs.YtlegliimgjmphaaGreat
section
open Go.RowKit Classical
structure FvA (lo hi q off : Nat) (mv pv gv : Value) (tp tm tw tg tz : TypeId) (Z : Array Value) (f1 f2 f3 f4 : FuncId) (ba bm bp bg bz : Nat) (w : World) (vs : List Value) : Prop where
 eq : vs = [.func (.func f1) #[] #[.pointer (some ⟨ba, 0, none⟩), .pointer (some ⟨bz, 0, none⟩)], .func (.func f2) #[] #[.pointer (some ⟨bm, 0, none⟩), .pointer (some ⟨ba, 0, none⟩)], .func (.func f3) #[] #[.pointer (some ⟨bp, 0, none⟩), .pointer (some ⟨ba, 0, none⟩)], .func (.func f4) #[] #[.pointer (some ⟨bg, 0, none⟩), .pointer (some ⟨ba, 0, none⟩)]]
 a : Box w ba #[.pointer (some ⟨q, off, none⟩)] tp
 m : Box w bm #[mv] tm
 p : Box w bp #[pv] tw
 g : Box w bg #[gv] tg
 z : Box w bz Z tz
 lo : lo ≤ ba ∧ lo ≤ bm ∧ lo ≤ bp ∧ lo ≤ bg ∧ lo ≤ bz
 hi : ba < hi ∧ bm < hi ∧ bp < hi ∧ bg < hi ∧ bz < hi
theorem FvA.keep {lo hi q off : Nat} {mv pv gv : Value} {tp tm tw tg tz : TypeId} {Z : Array Value} {f1 f2 f3 f4 : FuncId} {ba bm bp bg bz : Nat} {w w' : World} {vs : List Value} {S : Nat → Prop} (h : FvA lo hi q off mv pv gv tp tm tw tg tz Z f1 f2 f3 f4 ba bm bp bg bz w vs) (hk : KeepBut S w w') (hS : ∀ k, S k → k < lo ∨ hi ≤ k) : FvA lo hi q off mv pv gv tp tm tw tg tz Z f1 f2 f3 f4 ba bm bp bg bz w' vs := by
 obtain ⟨l1, l2, l3, l4, l5⟩ := h.lo
 obtain ⟨g1, g2, g3, g4, g5⟩ := h.hi
 exact ⟨h.eq, h.a.keep hk (fun e => by have := hS _ e; omega), h.m.keep hk (fun e => by have := hS _ e; omega), h.p.keep hk (fun e => by have := hS _ e; omega), h.g.keep hk (fun e => by have := hS _ e; omega), h.z.keep hk (fun e => by have := hS _ e; omega), h.lo, h.hi⟩
theorem FvA.mono {lo lo' hi hi' q off : Nat} {mv pv gv : Value} {tp tm tw tg tz : TypeId} {Z : Array Value} {f1 f2 f3 f4 : FuncId} {ba bm bp bg bz : Nat} {w : World} {vs : List Value} (h : FvA lo hi q off mv pv gv tp tm tw tg tz Z f1 f2 f3 f4 ba bm bp bg bz w vs) (hh : hi ≤ hi') (hl : lo' ≤ lo) : FvA lo' hi' q off mv pv gv tp tm tw tg tz Z f1 f2 f3 f4 ba bm bp bg bz w vs := by
 obtain ⟨g1, g2, g3, g4, g5⟩ := h.hi
 obtain ⟨l1, l2, l3, l4, l5⟩ := h.lo
 exact ⟨h.eq, h.a, h.m, h.p, h.g, h.z, by omega, by omega⟩
theorem six_boxes (w : World) (c1 c2 c3 c4 c5 c6 : Array Value) (t1 t2 t3 t4 t5 t6 : TypeId) : ∀ W, W = (((((w.alloc (.cells c1 t1)).alloc (.cells c2 t2)).alloc (.cells c3 t3)).alloc (.cells c4 t4)).alloc (.cells c5 t5)).alloc (.cells c6 t6) → Box W w.heap.size c1 t1 ∧ Box W (w.heap.size + 1) c2 t2 ∧ Box W (w.heap.size + 2) c3 t3 ∧ Box W (w.heap.size + 3) c4 t4 ∧ Box W (w.heap.size + 4) c5 t5 ∧ Box W (w.heap.size + 5) c6 t6 ∧ Below w.heap.size w W ∧ W.heap.size = w.heap.size + 6 := by
 rintro W rfl
 have b1 := box_new w c1 t1
 have b2 := box_new (w.alloc (.cells c1 t1)) c2 t2
 have b3 := box_new ((w.alloc (.cells c1 t1)).alloc (.cells c2 t2)) c3 t3
 have b4 := box_new (((w.alloc (.cells c1 t1)).alloc (.cells c2 t2)).alloc (.cells c3 t3)) c4 t4
 have b5 := box_new ((((w.alloc (.cells c1 t1)).alloc (.cells c2 t2)).alloc (.cells c3 t3)).alloc (.cells c4 t4)) c5 t5
 have b6 := box_new (((((w.alloc (.cells c1 t1)).alloc (.cells c2 t2)).alloc (.cells c3 t3)).alloc (.cells c4 t4)).alloc (.cells c5 t5)) c6 t6
 simp only [World.size_alloc] at b1 b2 b3 b4 b5 b6
 refine ⟨?_, ?_, ?_, ?_, ?_, b6, ?_, by simp only [World.size_alloc]⟩
 ·exact ((((b1.belowI (alloc_below10 _ _)).belowI (alloc_below10 _ _)).belowI (alloc_below10 _ _)).belowI (alloc_below10 _ _)).belowI (alloc_below10 _ _)
 ·exact (((b2.belowI (alloc_below10 _ _)).belowI (alloc_below10 _ _)).belowI (alloc_below10 _ _)).belowI (alloc_below10 _ _)
 ·exact ((b3.belowI (alloc_below10 _ _)).belowI (alloc_below10 _ _)).belowI (alloc_below10 _ _)
 ·exact (b4.belowI (alloc_below10 _ _)).belowI (alloc_below10 _ _)
 ·exact b5.belowI (alloc_below10 _ _)
 ·exact ((((((Below.refl w.heap.size w).alloc (Nat.le_refl _) _).alloc (by simp) _).alloc (by simp; omega) _).alloc (by simp; omega) _).alloc (by simp; omega) _).alloc (by simp; omega) _
theorem infoFld : (Tryz.prog.info? 137).map (·.size) = some 4 := by kernel_rfl
theorem fld_one (a b c d : Fn) (x y z u : Array Value) : (#[.func a #[] x, .func b #[] y, .func c #[] z, .func d #[] u] : Array Value).all (·.oneCell') = true := by simp [Value.oneCell']
set_option maxRecDepth 100000 in
theorem fieldAt_tx (q off : Nat) (f g h : Fn) (cf cg ch : Array Value) (w : World) :
  Calls Tryz.prog 116 #[.pointer (some ⟨q, off, none⟩), .func f #[] cf, .func g #[] cg, .func h #[] ch] w fun e w' => ∃ vs ba bm bp bg bz, e = .returned (.agg vs.toArray) ∧ FvA w.heap.size w'.heap.size q off (.func f #[] cf) (.func g #[] cg) (.func h #[] ch) 179 180 181 182 74 ((txE (0, 0, 0)).toArray) 170 171 172 173 ba bm bp bg bz w' vs ∧ Below w.heap.size w w' ∧ w.heap.size + 6 ≤ w'.heap.size := by
 have hmf := make_fn
 have HI := hide infoFld
 go_enter Tryz.func116, Tryz.ntmps116
 go_wp2_with fail
 obtain ⟨b1, b2, b3, b4, b5, b6, hB, hsz⟩ := six_boxes w #[.pointer (some ⟨q, off, none⟩)] #[.func f #[] cf] #[.func g #[] cg] #[.func h #[] ch] #[.func (.func 170) #[] #[.pointer (some ⟨w.heap.size, 0, none⟩), .pointer (some ⟨(w.heap.size + 5), 0, none⟩)], .func (.func 171) #[] #[.pointer (some ⟨(w.heap.size + 1), 0, none⟩), .pointer (some ⟨w.heap.size, 0, none⟩)], .func (.func 172) #[] #[.pointer (some ⟨(w.heap.size + 2), 0, none⟩), .pointer (some ⟨w.heap.size, 0, none⟩)], .func (.func 173) #[] #[.pointer (some ⟨(w.heap.size + 3), 0, none⟩), .pointer (some ⟨w.heap.size, 0, none⟩)]] ((txE (0, 0, 0)).toArray) 179 180 181 182 137 74 _ rfl
 refine bodyPost_ret (v := .agg #[.func (.func 170) #[] #[.pointer (some ⟨w.heap.size, 0, none⟩), .pointer (some ⟨(w.heap.size + 5), 0, none⟩)], .func (.func 171) #[] #[.pointer (some ⟨(w.heap.size + 1), 0, none⟩), .pointer (some ⟨w.heap.size, 0, none⟩)], .func (.func 172) #[] #[.pointer (some ⟨(w.heap.size + 2), 0, none⟩), .pointer (some ⟨w.heap.size, 0, none⟩)], .func (.func 173) #[] #[.pointer (some ⟨(w.heap.size + 3), 0, none⟩), .pointer (some ⟨w.heap.size, 0, none⟩)]]) (results_box Tryz.results116 _ _ (w.heap.size + 4) rfl b5 Tryz.underlying137 rfl HI.out) rfl ⟨_, w.heap.size, w.heap.size + 1, w.heap.size + 2, w.heap.size + 3, w.heap.size + 5, rfl, ⟨rfl, b1, b2, b3, b4, b6, by omega, ?_⟩, hB, Nat.le_of_eq hsz.symm⟩
 have hs2 : _ = _ := hsz
 refine ⟨?_, ?_, ?_, ?_, ?_⟩ <;> exact Nat.lt_of_lt_of_le (by omega) (Nat.le_of_eq hs2.symm)
set_option maxRecDepth 100000 in
theorem fieldAt_u32 (q off : Nat) (f g h : Fn) (cf cg ch : Array Value) (w : World) :
  Calls Tryz.prog 112 #[.pointer (some ⟨q, off, none⟩), .func f #[] cf, .func g #[] cg, .func h #[] ch] w fun e w' => ∃ vs ba bm bp bg bz, e = .returned (.agg vs.toArray) ∧ FvA w.heap.size w'.heap.size q off (.func f #[] cf) (.func g #[] cg) (.func h #[] ch) 174 175 176 177 72 (#[.int .u32 0]) 165 166 167 168 ba bm bp bg bz w' vs ∧ Below w.heap.size w w' ∧ w.heap.size + 6 ≤ w'.heap.size := by
 have hmf := make_fn
 have HI := hide infoFld
 go_enter Tryz.func112, Tryz.ntmps112
 go_wp2_with fail
 obtain ⟨b1, b2, b3, b4, b5, b6, hB, hsz⟩ := six_boxes w #[.pointer (some ⟨q, off, none⟩)] #[.func f #[] cf] #[.func g #[] cg] #[.func h #[] ch] #[.func (.func 165) #[] #[.pointer (some ⟨w.heap.size, 0, none⟩), .pointer (some ⟨(w.heap.size + 5), 0, none⟩)], .func (.func 166) #[] #[.pointer (some ⟨(w.heap.size + 1), 0, none⟩), .pointer (some ⟨w.heap.size, 0, none⟩)], .func (.func 167) #[] #[.pointer (some ⟨(w.heap.size + 2), 0, none⟩), .pointer (some ⟨w.heap.size, 0, none⟩)], .func (.func 168) #[] #[.pointer (some ⟨(w.heap.size + 3), 0, none⟩), .pointer (some ⟨w.heap.size, 0, none⟩)]] (#[.int .u32 0]) 174 175 176 177 137 72 _ rfl
 refine bodyPost_ret (v := .agg #[.func (.func 165) #[] #[.pointer (some ⟨w.heap.size, 0, none⟩), .pointer (some ⟨(w.heap.size + 5), 0, none⟩)], .func (.func 166) #[] #[.pointer (some ⟨(w.heap.size + 1), 0, none⟩), .pointer (some ⟨w.heap.size, 0, none⟩)], .func (.func 167) #[] #[.pointer (some ⟨(w.heap.size + 2), 0, none⟩), .pointer (some ⟨w.heap.size, 0, none⟩)], .func (.func 168) #[] #[.pointer (some ⟨(w.heap.size + 3), 0, none⟩), .pointer (some ⟨w.heap.size, 0, none⟩)]]) (results_box Tryz.results112 _ _ (w.heap.size + 4) rfl b5 Tryz.underlying137 rfl HI.out) rfl ⟨_, w.heap.size, w.heap.size + 1, w.heap.size + 2, w.heap.size + 3, w.heap.size + 5, rfl, ⟨rfl, b1, b2, b3, b4, b6, by omega, ?_⟩, hB, Nat.le_of_eq hsz.symm⟩
 have hs2 : _ = _ := hsz
 refine ⟨?_, ?_, ?_, ?_, ?_⟩ <;> exact Nat.lt_of_lt_of_le (by omega) (Nat.le_of_eq hs2.symm)
set_option maxRecDepth 100000 in
theorem fieldAt_reg (q off : Nat) (f g h : Fn) (cf cg ch : Array Value) (w : World) :
  Calls Tryz.prog 120 #[.pointer (some ⟨q, off, none⟩), .func f #[] cf, .func g #[] cg, .func h #[] ch] w fun e w' => ∃ vs ba bm bp bg bz, e = .returned (.agg vs.toArray) ∧ FvA w.heap.size w'.heap.size q off (.func f #[] cf) (.func g #[] cg) (.func h #[] ch) 184 185 186 187 76 ((rgE (0, 0)).toArray) 178 179 180 181 ba bm bp bg bz w' vs ∧ Below w.heap.size w w' ∧ w.heap.size + 6 ≤ w'.heap.size := by
 have hmf := make_fn
 have HI := hide infoFld
 go_enter Tryz.func120, Tryz.ntmps120
 go_wp2_with fail
 obtain ⟨b1, b2, b3, b4, b5, b6, hB, hsz⟩ := six_boxes w #[.pointer (some ⟨q, off, none⟩)] #[.func f #[] cf] #[.func g #[] cg] #[.func h #[] ch] #[.func (.func 178) #[] #[.pointer (some ⟨w.heap.size, 0, none⟩), .pointer (some ⟨(w.heap.size + 5), 0, none⟩)], .func (.func 179) #[] #[.pointer (some ⟨(w.heap.size + 1), 0, none⟩), .pointer (some ⟨w.heap.size, 0, none⟩)], .func (.func 180) #[] #[.pointer (some ⟨(w.heap.size + 2), 0, none⟩), .pointer (some ⟨w.heap.size, 0, none⟩)], .func (.func 181) #[] #[.pointer (some ⟨(w.heap.size + 3), 0, none⟩), .pointer (some ⟨w.heap.size, 0, none⟩)]] ((rgE (0, 0)).toArray) 184 185 186 187 137 76 _ rfl
 refine bodyPost_ret (v := .agg #[.func (.func 178) #[] #[.pointer (some ⟨w.heap.size, 0, none⟩), .pointer (some ⟨(w.heap.size + 5), 0, none⟩)], .func (.func 179) #[] #[.pointer (some ⟨(w.heap.size + 1), 0, none⟩), .pointer (some ⟨w.heap.size, 0, none⟩)], .func (.func 180) #[] #[.pointer (some ⟨(w.heap.size + 2), 0, none⟩), .pointer (some ⟨w.heap.size, 0, none⟩)], .func (.func 181) #[] #[.pointer (some ⟨(w.heap.size + 3), 0, none⟩), .pointer (some ⟨w.heap.size, 0, none⟩)]]) (results_box Tryz.results120 _ _ (w.heap.size + 4) rfl b5 Tryz.underlying137 rfl HI.out) rfl ⟨_, w.heap.size, w.heap.size + 1, w.heap.size + 2, w.heap.size + 3, w.heap.size + 5, rfl, ⟨rfl, b1, b2, b3, b4, b6, by omega, ?_⟩, hB, Nat.le_of_eq hsz.symm⟩
 have hs2 : _ = _ := hsz
 refine ⟨?_, ?_, ?_, ?_, ?_⟩ <;> exact Nat.lt_of_lt_of_le (by omega) (Nat.le_of_eq hs2.symm)
set_option maxRecDepth 100000 in
theorem fieldAt_key (q off : Nat) (f g h : Fn) (cf cg ch : Array Value) (w : World) :
  Calls Tryz.prog 130 #[.pointer (some ⟨q, off, none⟩), .func f #[] cf, .func g #[] cg, .func h #[] ch] w fun e w' => ∃ vs ba bm bp bg bz, e = .returned (.agg vs.toArray) ∧ FvA w.heap.size w'.heap.size q off (.func f #[] cf) (.func g #[] cg) (.func h #[] ch) 196 197 198 200 81 (eightA [0, 0, 0, 0, 0, 0, 0, 0]) 200 201 202 203 ba bm bp bg bz w' vs ∧ Below w.heap.size w w' ∧ w.heap.size + 6 ≤ w'.heap.size := by
 have hmf := make_fn
 have HI := hide infoFld
 go_enter Tryz.func130, Tryz.ntmps130
 go_wp2_with fail
 obtain ⟨b1, b2, b3, b4, b5, b6, hB, hsz⟩ := six_boxes w #[.pointer (some ⟨q, off, none⟩)] #[.func f #[] cf] #[.func g #[] cg] #[.func h #[] ch] #[.func (.func 200) #[] #[.pointer (some ⟨w.heap.size, 0, none⟩), .pointer (some ⟨(w.heap.size + 5), 0, none⟩)], .func (.func 201) #[] #[.pointer (some ⟨(w.heap.size + 1), 0, none⟩), .pointer (some ⟨w.heap.size, 0, none⟩)], .func (.func 202) #[] #[.pointer (some ⟨(w.heap.size + 2), 0, none⟩), .pointer (some ⟨w.heap.size, 0, none⟩)], .func (.func 203) #[] #[.pointer (some ⟨(w.heap.size + 3), 0, none⟩), .pointer (some ⟨w.heap.size, 0, none⟩)]] (eightA [0, 0, 0, 0, 0, 0, 0, 0]) 196 197 198 200 137 81 _ rfl
 refine bodyPost_ret (v := .agg #[.func (.func 200) #[] #[.pointer (some ⟨w.heap.size, 0, none⟩), .pointer (some ⟨(w.heap.size + 5), 0, none⟩)], .func (.func 201) #[] #[.pointer (some ⟨(w.heap.size + 1), 0, none⟩), .pointer (some ⟨w.heap.size, 0, none⟩)], .func (.func 202) #[] #[.pointer (some ⟨(w.heap.size + 2), 0, none⟩), .pointer (some ⟨w.heap.size, 0, none⟩)], .func (.func 203) #[] #[.pointer (some ⟨(w.heap.size + 3), 0, none⟩), .pointer (some ⟨w.heap.size, 0, none⟩)]]) (results_box Tryz.results130 _ _ (w.heap.size + 4) rfl b5 Tryz.underlying137 rfl HI.out) rfl ⟨_, w.heap.size, w.heap.size + 1, w.heap.size + 2, w.heap.size + 3, w.heap.size + 5, rfl, ⟨rfl, b1, b2, b3, b4, b6, by omega, ?_⟩, hB, Nat.le_of_eq hsz.symm⟩
 have hs2 : _ = _ := hsz
 refine ⟨?_, ?_, ?_, ?_, ?_⟩ <;> exact Nat.lt_of_lt_of_le (by omega) (Nat.le_of_eq hs2.symm)
set_option maxRecDepth 100000 in
theorem fieldAt_u64 (q off : Nat) (f g h : Fn) (cf cg ch : Array Value) (w : World) :
  Calls Tryz.prog 124 #[.pointer (some ⟨q, off, none⟩), .func f #[] cf, .func g #[] cg, .func h #[] ch] w fun e w' => ∃ vs ba bm bp bg bz, e = .returned (.agg vs.toArray) ∧ FvA w.heap.size w'.heap.size q off (.func f #[] cf) (.func g #[] cg) (.func h #[] ch) 189 190 191 193 77 (#[.int .u64 0]) 183 184 185 186 ba bm bp bg bz w' vs ∧ Below w.heap.size w w' ∧ w.heap.size + 6 ≤ w'.heap.size := by
 have hmf := make_fn
 have HI := hide infoFld
 go_enter Tryz.func124, Tryz.ntmps124
 go_wp2_with fail
 obtain ⟨b1, b2, b3, b4, b5, b6, hB, hsz⟩ := six_boxes w #[.pointer (some ⟨q, off, none⟩)] #[.func f #[] cf] #[.func g #[] cg] #[.func h #[] ch] #[.func (.func 183) #[] #[.pointer (some ⟨w.heap.size, 0, none⟩), .pointer (some ⟨(w.heap.size + 5), 0, none⟩)], .func (.func 184) #[] #[.pointer (some ⟨(w.heap.size + 1), 0, none⟩), .pointer (some ⟨w.heap.size, 0, none⟩)], .func (.func 185) #[] #[.pointer (some ⟨(w.heap.size + 2), 0, none⟩), .pointer (some ⟨w.heap.size, 0, none⟩)], .func (.func 186) #[] #[.pointer (some ⟨(w.heap.size + 3), 0, none⟩), .pointer (some ⟨w.heap.size, 0, none⟩)]] (#[.int .u64 0]) 189 190 191 193 137 77 _ rfl
 refine bodyPost_ret (v := .agg #[.func (.func 183) #[] #[.pointer (some ⟨w.heap.size, 0, none⟩), .pointer (some ⟨(w.heap.size + 5), 0, none⟩)], .func (.func 184) #[] #[.pointer (some ⟨(w.heap.size + 1), 0, none⟩), .pointer (some ⟨w.heap.size, 0, none⟩)], .func (.func 185) #[] #[.pointer (some ⟨(w.heap.size + 2), 0, none⟩), .pointer (some ⟨w.heap.size, 0, none⟩)], .func (.func 186) #[] #[.pointer (some ⟨(w.heap.size + 3), 0, none⟩), .pointer (some ⟨w.heap.size, 0, none⟩)]]) (results_box Tryz.results124 _ _ (w.heap.size + 4) rfl b5 Tryz.underlying137 rfl HI.out) rfl ⟨_, w.heap.size, w.heap.size + 1, w.heap.size + 2, w.heap.size + 3, w.heap.size + 5, rfl, ⟨rfl, b1, b2, b3, b4, b6, by omega, ?_⟩, hB, Nat.le_of_eq hsz.symm⟩
 have hs2 : _ = _ := hsz
 refine ⟨?_, ?_, ?_, ?_, ?_⟩ <;> exact Nat.lt_of_lt_of_le (by omega) (Nat.le_of_eq hs2.symm)
set_option maxRecDepth 100000 in
theorem fieldAt_item (q off : Nat) (f g h : Fn) (cf cg ch : Array Value) (w : World) :
  Calls Tryz.prog 134 #[.pointer (some ⟨q, off, none⟩), .func f #[] cf, .func g #[] cg, .func h #[] ch] w fun e w' => ∃ vs ba bm bp bg bz, e = .returned (.agg vs.toArray) ∧ FvA w.heap.size w'.heap.size q off (.func f #[] cf) (.func g #[] cg) (.func h #[] ch) 202 203 204 205 85 (itA zeroIt) 207 208 209 210 ba bm bp bg bz w' vs ∧ Below w.heap.size w w' ∧ w.heap.size + 6 ≤ w'.heap.size := by
 have hmf := make_fn
 have HI := hide infoFld
 go_enter Tryz.func134, Tryz.ntmps134
 go_wp2_with fail
 obtain ⟨b1, b2, b3, b4, b5, b6, hB, hsz⟩ := six_boxes w #[.pointer (some ⟨q, off, none⟩)] #[.func f #[] cf] #[.func g #[] cg] #[.func h #[] ch] #[.func (.func 207) #[] #[.pointer (some ⟨w.heap.size, 0, none⟩), .pointer (some ⟨(w.heap.size + 5), 0, none⟩)], .func (.func 208) #[] #[.pointer (some ⟨(w.heap.size + 1), 0, none⟩), .pointer (some ⟨w.heap.size, 0, none⟩)], .func (.func 209) #[] #[.pointer (some ⟨(w.heap.size + 2), 0, none⟩), .pointer (some ⟨w.heap.size, 0, none⟩)], .func (.func 210) #[] #[.pointer (some ⟨(w.heap.size + 3), 0, none⟩), .pointer (some ⟨w.heap.size, 0, none⟩)]] (itA zeroIt) 202 203 204 205 137 85 _ rfl
 refine bodyPost_ret (v := .agg #[.func (.func 207) #[] #[.pointer (some ⟨w.heap.size, 0, none⟩), .pointer (some ⟨(w.heap.size + 5), 0, none⟩)], .func (.func 208) #[] #[.pointer (some ⟨(w.heap.size + 1), 0, none⟩), .pointer (some ⟨w.heap.size, 0, none⟩)], .func (.func 209) #[] #[.pointer (some ⟨(w.heap.size + 2), 0, none⟩), .pointer (some ⟨w.heap.size, 0, none⟩)], .func (.func 210) #[] #[.pointer (some ⟨(w.heap.size + 3), 0, none⟩), .pointer (some ⟨w.heap.size, 0, none⟩)]]) (results_box Tryz.results134 _ _ (w.heap.size + 4) rfl b5 Tryz.underlying137 rfl HI.out) rfl ⟨_, w.heap.size, w.heap.size + 1, w.heap.size + 2, w.heap.size + 3, w.heap.size + 5, rfl, ⟨rfl, b1, b2, b3, b4, b6, by omega, ?_⟩, hB, Nat.le_of_eq hsz.symm⟩
 have hs2 : _ = _ := hsz
 refine ⟨?_, ?_, ?_, ?_, ?_⟩ <;> exact Nat.lt_of_lt_of_le (by omega) (Nat.le_of_eq hs2.symm)
end
end Go.Proofs.YtlegliimgjmphaaGreat
