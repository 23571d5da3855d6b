/-
  Own texts put together: LrAskP, LrPrep, LrDet. Own work.
-/
import Derived.Test.YtiloagmkkhlfjaaGreatG39
import Derived.Test.YtiloagmkkhlfjaaGreatG41
import Derived.Test.YtiloagmkkhlfjaaGreatG10
namespace Go.Proofs.YtiloagmkkhlfjaaGreat
section
open Go.RowKit Go.Maps Classical
def RAsk (may : Bool) (l : List (aS KeyT)) (t : TxN) (tm : Nat) (k : KeyT) (m : Nat) (e : Int) (l' : List (aS KeyT)) (wn : List TxN) (gr : List (cD KeyT)) : Prop :=
 (l' = l ∧ wn = [] ∧ gr = [] ∧ (may = false ∧ e = 1 ∨ may = true ∧ ((aT l t).pr = true ∧ e = 11 ∨ cM l t = none ∧ 64 ≤ l.length ∧ e = 5 ∨ (∃ x, cM l t = some x ∧ x.pr = false ∧ m ≤ x.h k) ∧ e = 0))) ∨
 (may = true ∧ (aT l t).pr = false ∧ (cM l t = none → l.length < 64) ∧ (aT l t).h k < m ∧ e = 0 ∧ wn = dX (bG (cZ l t tm) t (bF k m)) t k ∧ OnR cQ (cY (bG (cZ l t tm) t (bF k m)) wn) gr l')
def AskQ (w : World) (r : Nat) (F : Nat → Prop) (C : Nat) (l : List (aS KeyT)) (tm : Nat) (t : TxN) (k : KeyT) (m : Nat) (vw vg : Value) (er : Int) (w' : World) : Prop :=
 ∃ wn gr l', RAsk (dG tm t k m) l t tm k m er l' wn gr ∧ fP dR w w' r F (C + 1) l' ∧ w'.ownsRow w.heap.size 34 3 vw wn.length (bR txE3 wn) ∧ w'.ownsRow w.heap.size 62 12 vg gr.length (bR gtE gr)
theorem wait_rep {l : List (aS KeyT)} {L : List UsR} {H W W' : List (cD KeyT)} {t : TxN} {k : KeyT} {m : Nat} {g' : cD KeyT} (h : eF l L H W) (hb : dD l) (hi : ∃ u ∈ l, u.tx = t) (hm : m ≠ 0)
  (hw : (∃ i, ∃ hi : i < W.length, W[i].tx = t ∧ W[i].key = k ∧ g' = ⟨t, k, max m W[i].mode⟩ ∧ W' = W.set i g') ∨ ((∀ x ∈ W, ¬ (x.tx = t ∧ x.key = k)) ∧ g' = ⟨t, k, m⟩ ∧ W' = W ++ [⟨t, k, m⟩])) : eF (bG l t (bF k m)) L H W' ∧ g' ∈ W' ∧ g'.tx = t ∧ g'.key = k ∧ W'.length ≤ W.length + 1 := by
 have hus : L = (bG l t (bF k m)).map usR := by
  rw [h.us]
  unfold bG
  rw [List.map_map]
  refine List.map_congr_left fun u _ => ?_
  show usR u = usR (if u.tx = t then bF k m u else u)
  split <;> rfl
 have hh := h.h.upd t (φ := bF k m) (fun _ => rfl) (fun _ _ => rfl)
 rcases hw with ⟨i, hi2, e1, e2, rfl, rfl⟩ | ⟨hno, rfl, rfl⟩
 ·obtain ⟨h1, h2, h3, h4⟩ := h.w.got hb (List.getElem_mem hi2)
  have hp := List.pairwise_iff_getElem.1 h.w.u
  have hlen : i < (W.set i ⟨t, k, max m W[i].mode⟩).length := by rw [List.length_set]; exact hi2
  refine ⟨⟨hus, hh, h.w.put (g := ⟨t, k, max m W[i].mode⟩) (by show max m _ ≠ 0; omega) hi (φ := bF k m) (fun _ => rfl) (fun u hu e => ?_) (fun u k' hk => by show (if k' = k then _ else u.w k') = u.w k'; rw [if_neg hk]) ?_ (fun x => ?_)⟩, List.mem_set hi2 _, rfl, rfl, by rw [List.length_set]; omega⟩
  ·have e : u.tx = t := e
   show (if k = k then max (u.w k) m else u.w k) = max m W[i].mode
   rw [if_pos rfl, ← h3, e1, e2, ← e, bH hb hu]
   omega
  ·rw [List.pairwise_iff_getElem]
   intro a c ha hc hac
   rw [List.getElem_set, List.getElem_set]
   have ha2 : a < W.length := by simpa using ha
   have hc2 : c < W.length := by simpa using hc
   have := hp a c ha2 hc2 hac
   split
   ·rename_i ea
    subst ea
    rw [if_neg (by omega)]
    rw [e1, e2] at this
    exact this
   ·split
    ·rename_i ec
     subst ec
     rw [e1, e2] at this
     exact this
    ·exact this
  ·constructor
   ·intro hx
    obtain ⟨j, hj, rfl⟩ := List.getElem_of_mem hx
    have hj2 : j < W.length := by simpa using hj
    rw [List.getElem_set]
    by_cases ej : i = j
    ·rw [if_pos ej]; exact .inr rfl
    ·rw [if_neg ej]
     refine .inl ⟨List.getElem_mem _, fun e => ?_⟩
     rcases Nat.lt_or_gt_of_ne ej with h5 | h5
     ·exact hp i j hi2 hj2 h5 ⟨by rw [e1]; exact e.1.symm, by rw [e2]; exact e.2.symm⟩
     ·exact hp j i hj2 hi2 h5 ⟨by rw [e1]; exact e.1, by rw [e2]; exact e.2⟩
   ·rintro (⟨hx, hne⟩ | rfl)
    ·obtain ⟨j, hj, rfl⟩ := List.getElem_of_mem hx
     have ej : i ≠ j := fun e => by subst e; exact hne ⟨e1, e2⟩
     have := List.getElem_mem (l := W.set i ⟨t, k, max m W[i].mode⟩) (n := j) (by rw [List.length_set]; exact hj)
     rw [List.getElem_set, if_neg ej] at this
     exact this
    ·exact List.mem_set hi2 _
 ·refine ⟨⟨hus, hh, h.w.put (g := ⟨t, k, m⟩) hm hi (φ := bF k m) (fun _ => rfl) (fun u hu e => ?_) (fun u k' hk => by show (if k' = k then _ else u.w k') = u.w k'; rw [if_neg hk]) ?_ (fun x => ?_)⟩, List.mem_append_right _ List.mem_cons_self, rfl, rfl, by simp⟩
  ·have e : u.tx = t := e
   have h0 := h.w.none hb (t := t) (k := k) rfl hno
   show (if k = k then max (u.w k) m else u.w k) = m
   rw [if_pos rfl]
   rw [← e, bH hb hu] at h0
   omega
  ·refine List.pairwise_append.2 ⟨h.w.u, List.pairwise_singleton _ _, fun a ha c hc => ?_⟩
   rw [List.mem_singleton] at hc
   subst hc
   exact hno a ha
  ·rw [List.mem_append, List.mem_singleton]
   exact ⟨fun hx => hx.elim (fun hx => .inl ⟨hx, hno x hx⟩) .inr, fun hx => hx.elim (fun hx => .inl hx.1) .inr⟩
theorem less_next {l : List (aS KeyT)} {ts : List TxN} {j : Nat} (hj : j < ts.length) : cN (cY l (ts.take j)) ts[j] = cY l (ts.take (j + 1)) := by
 unfold cN cY
 rw [List.filter_filter]
 refine List.filter_congr fun u _ => ?_
 rw [Bool.eq_iff_iff]
 simp only [Bool.and_eq_true, decide_eq_true_eq]
 rw [List.take_succ_eq_append_getElem hj, List.mem_append, List.mem_singleton]
 constructor
 ·rintro ⟨h1, h2⟩ (h | h)
  ·exact h2 h
  ·exact h1 h
 ·intro h
  exact ⟨fun e => h (.inr e), fun e => h (.inl e)⟩
theorem less_in {l : List (aS KeyT)} (hb : dD l) {t : TxN} {k : KeyT} {j : Nat} (hj : j < (dX l t k).length) : ∃ x ∈ cY l ((dX l t k).take j), x.tx = (dX l t k)[j] := by
 obtain ⟨y, hy, _, e⟩ := jA.1 (List.getElem_mem hj)
 refine ⟨y, List.mem_filter.2 ⟨hy, ?_⟩, e⟩
 have hnd : (dX l t k).Nodup := (iP hb _).imp fun {a c} h e => by subst e; exact h.asymm h
 simp only [decide_eq_true_eq]
 rw [e]
 intro hin
 obtain ⟨i, hi, ei⟩ := List.getElem_of_mem hin
 rw [List.length_take] at hi
 rw [List.getElem_take] at ei
 have := (List.pairwise_iff_getElem.1 hnd) i j (by omega) hj (by omega)
 exact this ei
theorem less_b {l : List (aS KeyT)} (hb : dD l) (ts : List TxN) : dD (cY l ts) := eS hb _
abbrev gT (tm : Nat) (t : TxN) : Array Value := #[.int .u32 (tm : Int), .int .u8 (t.1 : Int), .int .u32 (t.2.1 : Int), .int .u32 (t.2.2 : Int)]
theorem buildUs0R (tm : Nat) (t : TxN) (w : World) : (Instr.build 83 #[(0, .agg (gT tm t))]).run Tryz.prog w = .ok (.agg (urA ⟨t, tm, false⟩)) w := by kernel_rfl
end
section
open Go.RowKit Go.Maps Classical
def RPrep (l : List (aS KeyT)) (t : TxN) (er : Int) (l' : List (aS KeyT)) (gr : List (cD KeyT)) : Prop :=
 (l' = l ∧ gr = [] ∧ (cM l t = none ∧ er = 6 ∨ ∃ x, cM l t = some x ∧ (∃ k, x.w k ≠ 0) ∧ er = 11)) ∨ ∃ x, cM l t = some x ∧ (∀ k, x.w k = 0) ∧ er = 0 ∧ OnR cQ (bG l t cK) gr l'
def PrepQ (w : World) (r : Nat) (F : Nat → Prop) (C : Nat) (l : List (aS KeyT)) (t : TxN) (vg : Value) (er : Int) (w' : World) : Prop := ∃ gr l', RPrep l t er l' gr ∧ fP dR w w' r F C l' ∧ w'.ownsRow w.heap.size 62 12 vg gr.length (bR gtE gr)
theorem src_one {α : Type} {enc : α → List Value} {K : Nat} (hl : ∀ x, (enc x).length = K) {w : World} {b c n : Nat} {xs : List α} (h : bI enc w (.slice (some ⟨b, 0, none⟩) n c) xs) {i s : Nat} (hi : i < xs.length) (hs : s < K) (y : α) (u : Value) (hy : enc y = (enc xs[i]).set s u) (hc0 : (w.cell? ⟨b, i * K + s, none⟩).isSome = true) :
  bI enc (w.setCell ⟨b, i * K + s, none⟩ u) (.slice (some ⟨b, 0, none⟩) n c) (xs.set i y) := by
 obtain ⟨ao, c', e, h1, h2, h3, h4⟩ := h
 cases e
 refine ⟨_, c, by rw [List.length_set], by rw [List.length_set]; exact h1, h2, fun e => (by cases e), fun _ => ?_⟩
 obtain ⟨b', o', e, hb, hc⟩ := h4 (fun e => by rw [e] at hi; simp at hi)
 cases e
 refine ⟨b, 0, rfl, by simpa using hb, fun j v hv => ?_⟩
 have hlen := gY hl (xs.set i y)
 have hj := (List.getElem?_eq_some_iff.1 hv).1
 rw [hlen, List.length_set] at hj
 have hK : 0 < K := by omega
 have hq : j / K < xs.length := Nat.div_lt_of_lt_mul (by rw [Nat.mul_comm]; exact hj)
 have hr : j % K < K := Nat.mod_lt _ hK
 have hjq : j = j / K * K + j % K := by rw [Nat.mul_comm]; exact (Nat.div_add_mod j K).symm
 have hv2 : (bR enc (xs.set i y))[j / K * K + j % K]? = some v := by rw [← hjq]; exact hv
 rw [jO hl (by rw [List.length_set]; exact hq) hr, List.getElem_set] at hv2
 by_cases ej : j = i * K + s
 ·have hqi : j / K = i := by rw [ej, Nat.mul_comm, Nat.mul_add_div hK, Nat.div_eq_of_lt hs, Nat.add_zero]
  have hrs : j % K = s := by rw [ej, Nat.mul_comm, Nat.mul_add_mod, Nat.mod_eq_of_lt hs]
  rw [if_pos hqi.symm, hrs, hy, List.getElem?_set_self (by rw [hl]; exact hs)] at hv2
  cases hv2
  rw [ej, Nat.zero_add]
  exact World.cell?_setCell_same' _ _ _ hc0
 ·rw [World.cell?_setCell_other _ _ _ _ (by intro hh; have := congrArg Addr.off hh; simp at this; exact ej (by omega))]
  refine hc j v ?_
  rw [hjq, jO hl hq hr]
  by_cases e : i = j / K
  ·rw [if_pos e, hy, List.getElem?_set_ne (by intro e2; apply ej; rw [hjq, ← e, ← e2])] at hv2
   rw [← hv2]
   congr 1
   simp [e]
  ·rw [if_neg e] at hv2
   exact hv2
theorem iU.put0' {w wf : World} {r : Nat} {vL vH vW : Value} {L : List UsR} {H W : List (cD KeyT)} (h : iU w r vL vH vW L H W) (hB : Below w.heap.size w wf) {v : Value} {L' : List UsR} (hs : bI urE wf v L') (hv : ∀ g, v.ownBlock = some g → w.heap.size ≤ g ∧ g < wf.heap.size) : dC w (wf.setCell ⟨r, 0, none⟩ v) r vL vH vW v vH vW L' H W := by
 have hks : aC (fun k => k = r) wf (wf.setCell ⟨r, 0, none⟩ v) := (aC.refl (fun k => k = r) wf).setCell (p := ⟨r, 0, none⟩) (.inl rfl) _
 have hpw := h.box.lt
 have hf := h.below hB
 have hn : ∀ g, dQ vL vH vW g → g ≠ r := fun g e => (h.far g e).2
 refine ⟨⟨(h.box.belowI hB).set (i := 0) (v := v), hs.keep hks (fun g e e2 => by have := (hv g e).1; omega), hf.sH.keep hks (fun g e e2 => hn g (.inr (.inl e)) e2), hf.sW.keep hks (fun g e e2 => hn g (.inr (.inr e)) e2), ?_⟩, (aC.of_below (fun k => k = r) hB).trans hks (fun _ _ h => h), ?_⟩
 ·rintro k (e | e)
  ·have h1 := hv k e
   exact ⟨by simpa using h1.2, by omega⟩
  ·have h1 := hf.far k (.inr e)
   exact ⟨by simpa using h1.1, h1.2⟩
 ·rintro k (e | e)
  ·exact .inr (hv k e).1
  ·exact .inl (.inr e)
theorem prep_rep {l : List (aS KeyT)} {H W : List (cD KeyT)} (h : eF l (l.map usR) H W) (hb : dD l) {x : aS KeyT} (hx : x ∈ l) {ka : Nat} (hka : ka < (l.map usR).length) (hg : (l.map usR)[ka] = usR x) : eF (bG l x.tx cK) ((l.map usR).set ka ⟨x.tx, x.tm, true⟩) (H.filter fun g => decide (g.tx ≠ x.tx) || decide (g.mode = 2)) W := by
 refine ⟨?_, ⟨h.h.u.filter _, fun t k n => ?_⟩, h.w.upd x.tx (fun _ => rfl) (fun _ _ => rfl)⟩
 ·refine List.ext_getElem (by simp [bG]) fun j hj1 hj2 => ?_
  have hj : j < l.length := by simpa [bG] using hj2
  rw [List.getElem_set]
  have hkl : ka < l.length := by simpa using hka
  have hg2 : usR l[ka] = usR x := by simpa using hg
  have hkx : l[ka].tx = x.tx := congrArg UsR.tx hg2
  have hR : ((bG l x.tx cK).map usR)[j] = usR (if l[j].tx = x.tx then cK l[j] else l[j]) := by simp [bG]
  rw [hR, List.getElem_map]
  by_cases e : ka = j
  ·subst e
   rw [if_pos rfl, if_pos hkx]
   have := cR hb.rise (List.getElem_mem hkl) hx hkx
   rw [this]
   rfl
  ·rw [if_neg e, if_neg (fun e2 => e ?_)]
   have hp := List.pairwise_iff_getElem.1 hb.rise
   rcases Nat.lt_trichotomy ka j with h1 | h1 | h1
   ·have := hp ka j hkl hj h1
    rw [hkx, e2, (fR _ _).2 rfl] at this
    omega
   ·exact h1
   ·have := hp j ka hj hkl h1
    rw [hkx, e2, (fR _ _).2 rfl] at this
    omega
 ·rw [List.mem_filter, h.h.m]
  constructor
  ·rintro ⟨⟨hn, u, hu, e1, e2⟩, hc⟩
   have hc : t ≠ x.tx ∨ n = 2 := by simpa using hc
   refine ⟨hn, _, dE.2 ⟨u, hu, rfl⟩, ?_, ?_⟩
   ·split
    ·exact e1
    ·exact e1
   ·split
    ·rename_i e
     have h2 : n = 2 := hc.resolve_left (fun h => h (by rw [← e1, e]))
     show (if u.h k = 1 then 0 else u.h k) = n
     rw [e2, h2]
     rfl
    ·exact e2
  ·rintro ⟨hn, y, hy, e1, e2⟩
   obtain ⟨u, hu, rfl⟩ := dE.1 hy
   by_cases e : u.tx = x.tx
   ·rw [if_pos e] at e1 e2
    have e2 : (if u.h k = 1 then 0 else u.h k) = n := e2
    have h2 := (hb.oks u hu).2.2.1 k
    have h3 : u.h k = n ∧ n = 2 := by
     by_cases h1 : u.h k = 1
     ·rw [if_pos h1] at e2; omega
     ·rw [if_neg h1] at e2; omega
    exact ⟨⟨hn, u, hu, e1, h3.1⟩, by simp [h3.2]⟩
   ·rw [if_neg e] at e1 e2
    exact ⟨⟨hn, u, hu, e1, e2⟩, by have : t ≠ x.tx := (fun h => e (by rw [e1, h])); simp [this]⟩
theorem prep_bR {l : List (aS KeyT)} (hb : dD l) (t : TxN) : dD (bG l t cK) := i9 hb _ _ (fun u hu => ⟨rfl, rfl, fun k => by
 show (if u.h k = 1 then 0 else u.h k) ≤ 2
 have := (hb.oks u hu).2.2.1 k
 split <;> omega, (hb.oks u hu).2.2.2⟩)
set_option maxRecDepth 100000 in
set_option maxHeartbeats 6400000 in
theorem rprepare_any15 (r C : Nat) (F : Nat → Prop) (l : List (aS KeyT)) (t : TxN) (w : World) (h : dR w r F C l) (hC : C ≤ 10000) :
  Calls Tryz.prog 28 #[.pointer (some ⟨r, 0, none⟩), aV t] w fun e w' => ∃ vg er, e = .returned (.tuple #[.agg #[.slice none 0 0, vg], .int .i64 er]) ∧ PrepQ w r F C l t vg er w' := by
 have hA0 := aE w (.cells #[.int .u8 (t.1 : Int), .int .u32 (t.2.1 : Int), .int .u32 (t.2.2 : Int)] 34)
 have hA1 := aE (w.alloc (.cells #[.int .u8 (t.1 : Int), .int .u32 (t.2.1 : Int), .int .u32 (t.2.2 : Int)] 34)) (.cells #[.slice none 0 0, .slice none 0 0] 50)
 have hB0 := hA0
 have hB1 := hB0.trans (hA1.mono hB0.size)
 have HXp3 : Hid (bZ ((w.alloc (.cells #[.int .u8 (t.1 : Int), .int .u32 (t.2.1 : Int), .int .u32 (t.2.2 : Int)] 34)).alloc (.cells #[.slice none 0 0, .slice none 0 0] 50)) (w.heap.size) #[.int .u8 (t.1 : Int), .int .u32 (t.2.1 : Int), .int .u32 (t.2.2 : Int)] 34) := aA ((aN w #[.int .u8 (t.1 : Int), .int .u32 (t.2.1 : Int), .int .u32 (t.2.2 : Int)] 34).belowI hA1)
 have HXp4 : Hid (bZ ((w.alloc (.cells #[.int .u8 (t.1 : Int), .int .u32 (t.2.1 : Int), .int .u32 (t.2.2 : Int)] 34)).alloc (.cells #[.slice none 0 0, .slice none 0 0] 50)) (w.heap.size + 1) #[.slice none 0 0, .slice none 0 0] 50) := aA (by have := aN (w.alloc (.cells #[.int .u8 (t.1 : Int), .int .u32 (t.2.1 : Int), .int .u32 (t.2.2 : Int)] 34)) #[.slice none 0 0, .slice none 0 0] 50; simpa using this)
 obtain ⟨W1, hw1⟩ : ∃ W1, W1 = ((w.alloc (.cells #[.int .u8 (t.1 : Int), .int .u32 (t.2.1 : Int), .int .u32 (t.2.2 : Int)] 34)).alloc (.cells #[.slice none 0 0, .slice none 0 0] 50)) := ⟨_, rfl⟩
 obtain ⟨p3, hp3⟩ : ∃ p3, p3 = w.heap.size := ⟨_, rfl⟩
 obtain ⟨p4, hp4⟩ : ∃ p4, p4 = w.heap.size + 1 := ⟨_, rfl⟩
 rw [← hw1] at HXp3 HXp4 hB1
 rw [← hp3] at HXp3
 rw [← hp4] at HXp4
 have HW1 := aA hw1
 have HEp3 := aA hp3
 have HEp4 := aA hp4
 have HB := aA hB1
 have HNp3 : Hid (w.heap.size ≤ p3 ∧ p3 < W1.heap.size) := aA ⟨by omega, HXp3.out.lt⟩
 have HNp4 : Hid (w.heap.size ≤ p4 ∧ p4 < W1.heap.size) := aA ⟨by omega, HXp4.out.lt⟩
 clear hw1 hA0 hB0 hA1 hB1 hp3 hp4
 have HR0 := aA h
 obtain ⟨vL, vH, vW, L, H, W, hT, hrep, hb, hcc, hF⟩ := h
 obtain rfl := hrep.us
 have HT := aA (hT.below HB.out)
 have hlen : (l.map usR).length ≤ 100 := by rw [List.length_map]; have := hb.few; omega
 have CF := aA (dZ r vL vH vW _ H W t W1 HT.out hlen)
 have hb0 := lD
 have hb1 := buildOut1R
 have HN3 : Hid (∀ k, F k → k ≠ p3 ∧ k ≠ p4) := aA (fun k hk => by have h1 := rl_lt HR0.out k hk; have h2 := HNp3.out.1; have h3 := HNp4.out.1; omega)
 obtain ⟨x0, x1, x2⟩ := HXp3.out.three
 cases hu : cM l t with
 | none =>
  rw [plU_no hu] at CF
  have HU := aA hu
  clear hT hrep hb hcc hF hlen hu
  go_enter Tryz.func28, Tryz.ntmps28
  go_wp2_with fail
  rw [← HW1.out, ← HEp4.out, ← HEp3.out]
  refine CF.out.mono ?_
  rintro e W2 ⟨rfl, hB2⟩
  have HB2 := aA (HB.out.trans (hB2.mono HB.out.size))
  have HX4 := aA (HXp4.out.belowI hB2)
  clear hB2 CF
  go_wp2_with (refine aP rfl rfl _ _ rfl p4 rfl (cs' := jL) rfl HX4.out rfl bM (by simp [Value.oneCell']) ?_; intro w4 hb4 hk4; have HX5 := aA hb4; have HK4 := aA hk4; clear hb4 hk4)
  exact bodyPost_ret (v := .tuple #[.agg jL, .int .i64 6]) (bB Tryz.results28 _ _ p4 rfl rfl HX5.out Tryz.underlying50 rfl bM) rfl ⟨_, _, rfl, [], l, .inl ⟨rfl, rfl, .inl ⟨HU.out, rfl⟩⟩, rd_same HR0.out (HB2.out.trans (HK4.out.below HB2.out.size (fun k e => by rw [e]; exact HNp4.out.1))), World.ownsRow_nil _ _ _ _⟩
 | some x =>
  obtain ⟨hx, ext⟩ := (bT hb).1 hu
  subst ext
  obtain ⟨ka, hk1, hka, hkg⟩ := plU_us hb hx
  rw [hk1] at CF
  have HU := aA hu
  have HGX : Hid (aT l x.tx = x) := aA (bH hb hx)
  have CWA : Hid (∀ V, iU V r vL vH vW (l.map usR) H W → Calls Tryz.prog 20 #[.pointer (some ⟨r, 0, none⟩), aV x.tx] V fun e w' => ∃ B, e = .returned (.bool B) ∧ (B = true ↔ ∃ k, x.w k ≠ 0) ∧ Below V.heap.size V w') := aA (fun V hV => by
   have := rwaits_any15 r vL vH vW _ l H W x.tx V hV hrep.w hb (by omega)
   rw [HGX.out] at this
   exact this)
  have HREP := aA (prep_rep hrep hb hx hka hkg)
  have HLB2 := aA (prep_bR hb x.tx)
  have HCC := aA hcc
  have HF := aA hF
  have HKG : Hid (∃ hk : ka < (l.map usR).length, (l.map usR)[ka] = usR x) := aA ⟨hka, hkg⟩
  have hka0 : ¬ (ka : Int) < 0 := by omega
  have HRW : Hid (r < w.heap.size) := aA hT.box.lt
  obtain ⟨NL, hNL⟩ : ∃ NL, NL = (l.map usR).length := ⟨_, rfl⟩
  rw [← hNL] at hlen
  have HNL := aA hNL
  have hkaN : ka < NL := by rw [hNL]; exact hka
  clear hT hrep hb hcc hF hu hx hk1 hka hkg hNL
  go_enter Tryz.func28, Tryz.ntmps28
  go_wp2_with fail
  rw [← HW1.out, ← HEp4.out, ← HEp3.out]
  refine CF.out.mono ?_
  rintro e W2 ⟨rfl, hB2⟩
  have HB12 := aA hB2
  have HX3 := HXp3.out.belowI hB2
  obtain ⟨y0, y1, y2⟩ := HX3.three
  clear hB2 CF x0 x1 x2 HX3
  go_wp2_with fail
  refine (CWA.out W2 (HT.out.below HB12.out)).mono ?_
  rintro e W3 ⟨B, rfl, hB, hB3⟩
  have HBI := aA hB
  have HB13 := aA (HB12.out.trans (hB3.mono HB12.out.size))
  clear hB hB3 CWA y0 y1 y2
  cases B with
  | true =>
   have HW := aA (HBI.out.1 rfl)
   have HX4 := aA (HXp4.out.belowI HB13.out)
   have HB2 := aA (HB.out.trans (HB13.out.mono HB.out.size))
   go_wp2_with (refine aP rfl rfl _ _ rfl p4 rfl (cs' := jL) rfl HX4.out rfl bM (by simp [Value.oneCell']) ?_; intro w4 hb4 hk4; have HX5 := aA hb4; have HK4 := aA hk4; clear hb4 hk4)
   exact bodyPost_ret (v := .tuple #[.agg jL, .int .i64 11]) (bB Tryz.results28 _ _ p4 rfl rfl HX5.out Tryz.underlying50 rfl bM) rfl ⟨_, _, rfl, [], l, .inl ⟨rfl, rfl, .inr ⟨x, HU.out, HW.out, rfl⟩⟩, rd_same HR0.out (HB2.out.trans (HK4.out.below HB2.out.size (fun k e => by rw [e]; exact HNp4.out.1))), World.ownsRow_nil _ _ _ _⟩
  | false =>
   have HW0 : Hid (∀ k, x.w k = 0) := aA (fun k => by
    by_cases h0 : x.w k = 0
    ·exact h0
    ·have := HBI.out.2 ⟨k, h0⟩
     cases this)
   have HT3 := aA (HT.out.below HB13.out)
   obtain ⟨aL, cL, hvL, _, _⟩ := HT3.out.sL.shape
   subst hvL
   have HS3 := aA HT3.out.sL
   have m1 : W3.cell? ⟨r, 0, none⟩ = some (.slice aL NL cL) := by rw [HNL.out]; exact HT3.out.c0
   have HSW : Hid (bI urE W3 (.slice aL NL cL) (l.map usR)) := aA (by rw [HNL.out]; exact HS3.out)
   go_wp2_with (first
    | (at_builtin; refine dS eJ _ rfl _ _ rfl W3.heap.size (.slice none 0 0) _ [] (l.map usR) rfl (World.ownsRow_nil _ _ _ _) rfl HSW.out (fun z _ => ur_one _) (by rw [← HNL.out]; simp; omega) (Nat.le_refl _) ?_; intro v6 w6 ho6 hg6 _; rw [List.nil_append] at ho6; have HR6 := aA (bI.of_own ho6); rw [← HNL.out] at ho6; have HO6 := aA ho6; have HB6 : Hid (Below W3.heap.size W3 w6) := aA ((Below.refl _ _).grown hg6 (Nat.le_refl _) (fun j hj => by cases hj)); clear ho6 hg6; obtain ⟨gb, cb, hv6, hgb⟩ := row_some HO6.out (by omega); subst hv6; have HGB := aA hgb; have hth := there_own (i := ka) HO6.out hkaN 4 (by decide); obtain ⟨c4, hc4⟩ := Option.isSome_iff_exists.1 hth.1; have hf4 := hth.2; have hgl := row_lt HR6.out (by rw [← HNL.out]; omega); have HC4 := aA hth.1; have h6 := HT3.out.below HB6.out; have m6 := h6.c0; have mf6 := h6.box.frozen 0; have ml6 := h6.box.lt; have hrg : r ≠ gb := (by have := HT3.out.box.lt; omega); have hgr : gb ≠ r := hrg.symm; clear hth hgb h6))
   have hput := HT3.out.put0' (HB6.out.trans (((aC.refl (fun j => j = gb) w6).setCell (p := ⟨gb, ka * 5 + 4, none⟩) (.inl rfl) (.bool true)).below HB6.out.size (fun j e => by rw [e]; exact HGB.out))) (v := .slice (some ⟨gb, 0, none⟩) NL cb) (L' := (l.map usR).set ka ⟨x.tx, x.tm, true⟩) (by obtain ⟨hk1, hk2⟩ := HKG.out; exact src_one eJ.len HR6.out hk1 (by decide) _ _ (by rw [hk2]; rfl) HC4.out) (fun q e => by cases e; exact ⟨HGB.out, by simpa using hgl⟩)
   have HP8 := aA hput
   have HX38 : Hid (bZ ((w6.setCell ⟨gb, ka * 5 + 4, none⟩ (.bool true)).setCell ⟨r, 0, none⟩ (.slice (some ⟨gb, 0, none⟩) NL cb)) p3 #[.int .u8 (x.tx.1 : Int), .int .u32 (x.tx.2.1 : Int), .int .u32 (x.tx.2.2 : Int)] 34) := aA ((((HXp3.out.belowI HB13.out).belowI HB6.out).keep ((aC.refl (fun j => j = gb) w6).setCell (p := ⟨gb, ka * 5 + 4, none⟩) (.inl rfl) (.bool true)) (fun e => by have h1 := HGB.out; have h2 := HNp3.out.2; have h3 := HB13.out.size; omega)).keep ((aC.refl (fun j => j = r) _).setCell (p := ⟨r, 0, none⟩) (.inl rfl) _) (fun e => by have h1 := HNp3.out.1; have h2 := HRW.out; omega))
   clear hput hc4 hf4 hgl HC4 m6 mf6 ml6 hrg hgr HR6 HO6 m1
   generalize (w6.setCell ⟨gb, ka * 5 + 4, none⟩ (.bool true)).setCell ⟨r, 0, none⟩ (.slice (some ⟨gb, 0, none⟩) NL cb) = w8 at *
   obtain ⟨aH, cap, hvH, _, _⟩ := HP8.out.t.sH.shape
   subst hvH
   obtain ⟨N, hN⟩ : ∃ N, N = H.length := ⟨_, rfl⟩
   have HL := aA hN
   have HSH : Hid (bI gtE w8 (.slice aH N cap) H) := aA (by rw [hN]; exact HP8.out.t.sH)
   have HC1 : Hid (∀ V, Below w8.heap.size w8 V → V.cell? ⟨r, 1, none⟩ = some (.slice aH N cap)) := aA (fun V hV => by rw [hN]; exact (HP8.out.t.below hV).c1)
   have hfew : N ≤ 10000 := by have := HCC.out; omega
   obtain ⟨P, hP⟩ : ∃ P : cD KeyT → Bool, P = fun g => decide (g.tx ≠ x.tx) || decide (g.mode = 2) := ⟨_, rfl⟩
   have HP : Hid (∀ y, P y = (decide (y.tx ≠ x.tx) || decide (y.mode = 2))) := aA (fun y => by rw [hP])
   rw [← hP] at HREP
   clear hN hP
   go_loopg [8, 9] N (fun gf o i wr => ∃ (k n : Nat) (ys : List (cD KeyT)) (ax : Option Addr) (cx : Nat), k + gf = N ∧ o = .slice ax n cx ∧ i = .int .i64 k ∧ Hid (ys = (H.take k).filter P) ∧ Hid (n = ys.length) ∧ n ≤ k ∧ Hid (wr.ownsRow w8.heap.size 62 12 (.slice ax n cx) n (bR gtE ys)) ∧ Hid (Below w8.heap.size w8 wr))
   case atStart => exact ⟨0, 0, [], none, 0, by omega, rfl, rfl, aA (by simp), aA rfl, Nat.zero_le _, aA (World.ownsRow_nil _ _ _ _), aA (Below.refl _ _)⟩
   case round =>
    obtain ⟨k, n, ys, ax, cx, hk, rfl, rfl, HY, HN, hnk, HO, HB2⟩ := hrel
    have m1 := HC1.out wr HB2.out
    cases gk with
    | succ gf =>
     have hkI : (k : Int) < (N : Int) := by omega
     have hkn : k < H.length := by rw [← HL.out]; omega
     have HBq := aA (fun m => HB2.out.trans ((aU wr m).mono HB2.out.size))
     obtain ⟨en, b, off, hao, hbl, hc⟩ := (HSH.out.below HB2.out).at dJ.len hkn
     cases hao
     have r0 := hc 0 _ rfl
     have r1 := hc 1 _ rfl
     have r2 := hc 2 _ rfl
     have r11 := hc 11 _ rfl
     rw [Nat.add_zero] at r0
     have hq := fun V => neq_txR H[k].tx x.tx V
     have HRg : Hid (∀ m, (wr.drewN m).rangeAt b (off + k * 12) (gtE H[k])) := aA (fun m j v hv => ((aU wr m).cell (p := ⟨b, off + k * 12 + j, none⟩) hbl).trans (hc j v hv))
     obtain ⟨x0, x1, x2⟩ := (HX38.out.belowI HB2.out).three
     have HFT := aA (filter_take P H hkn)
     have HPK := aA (HP.out H[k])
     have HCq := aA (fun m => HC1.out _ (HBq.out m))
     generalize H[k] = y at *
     clear hc en hbl
     by_cases e : y.tx = x.tx
     ·have hd : (!decide (y.tx = x.tx)) = false := by simp [e]
      rw [hd] at hq
      by_cases e2 : y.mode = 2
      ·have HY2 : Hid (ys ++ [y] = (H.take (k + 1)).filter P) := aA (by rw [HFT.out, HPK.out, HY.out]; simp [e2])
       have hm2 : ((y.mode : Int) == 2) = true := by rw [e2]; rfl
       have hm3 : (y.mode : Int) = 2 := by rw [e2]; rfl
       clear e e2 hd
       go_wp2_with fail
       go_quiet (fail)
       have HRq := aA (HRg.out nq)
       replace HO := aA (aJ HO.out (aC.of_below (fun _ => False) (aU wr nq)) (fun _ _ h => h))
       replace HBq := aA (HBq.out nq)
       have m2 := HCq.out nq
       clear HRg r0 r1 r2 r11 x0 x1 x2 m1 HCq
       generalize wr.drewN nq = wq at *
       have HAL := aA (aE wq (.cells (gtE y).toArray 62))
       have HWS := aA HBq.out.size
       have hgl := kY y
       have HOW := aA (aJ HO.out (aC.of_below (fun _ => False) HAL.out) (fun _ _ h => h))
       go_wp2_with (first
        | (refine wpList_load_mid rfl 62 _ rfl b (off + k * 12) rfl (gtE y) _ HRq.out Tryz.underlying62 rfl bS ?_)
        | (at_builtin; rw [jJ]; refine dS dJ _ rfl _ _ rfl w8.heap.size (.slice ax n cx) _ ys [y] rfl (by rw [← HN.out]; exact HOW.out) rfl (dK (enc := gtE) wq y _ (by simp) 62) (fun z hz => by simp at hz; subst hz; exact gS _) (by rw [← HN.out]; simp; omega) (Nat.le_trans HWS.out HAL.out.size) ?_; intro v4 w4 ho4 hg4 _; rw [List.length_append, ← HN.out, List.length_singleton] at ho4; obtain ⟨a4, c4, hv4, _⟩ := aQ ho4; subst hv4; have HO4 := aA ho4; have HB4 : Hid (Below w8.heap.size w8 w4) := aA ((HBq.out.trans (HAL.out.mono HBq.out.size)).grown hg4 (Nat.le_trans HWS.out HAL.out.size) (fun j hj => (HOW.out.lt j hj).1)); clear ho4 hg4))
       go_roundg gf
       case measure => omega
       case rel => exact ⟨k + 1, n + 1, ys ++ [y], a4, c4, by omega, by first | rfl | go_num, by first | rfl | go_num, HY2, aA (by rw [List.length_append, ← HN.out]; rfl), by omega, HO4, HB4⟩
      ·have HY2 : Hid (ys = (H.take (k + 1)).filter P) := aA (by rw [HFT.out, HPK.out, HY.out]; simp [e, e2])
       have hm2 : ((y.mode : Int) == 2) = false := by rw [beq_eq_false_iff_ne]; omega
       have hm3 : ¬ (y.mode : Int) = 2 := by omega
       clear e e2 hd
       go_wp2_with fail
       go_quiet (fail)
       go_wp2_with fail
       go_roundg gf
       case measure => omega
       case rel => exact ⟨k + 1, n, ys, ax, cx, by omega, by first | rfl | go_num, by first | rfl | go_num, HY2, HN, by omega, aA (aJ HO.out (aC.of_below (fun _ => False) (aU wr _)) (fun _ _ h => h)), aA (HBq.out _)⟩
     ·have HY2 : Hid (ys ++ [y] = (H.take (k + 1)).filter P) := aA (by rw [HFT.out, HPK.out, HY.out]; simp [e])
      have hd : (!decide (y.tx = x.tx)) = true := by simp [e]
      rw [hd] at hq
      clear e hd
      go_wp2_with fail
      go_quiet (fail)
      have HRq := aA (HRg.out nq)
      replace HO := aA (aJ HO.out (aC.of_below (fun _ => False) (aU wr nq)) (fun _ _ h => h))
      replace HBq := aA (HBq.out nq)
      have m2 := HCq.out nq
      clear HRg r0 r1 r2 r11 x0 x1 x2 m1 HCq
      generalize wr.drewN nq = wq at *
      have HAL := aA (aE wq (.cells (gtE y).toArray 62))
      have HWS := aA HBq.out.size
      have hgl := kY y
      have HOW := aA (aJ HO.out (aC.of_below (fun _ => False) HAL.out) (fun _ _ h => h))
      go_wp2_with (first
       | (refine wpList_load_mid rfl 62 _ rfl b (off + k * 12) rfl (gtE y) _ HRq.out Tryz.underlying62 rfl bS ?_)
       | (at_builtin; rw [jJ]; refine dS dJ _ rfl _ _ rfl w8.heap.size (.slice ax n cx) _ ys [y] rfl (by rw [← HN.out]; exact HOW.out) rfl (dK (enc := gtE) wq y _ (by simp) 62) (fun z hz => by simp at hz; subst hz; exact gS _) (by rw [← HN.out]; simp; omega) (Nat.le_trans HWS.out HAL.out.size) ?_; intro v4 w4 ho4 hg4 _; rw [List.length_append, ← HN.out, List.length_singleton] at ho4; obtain ⟨a4, c4, hv4, _⟩ := aQ ho4; subst hv4; have HO4 := aA ho4; have HB4 : Hid (Below w8.heap.size w8 w4) := aA ((HBq.out.trans (HAL.out.mono HBq.out.size)).grown hg4 (Nat.le_trans HWS.out HAL.out.size) (fun j hj => (HOW.out.lt j hj).1)); clear ho4 hg4))
      go_roundg gf
      case measure => omega
      case rel => exact ⟨k + 1, n + 1, ys ++ [y], a4, c4, by omega, by first | rfl | go_num, by first | rfl | go_num, HY2, aA (by rw [List.length_append, ← HN.out]; rfl), by omega, HO4, HB4⟩
    | zero =>
     obtain rfl : k = N := by omega
     have hz : ¬ ((k : Int) < (k : Int)) := by omega
     have HE : Hid (H.filter P = ys) := aA (by rw [HY.out, HL.out, List.take_length])
     rw [HE.out] at HREP
     have hRx := HP8.out.t.below HB2.out
     have mf := hRx.box.frozen 1
     have ml := hRx.box.lt
     have hput := HP8.out.trans (HP8.out.t.put1 HB2.out (v := .slice ax n cx) (H' := ys) (by rw [← HN.out]; exact HO.out))
     have HYL : Hid (ys.length ≤ H.length) := aA (by rw [HY.out]; exact Nat.le_trans (List.length_filter_le _ _) (by rw [List.length_take]; omega))
     have hld := rl_of HF.out hput HREP.out HLB2.out (C := C) (by have h1 := HYL.out; have h2 := HCC.out; omega)
     obtain ⟨F1, hr1, hs1, hkk, hcomp⟩ := rd_step hld
     have CO := aA (ron_any15 r C F1 _ _ hr1 hC)
     have HCM := aA hcomp
     have HK23 := aA hkk
     clear hput hld hr1 hs1 hcomp hkk hRx
     go_wp2_with fail
     refine CO.out.mono ?_
     rintro e W4 ⟨v, rfl, gr, l', hon, hld, hown⟩
     obtain ⟨av, cv, hv, _⟩ := aQ hown
     subst hv
     obtain ⟨ng, hng⟩ : ∃ ng, ng = gr.length := ⟨_, rfl⟩
     rw [← hng] at hown ⊢
     have HNG := aA hng
     have HLD := aA (rd_before HB13.out (HCM.out W4 _ _ hld))
     have HOW := aA (bQ hown (Nat.le_trans HB13.out.size HK23.out.size))
     have HON := aA hon
     have HK14 : Hid (aC F W1 W4) := aA (by obtain ⟨_, _, hk, _⟩ := HLD.out; exact hk)
     have HX4 := aA (HXp4.out.keep HK14.out (fun e => (HN3.out p4 e).2 rfl))
     clear hon hld hown CO HCM HK23 hng
     go_wp2_with (refine aP rfl rfl _ _ rfl p4 rfl (cs' := #[.slice none 0 0, .slice av ng cv]) rfl HX4.out rfl bM (by simp [Value.oneCell']) ?_; intro w5 hb5 hk5; have HX5 := aA hb5; have HK5 := aA hk5; clear hb5 hk5)
     exact bodyPost_ret (v := .tuple #[.agg #[.slice none 0 0, .slice av ng cv], .int .i64 0]) (bB Tryz.results28 _ _ p4 rfl rfl HX5.out Tryz.underlying50 rfl bM) rfl ⟨_, _, rfl, gr, l', .inr ⟨x, HU.out, HW0.out, rfl, HON.out⟩, rd_box HR0.out HB.out HNp4.out.1 HNp4.out.2 HLD.out HK5.out, by rw [← HNG.out]; exact gW HB.out.size HNp4.out.2 HOW.out HK5.out⟩
end
section
section
variable {K : Type}
structure GoI (l : List (aS K)) (ks : List K) : Prop where
 b : dD l
 m : LkM l
 w : ∀ k, k ∉ ks → eZ l k
theorem goI_mk (ks : List K) {l : List (aS K)} (b : dD l) (m : LkM l) (w : ∀ k, k ∉ ks → eZ l k) : GoI l ks := ⟨b, m, w⟩
theorem drop_go {l : List (aS K)} (h : LkI l) (t : TxN) (ks : List K) (hks : ∀ k, k ∉ ks → (aT l t).h k = 0 ∧ (aT l t).w k = 0) : GoI (cN l t) ks :=
 goI_mk ks (eS h.b _) (filter_m h.m _) (fun k hk => filter_w (h.w k) _ (fun v hv hp => by
  have e : v.tx = t := by simpa using hp
  have := hks k hk
  rw [← e, bH h.b hv] at this
  exact this))
theorem prep_go {l : List (aS K)} (h : LkI l) {x : aS K} (hx : x ∈ l) (hw : ∀ k, x.w k = 0) (ks : List K) (hks : ∀ k, k ∉ ks → x.h k ≠ 1) : GoI (bG l x.tx cK) ks := by
 have hmem : ∀ {v}, v ∈ bG l x.tx cK ↔ (v ∈ l ∧ v.tx ≠ x.tx) ∨ v = cK x := fun {v} => by
  rw [dE]
  constructor
  ·rintro ⟨u, hu, rfl⟩
   by_cases e : u.tx = x.tx
   ·rw [if_pos e, cR h.b.rise hu hx e]; exact .inr rfl
   ·rw [if_neg e]; exact .inl ⟨hu, e⟩
  ·rintro (⟨hv, e⟩ | rfl)
   ·exact ⟨v, hv, by rw [if_neg e]⟩
   ·exact ⟨x, hx, by rw [if_pos rfl]⟩
 have hh : ∀ k, (cK x).h k = if x.h k = 1 then 0 else x.h k := fun k => rfl
 have hsub : ∀ {a : Nat} {k}, cI a ((cK x).h k) → cI a (x.h k) := fun {a k} ha => by
  rw [hh] at ha
  by_cases e : x.h k = 1
  ·rw [if_pos e] at ha; exact absurd rfl ha.2.1
  ·rw [if_neg e] at ha; exact ha
 refine goI_mk ks ?_ ⟨fun u hu v hv e k => ?_, fun u hu k hw' => ?_, fun u hu hp k => ?_, fun u hu v hv k e ha => ?_⟩ (fun k hk u hu h0 => ?_)
 ·refine i9 h.b _ _ (fun u hu => ⟨rfl, rfl, fun k => ?_, (h.b.oks u hu).2.2.2⟩)
  show (if u.h k = 1 then 0 else u.h k) ≤ 2
  have := (h.b.oks u hu).2.2.1 k
  split <;> omega
 ·rcases hmem.1 hu with ⟨hu, eu⟩ | rfl
  ·rcases hmem.1 hv with ⟨hv, ev⟩ | rfl
   ·exact h.m.tog u hu v hv e k
   ·exact fun ha => h.m.tog u hu x hx eu k (hsub ha)
  ·rcases hmem.1 hv with ⟨hv, ev⟩ | rfl
   ·exact fun ha => h.m.tog v hv x hx ev k (hsub ha.symm)
   ·exact absurd rfl e
 ·rcases hmem.1 hu with ⟨hu, eu⟩ | rfl
  ·exact h.m.held u hu k hw'
  ·exact absurd (hw k) hw'
 ·rcases hmem.1 hu with ⟨hu, eu⟩ | rfl
  ·exact h.m.prep u hu hp k
  ·refine ⟨hw k, ?_⟩
   rw [hh]
   split <;> omega
 ·rcases hmem.1 hu with ⟨hu, eu⟩ | rfl
  ·rcases hmem.1 hv with ⟨hv, ev⟩ | rfl
   ·exact h.m.ages u hu v hv k e ha
   ·exact .inl rfl
  ·exact absurd (hw k) ha.1
 ·rcases hmem.1 hu with ⟨hu, eu⟩ | rfl
  ·obtain ⟨v, hv, e, ha⟩ := h.w k u hu h0
   by_cases ev : v.tx = x.tx
   ·have := cR h.b.rise hv hx ev
    subst this
    refine ⟨cK v, hmem.2 (.inr rfl), e, ?_⟩
    have e1 : (cK v).h k = v.h k := by rw [hh, if_neg (hks k hk)]
    rw [e1]
    exact ha
   ·exact ⟨v, hmem.2 (.inl ⟨hv, ev⟩), e, ha⟩
  ·exact absurd (hw k) h0
theorem i6 {l : List (aS K)} {t : TxN} {x : aS K} (h : cM l t = some x) : aT l t = x := by unfold aT; rw [h]; rfl
variable [DecidableEq K]
theorem wound_go {l : List (aS K)} (h : LkI l) {x : aS K} (hx : x ∈ l) (hp : x.pr = false) {k : K} {m : Nat} (hm0 : x.h k < m) (hm2 : m ≤ 2) (ks : List K)
  (hks : ∀ k', k' ∉ ks → k' ≠ k ∧ ∀ y ∈ bG l x.tx (bF k m), y.tx ∈ dX (bG l x.tx (bF k m)) x.tx k → y.h k' = 0 ∧ y.w k' = 0) :
  GoI (cY (bG l x.tx (bF k m)) (dX (bG l x.tx (bF k m)) x.tx k)) ks := by
 have hb2 : dD (bG l x.tx (bF k m)) := i9 h.b _ _ (fun u hu => ⟨rfl, rfl, (h.b.oks u hu).2.2.1, fun k' => by
  show (if k' = k then max (u.w k) m else u.w k') ≤ 2
  have := (h.b.oks u hu).2.2.2 k
  have := (h.b.oks u hu).2.2.2 k'
  split <;> omega⟩)
 have hmem : ∀ {v}, v ∈ bG l x.tx (bF k m) ↔ (v ∈ l ∧ v.tx ≠ x.tx) ∨ v = bF k m x := fun {v} => by
  rw [dE]
  constructor
  ·rintro ⟨u, hu, rfl⟩
   by_cases e : u.tx = x.tx
   ·rw [if_pos e, cR h.b.rise hu hx e]; exact .inr rfl
   ·rw [if_neg e]; exact .inl ⟨hu, e⟩
  ·rintro (⟨hv, e⟩ | rfl)
   ·exact ⟨v, hv, by rw [if_neg e]⟩
   ·exact ⟨x, hx, by rw [if_pos rfl]⟩
 have hgx : aT (bG l x.tx (bF k m)) x.tx = bF k m x := bH hb2 (hmem.2 (.inr rfl))
 have hwk : (bF k m x).w k = max (x.w k) m := by show (if k = k then _ else _) = _; rw [if_pos rfl]
 have hwk' : ∀ {k'}, k' ≠ k → (bF k m x).w k' = x.w k' := fun {k'} e => by show (if k' = k then _ else _) = _; rw [if_neg e]
 have hhx : ∀ k', (bF k m x).h k' = x.h k' := fun _ => rfl
 have hlm : ∀ {v}, v ∈ cY (bG l x.tx (bF k m)) (dX (bG l x.tx (bF k m)) x.tx k) ↔ v ∈ bG l x.tx (bF k m) ∧ v.tx ∉ dX (bG l x.tx (bF k m)) x.tx k := fun {v} => by
  unfold cY
  rw [List.mem_filter]
  simp
 refine goI_mk ks (eS hb2 _) ⟨fun u hu v hv e k' => ?_, fun u hu k' hw' => ?_, fun u hu hpr k' => ?_, fun u hu v hv k' e ha => ?_⟩ (fun k' hk' => ?_)
 ·rcases hmem.1 (hlm.1 hu).1 with ⟨hu, eu⟩ | rfl
  ·rcases hmem.1 (hlm.1 hv).1 with ⟨hv, ev⟩ | rfl
   ·exact h.m.tog u hu v hv e k'
   ·exact h.m.tog u hu x hx eu k'
  ·rcases hmem.1 (hlm.1 hv).1 with ⟨hv, ev⟩ | rfl
   ·exact h.m.tog x hx v hv e k'
   ·exact absurd rfl e
 ·rcases hmem.1 (hlm.1 hu).1 with ⟨hu, eu⟩ | rfl
  ·exact h.m.held u hu k' hw'
  ·by_cases e : k' = k
   ·subst e
    rw [hwk, hhx]
    omega
   ·rw [hwk' e] at hw' ⊢
    exact h.m.held x hx k' hw'
 ·rcases hmem.1 (hlm.1 hu).1 with ⟨hu, eu⟩ | rfl
  ·exact h.m.prep u hu hpr k'
  ·have hp' : x.pr = true := hpr
   rw [hp] at hp'
   cases hp'
 ·rcases hmem.1 (hlm.1 hu).1 with ⟨hu0, eu⟩ | rfl
  ·rcases hmem.1 (hlm.1 hv).1 with ⟨hv, ev⟩ | rfl
   ·exact h.m.ages u hu0 v hv k' e ha
   ·exact h.m.ages u hu0 x hx k' eu ha
  ·rcases hmem.1 (hlm.1 hv).1 with ⟨hv0, ev⟩ | rfl
   ·by_cases ek : k' = k
    ·subst ek
     have hnw := (hlm.1 hv).2
     cases hpv : v.pr with
     | true => exact .inl rfl
     | false =>
      refine .inr ?_
      rcases f5 (u := v) (v := bF k' m x) ev with ho | ho
      ·exact ho
      ·exact absurd (jA.2 ⟨v, (hlm.1 hv).1, ⟨hpv, by rw [hgx]; exact ho, by rw [hgx]; exact ha⟩, rfl⟩) hnw
    ·rw [hwk' ek] at ha
     exact h.m.ages x hx v hv0 k' (fun e2 => ev e2.symm) ha
   ·exact absurd rfl e
 ·obtain ⟨ek, hgone⟩ := hks k' hk'
  refine filter_w ?_ _ (fun v hv hp => hgone v hv (by simpa using hp))
  intro u hu h0
  rcases hmem.1 hu with ⟨hu, eu⟩ | rfl
  ·obtain ⟨v, hv, e, ha⟩ := h.w k' u hu h0
   by_cases ev : v.tx = x.tx
   ·have := cR h.b.rise hv hx ev
    subst this
    refine ⟨bF k m v, hmem.2 (.inr rfl), e, ?_⟩
    rw [hwk' ek]
    exact ha
   ·exact ⟨v, hmem.2 (.inl ⟨hv, ev⟩), e, ha⟩
  ·rw [hwk' ek] at h0
   obtain ⟨v, hv, e, ha⟩ := h.w k' x hx h0
   refine ⟨v, hmem.2 (.inl ⟨hv, e⟩), e, ?_⟩
   rw [hwk' ek]
   exact ha
theorem goI_det {ko : K → K → Int} (hko : ∀ a b, ko a b < 0 → ¬ ko b a < 0) {l l2 : List (aS K)} {ks : List K} {gr2 : List (cD K)} (h : GoI l ks) (hk : ks.Pairwise fun a b => ko a b < 0) (hR : OnR ko l gr2 l2) : gr2 = fX l ks ∧ l2 = gA l ks := on_eq hko ks hk h.b h.m h.w hR
end
theorem kysF_lt (a b : KeyT) (h : cQ a b < 0) : ¬ cQ b a < 0 := by have := fD a b; omega
section
variable {l l' l2 : List (aS KeyT)} {t : TxN} {e e2 : Int} {gr gr2 : List (cD KeyT)}
theorem rel_det (h : LkI l) (hA : RelR cQ l t e l' gr) (hR : RRel l t e2 l2 gr2) : e2 = e ∧ l2 = l' ∧ gr2 = gr := by
 rcases hA with ⟨rfl, rfl, hu, rfl⟩ | ⟨x, ks, hu, rfl, hks, rfl, rfl⟩
 ·rcases hR with ⟨rfl, rfl, _, rfl⟩ | ⟨y, hy, _⟩
  ·exact ⟨rfl, rfl, rfl⟩
  ·rw [hu] at hy; cases hy
 ·rcases hR with ⟨_, _, hy, _⟩ | ⟨y, _, rfl, ho⟩
  ·rw [hu] at hy; cases hy
  ·have h1 := goI_det kysF_lt (drop_go h t ks (fun k hk => by
    rw [i6 hu]
    have : ¬ (x.h k ≠ 0 ∨ x.w k ≠ 0) := fun h0 => hk ((hks.2 k).2 h0)
    omega)) hks.1 ho
   exact ⟨rfl, h1.2, h1.1⟩
theorem prep_det (h : LkI l) (hA : PrepR cQ l t e l' gr) (hR : RPrep l t e2 l2 gr2) : e2 = e ∧ l2 = l' ∧ gr2 = gr := by
 rcases hA with ⟨rfl, rfl, ha⟩ | ⟨x, ks, hu, hw, rfl, hks, rfl, rfl⟩
 ·rcases hR with ⟨rfl, rfl, hr⟩ | ⟨y, hy, hy2, rfl, ho⟩
  ·refine ⟨?_, rfl, rfl⟩
   rcases ha with ⟨hu, rfl⟩ | ⟨x, hu, _, rfl⟩ <;> rcases hr with ⟨hv, rfl⟩ | ⟨y, hv, _, rfl⟩
   ·rfl
   ·rw [hu] at hv; cases hv
   ·rw [hu] at hv; cases hv
   ·rfl
  ·rcases ha with ⟨hu, _⟩ | ⟨x, hu, ⟨k, hk⟩, _⟩
   ·rw [hu] at hy; cases hy
   ·rw [hu] at hy; cases hy
    exact absurd (hy2 k) hk
 ·rcases hR with ⟨rfl, rfl, hr⟩ | ⟨y, hy, _, rfl, ho⟩
  ·rcases hr with ⟨hv, _⟩ | ⟨y, hv, ⟨k, hk⟩, _⟩
   ·rw [hu] at hv; cases hv
   ·rw [hu] at hv; cases hv
    exact absurd (hw k) hk
  ·obtain ⟨hx, ex⟩ := (bT h.b).1 hu
   subst ex
   have h1 := goI_det kysF_lt (prep_go h hx hw ks (fun k hk e => hk ((hks.2 k).2 e))) hks.1 ho
   exact ⟨rfl, h1.2, h1.1⟩
theorem ask_det {may : Bool} {tm m : Nat} {k : KeyT} {wn wn2 : List TxN} (h : LkI l) (ht : TxF t) (htm : tm < 4294967296) (hm : may = true → m ≤ 2) (hA : AskR cQ may l t tm k m e l' wn gr) (hR : RAsk may l t tm k m e2 l2 wn2 gr2) : e2 = e ∧ l2 = l' ∧ wn2 = wn ∧ gr2 = gr := by
 rcases hA with ⟨rfl, rfl, rfl, ha⟩ | ⟨hmay, hpr, hfew, hh, rfl, hwn, ks, hks, rfl, rfl⟩
 ·rcases hR with ⟨rfl, rfl, rfl, hr⟩ | ⟨hmay2, hpr2, hfew2, hh2, _, _, _⟩
  ·refine ⟨?_, rfl, rfl, rfl⟩
   rcases ha with ⟨h1, rfl⟩ | ⟨h1, ⟨h2, rfl⟩ | ⟨h2, h3, rfl⟩ | ⟨⟨x, h2, h3, h4⟩, rfl⟩⟩ <;> rcases hr with ⟨g1, rfl⟩ | ⟨g1, ⟨g2, rfl⟩ | ⟨g2, g3, rfl⟩ | ⟨⟨y, g2, g3, g4⟩, rfl⟩⟩
   all_goals first
    | rfl
    | (rw [h1] at g1; cases g1; done)
    | (rw [h2] at g2; cases g2; done)
    | (rw [dA g2] at h2; cases h2; done)
    | (rw [dA h2] at g2; cases g2; done)
    | (rw [i6 g2, g3] at h2; cases h2; done)
    | (rw [i6 h2, h3] at g2; cases g2; done)
  ·rcases ha with ⟨h1, _⟩ | ⟨_, ⟨h2, _⟩ | ⟨h2, h3, _⟩ | ⟨⟨x, h2, h3, h4⟩, _⟩⟩
   ·rw [h1] at hmay2; cases hmay2
   ·rw [h2] at hpr2; cases hpr2
   ·have := hfew2 h2; omega
   ·rw [i6 h2] at hh2; omega
 ·rcases hR with ⟨rfl, rfl, rfl, hr⟩ | ⟨_, _, _, _, rfl, rfl, ho⟩
  ·rcases hr with ⟨g1, _⟩ | ⟨_, ⟨g2, _⟩ | ⟨g2, g3, _⟩ | ⟨⟨y, g2, g3, g4⟩, _⟩⟩
   ·rw [hmay] at g1; cases g1
   ·rw [hpr] at g2; cases g2
   ·have := hfew g2; omega
   ·rw [i6 g2] at hh; omega
  ·have hl1 : LkI (cZ l t tm) ∧ ∃ x ∈ cZ l t tm, x.tx = t ∧ x.pr = false ∧ x.h k < m := by
    unfold cZ
    cases hu : cM l t with
    | none =>
     rw [Option.isSome_none, if_neg (by simp)]
     refine ⟨new_ok h hu ht htm (hfew hu), _, (bU l _ _).2 (.inl rfl), rfl, rfl, ?_⟩
     rw [dA hu] at hh
     exact hh
    | some x =>
     rw [Option.isSome_some, if_pos rfl]
     obtain ⟨hx, e⟩ := (bT h.b).1 hu
     refine ⟨h, x, hx, e, ?_⟩
     rw [i6 hu] at hpr hh
     exact ⟨hpr, hh⟩
   obtain ⟨hi, x, hx, rfl, hp, hlt⟩ := hl1
   subst hwn
   have h1 := goI_det kysF_lt (wound_go hi hx hp hlt (hm hmay) ks (fun k' hk' => ⟨fun e => hk' ((hks.2 k').2 (.inl e)), fun y hy hw => by
    have : ¬ (y.h k' ≠ 0 ∨ y.w k' ≠ 0) := fun h0 => hk' ((hks.2 k').2 (.inr ⟨y, hy, hw, h0⟩))
    omega⟩)) hks.1 ho
   exact ⟨rfl, h1.2, rfl, h1.1⟩
end
end
end Go.Proofs.YtiloagmkkhlfjaaGreat
