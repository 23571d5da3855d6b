/-
  The reference's set: place, Has. Own work.
-/
import Derived.Test.YtkdccigcpcchlaaIdColl
import Derived.Test.YtkdccigcpcchlaaIdRef2
namespace Go.Proofs.Ytkdccigcpcchlaa
open Go.RowKit Go.Maps

/-- The reference's set: a variable with a row of names. -/
structure RSet (w : World) (p : Nat) (v : Value) (L : List TxP) : Prop where
  box : Box w p #[v] 85
  own : w.ownsRow 0 35 3 v L.length (rowOf L)
  ok : ∀ t ∈ L, txOk t
theorem row_lt {w : World} {base g : Nat} {e : TypeId} {n : Nat} {v : Value} {xs : List Value} (h : w.ownsRow base e 3 v n xs) (hg : v.ownBlock = some g) : g < w.heap.size := (h.lt g hg).2
theorem row_keep {w w' : World} {S : Nat → Prop} {base : Nat} {e : TypeId} {n : Nat} {v : Value} {xs : List Value} (h : w.ownsRow base e 3 v n xs) (hk : KeepBut S w w') (hg : ∀ g, v.ownBlock = some g → ¬ S g) : w'.ownsRow base e 3 v n xs := by
  obtain ⟨h1, ⟨rfl, h2⟩ | ⟨g, cap, cur, rfl, hb, hc, hr⟩⟩ := h
  · exact ⟨h1, .inl ⟨rfl, h2⟩⟩
  · exact ⟨h1, .inr ⟨g, cap, cur, rfl, hb, (hk.block g (Array.getElem?_eq_some_iff.1 hc).1 (hg g rfl)).trans hc, hr⟩⟩
theorem RSet.keep {S : Nat → Prop} {w w' : World} {p : Nat} {v : Value} {L : List TxP} (h : RSet w p v L) (hk : KeepBut S w w') (hp : ¬ S p) (hg : ∀ g, v.ownBlock = some g → ¬ S g) : RSet w' p v L :=
  ⟨h.box.keep hk hp, row_keep h.own hk hg, h.ok⟩
theorem RSet.below {w w' : World} {p : Nat} {v : Value} {L : List TxP} (h : RSet w p v L) (hB : Below w.heap.size w w') : RSet w' p v L :=
  h.keep (KeepBut.of_below (fun _ => False) hB) id (fun _ _ => id)
theorem RSet.shape {w : World} {p : Nat} {v : Value} {L : List TxP} (h : RSet w p v L) : ∃ a c, v = .slice a L.length c := by
  obtain ⟨_, ⟨rfl, h2⟩ | ⟨g, cap, cur, rfl, _⟩⟩ := h.own
  · exact ⟨none, 0, by rw [h2]⟩
  · exact ⟨_, _, rfl⟩
/-- The cells of the name at place k. -/
theorem row_cells {w : World} {base : Nat} {v : Value} {L : List TxP} (h : w.ownsRow base 35 3 v L.length (rowOf L)) (k : Nat) (hk : k < L.length) :
    ∃ g c, v = .slice (some ⟨g, 0, none⟩) L.length c ∧ g < w.heap.size ∧ w.cell? ⟨g, k * 3, none⟩ = some (.int .u8 L[k].1) ∧ w.cell? ⟨g, k * 3 + 1, none⟩ = some (.int .u32 L[k].2.1) ∧ w.cell? ⟨g, k * 3 + 2, none⟩ = some (.int .u32 L[k].2.2) := by
  obtain ⟨h1, ⟨rfl, h2⟩ | ⟨g, cap, cur, rfl, hb, hc, r1, r2, r3, r4⟩⟩ := h
  · omega
  · have key : ∀ j, j < 3 → w.cell? ⟨g, k * 3 + j, none⟩ = (txCs L[k])[j]? := fun j hj => by
      have e1 : (rowOf L)[k * 3 + j]? = (txCs L[k])[j]? := by
        clear h1 hc r1 r2 r3 r4
        induction L generalizing k with
        | nil => simp at hk
        | cons x r ih =>
          have e : rowOf (x :: r) = txCs x ++ rowOf r := by simp [rowOf]
          rw [e]
          cases k with
          | zero => rw [List.getElem?_append_left (by simp; omega)]; simp
          | succ k =>
            rw [List.getElem?_append_right (by simp; omega)]
            have e3 : (k + 1) * 3 + j - (txCs x).length = k * 3 + j := by simp; omega
            rw [e3]
            have := ih k (by simpa using hk)
            simpa using this
      rw [← r4, List.getElem?_take_of_lt (by omega)] at e1
      rw [← e1]
      simp [World.cell?, hc]
    exact ⟨g, cap, rfl, (Array.getElem?_eq_some_iff.1 hc).1, key 0 (by omega), key 1 (by omega), key 2 (by omega)⟩
/-- Where a name belongs, and whether it is there. -/
def placeF (L : List TxP) (t : TxP) : Nat := (L.takeWhile (fun u => decide (txsF u t < 0))).length
def foundF (L : List TxP) (t : TxP) : Bool := decide (L[placeF L t]? = some t)
theorem placeF_le (L : List TxP) (t : TxP) : placeF L t ≤ L.length := (List.takeWhile_sublist _).length_le
theorem placeF_at (L : List TxP) (t : TxP) (k : Nat) (hk : k ≤ L.length) (h1 : ∀ j (hj : j < k), txsF (L[j]'(by omega)) t < 0) (h2 : ∀ hk : k < L.length, ¬ txsF L[k] t < 0) : placeF L t = k := by
  unfold placeF
  induction L generalizing k with
  | nil => simp at hk; subst hk; rfl
  | cons x r ih =>
    cases k with
    | zero =>
      have := h2 (by simp)
      simp only [List.getElem_cons_zero] at this
      rw [List.takeWhile_cons_of_neg (by simpa using this)]
      rfl
    | succ k =>
      have h3 := h1 0 (by omega)
      simp only [List.getElem_cons_zero] at h3
      rw [List.takeWhile_cons_of_pos (by simpa using h3)]
      rw [List.length_cons, ih k (by simpa using hk) (fun j hj => by have := h1 (j + 1) (by omega); simpa using this) (fun hk => by have := h2 (by simpa using hk); simpa using this)]
set_option maxRecDepth 100000 in
set_option maxHeartbeats 3200000 in
theorem place_any (p : Nat) (v : Value) (L : List TxP) (t : TxP) (ht : txOk t) (w : World) (h : RSet w p v L) (hl : L.length ≤ 1000) :
    Calls Try.prog 74 #[.pointer (some ⟨p, 0, none⟩), txV t] w fun e w' => e = .returned (.tuple #[.int .i64 (placeF L t : Nat), .bool (foundF L t)]) ∧ Below w.heap.size w w' := by
  have hB0 := (Below.refl w.heap.size w).alloc (Nat.le_refl _) (.cells #[.int .u8 t.1, .int .u32 t.2.1, .int .u32 t.2.2] 35)
  have HX0 := hide (box_new w #[.int .u8 t.1, .int .u32 t.2.1, .int .u32 t.2.2] 35)
  have HB0 := hide hB0
  have H0 := hide (h.below hB0)
  have hpl := h.box.lt
  obtain ⟨av, cv, hv⟩ := h.shape
  subst hv
  clear h hB0
  go_enter Try.func74, Try.ntmps74
  obtain ⟨ta, tb, tc⟩ := t
  simp only [txV] at *
  go_wp2_with fail
  go_loopw [6] (fun i wr => ∃ k : Nat, k ≤ L.length ∧ i = .int .i64 k ∧ Hid (∀ j (hj : j < L.length), j < k → txsF L[j] (ta, tb, tc) < 0) ∧ Hid (Below w.heap.size w wr) ∧ Hid (RSet wr p (.slice av L.length cv) L) ∧ Hid (Box wr w.heap.size #[.int .u8 ta, .int .u32 tb, .int .u32 tc] 35)) (fun i _ => L.length - (intOf i).toNat)
  case atStart => exact ⟨0, by omega, rfl, hide (fun j hj hj0 => by omega), HB0, H0, HX0⟩
  case round =>
    obtain ⟨k, hk, rfl, HJ, HBr, HR, HX⟩ := hrel
    by_cases hlt : k < L.length
    · have d1 : decide ((k : Int) < (L.length : Int)) = true := by simp; omega
      obtain ⟨g, cg, hv, hg, c0, c1, c2⟩ := row_cells HR.out.own k hlt
      cases hv
      have p0 := HR.out.box.cell 0 _ rfl
      have plt := HR.out.box.lt
      obtain ⟨x0, x1, x2⟩ := HX.out.three
      have xl := HX.out.lt
      have hok := HR.out.ok _ (List.getElem_mem hlt)
      obtain ⟨ua, ub, uc, hu⟩ : ∃ a b c, L[k] = (a, b, c) := ⟨_, _, _, rfl⟩
      rw [hu] at c0 c1 c2 hok
      have C := hide (fun w => rtxs_any ua ub uc ta tb tc w hok.1.1 hok.1.2 ht.1.1 ht.1.2)
      have HU := hide hu
      have hd := (Below.refl wr.heap.size wr).drew
      have HRd := hide (HR.out.below hd)
      have HXd := hide (HX.out.belowI hd)
      have HBd := hide (HBr.out.trans (hd.mono HBr.out.size))
      have HRC : Hid (∀ W, RSet W p (.slice (some ⟨g, 0, none⟩) L.length cv) L → W.cell? ⟨p, 0, none⟩ = some (.slice (some ⟨g, 0, none⟩) L.length cv) ∧ W.cell? ⟨g, k * 3, none⟩ = some (.int .u8 ua) ∧ W.cell? ⟨g, k * 3 + 1, none⟩ = some (.int .u32 ub) ∧ W.cell? ⟨g, k * 3 + 2, none⟩ = some (.int .u32 uc) ∧ p < W.heap.size ∧ g < W.heap.size) := hide (fun W hW => by
        obtain ⟨g', cg', hv', hg', e0, e1, e2⟩ := row_cells hW.own k hlt
        cases hv'
        rw [hu] at e0 e1 e2
        exact ⟨hW.box.cell 0 _ rfl, e0, e1, e2, hW.box.lt, hg'⟩)
      clear hu hok hd
      dsimp only at c0 c1 c2
      go_wp2_with fail
      go_region_held (fun w' => w'.cell? ⟨p, 0, none⟩ = some (.slice (some ⟨g, 0, none⟩) L.length cv) ∧ w'.cell? ⟨g, k * 3, none⟩ = some (.int .u8 ua) ∧ w'.cell? ⟨g, k * 3 + 1, none⟩ = some (.int .u32 ub) ∧ w'.cell? ⟨g, k * 3 + 2, none⟩ = some (.int .u32 uc) ∧ w'.cell? ⟨w.heap.size, 0, none⟩ = some (.int .u8 ta) ∧ w'.cell? ⟨w.heap.size, 1, none⟩ = some (.int .u32 tb) ∧ w'.cell? ⟨w.heap.size, 2, none⟩ = some (.int .u32 tc)) (go_keep) (
        (go_at_call 23; refine (C.out _).mono ?_; rintro e w1 ⟨rfl, hB⟩; have HR1 := hide (HRd.out.below hB); have HX1 := hide (HXd.out.belowI hB); have HB1 := hide (HBd.out.trans (hB.mono HBd.out.size)); obtain ⟨y0, y1, y2, y3, y4, y5⟩ := HRC.out _ HR1.out; obtain ⟨z0, z1, z2⟩ := HX1.out.three; have zl := HX1.out.lt; clear hB))
      by_cases hneg : txsF (ua, ub, uc) (ta, tb, tc) < 0
      · have d2 : decide (txsF (ua, ub, uc) (ta, tb, tc) < 0) = true := by simpa using hneg
        go_wp2_with fail
        go_roundw
        case rel =>
          refine ⟨k + 1, hlt, by simp, hide (fun j hj hj0 => ?_), HB1, HR1, HX1⟩
          by_cases hjk : j = k
          · subst hjk; rw [HU.out]; exact hneg
          · exact HJ.out j hj (by omega)
        case measure => simp [intOf]; omega
      · have d2 : decide (txsF (ua, ub, uc) (ta, tb, tc) < 0) = false := by simpa using hneg
        have hpl2 : placeF L (ta, tb, tc) = k := placeF_at L _ k hk (fun j hj => HJ.out j (by omega) hj) (fun _ => by rw [HU.out]; exact hneg)
        have hfd : foundF L (ta, tb, tc) = (ua == ta && ub == tb && uc == tc) := by
          unfold foundF
          rw [hpl2, List.getElem?_eq_getElem hlt, HU.out]
          by_cases h1 : ua = ta <;> by_cases h2 : ub = tb <;> by_cases h3 : uc = tc <;> simp [h1, h2, h3]
        have heq := eql_tx ua ub uc ta tb tc
        have HPL := hide hpl2
        have HFD := hide hfd
        clear hpl2 hfd
        generalize (ua == ta && ub == tb && uc == tc) = q at *
        go_wp2_with fail
        go_quiet (fail)
        go_wp2_with fail
        exact bodyPost_ret (v := .tuple #[.int .i64 (k : Nat), .bool q]) (by simp [results, Try.results74, go_sem]) rfl ⟨by rw [HPL.out, HFD.out], below_drewN HB1.out⟩
    · have d1 : decide ((k : Int) < (L.length : Int)) = false := by simp; omega
      have p0 := HR.out.box.cell 0 _ rfl
      have plt := HR.out.box.lt
      have HPL : Hid (placeF L (ta, tb, tc) = k) := hide (placeF_at L _ k hk (fun j hj => HJ.out j (by omega) hj) (fun h => absurd h hlt))
      have HFD : Hid (foundF L (ta, tb, tc) = false) := hide (by
        unfold foundF
        rw [HPL.out, List.getElem?_eq_none (by omega)]
        simp)
      go_wp2_with fail
      go_quiet (fail)
      go_wp2_with fail
      go_quiet (fail)
      go_wp2_with fail
      exact bodyPost_ret (v := .tuple #[.int .i64 (k : Nat), .bool false]) (by simp [results, Try.results74, go_sem]) rfl ⟨by rw [HPL.out, HFD.out], below_drewN (below_drewN HBr.out)⟩
set_option maxRecDepth 100000 in
theorem rhas_any (p : Nat) (v : Value) (L : List TxP) (t : TxP) (ht : txOk t) (w : World) (h : RSet w p v L) (hl : L.length ≤ 1000) :
    Calls Try.prog 49 #[.pointer (some ⟨p, 0, none⟩), txV t] w fun e w' => e = .returned (.bool (foundF L t)) ∧ Below w.heap.size w w' := by
  have hB0 := (Below.refl w.heap.size w).alloc (Nat.le_refl _) (.cells #[.int .u8 t.1, .int .u32 t.2.1, .int .u32 t.2.2] 35)
  have C := hide (place_any p v L t ht _ (h.below hB0) hl)
  have HB0 := hide hB0
  clear h hB0
  obtain ⟨ta, tb, tc⟩ := t
  simp only [txV] at *
  generalize foundF L (ta, tb, tc) = q at *
  go_enter Try.func49, Try.ntmps49
  go_wp2_with (go_at_call 74; refine C.out.mono ?_; rintro e w1 ⟨rfl, hB⟩; have HB := hide hB; clear hB)
  go_ret
  exact ⟨rfl, HB0.out.trans (HB.out.mono HB0.out.size)⟩
end Go.Proofs.Ytkdccigcpcchlaa
