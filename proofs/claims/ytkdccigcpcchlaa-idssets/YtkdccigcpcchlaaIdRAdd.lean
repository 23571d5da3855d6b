/-
  The reference's set: Add, Drop. Own work.
-/
import Derived.Test.YtkdccigcpcchlaaIdRSet
import Derived.BigRegion
import Derived.Laws.AppendOwnNone
namespace Go.Proofs.Ytkdccigcpcchlaa
open Go.RowKit Go.Maps

/-- A slice that reads as these names. -/
def Reads (w : World) (x : Value) (L : List TxP) : Prop := (x = .slice none 0 0 ∧ L = []) ∨ ∃ (b off c : Nat), x = .slice (some ⟨b, off, none⟩) L.length c ∧ b < w.heap.size ∧ ∀ j u, (rowOf L)[j]? = some u → w.cell? ⟨b, off + j, none⟩ = some u
theorem Reads.below {w w' : World} {x : Value} {L : List TxP} {B : Nat} (h : Reads w x L) (hB : Below B w w') (hx : ∀ g, x.ownBlock = some g → g < B) : Reads w' x L := by
  rcases h with h | ⟨b, off, c, rfl, hb, hc⟩
  · exact .inl h
  · exact .inr ⟨b, off, c, rfl, Nat.lt_of_lt_of_le hb hB.size, fun j u hu => (hB.cell (p := ⟨b, off + j, none⟩) (hx b rfl)).trans (hc j u hu)⟩
theorem own_zero {w : World} {b : Nat} {e : TypeId} {size : Nat} {v : Value} {n : Nat} {xs : List Value} (h : w.ownsRow b e size v n xs) : w.ownsRow 0 e size v n xs :=
  ⟨h.1, h.2.imp id (fun ⟨g, cap, cur, h1, _, h3⟩ => ⟨g, cap, cur, h1, Nat.zero_le _, h3⟩)⟩
theorem rowOf_one (t : TxP) : rowOf [t] = txCs t := by simp [rowOf]
theorem rowOf_drop (L : List TxP) (i j : Nat) : (rowOf (L.drop i))[j]? = (rowOf L)[i * 3 + j]? := by
  induction L generalizing i with
  | nil => simp [rowOf]
  | cons x r ih =>
    cases i with
    | zero => simp
    | succ i =>
      have e : rowOf (x :: r) = txCs x ++ rowOf r := by simp [rowOf]
      rw [List.drop_succ_cons, ih, e, List.getElem?_append_right (by simp; omega)]
      congr 1
      simp
      omega
theorem rowOf_take (L : List TxP) (i j : Nat) (u : Value) (h : (rowOf (L.take i))[j]? = some u) : (rowOf L)[j]? = some u := by
  have e : rowOf L = rowOf (L.take i) ++ rowOf (L.drop i) := by rw [← rowOf_append, List.take_append_drop]
  have hlt := (List.getElem?_eq_some_iff.1 h).1
  rw [e, List.getElem?_append_left hlt]
  exact h
theorem rowOf_ones (L : List TxP) : ∀ u ∈ rowOf L, u.oneCell' = true := by
  intro u hu
  unfold rowOf at hu
  obtain ⟨t, _, ht⟩ := List.mem_flatMap.1 hu
  simp at ht
  rcases ht with rfl | rfl | rfl <;> rfl
/-- 'append', under a name that the walk leaves alone. -/
def appR (ats : Array TypeId) (ty : TypeId) (args : Array Value) : Sem Value := Builtin.append_ ats ty args
theorem app_hide (ats : Array TypeId) (ty : TypeId) (args : Array Value) : Builtin.append_ ats ty args = appR ats ty args := rfl
/-- 'append' of names onto a row of one's own. -/
theorem app_any (w : World) (base : Nat) (v x : Value) (L1 L2 : List TxP) (ty : TypeId) (h1 : w.ownsRow base 35 3 v L1.length (rowOf L1)) (h2 : Reads w x L2) (hl : L1.length + L2.length ≤ 2000) (hbase : base ≤ w.heap.size) :
    ∃ v' w', (appR #[83, 83] ty #[v, x]).run Try.prog w = .ok v' w' ∧ w'.ownsRow base 35 3 v' (L1 ++ L2).length (rowOf (L1 ++ L2)) ∧ Below base w w' := by
  obtain ⟨i0, hi, hz0, hz1, hz2⟩ := info_parts infoTxs
  rcases h2 with ⟨rfl, rfl⟩ | ⟨b, off, c, rfl, hb, hc⟩
  · refine ⟨v, w, ?_, by simpa using h1, Below.refl _ _⟩
    exact run_append_owned_none (P := Try.prog) (w := w) base 83 ty 35 i0 3 Try.underlying83 hi v _ _ h1
  · obtain ⟨v', w', hr, ho, hg, _, _⟩ := run_append_own_at (P := Try.prog) w base 83 ty 35 i0 _ 3 12 Try.underlying83 hi hz0 hz1 hz2 rfl (by decide) v _ _ h1 ⟨b, off, none⟩ L2.length c (rowOf L2) (rowOf_length L2) (fun j u hu => by rw [Addr.add_lit]; exact hc j u hu) (rowOf_ones L2) (by unfold maxLen; omega) (by omega) hbase
    refine ⟨v', w', hr, ?_, (Below.refl _ _).grown hg hbase (fun k hk => (h1.lt k hk).1)⟩
    rw [List.length_append, rowOf_append]
    exact ho
/-- The set's row is set anew. -/
theorem rset_put {w w1 wD : World} {p base n : Nat} {old v3 : Value} {L : List TxP} (hp : p < w.heap.size) (hB : Below w.heap.size w w1) (hD : Below w1.heap.size w1 wD) (hb : Box wD p #[old] 85) (ho : wD.ownsRow base 35 3 v3 n (rowOf L)) (hbase : w.heap.size ≤ base) (hn : n = L.length) (hok : ∀ t ∈ L, txOk t) :
    RSet (wD.setCell ⟨p, 0, none⟩ v3) p v3 L ∧ KeepBut (fun k => k = p) w (wD.setCell ⟨p, 0, none⟩ v3) ∧ (∀ g, v3.ownBlock = some g → w.heap.size ≤ g) := by
  subst hn
  have hg : ∀ g, v3.ownBlock = some g → w.heap.size ≤ g := fun g e => Nat.le_trans hbase (ho.lt g e).1
  have hk := (KeepBut.refl (fun k => k = p) wD).setCell (p := ⟨p, 0, none⟩) (.inl rfl) v3
  refine ⟨⟨?_, ?_, hok⟩, ?_, hg⟩
  · have := hb.set (i := 0) (v := v3)
    simpa using this
  · exact own_zero (row_keep ho hk (fun g e hgp => by have := hg g e; omega))
  · exact (KeepBut.of_below (fun k => k = p) (hB.trans (hD.mono hB.size))).trans hk (fun _ _ h => h)
/-- The set behind Add. -/
def insF (L : List TxP) (t : TxP) : List TxP := L.take (placeF L t) ++ [t] ++ L.drop (placeF L t)
attribute [local go_sem ↓] app_hide
set_option maxRecDepth 100000 in
set_option maxHeartbeats 8000000 in
theorem radd_new (p : Nat) (v : Value) (L : List TxP) (t : TxP) (ht : txOk t) (w : World) (h : RSet w p v L) (hl : L.length ≤ 1000) (hf : foundF L t = false) :
    Calls Try.prog 45 #[.pointer (some ⟨p, 0, none⟩), txV t] w fun e w' => e = .returned (.bool true) ∧ ∃ v', RSet w' p v' (insF L t) ∧ KeepBut (fun k => k = p) w w' ∧ (∀ g, v'.ownBlock = some g → w.heap.size ≤ g) := by
  have hB0 := (Below.refl w.heap.size w).alloc (Nat.le_refl _) (.cells #[.int .u8 t.1, .int .u32 t.2.1, .int .u32 t.2.2] 35)
  have C := hide (place_any p v L t ht _ (h.below hB0) hl)
  rw [hf] at C
  have HX0 := hide (box_new w #[.int .u8 t.1, .int .u32 t.2.1, .int .u32 t.2.2] 35)
  have HB0 := hide hB0
  have H0 := hide (h.below hB0)
  have hpl := h.box.lt
  have hple := placeF_le L t
  have HIN : Hid (insF L t = L.take (placeF L t) ++ [t] ++ L.drop (placeF L t)) := hide rfl
  clear h hB0 hf
  generalize placeF L t = i at *
  obtain ⟨ta, tb, tc⟩ := t
  simp only [txV] at *
  go_enter Try.func45, Try.ntmps45
  go_wp2_with (go_at_call 74; refine C.out.mono ?_; rintro e w1 ⟨rfl, hB⟩; have HB := hide hB; clear hB)
  have hB := HB0.out.trans (HB.out.mono HB0.out.size)
  have hs1 := HB.out.size
  rw [World.size_alloc] at hs1
  have H1 := hide (H0.out.below HB.out)
  have HX1 := hide (HX0.out.belowI HB.out)
  have HP1 := hide H1.out.box
  have HOK := hide H1.out.ok
  have HBW := hide hB
  clear hB H0 HX0 C
  have HIO : Hid (∀ u ∈ L.take i ++ [(ta, tb, tc)] ++ L.drop i, txOk u) := hide (fun u hu => by
    simp only [List.mem_append, List.mem_singleton] at hu
    rcases hu with (hu | hu) | hu
    · exact HOK.out u (List.mem_of_mem_take hu)
    · rw [hu]; exact ht
    · exact HOK.out u (List.mem_of_mem_drop hu))
  obtain ⟨hlen, ⟨rfl, hn0⟩ | ⟨g, cap, cur, rfl, _, hcur, r1, r2, r3, r4⟩⟩ := H1.out.own
  · have hL0 : L = [] := List.eq_nil_of_length_eq_zero hn0
    have hi0 : i = 0 := by omega
    subst hi0
    have HR1 : Hid (Reads w1 (.slice none 0 0) (L.take 0)) := hide (.inl ⟨rfl, rfl⟩)
    have HR2 : Hid (Reads w1 (.slice none 0 0) (L.drop 0)) := hide (.inl ⟨rfl, hL0⟩)
    have HG1 : Hid (∀ k, (Value.slice none 0 0).ownBlock = some k → k < w1.heap.size) := hide (fun k hk => by cases hk)
    have HG2 := HG1
    have HPN := hide hn0
    clear hlen H1 hL0 hn0
    have hA := app_any w1.drew w1.heap.size (.slice none 0 0) (.slice none 0 0) [] (L.take 0) 83 (World.ownsRow_nil _ _ _ _) (HR1.out.below ((Below.refl w1.heap.size w1).drew) HG1.out) (by first | (simp; done) | (simp; omega)) (Nat.le_refl _)
    obtain ⟨v1, wA, eA, oA, bA⟩ := hA
    have hA2 := app_any ((w1.alloc (.cells #[.int .u8 ta, .int .u32 tb, .int .u32 tc] 35)).drew) (w1.heap.size + 1) (.slice none 0 0) (.slice none 0 0) [] (L.take 0) 83 (World.ownsRow_nil _ _ _ _) (HR1.out.below (((Below.refl w1.heap.size w1).alloc (Nat.le_refl _) _).drew) HG1.out) (by first | (simp; done) | (simp; omega)) (by simp)
    obtain ⟨v1b, wAb, eAb, oAb, bAb⟩ := hA2
    have sA := bA.size
    have sAb := bAb.size
    simp only [World.size_alloc, World.size_drew] at sA sAb
    rw [List.nil_append] at oA oAb
    have hC := app_any (wA.alloc (.cells #[.int .u8 ta, .int .u32 tb, .int .u32 tc] 35)) w1.heap.size v1 (.slice (some ⟨wA.heap.size, 0, none⟩) 1 1) (L.take 0) [(ta, tb, tc)] 83 (oA.alloc _) (.inr ⟨_, 0, 1, rfl, by simp, fun j u hu => by rw [rowOf_one] at hu; have := cells_news wA (ta, tb, tc) _ rfl j u hu; rw [Addr.add_lit] at this; exact this⟩) (by first | (simp; done) | (simp; omega)) (by first | (simp; done) | (simp; omega))
    obtain ⟨v2, wC, eC, oC, bC⟩ := hC
    have hC2 := app_any wAb (w1.heap.size + 1) v1b (.slice (some ⟨w1.heap.size, 0, none⟩) 1 1) (L.take 0) [(ta, tb, tc)] 83 oAb (.inr ⟨_, 0, 1, rfl, by omega, fun j u hu => by rw [rowOf_one] at hu; have := cells_news w1 (ta, tb, tc) _ rfl j u hu; rw [Addr.add_lit] at this; exact (bAb.cell (p := ⟨w1.heap.size, 0 + j, none⟩) (by simp)).trans this⟩) (by first | (simp; done) | (simp; omega)) (by omega)
    obtain ⟨v2b, wCb, eCb, oCb, bCb⟩ := hC2
    have sC := bC.size
    have sCb := bCb.size
    simp only [World.size_alloc] at sC
    have bAC : Below w1.heap.size w1 wC := ((Below.refl w1.heap.size w1).drew.trans bA).trans (((Below.refl w1.heap.size wA).alloc sA _).trans bC)
    have bACb : Below w1.heap.size w1 wCb := (((Below.refl w1.heap.size w1).alloc (Nat.le_refl _) _).drew).trans ((bAb.trans bCb).mono (by omega))
    have hD := app_any wC w1.heap.size v2 (.slice none 0 0) (L.take 0 ++ [(ta, tb, tc)]) (L.drop 0) 83 oC (HR2.out.below bAC HG2.out) (by first | (simp; done) | (simp; omega)) (by omega)
    obtain ⟨v3, wD, eD, oD, bD⟩ := hD
    have hD2 := app_any wCb (w1.heap.size + 1) v2b (.slice none 0 0) (L.take 0 ++ [(ta, tb, tc)]) (L.drop 0) 83 oCb (HR2.out.below bACb HG2.out) (by first | (simp; done) | (simp; omega)) (by omega)
    obtain ⟨v3b, wDb, eDb, oDb, bDb⟩ := hD2
    have HLN : Hid ((L.take 0 ++ [(ta, tb, tc)] ++ L.drop 0).length = L.length + 1) := hide (by first | (simp; done) | (simp; omega))
    rw [HLN.out] at oD oDb
    obtain ⟨g3, c3, rfl⟩ := ownsRow_succ oD
    obtain ⟨g3b, c3b, rfl⟩ := ownsRow_succ oDb
    have bAD : Below w1.heap.size w1 wD := bAC.trans bD
    have bADb : Below w1.heap.size w1 wDb := bACb.trans (bDb.mono (by omega))
    have bA1 : Below w1.heap.size w1 wAb := (((Below.refl w1.heap.size w1).alloc (Nat.le_refl _) _).drew).trans (bAb.mono (by omega))
    have xA := HX1.out.belowI ((Below.refl w1.heap.size w1).drew.trans bA)
    obtain ⟨a0, a1, a2⟩ := xA.three
    have al := xA.lt
    obtain ⟨x0, x1, x2⟩ := HX1.out.three
    have xl := HX1.out.lt
    have p1 := HP1.out.cell 0 _ rfl
    have pl1 := HP1.out.lt
    have pA := (HP1.out.belowI ((Below.refl w1.heap.size w1).drew.trans bA)).cell 0 _ rfl
    have plA := (HP1.out.belowI ((Below.refl w1.heap.size w1).drew.trans bA)).lt
    have pAb := (HP1.out.belowI bA1).cell 0 _ rfl
    have pC := (HP1.out.belowI bAC).cell 0 _ rfl
    have pCb := (HP1.out.belowI bACb).cell 0 _ rfl
    have bxD := HP1.out.belowI bAD
    have bxDb := HP1.out.belowI bADb
    have pD := bxD.cell 0 _ rfl
    have pDb := bxDb.cell 0 _ rfl
    have fD := bxD.frozen 0
    have fDb := bxDb.frozen 0
    have plD := bxD.lt
    have plDb := bxDb.lt
    have HBX := hide bxD
    have HBXb := hide bxDb
    have HOD := hide oD
    have HODb := hide oDb
    have HBD := hide bAD
    have HBDb := hide bADb
    clear oA oAb oC oCb oD oDb bA bAb bC bCb bD bDb bAC bACb bAD bADb bA1 xA bxD bxDb HR1 HR2
    go_wp2_with fail
    go_region
    all_goals go_wp2_with fail
    all_goals go_ret
    all_goals first
      | exact ⟨rfl, _, by rw [HIN.out]; exact rset_put hpl HBW.out HBD.out HBX.out HOD.out HBW.out.size HLN.out.symm HIO.out⟩
      | exact ⟨rfl, _, by rw [HIN.out]; exact rset_put hpl HBW.out HBDb.out HBXb.out HODb.out (Nat.le_succ_of_le HBW.out.size) HLN.out.symm HIO.out⟩
  · have HLT : Hid ((L.take i).length = i) := hide (by simp; omega)
    have hg := (Array.getElem?_eq_some_iff.1 hcur).1
    have HG1 : Hid (∀ k, (Value.slice (some ⟨g, 0, none⟩) (L.take i).length cap).ownBlock = some k → k < w1.heap.size) := hide (fun k hk => by cases hk; exact hg)
    have HCELL : Hid (∀ j u, (rowOf L)[j]? = some u → w1.cell? ⟨g, j, none⟩ = some u) := hide (fun j u hu => by
      have hj := (List.getElem?_eq_some_iff.1 hu).1
      rw [← r4, List.getElem?_take_of_lt (by omega)] at hu
      rw [← hu]
      simp [World.cell?, hcur])
    have HR1 : Hid (Reads w1 (.slice (some ⟨g, 0, none⟩) (L.take i).length cap) (L.take i)) := hide (.inr ⟨g, 0, cap, rfl, hg, fun j u hu => by rw [Nat.zero_add]; exact HCELL.out j u (rowOf_take L i j u hu)⟩)
    have hic : i ≤ cap := by omega
    by_cases hci : cap = i
    · subst hci
      have HLD : Hid ((L.drop cap).length = 0) := hide (by simp; omega)
      have HR2 : Hid (Reads w1 (.slice (some ⟨g, 0, none⟩) (L.drop cap).length 0) (L.drop cap)) := hide (.inr ⟨g, 0, 0, rfl, hg, fun j u hu => by rw [List.drop_eq_nil_of_le (by omega)] at hu; simp [rowOf] at hu⟩)
      have HG2 : Hid (∀ k, (Value.slice (some ⟨g, 0, none⟩) (L.drop cap).length 0).ownBlock = some k → k < w1.heap.size) := hide (fun k hk => by cases hk; exact hg)
      clear hcur r3 r4 hlen HCELL H1
      have hA := app_any w1.drew w1.heap.size (.slice none 0 0) (.slice (some ⟨g, 0, none⟩) (L.take cap).length cap) [] (L.take cap) 83 (World.ownsRow_nil _ _ _ _) (HR1.out.below ((Below.refl w1.heap.size w1).drew) HG1.out) (by first | (simp; done) | (simp; omega)) (Nat.le_refl _)
      obtain ⟨v1, wA, eA, oA, bA⟩ := hA
      have hA2 := app_any ((w1.alloc (.cells #[.int .u8 ta, .int .u32 tb, .int .u32 tc] 35)).drew) (w1.heap.size + 1) (.slice none 0 0) (.slice (some ⟨g, 0, none⟩) (L.take cap).length cap) [] (L.take cap) 83 (World.ownsRow_nil _ _ _ _) (HR1.out.below (((Below.refl w1.heap.size w1).alloc (Nat.le_refl _) _).drew) HG1.out) (by first | (simp; done) | (simp; omega)) (by simp)
      obtain ⟨v1b, wAb, eAb, oAb, bAb⟩ := hA2
      have sA := bA.size
      have sAb := bAb.size
      simp only [World.size_alloc, World.size_drew] at sA sAb
      rw [List.nil_append] at oA oAb
      have hC := app_any (wA.alloc (.cells #[.int .u8 ta, .int .u32 tb, .int .u32 tc] 35)) w1.heap.size v1 (.slice (some ⟨wA.heap.size, 0, none⟩) 1 1) (L.take cap) [(ta, tb, tc)] 83 (oA.alloc _) (.inr ⟨_, 0, 1, rfl, by simp, fun j u hu => by rw [rowOf_one] at hu; have := cells_news wA (ta, tb, tc) _ rfl j u hu; rw [Addr.add_lit] at this; exact this⟩) (by first | (simp; done) | (simp; omega)) (by first | (simp; done) | (simp; omega))
      obtain ⟨v2, wC, eC, oC, bC⟩ := hC
      have hC2 := app_any wAb (w1.heap.size + 1) v1b (.slice (some ⟨w1.heap.size, 0, none⟩) 1 1) (L.take cap) [(ta, tb, tc)] 83 oAb (.inr ⟨_, 0, 1, rfl, by omega, fun j u hu => by rw [rowOf_one] at hu; have := cells_news w1 (ta, tb, tc) _ rfl j u hu; rw [Addr.add_lit] at this; exact (bAb.cell (p := ⟨w1.heap.size, 0 + j, none⟩) (by simp)).trans this⟩) (by first | (simp; done) | (simp; omega)) (by omega)
      obtain ⟨v2b, wCb, eCb, oCb, bCb⟩ := hC2
      have sC := bC.size
      have sCb := bCb.size
      simp only [World.size_alloc] at sC
      have bAC : Below w1.heap.size w1 wC := ((Below.refl w1.heap.size w1).drew.trans bA).trans (((Below.refl w1.heap.size wA).alloc sA _).trans bC)
      have bACb : Below w1.heap.size w1 wCb := (((Below.refl w1.heap.size w1).alloc (Nat.le_refl _) _).drew).trans ((bAb.trans bCb).mono (by omega))
      have hD := app_any wC w1.heap.size v2 (.slice (some ⟨g, 0, none⟩) (L.drop cap).length 0) (L.take cap ++ [(ta, tb, tc)]) (L.drop cap) 83 oC (HR2.out.below bAC HG2.out) (by first | (simp; done) | (simp; omega)) (by omega)
      obtain ⟨v3, wD, eD, oD, bD⟩ := hD
      have hD2 := app_any wCb (w1.heap.size + 1) v2b (.slice (some ⟨g, 0, none⟩) (L.drop cap).length 0) (L.take cap ++ [(ta, tb, tc)]) (L.drop cap) 83 oCb (HR2.out.below bACb HG2.out) (by first | (simp; done) | (simp; omega)) (by omega)
      obtain ⟨v3b, wDb, eDb, oDb, bDb⟩ := hD2
      have HLN : Hid ((L.take cap ++ [(ta, tb, tc)] ++ L.drop cap).length = L.length + 1) := hide (by first | (simp; done) | (simp; omega))
      rw [HLN.out] at oD oDb
      obtain ⟨g3, c3, rfl⟩ := ownsRow_succ oD
      obtain ⟨g3b, c3b, rfl⟩ := ownsRow_succ oDb
      have bAD : Below w1.heap.size w1 wD := bAC.trans bD
      have bADb : Below w1.heap.size w1 wDb := bACb.trans (bDb.mono (by omega))
      have bA1 : Below w1.heap.size w1 wAb := (((Below.refl w1.heap.size w1).alloc (Nat.le_refl _) _).drew).trans (bAb.mono (by omega))
      have xA := HX1.out.belowI ((Below.refl w1.heap.size w1).drew.trans bA)
      obtain ⟨a0, a1, a2⟩ := xA.three
      have al := xA.lt
      obtain ⟨x0, x1, x2⟩ := HX1.out.three
      have xl := HX1.out.lt
      have p1 := HP1.out.cell 0 _ rfl
      have pl1 := HP1.out.lt
      have pA := (HP1.out.belowI ((Below.refl w1.heap.size w1).drew.trans bA)).cell 0 _ rfl
      have plA := (HP1.out.belowI ((Below.refl w1.heap.size w1).drew.trans bA)).lt
      have pAb := (HP1.out.belowI bA1).cell 0 _ rfl
      have pC := (HP1.out.belowI bAC).cell 0 _ rfl
      have pCb := (HP1.out.belowI bACb).cell 0 _ rfl
      have bxD := HP1.out.belowI bAD
      have bxDb := HP1.out.belowI bADb
      have pD := bxD.cell 0 _ rfl
      have pDb := bxDb.cell 0 _ rfl
      have fD := bxD.frozen 0
      have fDb := bxDb.frozen 0
      have plD := bxD.lt
      have plDb := bxDb.lt
      have HBX := hide bxD
      have HBXb := hide bxDb
      have HOD := hide oD
      have HODb := hide oDb
      have HBD := hide bAD
      have HBDb := hide bADb
      rw [HLT.out] at eA eAb
      rw [HLD.out] at eD eDb
      clear oA oAb oC oCb oD oDb bA bAb bC bCb bD bDb bAC bACb bAD bADb bA1 xA bxD bxDb HR1 HR2
      go_wp2_with fail
      go_region
      all_goals go_wp2_with fail
      all_goals go_ret
      all_goals first
        | exact ⟨rfl, _, by rw [HIN.out]; exact rset_put hpl HBW.out HBD.out HBX.out HOD.out HBW.out.size HLN.out.symm HIO.out⟩
        | exact ⟨rfl, _, by rw [HIN.out]; exact rset_put hpl HBW.out HBDb.out HBXb.out HODb.out (Nat.le_succ_of_le HBW.out.size) HLN.out.symm HIO.out⟩
    · have HLD : Hid ((L.drop i).length = L.length - i) := hide (by simp)
      have HR2 : Hid (Reads w1 (.slice (some ⟨g, i * 3, none⟩) (L.drop i).length (cap - i)) (L.drop i)) := hide (.inr ⟨g, i * 3, cap - i, rfl, hg, fun j u hu => HCELL.out _ u (by rw [← rowOf_drop]; exact hu)⟩)
      have HG2 : Hid (∀ k, (Value.slice (some ⟨g, i * 3, none⟩) (L.drop i).length (cap - i)).ownBlock = some k → k < w1.heap.size) := hide (fun k hk => by cases hk; exact hg)
      clear hcur r3 r4 hlen HCELL H1
      have hA := app_any w1.drew w1.heap.size (.slice none 0 0) (.slice (some ⟨g, 0, none⟩) (L.take i).length cap) [] (L.take i) 83 (World.ownsRow_nil _ _ _ _) (HR1.out.below ((Below.refl w1.heap.size w1).drew) HG1.out) (by first | (simp; done) | (simp; omega)) (Nat.le_refl _)
      obtain ⟨v1, wA, eA, oA, bA⟩ := hA
      have hA2 := app_any ((w1.alloc (.cells #[.int .u8 ta, .int .u32 tb, .int .u32 tc] 35)).drew) (w1.heap.size + 1) (.slice none 0 0) (.slice (some ⟨g, 0, none⟩) (L.take i).length cap) [] (L.take i) 83 (World.ownsRow_nil _ _ _ _) (HR1.out.below (((Below.refl w1.heap.size w1).alloc (Nat.le_refl _) _).drew) HG1.out) (by first | (simp; done) | (simp; omega)) (by simp)
      obtain ⟨v1b, wAb, eAb, oAb, bAb⟩ := hA2
      have sA := bA.size
      have sAb := bAb.size
      simp only [World.size_alloc, World.size_drew] at sA sAb
      rw [List.nil_append] at oA oAb
      have hC := app_any (wA.alloc (.cells #[.int .u8 ta, .int .u32 tb, .int .u32 tc] 35)) w1.heap.size v1 (.slice (some ⟨wA.heap.size, 0, none⟩) 1 1) (L.take i) [(ta, tb, tc)] 83 (oA.alloc _) (.inr ⟨_, 0, 1, rfl, by simp, fun j u hu => by rw [rowOf_one] at hu; have := cells_news wA (ta, tb, tc) _ rfl j u hu; rw [Addr.add_lit] at this; exact this⟩) (by first | (simp; done) | (simp; omega)) (by first | (simp; done) | (simp; omega))
      obtain ⟨v2, wC, eC, oC, bC⟩ := hC
      have hC2 := app_any wAb (w1.heap.size + 1) v1b (.slice (some ⟨w1.heap.size, 0, none⟩) 1 1) (L.take i) [(ta, tb, tc)] 83 oAb (.inr ⟨_, 0, 1, rfl, by omega, fun j u hu => by rw [rowOf_one] at hu; have := cells_news w1 (ta, tb, tc) _ rfl j u hu; rw [Addr.add_lit] at this; exact (bAb.cell (p := ⟨w1.heap.size, 0 + j, none⟩) (by simp)).trans this⟩) (by first | (simp; done) | (simp; omega)) (by omega)
      obtain ⟨v2b, wCb, eCb, oCb, bCb⟩ := hC2
      have sC := bC.size
      have sCb := bCb.size
      simp only [World.size_alloc] at sC
      have bAC : Below w1.heap.size w1 wC := ((Below.refl w1.heap.size w1).drew.trans bA).trans (((Below.refl w1.heap.size wA).alloc sA _).trans bC)
      have bACb : Below w1.heap.size w1 wCb := (((Below.refl w1.heap.size w1).alloc (Nat.le_refl _) _).drew).trans ((bAb.trans bCb).mono (by omega))
      have hD := app_any wC w1.heap.size v2 (.slice (some ⟨g, i * 3, none⟩) (L.drop i).length (cap - i)) (L.take i ++ [(ta, tb, tc)]) (L.drop i) 83 oC (HR2.out.below bAC HG2.out) (by first | (simp; done) | (simp; omega)) (by omega)
      obtain ⟨v3, wD, eD, oD, bD⟩ := hD
      have hD2 := app_any wCb (w1.heap.size + 1) v2b (.slice (some ⟨g, i * 3, none⟩) (L.drop i).length (cap - i)) (L.take i ++ [(ta, tb, tc)]) (L.drop i) 83 oCb (HR2.out.below bACb HG2.out) (by first | (simp; done) | (simp; omega)) (by omega)
      obtain ⟨v3b, wDb, eDb, oDb, bDb⟩ := hD2
      have HLN : Hid ((L.take i ++ [(ta, tb, tc)] ++ L.drop i).length = L.length + 1) := hide (by first | (simp; done) | (simp; omega))
      rw [HLN.out] at oD oDb
      obtain ⟨g3, c3, rfl⟩ := ownsRow_succ oD
      obtain ⟨g3b, c3b, rfl⟩ := ownsRow_succ oDb
      have bAD : Below w1.heap.size w1 wD := bAC.trans bD
      have bADb : Below w1.heap.size w1 wDb := bACb.trans (bDb.mono (by omega))
      have bA1 : Below w1.heap.size w1 wAb := (((Below.refl w1.heap.size w1).alloc (Nat.le_refl _) _).drew).trans (bAb.mono (by omega))
      have xA := HX1.out.belowI ((Below.refl w1.heap.size w1).drew.trans bA)
      obtain ⟨a0, a1, a2⟩ := xA.three
      have al := xA.lt
      obtain ⟨x0, x1, x2⟩ := HX1.out.three
      have xl := HX1.out.lt
      have p1 := HP1.out.cell 0 _ rfl
      have pl1 := HP1.out.lt
      have pA := (HP1.out.belowI ((Below.refl w1.heap.size w1).drew.trans bA)).cell 0 _ rfl
      have plA := (HP1.out.belowI ((Below.refl w1.heap.size w1).drew.trans bA)).lt
      have pAb := (HP1.out.belowI bA1).cell 0 _ rfl
      have pC := (HP1.out.belowI bAC).cell 0 _ rfl
      have pCb := (HP1.out.belowI bACb).cell 0 _ rfl
      have bxD := HP1.out.belowI bAD
      have bxDb := HP1.out.belowI bADb
      have pD := bxD.cell 0 _ rfl
      have pDb := bxDb.cell 0 _ rfl
      have fD := bxD.frozen 0
      have fDb := bxDb.frozen 0
      have plD := bxD.lt
      have plDb := bxDb.lt
      have HBX := hide bxD
      have HBXb := hide bxDb
      have HOD := hide oD
      have HODb := hide oDb
      have HBD := hide bAD
      have HBDb := hide bADb
      rw [HLT.out] at eA eAb
      rw [HLD.out] at eD eDb
      clear oA oAb oC oCb oD oDb bA bAb bC bCb bD bDb bAC bACb bAD bADb bA1 xA bxD bxDb HR1 HR2
      go_wp2_with fail
      go_region
      all_goals go_wp2_with fail
      all_goals go_ret
      all_goals first
        | exact ⟨rfl, _, by rw [HIN.out]; exact rset_put hpl HBW.out HBD.out HBX.out HOD.out HBW.out.size HLN.out.symm HIO.out⟩
        | exact ⟨rfl, _, by rw [HIN.out]; exact rset_put hpl HBW.out HBDb.out HBXb.out HODb.out (Nat.le_succ_of_le HBW.out.size) HLN.out.symm HIO.out⟩
set_option maxRecDepth 100000 in
theorem radd_old (p : Nat) (v : Value) (L : List TxP) (t : TxP) (ht : txOk t) (w : World) (h : RSet w p v L) (hl : L.length ≤ 1000) (hf : foundF L t = true) :
    Calls Try.prog 45 #[.pointer (some ⟨p, 0, none⟩), txV t] w fun e w' => e = .returned (.bool false) ∧ Below w.heap.size w w' := by
  have hB0 := (Below.refl w.heap.size w).alloc (Nat.le_refl _) (.cells #[.int .u8 t.1, .int .u32 t.2.1, .int .u32 t.2.2] 35)
  have C := hide (place_any p v L t ht _ (h.below hB0) hl)
  rw [hf] at C
  have HB0 := hide hB0
  clear h hB0 hf
  generalize placeF L t = i at *
  obtain ⟨ta, tb, tc⟩ := t
  simp only [txV] at *
  go_enter Try.func45, Try.ntmps45
  go_wp2_with (go_at_call 74; refine C.out.mono ?_; rintro e w1 ⟨rfl, hB⟩; have HB := hide hB; clear hB)
  go_ret
  exact ⟨rfl, HB0.out.trans (HB.out.mono HB0.out.size)⟩
set_option maxRecDepth 100000 in
theorem rdrop_no (p : Nat) (v : Value) (L : List TxP) (t : TxP) (ht : txOk t) (w : World) (h : RSet w p v L) (hl : L.length ≤ 1000) (hf : foundF L t = false) :
    Calls Try.prog 47 #[.pointer (some ⟨p, 0, none⟩), txV t] w fun e w' => e = .returned (.bool false) ∧ Below w.heap.size w w' := by
  have hB0 := (Below.refl w.heap.size w).alloc (Nat.le_refl _) (.cells #[.int .u8 t.1, .int .u32 t.2.1, .int .u32 t.2.2] 35)
  have C := hide (place_any p v L t ht _ (h.below hB0) hl)
  rw [hf] at C
  have HB0 := hide hB0
  clear h hB0 hf
  generalize placeF L t = i at *
  obtain ⟨ta, tb, tc⟩ := t
  simp only [txV] at *
  go_enter Try.func47, Try.ntmps47
  go_wp2_with (go_at_call 74; refine C.out.mono ?_; rintro e w1 ⟨rfl, hB⟩; have HB := hide hB; clear hB)
  go_ret
  exact ⟨rfl, HB0.out.trans (HB.out.mono HB0.out.size)⟩
/-- The set behind Drop. -/
def cutF (L : List TxP) (t : TxP) : List TxP := L.take (placeF L t) ++ L.drop (placeF L t + 1)
set_option maxRecDepth 100000 in
set_option maxHeartbeats 8000000 in
theorem rdrop_yes (p : Nat) (v : Value) (L : List TxP) (t : TxP) (ht : txOk t) (w : World) (h : RSet w p v L) (hl : L.length ≤ 1000) (hf : foundF L t = true) :
    Calls Try.prog 47 #[.pointer (some ⟨p, 0, none⟩), txV t] w fun e w' => e = .returned (.bool true) ∧ ∃ v', RSet w' p v' (cutF L t) ∧ KeepBut (fun k => k = p) w w' ∧ (∀ g, v'.ownBlock = some g → w.heap.size ≤ g) := by
  have hB0 := (Below.refl w.heap.size w).alloc (Nat.le_refl _) (.cells #[.int .u8 t.1, .int .u32 t.2.1, .int .u32 t.2.2] 35)
  have C := hide (place_any p v L t ht _ (h.below hB0) hl)
  rw [hf] at C
  have HB0 := hide hB0
  have H0 := hide (h.below hB0)
  have hpl := h.box.lt
  have hple : placeF L t < L.length := by
    unfold foundF at hf
    simp only [decide_eq_true_eq] at hf
    exact (List.getElem?_eq_some_iff.1 hf).1
  have HIN : Hid (cutF L t = L.take (placeF L t) ++ L.drop (placeF L t + 1)) := hide rfl
  clear h hB0 hf
  generalize placeF L t = i at *
  obtain ⟨ta, tb, tc⟩ := t
  simp only [txV] at *
  go_enter Try.func47, Try.ntmps47
  go_wp2_with (go_at_call 74; refine C.out.mono ?_; rintro e w1 ⟨rfl, hB⟩; have HB := hide hB; clear hB)
  have hB := HB0.out.trans (HB.out.mono HB0.out.size)
  have hs1 := HB.out.size
  rw [World.size_alloc] at hs1
  have H1 := hide (H0.out.below HB.out)
  have HP1 := hide H1.out.box
  have HOK := hide H1.out.ok
  have HBW := hide hB
  clear hB H0 C
  have HIO : Hid (∀ u ∈ L.take i ++ L.drop (i + 1), txOk u) := hide (fun u hu => by
    simp only [List.mem_append] at hu
    rcases hu with hu | hu
    · exact HOK.out u (List.mem_of_mem_take hu)
    · exact HOK.out u (List.mem_of_mem_drop hu))
  obtain ⟨hlen, ⟨rfl, hn0⟩ | ⟨g, cap, cur, rfl, _, hcur, r1, r2, r3, r4⟩⟩ := H1.out.own
  · omega
  · have HLT : Hid ((L.take i).length = i) := hide (by simp; omega)
    have HLD : Hid ((L.drop (i + 1)).length = L.length - (i + 1)) := hide (by simp)
    have hg := (Array.getElem?_eq_some_iff.1 hcur).1
    have HG1 : Hid (∀ k, (Value.slice (some ⟨g, 0, none⟩) (L.take i).length cap).ownBlock = some k → k < w1.heap.size) := hide (fun k hk => by cases hk; exact hg)
    have HCELL : Hid (∀ j u, (rowOf L)[j]? = some u → w1.cell? ⟨g, j, none⟩ = some u) := hide (fun j u hu => by
      have hj := (List.getElem?_eq_some_iff.1 hu).1
      rw [← r4, List.getElem?_take_of_lt (by omega)] at hu
      rw [← hu]
      simp [World.cell?, hcur])
    have HR1 : Hid (Reads w1 (.slice (some ⟨g, 0, none⟩) (L.take i).length cap) (L.take i)) := hide (.inr ⟨g, 0, cap, rfl, hg, fun j u hu => by rw [Nat.zero_add]; exact HCELL.out j u (rowOf_take L i j u hu)⟩)
    have hic : i ≤ cap := by omega
    have hic1 : i + 1 ≤ cap := by omega
    have hic2 : i + 1 ≤ L.length := by omega
    by_cases hci : cap = i + 1
    · subst hci
      have hLe : L.length = i + 1 := by omega
      have HLD0 : Hid ((L.drop (i + 1)).length = 0) := hide (by simp; omega)
      have HR2 : Hid (Reads w1 (.slice (some ⟨g, 0, none⟩) (L.drop (i + 1)).length 0) (L.drop (i + 1))) := hide (.inr ⟨g, 0, _, rfl, hg, fun j u hu => by rw [List.drop_eq_nil_of_le (by omega)] at hu; simp [rowOf] at hu⟩)
      have HG2 : Hid (∀ k, (Value.slice (some ⟨g, 0, none⟩) (L.drop (i + 1)).length 0).ownBlock = some k → k < w1.heap.size) := hide (fun k hk => by cases hk; exact hg)
      clear hcur r3 r4 hlen HCELL H1
      obtain ⟨v1, wA, eA, oA, bA⟩ := app_any w1.drew w1.heap.size (.slice none 0 0) (.slice (some ⟨g, 0, none⟩) (L.take i).length (i + 1)) [] (L.take i) 83 (World.ownsRow_nil _ _ _ _) (HR1.out.below ((Below.refl w1.heap.size w1).drew) HG1.out) (by first | (simp; done) | (simp; omega)) (Nat.le_refl _)
      have sA := bA.size
      simp only [World.size_drew] at sA
      rw [List.nil_append] at oA
      have bA1 : Below w1.heap.size w1 wA := (Below.refl w1.heap.size w1).drew.trans bA
      obtain ⟨v3, wD, eD, oD, bD⟩ := app_any wA w1.heap.size v1 (.slice (some ⟨g, 0, none⟩) (L.drop (i + 1)).length 0) (L.take i) (L.drop (i + 1)) 83 oA (HR2.out.below bA1 HG2.out) (by first | (simp; done) | (simp; omega)) (by omega)
      have bAD : Below w1.heap.size w1 wD := bA1.trans bD
      obtain ⟨n3, hn3⟩ : ∃ n, n = (L.take i ++ L.drop (i + 1)).length := ⟨_, rfl⟩
      rw [← hn3] at oD
      have HN3 := hide hn3
      clear hn3
      obtain ⟨a3, c3, hv3⟩ : ∃ a c, v3 = .slice a n3 c := by
        rcases oD.2 with ⟨e, h0⟩ | ⟨g3, cap3, _, e, _⟩
        · exact ⟨none, 0, by rw [e, h0]⟩
        · exact ⟨_, _, e⟩
      have p1 := HP1.out.cell 0 _ rfl
      have pl1 := HP1.out.lt
      have pA := (HP1.out.belowI bA1).cell 0 _ rfl
      have plA := (HP1.out.belowI bA1).lt
      have bxD := HP1.out.belowI bAD
      have pD := bxD.cell 0 _ rfl
      have fD := bxD.frozen 0
      have plD := bxD.lt
      have HBX := hide bxD
      have HOD := hide oD
      have HBD := hide bAD
      rw [HLT.out] at eA
      rw [HLD0.out] at eD
      clear oA oD bA bD bAD bA1 bxD HR1 HR2
      subst hv3
      go_wp2_with fail
      go_region
      all_goals go_wp2_with fail
      all_goals go_ret
      all_goals exact ⟨rfl, _, by rw [HIN.out]; exact rset_put hpl HBW.out HBD.out HBX.out HOD.out HBW.out.size HN3.out HIO.out⟩
    · have HR2 : Hid (Reads w1 (.slice (some ⟨g, (i + 1) * 3, none⟩) (L.drop (i + 1)).length (cap - (i + 1))) (L.drop (i + 1))) := hide (.inr ⟨g, (i + 1) * 3, _, rfl, hg, fun j u hu => HCELL.out _ u (by rw [← rowOf_drop]; exact hu)⟩)
      have HG2 : Hid (∀ k, (Value.slice (some ⟨g, (i + 1) * 3, none⟩) (L.drop (i + 1)).length (cap - (i + 1))).ownBlock = some k → k < w1.heap.size) := hide (fun k hk => by cases hk; exact hg)
      clear hcur r3 r4 hlen HCELL H1
      obtain ⟨v1, wA, eA, oA, bA⟩ := app_any w1.drew w1.heap.size (.slice none 0 0) (.slice (some ⟨g, 0, none⟩) (L.take i).length cap) [] (L.take i) 83 (World.ownsRow_nil _ _ _ _) (HR1.out.below ((Below.refl w1.heap.size w1).drew) HG1.out) (by first | (simp; done) | (simp; omega)) (Nat.le_refl _)
      have sA := bA.size
      simp only [World.size_drew] at sA
      rw [List.nil_append] at oA
      have bA1 : Below w1.heap.size w1 wA := (Below.refl w1.heap.size w1).drew.trans bA
      obtain ⟨v3, wD, eD, oD, bD⟩ := app_any wA w1.heap.size v1 (.slice (some ⟨g, (i + 1) * 3, none⟩) (L.drop (i + 1)).length (cap - (i + 1))) (L.take i) (L.drop (i + 1)) 83 oA (HR2.out.below bA1 HG2.out) (by first | (simp; done) | (simp; omega)) (by omega)
      have bAD : Below w1.heap.size w1 wD := bA1.trans bD
      obtain ⟨n3, hn3⟩ : ∃ n, n = (L.take i ++ L.drop (i + 1)).length := ⟨_, rfl⟩
      rw [← hn3] at oD
      have HN3 := hide hn3
      clear hn3
      obtain ⟨a3, c3, hv3⟩ : ∃ a c, v3 = .slice a n3 c := by
        rcases oD.2 with ⟨e, h0⟩ | ⟨g3, cap3, _, e, _⟩
        · exact ⟨none, 0, by rw [e, h0]⟩
        · exact ⟨_, _, e⟩
      have p1 := HP1.out.cell 0 _ rfl
      have pl1 := HP1.out.lt
      have pA := (HP1.out.belowI bA1).cell 0 _ rfl
      have plA := (HP1.out.belowI bA1).lt
      have bxD := HP1.out.belowI bAD
      have pD := bxD.cell 0 _ rfl
      have fD := bxD.frozen 0
      have plD := bxD.lt
      have HBX := hide bxD
      have HOD := hide oD
      have HBD := hide bAD
      rw [HLT.out] at eA
      rw [HLD.out] at eD
      clear oA oD bA bD bAD bA1 bxD HR1 HR2
      subst hv3
      go_wp2_with fail
      go_region
      all_goals go_wp2_with fail
      all_goals go_ret
      all_goals exact ⟨rfl, _, by rw [HIN.out]; exact rset_put hpl HBW.out HBD.out HBX.out HOD.out HBW.out.size HN3.out HIO.out⟩
end Go.Proofs.Ytkdccigcpcchlaa
