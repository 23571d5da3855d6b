/-
  Own texts put together: LkComp, LkOnP. Own work.
-/
import Derived.Test.YtddflccjmigloaaGreatG16
import Derived.BigQuiet
import Derived.Deep.QuietTactic
namespace Go.Proofs.YtddflccjmigloaaGreat
section
open Go.RowKit Go.Maps Classical

theorem eql_ky15 {a b : List Int} (ha : KeyOk a) (hb : KeyOk b) (w : World) : (binOp .eql 38 (.agg (eightA a)) (.agg (eightA b))).run Tryz.prog w = .ok (.bool (decide (a = b))) w := by
  have h := eq8 38 Tryz.underlying38 9998 (at8 a 0) (at8 a 1) (at8 a 2) (at8 a 3) (at8 a 4) (at8 a 5) (at8 a 6) (at8 a 7) (at8 b 0) (at8 b 1) (at8 b 2) (at8 b 3) (at8 b 4) (at8 b 5) (at8 b 6) (at8 b 7) w
  rw [eight_dec ha.l hb.l] at h
  rw [run_eql_struct]
  have h2 : (Op.equalIn 10000 38 (.agg (eightA a)) (.agg (eightA b))).run Tryz.prog w = .ok (decide (a = b)) w := h
  rw [h2]
  rfl
theorem neq_ky15 {a b : List Int} (ha : KeyOk a) (hb : KeyOk b) (w : World) : (binOp .neq 38 (.agg (eightA a)) (.agg (eightA b))).run Tryz.prog w = .ok (.bool (!decide (a = b))) w := by
  have h := eq8 38 Tryz.underlying38 9998 (at8 a 0) (at8 a 1) (at8 a 2) (at8 a 3) (at8 a 4) (at8 a 5) (at8 a 6) (at8 a 7) (at8 b 0) (at8 b 1) (at8 b 2) (at8 b 3) (at8 b 4) (at8 b 5) (at8 b 6) (at8 b 7) w
  rw [eight_dec ha.l hb.l] at h
  rw [run_neq_struct]
  have h2 : (Op.equalIn 10000 38 (.agg (eightA a)) (.agg (eightA b))).run Tryz.prog w = .ok (decide (a = b)) w := h
  rw [h2]
  rfl
/-- Block g has these n keys, and perhaps more. -/
structure KRow (w : World) (g n : Nat) (xs : Nat → KeyT) : Prop where
  bx : ∃ cur, Box w g cur 38 ∧ n * 8 ≤ cur.size
  rd : ∀ i, i < n → w.rangeAt g (i * 8) (kyCs (xs i))
theorem KRow.keep {S : Nat → Prop} {w w' : World} {g n : Nat} {xs : Nat → KeyT} (h : KRow w g n xs) (hk : KeepBut S w w') (hS : ¬ S g) : KRow w' g n xs := by
  obtain ⟨cur, hb, hn⟩ := h.bx
  refine ⟨⟨cur, hb.keep hk hS, hn⟩, fun i hi j v hv => ?_⟩
  rw [← h.rd i hi j v hv]
  exact World.cell?_of_block (hk.block g hb.lt hS)
theorem KRow.below {w w' : World} {g n : Nat} {xs : Nat → KeyT} (h : KRow w g n xs) (hB : Below w.heap.size w w') : KRow w' g n xs := h.keep (KeepBut.of_below (fun _ => False) hB) (fun h => h)
theorem KRow.cells {w : World} {g n : Nat} {xs : Nat → KeyT} (h : KRow w g n xs) {i : Nat} (hi : i < n) : w.cell? ⟨g, i * 8, none⟩ = some (.int .u8 (at8 (xs i).1 0)) ∧ w.cell? ⟨g, i * 8 + 1, none⟩ = some (.int .u8 (at8 (xs i).1 1)) ∧ w.cell? ⟨g, i * 8 + 2, none⟩ = some (.int .u8 (at8 (xs i).1 2)) ∧ w.cell? ⟨g, i * 8 + 3, none⟩ = some (.int .u8 (at8 (xs i).1 3)) ∧ w.cell? ⟨g, i * 8 + 4, none⟩ = some (.int .u8 (at8 (xs i).1 4)) ∧ w.cell? ⟨g, i * 8 + 5, none⟩ = some (.int .u8 (at8 (xs i).1 5)) ∧ w.cell? ⟨g, i * 8 + 6, none⟩ = some (.int .u8 (at8 (xs i).1 6)) ∧ w.cell? ⟨g, i * 8 + 7, none⟩ = some (.int .u8 (at8 (xs i).1 7)) :=
  ⟨h.rd i hi 0 _ rfl, h.rd i hi 1 _ rfl, h.rd i hi 2 _ rfl, h.rd i hi 3 _ rfl, h.rd i hi 4 _ rfl, h.rd i hi 5 _ rfl, h.rd i hi 6 _ rfl, h.rd i hi 7 _ rfl⟩
theorem there_box {w : World} {g : Nat} {cur : Array Value} {t : TypeId} (hb : Box w g cur t) (o n : Nat) (h : o + n ≤ cur.size) : w.there g o n := fun j hj => by
  have hlt : o + j < cur.size := by omega
  refine ⟨?_, hb.frozen _⟩
  rw [hb.cell _ _ (Array.getElem?_eq_getElem hlt)]
  rfl
theorem KRow.there {w : World} {g n : Nat} {xs : Nat → KeyT} (h : KRow w g n xs) {i : Nat} (hi : i < n) : w.there g (i * 8) 8 := by
  obtain ⟨cur, hb, hn⟩ := h.bx
  exact there_box hb _ _ (by omega)
theorem KRow.set {w : World} {g n : Nat} {xs : Nat → KeyT} (h : KRow w g n xs) {i : Nat} (hi : i < n) (y : KeyT) : KRow (w.setCells g (i * 8) (kyCs y)) g n (fun j => if j = i then y else xs j) := by
  obtain ⟨cur, hb, hn⟩ := h.bx
  refine ⟨⟨_, hb.setCells (kyCs y) (i * 8), by rw [layC_size]; exact hn⟩, fun j hj => ?_⟩
  by_cases e : j = i
  · subst e
    rw [if_pos rfl]
    exact World.rangeAt_setCells_same _ _ _ _ (h.there hi)
  · rw [if_neg e]
    refine World.rangeAt_setCells_apart (h.rd j hj) _ _ _ (.inr ?_)
    show j * 8 + 8 ≤ i * 8 ∨ i * 8 + 8 ≤ j * 8
    omega
theorem KRow.less {w : World} {g n : Nat} {xs : Nat → KeyT} (h : KRow w g n xs) {m o : Nat} (hm : m ≤ n) (ho : m * 8 ≤ o) (vs : List Value) : KRow (w.setCells g o vs) g m xs := by
  obtain ⟨cur, hb, hn⟩ := h.bx
  refine ⟨⟨_, hb.setCells vs o, by rw [layC_size]; omega⟩, fun j hj => ?_⟩
  refine World.rangeAt_setCells_apart (h.rd j (by omega)) _ _ _ (.inr (.inl ?_))
  show j * 8 + 8 ≤ o
  omega
theorem KRow.of_own {base : Nat} {w : World} {g n cap : Nat} {ss : List KeyT} (h : w.ownsRow base 38 8 (.slice (some ⟨g, 0, none⟩) n cap) ss.length (rowK ss)) (d : KeyT) : KRow w g ss.length (fun i => ss.getD i d) := by
  have hsrc : RSrc kyCs w (.slice (some ⟨g, 0, none⟩) n cap) ss := RSrc.of_own h
  obtain ⟨_, h0 | ⟨g', cap', cur, e, _, hb, h1, h2, h3, _⟩⟩ := h
  · cases h0.1
  · cases e
    refine ⟨⟨cur, hb, by omega⟩, fun i hi j u hu => ?_⟩
    obtain ⟨_, b', off, e, _, hc⟩ := hsrc.at (K := 8) (fun _ => rfl) hi
    cases e
    have := hc j u (by rw [List.getD_eq_getElem?_getD, List.getElem?_eq_getElem hi] at hu; exact hu)
    rw [Nat.zero_add] at this
    exact this
theorem KRow.src {w : World} {g n cap : Nat} {xs : Nat → KeyT} (h : KRow w g n xs) (hc : n ≤ cap) (hM : cap ≤ maxLen) : RSrc kyCs w (.slice (some ⟨g, 0, none⟩) n cap) ((List.range n).map xs) := by
  obtain ⟨cur, hb, _⟩ := h.bx
  have hl : ((List.range n).map xs).length = n := by simp
  refine ⟨some ⟨g, 0, none⟩, cap, by rw [hl], by rw [hl]; exact hc, hM, (fun e => by cases e), fun _ => ⟨g, 0, rfl, hb.lt, fun j u hu => ?_⟩⟩
  have hj : j < n * 8 := by
    have h1 := (List.getElem?_eq_some_iff.1 hu).1
    rw [flat_len (K := 8) (fun _ => rfl), hl] at h1
    exact h1
  have e1 : j = j / 8 * 8 + j % 8 := by omega
  have h2 : j / 8 < n := by omega
  rw [e1, flat_at (K := 8) (fun _ => rfl) (by rw [hl]; exact h2) (by omega)] at hu
  rw [Nat.zero_add, e1]
  refine h.rd (j / 8) h2 (j % 8) u ?_
  simpa using hu
/-- Of the keys of a rising row these are some, each once, in order. -/
structure Dd (xs ys : Nat → KeyT) (m k : Nat) : Prop where
  rise : ∀ i j, i < j → j < k → kysF (ys i) (ys j) < 0
  from_ : ∀ i, i < k → ∃ j, j < m ∧ xs j = ys i
  all : ∀ j, j < m → ∃ i, i < k ∧ ys i = xs j
theorem Dd.one (xs : Nat → KeyT) : Dd xs xs 1 1 := ⟨fun i j h1 h2 => by omega, fun i hi => ⟨i, hi, rfl⟩, fun i hi => ⟨i, hi, rfl⟩⟩
theorem Dd.same {xs ys : Nat → KeyT} {m k : Nat} (h : Dd xs ys (m + 1) k) (e : xs (m + 1) = xs m) : Dd xs ys (m + 2) k :=
  ⟨h.rise, fun i hi => by
    obtain ⟨j, hj, e⟩ := h.from_ i hi
    exact ⟨j, by omega, e⟩, fun j hj => by
    by_cases hj2 : j = m + 1
    · obtain ⟨i, hi, e2⟩ := h.all m (by omega)
      exact ⟨i, hi, by rw [hj2, e]; exact e2⟩
    · exact h.all j (by omega)⟩
theorem Dd.more {xs ys : Nat → KeyT} {m k n : Nat} (h : Dd xs ys (m + 1) k) (hs : ∀ i j, i ≤ j → j < n → kysF (xs i) (xs j) ≤ 0) (hm : m + 1 < n) (e : xs (m + 1) ≠ xs m) : Dd xs (fun j => if j = k then xs (m + 1) else ys j) (m + 2) (k + 1) := by
  refine ⟨fun i j hij hj => ?_, fun i hi => ?_, fun j hj => ?_⟩
  · show kysF (if i = k then _ else _) (if j = k then _ else _) < 0
    rw [if_neg (by omega)]
    by_cases hj2 : j = k
    · rw [if_pos hj2]
      obtain ⟨t, ht, et⟩ := h.from_ i (by omega)
      rw [← et]
      have h1 := hs t m (by omega) (by omega)
      have h2 := hs m (m + 1) (by omega) hm
      have h3 : kysF (xs m) (xs (m + 1)) ≠ 0 := fun e2 => e ((kysF_zero _ _).1 e2).symm
      have h4 := kysF_trans _ _ _ h1 h2
      rcases Int.lt_or_eq_of_le h4 with h5 | h5
      · exact h5
      · have h6 := (kysF_zero _ _).1 h5
        rw [h6] at h1
        have := kysF_neg (xs (m + 1)) (xs m)
        omega
    · rw [if_neg hj2]
      exact h.rise i j hij (by omega)
  · show ∃ j, j < m + 2 ∧ xs j = if i = k then _ else _
    by_cases hi2 : i = k
    · rw [if_pos hi2]
      exact ⟨m + 1, by omega, rfl⟩
    · rw [if_neg hi2]
      obtain ⟨j, hj, e⟩ := h.from_ i (by omega)
      exact ⟨j, by omega, e⟩
  · by_cases hj2 : j = m + 1
    · exact ⟨k, by omega, by show (if k = k then _ else _) = _; rw [if_pos rfl, hj2]⟩
    · obtain ⟨i, hi, e⟩ := h.all j (by omega)
      exact ⟨i, by omega, by show (if i = k then _ else _) = _; rw [if_neg (by omega)]; exact e⟩
structure DdL (xs : Nat → KeyT) (n : Nat) (D : List KeyT) : Prop where
  rise : RisingK D
  mem : ∀ x, x ∈ D ↔ ∃ i, i < n ∧ xs i = x
theorem Dd.list {xs ys : Nat → KeyT} {m k : Nat} (h : Dd xs ys m k) : DdL xs m ((List.range k).map ys) := by
  constructor
  · unfold RisingK
    rw [List.pairwise_map]
    refine List.pairwise_lt_range.imp_of_mem (fun {a b} _ hb hab => h.rise a b hab (List.mem_range.1 hb))
  · intro x
    rw [List.mem_map]
    constructor
    · rintro ⟨i, hi, rfl⟩
      obtain ⟨j, hj, e⟩ := h.from_ i (List.mem_range.1 hi)
      exact ⟨j, hj, e⟩
    · rintro ⟨j, hj, rfl⟩
      obtain ⟨i, hi, e⟩ := h.all j hj
      exact ⟨i, List.mem_range.2 hi, e⟩
theorem wp_store_key {ops : Array Oper} {rest : List Oper} {op : Oper} {a : Act} {w : World} {Q : Exit → Act → World → Prop} (hgd : op.guard = none) (x y : Operand) (ho : op.op = .store 38 x y)
    (b o : Nat) (B : KeyT) (hx : a.eval x = .pointer (some ⟨b, o, none⟩)) (hy : a.eval y = .agg (eightA B.1)) (ht : w.there b o 8) (h : ∀ w', Hid (w' = w.setCells b o (kyCs B)) → wpList Tryz.prog ops Q rest (a.put op.dst undef) w') : wpList Tryz.prog ops Q (op :: rest) a w :=
  wpList_store_mid hgd 38 x y ho b o (eightA B.1) hx hy ht infoKey15 (by simp [Value.oneCell']) (h _ (hide rfl))
theorem compact_few (p : Option Addr) (n cap : Nat) (hn : n < 2) (w : World) : Calls Tryz.prog 77 #[.slice p n cap] w fun e w' => e = .returned (.slice p n cap) ∧ w' = w := by
  have hz : (n : Int) < 2 := by omega
  go_enter Tryz.func77, Tryz.ntmps77
  go_wp2
  go_ret
  exact ⟨rfl, rfl⟩
theorem zeroKey15 : ZeroOne 38 := zero_one_of (z := .agg (eightA [0, 0, 0, 0, 0, 0, 0, 0])) (by kernel_rfl) (by simp [Value.cells, Value.oneCell'])
theorem below_drewN15 (w : World) (n : Nat) : Below w.heap.size w (w.drewN n) := ⟨rfl, rfl, rfl, Nat.le_refl _, fun _ _ => rfl⟩
def ctK (n : Nat) (x : Value) : Nat := match x with | .int _ i => n - i.toNat | _ => 0
theorem ctK_at (n m : Nat) (k : IntKind) : ctK n (.int k ((m : Nat) : Int)) = n - m := by unfold ctK; simp
set_option maxRecDepth 100000 in
set_option maxHeartbeats 3200000 in
theorem compact_any (g n cap : Nat) (xs : Nat → KeyT) (w : World) (h : KRow w g n xs) (hn : 2 ≤ n) (hs : ∀ i j, i ≤ j → j < n → kysF (xs i) (xs j) ≤ 0) (hc : n ≤ cap) (hM : cap ≤ maxLen) (hN : n ≤ 1000000) :
    Calls Tryz.prog 77 #[.slice (some ⟨g, 0, none⟩) n cap] w fun e w' => ∃ D : List KeyT, e = .returned (.slice (some ⟨g, 0, none⟩) D.length cap) ∧ DdL xs n D ∧ RSrc kyCs w' (.slice (some ⟨g, 0, none⟩) D.length cap) D ∧ KeepBut (fun j => j = g) w w' := by
  have H := hide h
  have HS := hide hs
  have HC := hide hc
  have HM := hide hM
  have hz : ¬ (n : Int) < 2 := by omega
  clear h hs hc hM
  go_enter Tryz.func77, Tryz.ntmps77
  go_wp2_with fail
  go_loopw [3] (fun x wr => ∃ (k : Nat), x = .int .i64 ((k + 1 : Nat) : Int) ∧ k + 1 ≤ n ∧ Hid (Dd xs xs (k + 1) (k + 1)) ∧ Hid (Below w.heap.size w wr)) (fun x _ => ctK n x)
  case atStart => exact ⟨0, rfl, by omega, hide (Dd.one xs), hide (Below.refl _ _)⟩
  case round =>
    obtain ⟨k, rfl, hkn, HD, HB⟩ := hrel
    have HK := hide (H.out.below HB.out)
    by_cases hlt : k + 1 < n
    case neg =>
      have hz2 : ¬ ((k + 1 : Nat) : Int) < (n : Int) := by omega
      have HKN : Hid (n = k + 1) := hide (by omega)
      go_wp2_with fail
      go_ret
      have hd := HD.out
      rw [← HKN.out] at hd
      have hl := hd.list
      have hlen : ((List.range n).map xs).length = n := by simp
      refine ⟨(List.range n).map xs, by rw [hlen]; rfl, hl, ?_, KeepBut.of_below _ HB.out⟩
      rw [hlen]
      exact HK.out.src HC.out HM.out
    case pos =>
      have hz2 : ((k + 1 : Nat) : Int) < (n : Int) := by omega
      have hkz : ((k + 1 : Nat) : Int) - 1 = ((k : Nat) : Int) := by omega
      have hw1 : IntKind.i64.wrap (((k + 1 : Nat) : Int) - 1) = ((k : Nat) : Int) := by rw [IntKind.wrap_i64]; omega
      have hw2 : IntKind.i64.wrap (k : Int) = ((k : Nat) : Int) := by rw [IntKind.wrap_i64]; omega
      obtain ⟨x0, x1, x2, x3, x4, x5, x6, x7⟩ := HK.out.cells (show k < n by omega)
      obtain ⟨y0, y1, y2, y3, y4, y5, y6, y7⟩ := HK.out.cells hlt
      have heq := fun W => eql_ky15 (xs (k + 1)).2 (xs k).2 W
      by_cases e : xs (k + 1) = xs k
      · have e2 : decide ((xs (k + 1)).1 = (xs k).1) = true := by simp [e]
        rw [e2] at heq
        have HE := hide e
        obtain ⟨L, hL⟩ : ∃ L, L = n - (k + 1) := ⟨_, rfl⟩
        obtain ⟨cp, hcp⟩ : ∃ cp, cp = cap - (k + 1) := ⟨_, rfl⟩
        obtain ⟨o, ho⟩ : ∃ o, o = (k + 1) * 8 := ⟨_, rfl⟩
        have hsl := fun W => run_fromB recKey15 W g n cap (k + 1) (by omega) (by have := HC.out; omega)
        rw [← hL, ← hcp, ← ho, show ((k + 1 : Nat) : Int) = (k : Int) + 1 from by omega] at hsl
        have HLL : Hid (n = k + 1 + L ∧ o = (k + 1) * 8 ∧ 1 ≤ L) := hide ⟨by omega, ho, by omega⟩
        have hLb : L ≤ 1000000 := by omega
        clear e e2 hL hcp ho
        go_wp2_with fail
        go_quiet (fail)
        go_wp2_with fail
        have HBQ : Hid (KeepBut (fun j => j = g) w (wr.drewN nq)) := hide ((KeepBut.of_below _ HB.out).trans (KeepBut.of_below _ (below_drewN15 wr nq)) (fun _ _ h => h))
        have HKQ := hide (HK.out.below (below_drewN15 wr nq))
        clear x0 x1 x2 x3 x4 x5 x6 x7 y0 y1 y2 y3 y4 y5 y6 y7 heq hsl hw1 hw2
        generalize wr.drewN nq = wq at *
        go_loopw [3, 5] (fun x y wr => ∃ (kk m : Nat) (ys : Nat → KeyT), x = .int .i64 (kk : Int) ∧ y = .int .i64 ((m + 1 : Nat) : Int) ∧ m + 1 ≤ L ∧ k + 1 ≤ kk ∧ kk ≤ k + 1 + m ∧ Hid (Dd xs ys (k + 1 + m + 1) kk) ∧ Hid (∀ i, k + 1 + m ≤ i → ys i = xs i) ∧ Hid (KRow wr g n ys) ∧ Hid (KeepBut (fun j => j = g) w wr)) (fun _ y _ => ctK L y)
        case atStart => exact ⟨k + 1, 0, xs, by first | rfl | go_num, by first | rfl | go_num, HLL.out.2.2, Nat.le_refl _, Nat.le_refl _, hide (HD.out.same HE.out), hide (fun i _ => rfl), HKQ, HBQ⟩
        case round =>
          clear HK HB HKQ HBQ
          obtain ⟨kk, m, ys, rfl, rfl, hm, hk1, hk2, HDD, HY, HK, HB⟩ := hrel
          by_cases hlt2 : m + 1 < L
          case neg =>
            have hz3 : ¬ ((m + 1 : Nat) : Int) < (L : Int) := by omega
            have hll := HLL.out
            have hcc := HC.out
            have hsl := fun W => run_fromB recKey15 W g n cap kk (by omega) (by omega)
            have hst := fun W => run_toR recKey15 W (some ⟨g, 0, none⟩) n cap kk (by omega)
            obtain ⟨cur, hbx, hcur⟩ := HK.out.bx
            obtain ⟨zs, _, hcl⟩ := run_clearR recKey15 zeroKey15 wr g (kk * 8) (n - kk) (cap - kk) cur hbx (by omega) (by omega)
            have HK9 := hide (HK.out.less (m := kk) (o := kk * 8) (by omega) (Nat.le_refl _) zs)
            have HB9 := hide (HB.out.setCells zs (kk * 8) (a := w) (w := wr) (g := g) (.inl rfl))
            have HMN : Hid (k + 1 + m + 1 = n ∧ kk ≤ n ∧ kk ≤ cap) := hide (by omega)
            obtain ⟨c1, hc1⟩ : ∃ c1, c1 = n - kk := ⟨_, rfl⟩
            obtain ⟨c2, hc2⟩ : ∃ c2, c2 = cap - kk := ⟨_, rfl⟩
            obtain ⟨o2, ho2⟩ : ∃ o2, o2 = kk * 8 := ⟨_, rfl⟩
            rw [← hc1, ← hc2, ← ho2] at hcl hsl
            rw [← ho2] at HK9 HB9
            clear hll hcc hbx hcur hc1 hc2 ho2
            go_wp2_with fail
            go_ret
            have hd := HDD.out
            rw [HMN.out.1] at hd
            have hlen : ((List.range kk).map ys).length = kk := by simp
            refine ⟨(List.range kk).map ys, by rw [hlen]; rfl, hd.list, ?_, HB9.out⟩
            rw [hlen]
            exact HK9.out.src HMN.out.2.2 HM.out
          case pos =>
            have hz3 : ((m + 1 : Nat) : Int) < (L : Int) := by omega
            have hll := HLL.out
            have hi1 : k + 1 + m < n := by omega
            have hi2 : k + 1 + (m + 1) < n := by omega
            have hw1 : IntKind.i64.wrap (((m + 1 : Nat) : Int) - 1) = ((m : Nat) : Int) := by rw [IntKind.wrap_i64]; omega
            have hw2 : IntKind.i64.wrap (m : Int) = ((m : Nat) : Int) := by rw [IntKind.wrap_i64]; omega
            have C1 := HK.out.cells hi1
            have C2 := HK.out.cells hi2
            rw [show (k + 1 + m) * 8 = o + m * 8 from by omega, HY.out _ (Nat.le_refl _)] at C1
            rw [show (k + 1 + (m + 1)) * 8 = o + (m + 1) * 8 from by omega, HY.out _ (by omega)] at C2
            obtain ⟨x0, x1, x2, x3, x4, x5, x6, x7⟩ := C1
            obtain ⟨y0, y1, y2, y3, y4, y5, y6, y7⟩ := C2
            obtain ⟨A, hA⟩ : ∃ A, A = xs (k + 1 + m) := ⟨_, rfl⟩
            obtain ⟨B, hB⟩ : ∃ B, B = xs (k + 1 + (m + 1)) := ⟨_, rfl⟩
            rw [← hA] at x0 x1 x2 x3 x4 x5 x6 x7
            rw [← hB] at y0 y1 y2 y3 y4 y5 y6 y7
            have HAB : Hid (A = xs (k + 1 + m) ∧ B = xs (k + 1 + (m + 1)) ∧ k + 1 + (m + 1) < n) := hide ⟨hA, hB, hi2⟩
            have heq := fun W => neq_ky15 B.2 A.2 W
            clear hA hB hll hi1 hi2
            by_cases e : B = A
            · have e2 : (!decide (B.1 = A.1)) = false := by simp [e]
              rw [e2] at heq
              have HE := hide e
              clear e e2
              go_wp2_with fail
              go_quiet (fail)
              go_wp2_with fail
              have hd2 : Dd xs ys (k + 1 + (m + 1) + 1) kk := HDD.out.same (by have := HE.out; rw [HAB.out.1, HAB.out.2.1] at this; exact this)
              refine ⟨⟨kk, m + 1, ys, by first | rfl | go_num, by first | rfl | go_num, by omega, hk1, by omega, hide hd2, hide (fun i hi => HY.out i (by omega)), hide (HK.out.below (below_drewN15 wr nq)), hide (HB.out.trans (KeepBut.of_below _ (below_drewN15 wr nq)) (fun _ _ h => h))⟩, ?_⟩
              rw [show (m : Int) + 1 + 1 = ((m + 1 + 1 : Nat) : Int) from by omega, ctK_at, ctK_at]
              omega
            · have e2 : (!decide (B.1 = A.1)) = true := by
                rw [decide_eq_false (fun h => e (Subtype.ext h))]; rfl
              rw [e2] at heq
              have HE := hide e
              clear e e2
              go_wp2_with fail
              go_quiet (fail)
              have HKQ := hide (HK.out.below (below_drewN15 wr nq))
              have HBQ : Hid (KeepBut (fun j => j = g) w (wr.drewN nq)) := hide (HB.out.trans (KeepBut.of_below _ (below_drewN15 wr nq)) (fun _ _ h => h))
              have HTH := hide (HKQ.out.there (i := kk) (by have := HAB.out; omega))
              have HKK : Hid (kk < n) := hide (by have := HAB.out; omega)
              go_wp2_with ((with_reducible show wpList _ _ _ (⟨none, .store _ _ _, _, _, _, _⟩ :: _) _ _); refine wp_store_key rfl _ _ rfl g (kk * 8) B rfl rfl ?_ ?_)
              · exact HTH.out
              intro w9 hw9
              replace hw9 := hw9.out
              have HD2 : Hid (Dd xs (fun j => if j = kk then B else ys j) (k + 1 + (m + 1) + 1) (kk + 1)) := hide (by
                have := HDD.out.more HS.out HAB.out.2.2 (by have := HE.out; rw [HAB.out.1, HAB.out.2.1] at this; exact this)
                rw [HAB.out.2.1]
                exact this)
              have HK2 := hide (HKQ.out.set HKK.out B)
              rw [← hw9] at HK2
              have HB2 := hide (KeepBut.setCells (g := g) (kyCs B) (kk * 8) w _ HBQ.out (.inl rfl))
              rw [← hw9] at HB2
              have HY2 : Hid (∀ i, k + 1 + (m + 1) ≤ i → (fun j => if j = kk then B else ys j) i = xs i) := hide (fun i hi => by
                show (if i = kk then _ else ys i) = xs i
                rw [if_neg (by omega)]
                exact HY.out i (by omega))
              clear hw9 x0 x1 x2 x3 x4 x5 x6 x7 y0 y1 y2 y3 y4 y5 y6 y7 heq
              go_wp2_with fail
              go_roundw
              case rel => exact ⟨kk + 1, by omega, m + 1, by omega, by omega, by omega, by omega, fun j => if j = kk then B else ys j, HD2, HY2, HK2⟩
              case measure =>
                rw [show (m : Int) + 1 + 1 = ((m + 1 + 1 : Nat) : Int) from by omega, ctK_at, show (m : Int) + 1 = ((m + 1 : Nat) : Int) from by omega, ctK_at]
                omega
      · have e2 : decide ((xs (k + 1)).1 = (xs k).1) = false := decide_eq_false (fun h => e (Subtype.ext h))
        rw [e2] at heq
        have HE := hide e
        clear e e2
        go_wp2_with fail
        go_quiet (fail)
        go_wp2_with fail
        have hD2 : Dd xs xs (k + 1 + 1) (k + 1 + 1) := by
          have := HD.out.more HS.out hlt HE.out
          have e : (fun j => if j = k + 1 then xs (k + 1) else xs j) = xs := by
            funext j
            by_cases e : j = k + 1
            · rw [if_pos e, e]
            · rw [if_neg e]
          rw [e] at this
          exact this
        refine ⟨⟨k + 1, by first | rfl | go_num, by omega, hide hD2, hide (HB.out.trans ((below_drewN15 wr nq).mono HB.out.size))⟩, ?_⟩
        rw [show (k : Int) + 1 + 1 = ((k + 1 + 1 : Nat) : Int) from by omega, ctK_at, ctK_at]
        omega
end
section
open Go.RowKit Go.Maps Go.Shelf Go.Sort Classical

/-- A granted lock's cells. -/
def gtE (g : GtP KeyT) : List Value := (gtA g).toList
theorem recGt15 : Rec 43 76 12 gtE := ⟨Tryz.underlying43, rec_info (z := .agg zG) (K := 12) (B := 24) (by kernel_rfl) rfl (by decide), by decide, fun _ => rfl⟩
theorem gt_one15 (g : GtP KeyT) : ∀ u ∈ gtE g, u.oneCell' = true := fun u hu => by
  simp only [gtE, List.mem_cons, List.not_mem_nil, or_false] at hu
  rcases hu with rfl | rfl | rfl | rfl | rfl | rfl | rfl | rfl | rfl | rfl | rfl | rfl <;> rfl
/-- Those that are still to come wait. -/
def Wts {K : Type} (l : List (UsP K)) (k : K) (q : List TxN) : Prop := ∀ t ∈ q, ∃ x ∈ l, x.tx = t ∧ x.w k ≠ 0
theorem wts_que {K : Type} (l : List (UsP K)) (k : K) : Wts l k (queU l k) := fun t ht => by
  obtain ⟨u, hu, hw, e⟩ := queU_mem.1 ht
  exact ⟨u, hu, e, hw⟩
section
variable {K : Type} [DecidableEq K]
theorem onQS_app (k : K) : ∀ (a : List TxN) (l : List (UsP K)) (t : TxN), onQS k l (a ++ [t]) = stepS (onQS k l a) t k
  | [], _, _ => rfl
  | x :: a, l, t => onQS_app k a (stepS l x k) t
theorem onQG_app (k : K) : ∀ (a : List TxN) (l : List (UsP K)) (t : TxN), onQG k l (a ++ [t]) = onQG k l a ++ stepG (onQS k l a) t k
  | [], l, t => by show stepG l t k ++ [] = [] ++ stepG l t k; simp
  | x :: a, l, t => by
    show stepG l x k ++ onQG k (stepS l x k) (a ++ [t]) = (stepG l x k ++ onQG k (stepS l x k) a) ++ _
    rw [onQG_app k a (stepS l x k) t, List.append_assoc]
    rfl
theorem onAS_app : ∀ (a : List K) (l : List (UsP K)) (k : K), onAS l (a ++ [k]) = onS1 (onAS l a) k
  | [], _, _ => rfl
  | x :: a, l, k => onAS_app a (onS1 l x) k
theorem onAG_app : ∀ (a : List K) (l : List (UsP K)) (k : K), onAG l (a ++ [k]) = onAG l a ++ onG1 (onAS l a) k
  | [], l, k => by show onG1 l k ++ [] = [] ++ onG1 l k; simp
  | x :: a, l, k => by
    show onG1 l x ++ onAG (onS1 l x) (a ++ [k]) = (onG1 l x ++ onAG (onS1 l x) a) ++ _
    rw [onAG_app a (onS1 l x) k, List.append_assoc]
    rfl
/-- Names stay, whatever is gone on with. -/
theorem step_names (l : List (UsP K)) (t : TxN) (k : K) : (stepS l t k).map (·.tx) = l.map (·.tx) := by
  unfold stepS
  split
  · rfl
  · unfold updU
    rw [List.map_map]
    refine List.map_congr_left (fun u _ => ?_)
    show (if u.tx = t then grU k u else u).tx = u.tx
    split <;> rfl
theorem onQ_names (k : K) : ∀ (q : List TxN) (l : List (UsP K)), (onQS k l q).map (·.tx) = l.map (·.tx)
  | [], _ => rfl
  | t :: q, l => (onQ_names k q (stepS l t k)).trans (step_names l t k)
theorem onA_names : ∀ (ks : List K) (l : List (UsP K)), (onAS l ks).map (·.tx) = l.map (·.tx)
  | [], _ => rfl
  | k :: ks, l => (onA_names ks (onS1 l k)).trans (onQ_names k _ l)
theorem wts_step {l : List (UsP K)} (h : LkB l) {k : K} {t : TxN} {q : List TxN} (hw : Wts l k (t :: q)) (hn : (t :: q).Nodup) : Wts (stepS l t k) k q := fun s hs => by
  obtain ⟨x, hx, e, _⟩ := hw t List.mem_cons_self
  obtain ⟨u, hu, e2, h2⟩ := hw s (List.mem_cons_of_mem _ hs)
  subst e
  exact ⟨u, step_get h hx k hu (fun e3 => (List.nodup_cons.1 hn).1 (by rw [← e3, e2]; exact hs)), e2, h2⟩
theorem step_no {l : List (UsP K)} (h : LkB l) {x : UsP K} (hx : x ∈ l) {t : TxN} (e : x.tx = t) {k : K} (hf : NF l x k) : stepS l t k = l ∧ stepG l t k = [] := by
  subst e
  unfold stepS stepG
  rw [getU_of h hx, if_pos hf, if_pos hf]
  exact ⟨rfl, rfl⟩
theorem step_yes {l : List (UsP K)} (h : LkB l) {x : UsP K} (hx : x ∈ l) {t : TxN} (e : x.tx = t) {k : K} (hf : ¬ NF l x k) : stepS l t k = updU l t (grU k) ∧ stepG l t k = [⟨t, k, max (x.h k) (x.w k)⟩] := by
  subst e
  unfold stepS stepG
  rw [getU_of h hx, if_neg hf, if_neg hf]
  exact ⟨rfl, rfl⟩
end
/-- The sort, of whatever row of one's own. -/
theorem sortK15 {base : Nat} {v : Value} {ts : List KeyT} {w : World} (h : w.ownsRow base 38 8 v ts.length (rowK ts)) (hl : ts.length ≤ 1000000) :
    Calls Tryz.prog 75 #[v, .func (.func 76) #[] #[]] w fun e w' => e = .returned (.tuple #[]) ∧ w'.ownsRow base 38 8 v (sortK ts).length (rowK (sortK ts)) ∧ KeepBut (fun j => v.ownBlock = some j) w w' := by
  haveI : Inhabited KeyT := ⟨⟨[0, 0, 0, 0, 0, 0, 0, 0], rfl, fun c hc => by simp at hc; subst hc; decide⟩⟩
  obtain ⟨hr, ⟨rfl, hz⟩ | ⟨g, cap, cur, rfl, hbase, hgb, r1, r2, r3, r4⟩⟩ := id h
  · have : ts = [] := List.eq_nil_of_length_eq_zero hz
    subst this
    refine (sortF_noneK none 0 _ w).mono ?_
    rintro e w' ⟨rfl, rfl⟩
    exact ⟨rfl, by rw [sortK_nil]; exact h, KeepBut.refl _ _⟩
  · refine (sortF_anyK g cap cur ts w hgb r1 r2 r3 r4 base hbase hl).mono ?_
    rintro e w' ⟨rfl, ho, hg⟩
    exact ⟨rfl, by rw [sortK_length]; exact ho, ⟨hg.os, hg.tape, hg.output, hg.size, fun k hk hS => hg.block k hk (fun e => hS e.symm)⟩⟩
theorem sortK_le (ss : List KeyT) : (sortK ss).Pairwise (fun a b => kysF a b ≤ 0) := by
  have := List.pairwise_mergeSort (le := fun x y : KeyT => !(ltOf kysF) y x) (fun a b c h1 h2 => ?_) (fun a b => ?_) ss
  · exact this.imp (fun {a b} h => by
      simp only [ltOf, Bool.not_eq_true', decide_eq_false_iff_not] at h
      have := kysF_neg a b
      omega)
  · simp only [Bool.not_eq_true'] at h1 h2 ⊢
    exact kysSWO.ntrans _ _ _ h2 h1
  · simp only [ltOf, Bool.or_eq_true, Bool.not_eq_true', decide_eq_false_iff_not]
    have := kysF_neg a b
    omega
/-- Compact, of a sorted row of one's own. -/
theorem comp15 {base : Nat} {v : Value} {ts : List KeyT} {w : World} (h : w.ownsRow base 38 8 v (sortK ts).length (rowK (sortK ts))) (hl : ts.length ≤ 1000000) :
    Calls Tryz.prog 77 #[v] w fun e w' => ∃ v' D, e = .returned v' ∧ KsOk kysF D (fun k => k ∈ ts) ∧ RSrc kyCs w' v' D ∧ (∀ g, v'.ownBlock = some g → v.ownBlock = some g) ∧ D.length ≤ ts.length ∧ KeepBut (fun j => v.ownBlock = some j) w w' := by
  have hmem : ∀ k, k ∈ sortK ts ↔ k ∈ ts := fun k => (List.mergeSort_perm ts _).mem_iff
  have hlen := sortK_length ts
  obtain ⟨ao, cap, rfl, hcap⟩ := owns_shapeR h
  by_cases hn : (sortK ts).length < 2
  · refine (compact_few ao (sortK ts).length cap hn w).mono ?_
    rintro e w' ⟨rfl, rfl⟩
    refine ⟨_, sortK ts, rfl, ⟨?_, hmem⟩, RSrc.of_own h, fun g hg => hg, by omega, KeepBut.refl _ _⟩
    match hs : sortK ts with
    | [] => exact List.Pairwise.nil
    | [a] => exact List.pairwise_singleton _ _
    | a :: b :: r => rw [hs] at hn; simp at hn; omega
  · obtain ⟨hr, ⟨e0, hz⟩ | ⟨g, cap', cur, e1, hbase, hgb, r1, r2, r3, r4⟩⟩ := id h
    · omega
    · cases e1
      obtain ⟨d, hd⟩ : ∃ d, d ∈ sortK ts := List.exists_mem_of_length_pos (by omega)
      have hk := KRow.of_own h d
      have hget : ∀ i, i < (sortK ts).length → ∃ hi : i < (sortK ts).length, (sortK ts).getD i d = (sortK ts)[i] := fun i hi => ⟨hi, by rw [List.getD_eq_getElem?_getD, List.getElem?_eq_getElem hi]; rfl⟩
      refine (compact_any g (sortK ts).length cap (fun i => (sortK ts).getD i d) w hk (by omega) (fun i j hij hj => ?_) hcap r2 (by omega)).mono ?_
      · obtain ⟨h1, e1⟩ := hget i (by omega)
        obtain ⟨h2, e2⟩ := hget j hj
        show kysF ((sortK ts).getD i d) ((sortK ts).getD j d) ≤ 0
        rw [e1, e2]
        by_cases e : i = j
        · subst e
          rw [kysF_self]
          exact Int.le_refl _
        · exact List.pairwise_iff_getElem.1 (sortK_le ts) i j h1 h2 (by omega)
      · rintro e w' ⟨D, rfl, hD, hsrc, hkeep⟩
        have hmD : ∀ x, x ∈ D ↔ x ∈ ts := fun x => by
          rw [hD.mem x, ← hmem x]
          constructor
          · rintro ⟨i, hi, e⟩
            obtain ⟨h1, e1⟩ := hget i hi
            have e2 : (sortK ts)[i] = x := by rw [← e1]; exact e
            rw [← e2]
            exact List.getElem_mem h1
          · intro hx
            obtain ⟨i, hi, e⟩ := List.mem_iff_getElem.1 hx
            obtain ⟨h1, e1⟩ := hget i hi
            exact ⟨i, hi, by show (sortK ts).getD i d = x; rw [e1]; exact e⟩
        refine ⟨_, D, rfl, ⟨hD.rise, hmD⟩, hsrc, fun g' hg' => hg', ?_, hkeep.mono (fun j e => by rw [e]; rfl)⟩
        exact nodup_le _ _ hD.rise.nodup (fun x hx => (hmD x).1 hx)
end
end Go.Proofs.YtddflccjmigloaaGreat
