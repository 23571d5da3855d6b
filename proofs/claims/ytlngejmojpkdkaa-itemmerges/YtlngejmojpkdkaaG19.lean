/-
  Own texts put together: TbRef2, TbRef3, TbAll, TbAll2, TbDone, FramePlain, RecsOpen. Own work.
-/
import Derived.Test.YtlngejmojpkdkaaG18
import Derived.Test.YtlngejmojpkdkaaG16
import Derived.Test.YtlngejmojpkdkaaG17
import Derived.Test.YtlngejmojpkdkaaG01
import Derived.Test.YtlngejmojpkdkaaG08
import Derived.Test.YtlngejmojpkdkaaRows
import Derived.ChangeSlices
import Derived.ProofKit
import Derived.OpenShut
import Derived.ChangeOld
import Derived.Below
import Derived.Carry
import Derived.Deep.Slices
import Derived.ChangeArms
import Derived.SizedLaws
namespace Go.Proofs.Ytlngejmojpkdkaa
section
open Go.RowKit Classical

theorem build_it0 (w : World) : (Instr.build 36 #[]).run Try.prog w = .ok (.agg (itA zeroIt)) w := by kernel_rfl
/-- Where a key's item stands. -/
theorem get_at {t : List WrP} {k : List Int} {i : ItP} (h : getT t k = some i) : (upT t k).length < t.length ∧ t[(upT t k).length]? = some ⟨k, i⟩ := by
  unfold getT at h
  cases e : dnT t k with
  | nil => rw [e] at h; cases h
  | cons x l =>
    rw [e] at h
    dsimp only at h
    by_cases he : x.key = k
    · rw [if_pos he] at h
      cases h
      have ht : t = upT t k ++ x :: l := by rw [← e, up_dn]
      have hlt : (upT t k).length < t.length := by
        have := congrArg List.length ht
        rw [List.length_append, List.length_cons] at this
        omega
      refine ⟨hlt, ?_⟩
      have h2 : (upT t k ++ x :: l)[(upT t k).length]? = some x := by simp
      rw [← ht] at h2
      rw [h2, ← he]
    · rw [if_neg he] at h
      cases h
set_option maxRecDepth 100000 in
set_option maxHeartbeats 1600000 in
theorem rget_any (p n cap : Nat) (ao : Option Addr) (t : List WrP) (k : List Int) (w : World) (hc : w.cell? ⟨p, 0, none⟩ = some (.slice ao n cap)) (hp : p < w.heap.size) (hs : RSrc wrE w (.slice ao n cap) t) (hk : KeyOk k) (hks : ∀ x ∈ t, KeyOk x.key) (hl : t.length ≤ 100000) :
    Calls Try.prog 18 #[.pointer (some ⟨p, 0, none⟩), .agg (eightA k)] w fun e w' => e = .returned (.tuple #[.agg (itA ((getT t k).getD zeroIt)), .bool (getT t k).isSome]) ∧ Below w.heap.size w w' := by
  have hA := alloc_below13 w (.cells (eightA k) 31)
  have hA2 := alloc_below13 (w.alloc (.cells (eightA k) 31)) (.cells (itA zeroIt) 36)
  have hB2 : Below w.heap.size w ((w.alloc (.cells (eightA k) 31)).alloc (.cells (itA zeroIt) 36)) := hA.trans (hA2.mono hA.size)
  have HXK := hide ((box_new w (eightA k) 31).belowI hA2)
  have HXR : Hid (Box ((w.alloc (.cells (eightA k) 31)).alloc (.cells (itA zeroIt) 36)) (w.heap.size + 1) (itA zeroIt) 36) := hide (by have := box_new (w.alloc (.cells (eightA k) 31)) (itA zeroIt) 36; simpa using this)
  have HB2 := hide hB2
  have CP := hide (rplace_any p n cap ao t k _ ((hB2.cell (p := ⟨p, 0, none⟩) hp).trans hc) (Nat.lt_of_lt_of_le hp hB2.size) (hs.below hB2) hk hks hl)
  have HCW : Hid (∀ W, Below w.heap.size w W → W.cell? ⟨p, 0, none⟩ = some (.slice ao n cap)) := hide (fun W hB => (hB.cell (p := ⟨p, 0, none⟩) hp).trans hc)
  have HS := hide hs
  have HNT : Hid (n = t.length) := hide (by obtain ⟨_, _, e, _⟩ := hs; cases e; rfl)
  have HGA := hide (fun i (h : getT t k = some i) => get_at h)
  have hbz := build_it0
  have hup : (upT t k).length ≤ 100000 := by
    have := congrArg List.length (up_dn t k)
    rw [List.length_append] at this
    omega
  clear hA hA2 hB2 hc hp hs hk hks hl
  cases hg : getT t k with
  | none =>
    rw [hg] at CP
    obtain ⟨J, hJ⟩ : ∃ J, J = (upT t k).length := ⟨_, rfl⟩
    rw [← hJ] at CP
    simp only [Option.isSome_none, Option.getD_none]
    simp only [Option.isSome_none] at CP
    clear hg hJ HGA
    go_enter Try.func18, Try.ntmps18
    go_wp2_with (refine wp_load_box rfl _ rfl w.heap.size rfl HXK.out Try.underlying31 rfl infoKey13 ?_)
    refine CP.out.mono ?_
    rintro e w3 ⟨rfl, hB3⟩
    have HXR3 := hide (HXR.out.belowI hB3)
    have HB3 := hide (HB2.out.trans (hB3.mono HB2.out.size))
    clear hB3 HXK HXR
    go_wp2_with (refine wp_store_box rfl rfl _ _ rfl (w.heap.size + 1) rfl (cs' := itA zeroIt) rfl HXR3.out rfl infoIt13 (itA_one13 _) ?_; intro w4 hb4 hk4; have HR4 := hide hb4; have HB4 := hide (HB3.out.trans (hk4.below HB3.out.size (fun k hk => by omega))); clear hb4 hk4)
    refine bodyPost_ret (v := .tuple #[.agg (itA zeroIt), .bool false]) (results_box2 Try.results18 _ _ (w.heap.size + 1) rfl rfl HR4.out Try.underlying36 rfl infoIt13) rfl ⟨rfl, HB4.out⟩
  | some i =>
    rw [hg] at CP
    obtain ⟨hlt, hat⟩ := HGA.out i hg
    obtain ⟨J, hJ⟩ : ∃ J, J = (upT t k).length := ⟨_, rfl⟩
    rw [← hJ] at CP hup hlt hat
    rw [List.getElem?_eq_getElem hlt] at hat
    replace hat := Option.some.inj hat
    simp only [Option.isSome_some, Option.getD_some]
    simp only [Option.isSome_some] at CP
    have hJn : J < n := by rw [HNT.out]; exact hlt
    have hJI : (J : Int) < (n : Int) := by omega
    clear hg hJ HGA
    go_enter Try.func18, Try.ntmps18
    go_wp2_with (refine wp_load_box rfl _ rfl w.heap.size rfl HXK.out Try.underlying31 rfl infoKey13 ?_)
    refine CP.out.mono ?_
    rintro e w3 ⟨rfl, hB3⟩
    have HXR3 := hide (HXR.out.belowI hB3)
    have HB3 := hide (HB2.out.trans (hB3.mono HB2.out.size))
    have hcp := HCW.out w3 HB3.out
    obtain ⟨_, b, off, e9, hb, hcl⟩ := (HS.out.below HB3.out).at recWR.len hlt
    obtain rfl := e9
    have HRI : Hid (w3.rangeAt b (off + J * 21 + 8) (itE i)) := hide (fun m v hv => by
      have h := hcl (8 + m) v (by
        rw [hat]
        show (eightE k ++ itE i)[8 + m]? = some v
        rw [List.getElem?_append_right (by simp)]
        simpa using hv)
      rw [← Nat.add_assoc] at h
      exact h)
    clear hB3 HXK HXR hcl hb hat hlt
    go_wp2_with (first | (refine wpList_load_mid rfl 36 _ rfl b (off + J * 21 + 8) rfl (itE i) _ HRI.out Try.underlying36 rfl infoIt13 ?_) | (refine wp_store_box rfl rfl _ _ rfl (w.heap.size + 1) rfl (cs' := itA i) rfl HXR3.out rfl infoIt13 (itA_one13 _) ?_; intro w4 hb4 hk4; have HR4 := hide hb4; have HB4 := hide (HB3.out.trans (hk4.below HB3.out.size (fun k hk => by omega))); clear hb4 hk4))
    refine bodyPost_ret (v := .tuple #[.agg (itA i), .bool true]) (results_box2 Try.results18 _ _ (w.heap.size + 1) rfl rfl HR4.out Try.underlying36 rfl infoIt13) rfl ⟨rfl, HB4.out⟩
end
section
open Go.RowKit Classical

theorem recIT : Rec 47 36 13 itE := ⟨Try.underlying47, rec_info (z := .agg (itA zeroIt)) (K := 13) (B := 40) (by kernel_rfl) rfl (by decide), by decide, fun _ => rfl⟩
/-- Newest: of none nothing. -/
def nwT : List ItP → Option ItP
  | [] => none
  | x :: l => some (newT l x)
theorem newT_take (x : ItP) (l : List ItP) {j : Nat} (h : j < l.length) : newT (l.take (j + 1)) x = if (newT (l.take j) x).ver < (l[j]).ver then l[j] else newT (l.take j) x := by
  rw [List.take_succ_eq_append_getElem h, newT_app]
set_option maxRecDepth 100000 in
set_option maxHeartbeats 1600000 in
theorem rnewest_any (v : Value) (is : List ItP) (w : World) (hs : RSrc itE w v is) (hl : is.length ≤ 100000) :
    Calls Try.prog 20 #[v] w fun e w' => e = .returned (.tuple #[.agg (itA ((nwT is).getD zeroIt)), .bool (nwT is).isSome]) ∧ Below w.heap.size w w' := by
  obtain ⟨ao, cap, rfl, _, _⟩ := hs.shape
  have hA := alloc_below13 w (.cells (itA zeroIt) 36)
  have HXR := hide (box_new w (itA zeroIt) 36)
  have HB1 := hide hA
  have HS1 := hide (hs.below hA)
  have hbz := build_it0
  have hsz : (w.alloc (.cells (itA zeroIt) 36)).heap.size = w.heap.size + 1 := by simp
  cases is with
  | nil =>
    have HE : Hid (nwT [] = none) := rfl
    rw [HE.out]
    simp only [Option.isSome_none, Option.getD_none]
    clear hs hA hl hsz HE
    go_enter Try.func20, Try.ntmps20
    go_wp2_with (refine wp_store_box rfl rfl _ _ rfl w.heap.size rfl (cs' := itA zeroIt) rfl HXR.out rfl infoIt13 (itA_one13 _) ?_; intro w4 hb4 hk4; have HR4 := hide hb4; have HB4 := hide (HB1.out.trans (hk4.below HB1.out.size (fun k hk => by omega))); clear hb4 hk4)
    refine bodyPost_ret (v := .tuple #[.agg (itA zeroIt), .bool false]) (results_box2 Try.results20 _ _ w.heap.size rfl rfl HR4.out Try.underlying36 rfl infoIt13) rfl ⟨rfl, HB4.out⟩
  | cons x0 l =>
    have HE : Hid (nwT (x0 :: l) = some (newT l x0)) := rfl
    rw [HE.out]
    simp only [Option.isSome_some, Option.getD_some]
    obtain ⟨en0, b, off, e9, hb, hcl⟩ := HS1.out.at recIT.len (i := 0) (by simp)
    obtain rfl := e9
    have HR0 : Hid ((w.alloc (.cells (itA zeroIt) 36)).rangeAt b off (itE x0)) := hide (fun m v hv => by have h := hcl m v hv; simpa using h)
    have HR00 : Hid ((w.alloc (.cells (itA zeroIt) 36)).rangeAt b (off + 0) (itE x0)) := HR0
    obtain ⟨n, hn⟩ : ∃ n, n = (x0 :: l).length := ⟨_, rfl⟩
    have HN := hide hn
    have hn1 : 1 ≤ n ∧ n ≤ 100000 := by rw [hn] at *; simp at hl ⊢; omega
    have hn0 : ((n : Int) == 0) = false := by simp; omega
    have hn2 : (0 : Int) < (n : Int) := by omega
    have HZ : Hid (Box ((w.alloc (.cells (itA zeroIt) 36)).alloc (.cells (itA zeroIt) 36)) (w.heap.size + 1) (itA zeroIt) 36) := hide (by have := box_new (w.alloc (.cells (itA zeroIt) 36)) (itA zeroIt) 36; simpa using this)
    have hZB := alloc_below13 (w.alloc (.cells (itA zeroIt) 36)) (.cells (itA zeroIt) 36)
    have HXR2 := hide (HXR.out.belowI hZB)
    have HB2 := hide (HB1.out.trans (hZB.mono HB1.out.size))
    have HSW := hide hs
    rw [← hn] at HSW ⊢
    clear hs hA hl hcl hb hn hZB HXR HB1 HS1 en0
    go_enter Try.func20, Try.ntmps20
    go_wp2_with (first | (refine wpList_load_mid rfl 36 _ rfl b off rfl (itE x0) _ HR0.out Try.underlying36 rfl infoIt13 ?_) | (refine wp_store_box rfl rfl _ _ rfl (w.heap.size + 1) rfl (cs' := itA x0) rfl HZ.out rfl infoIt13 (itA_one13 _) ?_; intro w3 hb3 hk3; have HX3 := hide hb3; have HXR3 := hide (HXR2.out.keep hk3 (by omega)); have HB3 := hide (HB2.out.trans (hk3.below HB2.out.size (fun k hk => by omega))); clear hb3 hk3))
    clear HR0 HR00 HZ HXR2 HB2
    have HNL : Hid (n = l.length + 1) := hide (by rw [HN.out]; simp)
    go_loopg [5] (n - 1) (fun g i wr => ∃ j : Nat, j + 1 + g = n ∧ i = .int .i64 ((j + 1 : Nat) : Int) ∧ Hid (Box wr (w.heap.size + 1) (itA (newT (l.take j) x0)) 36) ∧ Hid (Box wr w.heap.size (itA zeroIt) 36) ∧ Hid (Below w.heap.size w wr))
    case atStart => exact ⟨0, by omega, rfl, HX3, HXR3, HB3⟩
    case round =>
      obtain ⟨j, hj, rfl, HX, HXR, HB⟩ := hrel
      cases gk with
      | zero =>
        have hjl : Hid (l.take j = l) := hide (List.take_of_length_le (by have := HNL.out; omega))
        rw [hjl.out] at HX
        have hz : ¬ (((j + 1 : Nat) : Int) < (n : Int)) := by omega
        go_wp2_with (first | (refine wp_load_box rfl _ rfl (w.heap.size + 1) rfl HX.out Try.underlying36 rfl infoIt13 ?_) | (refine wp_store_box rfl rfl _ _ rfl w.heap.size rfl (cs' := itA (newT l x0)) rfl HXR.out rfl infoIt13 (itA_one13 _) ?_; intro w4 hb4 hk4; have HR4 := hide hb4; have HB4 := hide (HB.out.trans (hk4.below HB.out.size (fun k hk => by omega))); clear hb4 hk4))
        refine bodyPost_ret (v := .tuple #[.agg (itA (newT l x0)), .bool true]) (results_box2 Try.results20 _ _ w.heap.size rfl rfl HR4.out Try.underlying36 rfl infoIt13) rfl ⟨rfl, HB4.out⟩
      | succ g =>
        have hjl : j < l.length := by have := HNL.out; omega
        have hz : ((j + 1 : Nat) : Int) < (n : Int) := by omega
        have HNT := hide (newT_take x0 l hjl)
        obtain ⟨en, b2, off2, e9, hb2, hcl2⟩ := (HSW.out.below HB.out).at recIT.len (i := j + 1) (by simp; omega)
        cases e9
        have HRI : Hid (wr.rangeAt b (off + (j + 1) * 13) (itE (l[j]))) := hide (fun m v hv => hcl2 m v (by simpa using hv))
        generalize l[j] = x at *
        generalize newT (l.take j) x0 = best at *
        have y0 := HX.out.cell 0 (.int .u32 (best.ver : Int)) rfl
        have z0 : wr.cell? ⟨b, off + (j + 1) * 13, none⟩ = some (.int .u32 (x.ver : Int)) := HRI.out 0 _ rfl
        clear hcl2 hb2 en
        have HJ : Hid (((j + 1 : Nat) : Int) = (j : Int) + 1) := hide (by omega)
        by_cases hv : best.ver < x.ver
        · have d1 : decide (best.ver < x.ver) = true := decide_eq_true hv
          have d2 : (best.ver : Int) < (x.ver : Int) := by omega
          have d3 : decide ((best.ver : Int) < (x.ver : Int)) = true := decide_eq_true d2
          rw [if_pos hv] at HNT
          go_wp2_with fail
          go_region_held (fun w' => w'.cell? ⟨b, off + (j + 1) * 13, none⟩ = some (.int .u32 (x.ver : Int)) ∧ w'.cell? ⟨w.heap.size + 1, 0, none⟩ = some (.int .u32 (best.ver : Int))) (go_keep) (fail)
          have HX5 := hide (HX.out.belowI (below_drew13 wr))
          have HR5 := hide (HXR.out.belowI (below_drew13 wr))
          have HB5 := hide (HB.out.trans ((below_drew13 wr).mono HB.out.size))
          have HI5 : Hid (wr.drew.rangeAt b (off + (j + 1) * 13) (itE x)) := hide (fun m v hv => HRI.out m v hv)
          clear y0 z0
          go_wp2_with (first | (refine wpList_load_mid rfl 36 _ rfl b (off + (j + 1) * 13) rfl (itE x) _ HI5.out Try.underlying36 rfl infoIt13 ?_) | (refine wp_store_box rfl rfl _ _ rfl (w.heap.size + 1) rfl (cs' := itA x) rfl HX5.out rfl infoIt13 (itA_one13 _) ?_; intro w4 hb4 hk4; have HX6 := hide hb4; have HR6 := hide (HR5.out.keep hk4 (by omega)); have HB6 := hide (HB5.out.trans (hk4.below HB5.out.size (fun k hk => by omega))); clear hb4 hk4))
          go_roundg g
          case measure => omega
          case rel => exact ⟨j + 1, by omega, by first | rfl | go_num, hide (by rw [HNT.out]; exact HX6.out), HR6, HB6⟩
        · have d1 : decide (best.ver < x.ver) = false := decide_eq_false hv
          have d2 : ¬ (best.ver : Int) < (x.ver : Int) := by omega
          have d3 : decide ((best.ver : Int) < (x.ver : Int)) = false := decide_eq_false d2
          rw [if_neg hv] at HNT
          go_wp2_with fail
          go_region_held (fun w' => w'.cell? ⟨b, off + (j + 1) * 13, none⟩ = some (.int .u32 (x.ver : Int)) ∧ w'.cell? ⟨w.heap.size + 1, 0, none⟩ = some (.int .u32 (best.ver : Int))) (go_keep) (fail)
          have HX5 := hide (HX.out.belowI (below_drew13 wr))
          have HR5 := hide (HXR.out.belowI (below_drew13 wr))
          have HB5 := hide (HB.out.trans ((below_drew13 wr).mono HB.out.size))
          clear y0 z0
          go_wp2_with fail
          go_roundg g
          case measure => omega
          case rel => exact ⟨j + 1, by omega, by first | rfl | go_num, hide (by rw [HNT.out]; exact HX5.out), HR5, HB5⟩
end
section
open Go.RowKit Go.Maps Go.Shelf Go.Sort Classical

/-- A table's keys. -/
def kysOf : (t : List WrP) → (∀ x ∈ t, KeyOk x.key) → List KeyT
  | [], _ => []
  | x :: l, h => ⟨x.key, h x List.mem_cons_self⟩ :: kysOf l (fun y hy => h y (List.mem_cons_of_mem _ hy))
theorem kysOf_mem (k : KeyT) : ∀ (t : List WrP) (h : ∀ x ∈ t, KeyOk x.key), k ∈ kysOf t h ↔ ∃ x ∈ t, x.key = k.1
  | [], _ => by simp [kysOf]
  | x :: l, h => by
    have ih := kysOf_mem k l (fun y hy => h y (List.mem_cons_of_mem _ hy))
    unfold kysOf
    rw [List.mem_cons, ih]
    constructor
    · rintro (e | ⟨y, hy, e⟩)
      · exact ⟨x, List.mem_cons_self, by rw [e]⟩
      · exact ⟨y, List.mem_cons_of_mem _ hy, e⟩
    · rintro ⟨y, hy, e⟩
      rcases List.mem_cons.1 hy with rfl | hy
      · exact .inl (Subtype.ext e.symm)
      · exact .inr ⟨y, hy, e⟩
theorem kysOf_row : ∀ (t : List WrP) (h : ∀ x ∈ t, KeyOk x.key), rowK (kysOf t h) = flat eightE (t.map (·.key)) ∧ (kysOf t h).length = t.length
  | [], _ => ⟨rfl, rfl⟩
  | x :: l, h => by
    have ih := kysOf_row l (fun y hy => h y (List.mem_cons_of_mem _ hy))
    unfold kysOf
    refine ⟨?_, by rw [List.length_cons, List.length_cons, ih.2]⟩
    rw [List.map_cons, flat_cons, ← ih.1]
    unfold rowK
    rw [List.flatMap_cons]
theorem kysOf_rise : ∀ (t : List WrP) (h : ∀ x ∈ t, KeyOk x.key), (t.Pairwise fun a b => lexF a.key b.key < 0) → RisingK (kysOf t h)
  | [], _, _ => List.Pairwise.nil
  | x :: l, h, hp => by
    have ih := kysOf_rise l (fun y hy => h y (List.mem_cons_of_mem _ hy)) (List.pairwise_cons.1 hp).2
    unfold kysOf
    unfold RisingK at ih ⊢
    refine List.pairwise_cons.2 ⟨fun k hk => ?_, ih⟩
    obtain ⟨y, hy, e⟩ := (kysOf_mem k l _).1 hk
    have := (List.pairwise_cons.1 hp).1 y hy
    show lexF x.key k.1 < 0
    rw [← e]
    exact this
theorem recKY : Rec 66 31 8 eightE := ⟨Try.underlying66, rec_info (z := .agg (eightA [0, 0, 0, 0, 0, 0, 0, 0])) (K := 8) (B := 8) (by kernel_rfl) rfl (by decide), by decide, fun _ => rfl⟩
theorem enKeys1 : ∀ args w, (callFunc 45 args).run Try.prog w = .ok (.enter 45 args) w := enters_of Try.func45 (by kernel_rfl) rfl
/-- The sorted keys of a table's map. -/
theorem sortedKeys_any (b : Nat) (t : List WrP) (w : World) (h : MapI w b t) :
    Calls Try.prog 31 #[.func (.func 45) #[] #[.pointer (some ⟨w.heap.size, 0, none⟩)], .func (.func 33) #[] #[]] (w.alloc (.cells #[.map (some b)] 55)) fun e w' => ∃ v, e = .returned v ∧ RSrc eightE w' v (t.map (·.key)) ∧ Below w.heap.size w w' := by
  haveI : Inhabited KeyT := ⟨⟨k0, k0_ok⟩⟩
  obtain ⟨_, D, _, ho, hs, hh, _⟩ := h.own
  have hks : ∀ x ∈ t, KeyOk x.key := fun x hx => (h.oks x hx).1
  have hsz : Maps.size D ≤ 64 := by rw [hs]; exact h.ok.few
  have HS := kkeys_stops 5 (by omega) w.heap.size b (Maps.size D) D (w.alloc (.cells #[.map (some b)] 55)) (by simp) (Boxed.new w 55 (.map (some b))).cell (ho.alloc _)
  refine Calls.mono ((callsIn_wide (n := 8)).1 (sorted_inK 8 (by omega) _ _ enKeys1 (fun ss => KeysOf D ss ∧ ss.length ≤ Maps.size D) (Maps.size D) (by omega) _ (fun ss h => h.2) HS)) ?_
  rintro e w' ⟨v, ss, rfl, ⟨hN, _⟩, hown, hB⟩
  have hmem : ∀ k : KeyT, k ∈ kysOf t hks ↔ k ∈ ss := fun k => by
    rw [kysOf_mem, hN.2 k, hh k.1 k.2]
    constructor
    · rintro ⟨x, hx, e⟩
      have : getT t k.1 = some x.it := (get_iff h.ok k.1 x.it).2 (by rw [← e]; exact hx)
      rw [this]
      rfl
    · intro hg
      cases hg2 : getT t k.1 with
      | none => rw [hg2] at hg; cases hg
      | some i => exact ⟨_, (get_iff h.ok k.1 i).1 hg2, rfl⟩
  have hsort := sortK_unique ss (kysOf t hks) hN.1 (kysOf_rise t hks h.ok.rise) hmem
  have hlen : ss.length = (t.map (·.key)).length := by rw [← sortK_length ss, hsort, (kysOf_row t hks).2, List.length_map]
  rw [hsort, (kysOf_row t hks).1, hlen] at hown
  exact ⟨v, rfl, RSrc.of_own hown, (alloc_below13 w _).trans (hB.mono (by simp))⟩
theorem owns_belowT {w w' : World} {b e s n : Nat} {v : Value} {xs : List Value} (h : w.ownsRow b e s v n xs) (hB : Below w.heap.size w w') : w'.ownsRow b e s v n xs := owns_keep h (KeepBut.of_below (fun _ => False) hB) (fun _ _ h => h)
theorem wrA_ex (x : WrP) : wrA x = #[.int .u8 (at8 x.key 0), .int .u8 (at8 x.key 1), .int .u8 (at8 x.key 2), .int .u8 (at8 x.key 3), .int .u8 (at8 x.key 4), .int .u8 (at8 x.key 5), .int .u8 (at8 x.key 6), .int .u8 (at8 x.key 7), .int .u32 (x.it.ver : Int), .string (strOfNums x.it.val), .int .u32 (x.it.cf.e : Int), .int .u8 (x.it.cf.r : Int), .int .u8 (x.it.cf.w : Int), .int .u8 (atN x.it.cf.vs 0), .int .u8 (atN x.it.cf.vs 1), .int .u8 (atN x.it.cf.vs 2), .int .u8 (atN x.it.cf.vs 3), .int .u8 (atN x.it.cf.vs 4), .int .u8 (atN x.it.cf.vs 5), .int .u8 (atN x.it.cf.vs 6), .int .u8 (atN x.it.cf.vs 7)] := rfl
theorem build_wr (k : List Int) (i : ItP) (w : World) : (Instr.build 38 #[(0, .agg (eightA k)), (1, .agg (itA i))]).run Try.prog w = .ok (.agg (wrA ⟨k, i⟩)) w := by kernel_rfl
end
section
open Go.RowKit Go.Maps Classical

attribute [local go_sem ↓] app_hideH
set_option maxRecDepth 100000 in
set_option maxHeartbeats 3200000 in
theorem ptAll_any (q b : Nat) (t : List WrP) (w : World) (h : PTb w q b t) :
    Calls Try.prog 15 #[.pointer (some ⟨q, 0, none⟩)] w fun e w' => ∃ v, e = .returned v ∧ w'.ownsRow w.heap.size 38 21 v t.length (flat wrE t) ∧ Below w.heap.size w w' := by
  have C := hide (made_any q b w h.box)
  have CK := hide ((callsIn_wide (n := 8)).1 (kkeys_in 8 (some b) w))
  have CS := hide (sortedKeys_any b t w h.map)
  have h0 := h.box.cell 0 _ rfl
  have H := hide h
  have hfew := h.map.ok.few
  obtain ⟨n, hn⟩ : ∃ n, n = t.length := ⟨_, rfl⟩
  have HN := hide hn
  rw [← hn] at hfew ⊢
  clear h hn
  go_enter Try.func15, Try.ntmps15
  go_wp2_with fail
  refine C.out.mono ?_
  rintro e w' ⟨rfl, hw1⟩
  subst hw1
  go_wp2_with fail
  refine CK.out.mono ?_
  rintro e w2 ⟨rfl, hw2⟩
  subst hw2
  go_wp2_with fail
  refine CS.out.mono ?_
  rintro e w3 ⟨v3, rfl, hsrc, hB3⟩
  have HS3 := hide hsrc
  obtain ⟨ao, cap, e3, _, _⟩ := hsrc.shape
  rw [List.length_map, ← HN.out] at e3
  subst e3
  have HB3 := hide hB3
  clear hsrc hB3 CS CK C h0
  go_wp2_with fail
  go_loopg [3, 16] n (fun g vo ix wr => ∃ k : Nat, k + g = n ∧ ix = .int .i64 (k : Int) ∧ Hid (wr.ownsRow w3.heap.size 38 21 vo (t.take k).length (flat wrE (t.take k))) ∧ Hid (Below w3.heap.size w3 wr))
  case atStart => exact ⟨0, by omega, rfl, hide (World.ownsRow_nil _ _ _ _), hide (Below.refl _ _)⟩
  case round =>
    obtain ⟨k, hk, rfl, HO, HB⟩ := hrel
    cases gk with
    | zero =>
      obtain rfl : k = n := by omega
      have hz : ¬ ((k : Int) < (k : Int)) := by omega
      have HE : Hid (t.take k = t) := hide (by rw [HN.out]; exact List.take_length)
      rw [HE.out] at HO
      go_wp2_with fail
      go_ret
      refine ⟨_, rfl, ?_, HB3.out.trans (HB.out.mono HB3.out.size)⟩
      rw [HN.out]
      exact own_baseK HO.out HB3.out.size
    | succ g =>
      have hz : (k : Int) < (n : Int) := by omega
      have hkt : k < t.length := by rw [← HN.out]; omega
      have hkm : k < (t.map (·.key)).length := by rw [List.length_map]; exact hkt
      obtain ⟨en9, bb, off, e9, hbb, hcl⟩ := (HS3.out.below HB.out).at recKY.len hkm
      obtain rfl := e9
      have HRK : Hid (wr.rangeAt bb (off + k * 8) (eightE (t[k]).key)) := hide (fun j u hu => hcl j u (by rw [List.getElem_map]; exact hu))
      have HTK := hide (List.take_succ_eq_append_getElem hkt)
      have HMX := hide (List.getElem_mem hkt)
      have HPT := hide ((H.out.below HB3.out).below HB.out)
      generalize t[k] = x at *
      have HKX := hide (HPT.out.map.oks x HMX.out).1
      have HGX : Hid (getT t x.key = some x.it) := hide ((get_iff HPT.out.map.ok x.key x.it).2 HMX.out)
      have HZ := hide (box_new wr (eightA [0, 0, 0, 0, 0, 0, 0, 0]) 31)
      have HZB := hide (alloc_below13 wr (.cells (eightA [0, 0, 0, 0, 0, 0, 0, 0]) 31))
      clear hcl hbb hkm hkt en9
      go_wp2_with (first | (refine wpList_load_mid rfl 31 _ rfl bb (off + k * 8) rfl (eightE x.key) _ HRK.out Try.underlying31 rfl infoKey13 ?_) | (refine wp_store_box rfl rfl _ _ rfl wr.heap.size rfl (cs' := eightA x.key) rfl HZ.out rfl infoKey13 (by simp [Value.oneCell']) ?_; intro w5 hb5 hk5; have HX5 := hide hb5; have HB5 := hide (HZB.out.trans (hk5.below HZB.out.size (fun j hj => by omega))); clear hb5 hk5))
      have HP5 := hide (HPT.out.below HB5.out)
      have HO5 := hide (owns_belowT HO.out HB5.out)
      have HBW := hide (HB.out.trans (HB5.out.mono HB.out.size))
      obtain ⟨v6, w6, hrun, hown6, hgr6, _⟩ := run_recsH recWR ((w5.alloc (.cells (wrA x) 38)).drew) w3.heap.size u3 (.slice (some ⟨w5.heap.size, 0, none⟩) 1 1) (t.take k) [x] (owns_belowT HO5.out ((alloc_below13 w5 _).trans ((below_drew13 _).mono (by simp)))) ((src_new w5 x (wrA x) rfl 38).below (below_drew13 _)) (fun y _ => wr_one y) (by rw [List.length_take]; simp; omega) (Nat.le_trans HBW.out.size (by simp))
      have g0 : w5.cell? ⟨q, 0, none⟩ = some (.map (some b)) := HP5.out.box.cell 0 _ rfl
      obtain ⟨k0, k1, k2, k3, k4, k5, k6, k7⟩ := box_eight HX5.out
      have L1 := (HP5.out.map.below (below_drew13 w5)).look1 HKX.out
      rw [HGX.out] at L1
      simp only [Option.getD_some] at L1
      have hbw := build_wr x.key x.it
      have HO6 := hide hown6
      have HG6 := hide hgr6
      have hrun6 := hrun 22
      rw [wrA_ex] at hrun6
      clear hown6 hgr6 hrun HZ HZB HRK
      go_region
      have hro : t.take (k + 1) = t.take k ++ [x] := HTK.out
      go_wp2_with fail
      go_roundg g
      case measure => omega
      case rel =>
        have hB7 := HBW.out.trans (((alloc_below13 w5 (.cells (wrA x) 38)).trans ((below_drew13 _).mono (by simp))).mono HBW.out.size)
        exact ⟨k + 1, by omega, by first | rfl | go_num, hide (by rw [hro]; exact HO6.out), hide (hB7.grown HG6.out hB7.size (fun j e => (HO5.out.lt j e).1))⟩
end
section
open Go.RowKit Go.Maps Classical

theorem pt_did {w w' : World} {q b : Nat} {F : Nat → Prop} {t' : List WrP} (hF : ∀ k, F k ↔ (k = q ∨ k = b)) (h : PTb w' q b t') (hk : KeepBut (fun j => j = b) w w') : TDid PT w w' q F t' :=
  ⟨F, ⟨b, h, hF⟩, ⟨hk.os, hk.tape, hk.output, hk.size, fun k hlt hn => hk.block k hlt (fun e => hn ((hF k).2 (.inr e)))⟩, fun _ h => .inl h⟩
theorem pt_do : TableDo PT where
  keep := pt_keep
  lt := pt_lt
  ok := pt_ok
  new := ptNew_any
  ins := fun {w q F t} k i h hk hi _ => by
    obtain ⟨b, h1, h2⟩ := h
    exact (ptIns_any q b t k i w h1 hk hi).mono fun e w' ⟨he, h3, h4⟩ => ⟨he, pt_did h2 h3 h4⟩
  get := fun {w q F t} k h hk => by
    obtain ⟨b, h1, _⟩ := h
    exact ptGet_any q b t k w h1 hk
  all := fun {w q F t} h => by
    obtain ⟨b, h1, _⟩ := h
    exact ptAll_any q b t w h1
  len := fun {w q F t} h => by
    obtain ⟨b, h1, _⟩ := h
    exact (ptLen_any q b t w h1).mono fun e w' ⟨he, hw⟩ => ⟨he, by rw [hw]; exact Below.refl _ _⟩
/-- A table that nobody made: nil, or one without a map. -/
def Nob13 (w : World) (v : Value) : Prop := v = .pointer none ∨ ∃ q, v = .pointer (some ⟨q, 0, none⟩) ∧ Box w q #[.map none] 57
theorem Nob13.below {w w' : World} {v : Value} (h : Nob13 w v) (hB : Below w.heap.size w w') : Nob13 w' v := h.imp id fun ⟨q, e, hb⟩ => ⟨q, e, hb.belowI hB⟩
theorem nobMade {w : World} {v : Value} (h : Nob13 w v) : Calls Try.prog 24 #[v] w fun e w' => e = .returned (.bool false) ∧ w' = w := by
  rcases h with rfl | ⟨q, rfl, hb⟩
  · exact made_nil w
  · exact made_none q w hb
set_option maxRecDepth 100000 in
theorem nobLen {w : World} {v : Value} (h : Nob13 w v) : Calls Try.prog 16 #[v] w fun e w' => e = .returned (.int .i64 0) ∧ w' = w := by
  have C := hide (nobMade h)
  clear h
  go_enter Try.func16, Try.ntmps16
  go_wp2_with (go_at_call 24; refine C.out.mono ?_; rintro e w' ⟨rfl, rfl⟩)
  go_ret
  exact ⟨rfl, rfl⟩
set_option maxRecDepth 100000 in
theorem nobAll {w : World} {v : Value} (h : Nob13 w v) : Calls Try.prog 15 #[v] w fun e w' => e = .returned (.slice none 0 0) ∧ w' = w := by
  have C := hide (nobMade h)
  clear h
  go_enter Try.func15, Try.ntmps15
  go_wp2_with (go_at_call 24; refine C.out.mono ?_; rintro e w' ⟨rfl, rfl⟩)
  go_ret
  exact ⟨rfl, rfl⟩
set_option maxRecDepth 100000 in
theorem nobMerge {w : World} {v : Value} (u : Value) (h : Nob13 w v) : Calls Try.prog 21 #[v, u] w fun e w' => e = .returned (.int .i64 2) ∧ w' = w := by
  have C := hide (nobMade h)
  clear h
  go_enter Try.func21, Try.ntmps21
  go_wp2_with (go_at_call 24; refine C.out.mono ?_; rintro e w' ⟨rfl, rfl⟩)
  go_ret
  exact ⟨rfl, rfl⟩
set_option maxRecDepth 100000 in
theorem nobIns {w : World} {v : Value} (k : List Int) (i : ItP) (h : Nob13 w v) : Calls Try.prog 12 #[v, .agg (eightA k), .agg (itA i)] w fun e w' => e = .returned (.int .i64 2) ∧ Below w.heap.size w w' := by
  have hA := alloc_below13 w (.cells (eightA k) 31)
  have hA2 := alloc_below13 (w.alloc (.cells (eightA k) 31)) (.cells (itA i) 36)
  have hB2 := hA.trans (hA2.mono hA.size)
  have C := hide (nobMade (h.below hB2))
  have HB := hide hB2
  clear h hA hA2 hB2
  go_enter Try.func12, Try.ntmps12
  go_wp2_with fail
  refine C.out.mono ?_
  rintro e w1 ⟨rfl, hw1⟩
  replace HB : Hid (Below w.heap.size w w1) := hide (by rw [hw1]; exact HB.out)
  clear hw1 C
  go_wp2_with fail
  go_ret
  exact ⟨rfl, HB.out⟩
set_option maxRecDepth 100000 in
theorem nobGet {w : World} {v : Value} (k : List Int) (h : Nob13 w v) : Calls Try.prog 17 #[v, .agg (eightA k)] w fun e w' => e = .returned (.tuple #[.agg (itA zeroIt), .bool false]) ∧ Below w.heap.size w w' := by
  have hA := alloc_below13 w (.cells (eightA k) 31)
  have hA2 := alloc_below13 (w.alloc (.cells (eightA k) 31)) (.cells (itA zeroIt) 36)
  have hB2 : Below w.heap.size w ((w.alloc (.cells (eightA k) 31)).alloc (.cells (itA zeroIt) 36)) := hA.trans (hA2.mono hA.size)
  have C := hide (nobMade (h.below hB2))
  have HXR : Hid (Box ((w.alloc (.cells (eightA k) 31)).alloc (.cells (itA zeroIt) 36)) (w.heap.size + 1) (itA zeroIt) 36) := hide (by have := box_new (w.alloc (.cells (eightA k) 31)) (itA zeroIt) 36; simpa using this)
  have HB := hide hB2
  have hbz := build_it0
  clear h hA hA2 hB2
  go_enter Try.func17, Try.ntmps17
  go_wp2_with fail
  refine C.out.mono ?_
  rintro e w1 ⟨rfl, hw1⟩
  replace HB : Hid (Below w.heap.size w w1) := hide (by rw [hw1]; exact HB.out)
  replace HXR : Hid (Box w1 (w.heap.size + 1) (itA zeroIt) 36) := hide (by rw [hw1]; exact HXR.out)
  clear hw1 C
  go_wp2_with (refine wp_store_box rfl rfl _ _ rfl (w.heap.size + 1) rfl (cs' := itA zeroIt) rfl HXR.out rfl infoIt13 (itA_one13 _) ?_; intro w4 hb4 hk4; have HR4 := hide hb4; have HB4 := hide (HB.out.trans (hk4.below HB.out.size (fun k hk => by omega))); clear hb4 hk4)
  refine bodyPost_ret (v := .tuple #[.agg (itA zeroIt), .bool false]) (results_box2 Try.results17 _ _ (w.heap.size + 1) rfl rfl HR4.out Try.underlying36 rfl infoIt13) rfl ⟨rfl, HB4.out⟩
end
section
open Go.ChangeShapes Go.WideShapes Go.ChangeAt Go.RowKit

theorem own : ownKnob Try.prog.godebug = none := by kernel_rfl
theorem laidOut : laidOutB Try.prog = true := by kernel_rfl
/-- An argument of type []byte, opened: it lies there as bytes. -/
theorem lies_of_trod {H : Type} {enc : TypeId × Value → H} {W : World} {a0 : Option Addr} {len cap : Nat} {d : DataW H} {p : List MemPlace}
    (h : DataW.Trod enc Try.prog W 0 (fun _ => true) true 52 (.slice a0 len cap) d p) : ∃ xs, Lies .u8 W (.slice a0 len cap) xs ∧ ∀ c ∈ xs, 0 ≤ c ∧ c < 256 := by
  obtain ⟨fuel, hf⟩ := h
  rcases open_ints Try.underlying52 Try.underlying5 (by kernel_rfl) hf with ⟨hcs, _⟩ | ⟨x, l, c, zs, hcs, _, hl, hm, hz, _, hcell, hwz⟩
  · simp [Value.cells] at hcs
    obtain ⟨rfl, rfl, rfl⟩ := hcs
    exact ⟨[], Lies.nil _ _, by simp⟩
  · simp [Value.cells] at hcs
    obtain ⟨rfl, rfl, rfl⟩ := hcs
    simp only [if_true] at hz
    refine ⟨zs.take len, ?_, fun c hc => ?_⟩
    · by_cases h0 : len = 0
      · subst h0
        exact .inl ⟨by simp, _, _, rfl, fun h => by cases h⟩
      · obtain ⟨b, off, spot⟩ := x
        have hc0 := hcell 0 (by omega)
        have hspot : spot = none := by simpa [Addr.add] using World.cell?_spot hc0
        subst hspot
        have hxl : (zs.take len).length = len := by simp; omega
        have hb : b < W.heap.size := by
          rcases Nat.lt_or_ge b W.heap.size with h | h
          · exact h
          · have hn : W.heap[b]? = none := by simp [h]
            simp [Addr.add, World.cell?, hn] at hc0
        refine .inr ⟨?_, b, off, cap, by rw [hxl], hb, by omega, hm, fun t ht => ?_⟩
        · intro e; rw [e] at hxl; simp at hxl; omega
        · have := hcell t (by omega)
          rw [Addr.add_lit] at this
          rw [this]
          have ht2 : t < len := by omega
          simp [List.getD, ht2]
    · have := bounds_u8 (hwz c (List.mem_of_mem_take hc))
      omega
end
section
open Go.ChangeShapes Go.WideShapes Go.ChangeAt Go.RowKit Go.Deep

section
variable {H : Type} {enc : TypeId × Value → H} {W : World}
theorem choose_rec {α : Type} [Inhabited α] {n : Nat} {p : Nat → α → Prop} (h : ∀ i, i < n → ∃ x, p i x) : ∃ f : Nat → α, ∀ i, i < n → p i (f i) := by
  classical
  refine ⟨fun i => if hi : i < n then Classical.choose (h i hi) else default, fun i hi => ?_⟩
  simp only [dif_pos hi]
  exact Classical.choose_spec (h i hi)
/-- A slice of records as an argument, by what the cells of one of them are. -/
theorem recs_of_trod {α : Type} [Inhabited α] {t e : TypeId} {K : Nat} {encA : α → List Value} {ok : α → Prop} (R : Rec t e K encA) (hce : Try.prog.cellsOf e = K)
    (hone : ∀ (fuel : Nat) (cs : List Value) (x : DataW H × List MemPlace), DataW.trod enc Try.prog W 0 (fun _ => true) true fuel e cs = some x → ∃ a, cs = encA a ∧ ok a)
    {a0 : Option Addr} {len cap : Nat} {d : DataW H} {p : List MemPlace}
    (h : DataW.Trod enc Try.prog W 0 (fun _ => true) true t (.slice a0 len cap) d p) : ∃ fs, RSrc encA W (.slice a0 len cap) fs ∧ (∀ f ∈ fs, ok f) := by
  obtain ⟨fuel, hf⟩ := h
  rcases open_slice R.und hf with ⟨hcs, _⟩ | ⟨a, len', cap', m, n, D, Pl, hcs, _, hl, hm, hmm, hx, hel⟩
  · simp [Value.cells] at hcs
    obtain ⟨rfl, rfl, rfl⟩ := hcs
    exact ⟨[], RSrc.nil _, by simp⟩
  · simp [Value.cells] at hcs
    obtain ⟨rfl, rfl, rfl⟩ := hcs
    simp only [if_true] at hmm
    subst hmm
    have hch : ∀ i, i < len → ∃ f : α, W.cells? 0 (a.add (i * K)) K = some (encA f) ∧ ok f := by
      intro i hi
      obtain ⟨cs', h1, h2⟩ := hel i (by omega)
      rw [hce] at h1
      obtain ⟨f, rfl, r⟩ := hone _ _ _ h2
      exact ⟨f, h1, r⟩
    obtain ⟨f, hfi⟩ := choose_rec hch
    by_cases h0 : len = 0
    · subst h0
      exact ⟨[], ⟨_, _, rfl, Nat.zero_le _, hm, fun e => (by cases e), fun hne => absurd rfl hne⟩, by simp⟩
    · obtain ⟨b, off, spot⟩ := a
      have hcell : ∀ i, i < len → ∀ j, j < K → W.cell? (((⟨b, off, spot⟩ : Addr).add (i * K)).add j) = (encA (f i))[j]? := by
        intro i hi j hj
        have h1 := World.cells?_some (hfi i hi).1
        have h2 := h1.2.2 j hj
        exact h2
      have hpos := R.pos
      have hc0 := hcell 0 (by omega) 0 hpos
      have he0 : ∃ u, (encA (f 0))[0]? = some u := ⟨_, List.getElem?_eq_getElem (by rw [R.len]; exact hpos)⟩
      obtain ⟨u0, hu0⟩ := he0
      rw [hu0] at hc0
      have hspot : spot = none := by simpa [Addr.add] using World.cell?_spot hc0
      subst hspot
      have hb : b < W.heap.size := by
        rcases Nat.lt_or_ge b W.heap.size with h | h
        · exact h
        · have hn : W.heap[b]? = none := by simp [h]
          simp [Addr.add, World.cell?, hn] at hc0
      have hlen : ((List.range len).map f).length = len := by simp
      refine ⟨(List.range len).map f, ⟨_, _, by rw [hlen], by rw [hlen]; exact hl, hm, fun e => (by cases e), fun _ => ⟨b, off, rfl, hb, fun j u hu => ?_⟩⟩, fun g hg => ?_⟩
      · have hjl : j < len * K := by
          have := (List.getElem?_eq_some_iff.1 hu).1
          rw [flat_len R.len, hlen] at this
          exact this
        have hi : j / K < len := (Nat.div_lt_iff_lt_mul hpos).2 hjl
        have hr : j % K < K := Nat.mod_lt _ hpos
        have hj : j = (j / K) * K + j % K := by rw [Nat.mul_comm]; exact (Nat.div_add_mod j K).symm
        rw [hj, flat_at R.len (by rw [hlen]; exact hi) hr] at hu
        have hc := hcell (j / K) hi (j % K) hr
        rw [Addr.add_lit, Addr.add_lit] at hc
        rw [hj, ← Nat.add_assoc, hc]
        simpa using hu
      · rw [List.mem_map] at hg
        obtain ⟨i, hi, rfl⟩ := hg
        exact (hfi i (by simpa using hi)).2
end
end
end Go.Proofs.Ytlngejmojpkdkaa
