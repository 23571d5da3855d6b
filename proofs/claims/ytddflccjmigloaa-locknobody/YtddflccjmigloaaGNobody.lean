/-
  Proved: a table of locks that nobody made answers an error, whatever is asked of it, and has nothing; of sixty-six that ask for one key to read sixty-four are granted it, and the others are refused, as there are too many users; who is let go is then no user. For every input of the form's own reach (an act that names too many keys is passed by, as the law says). Own work.
-/
import Derived.Test.YtddflccjmigloaaG34
import Derived.Test.YtddflccjmigloaaG35
import Derived.Test.YtddflccjmigloaaG22
import Derived.Test.YtddflccjmigloaaG32
import Derived.SizedLaws
import Derived.ChangeArms
namespace Go.Proofs.Ytddflccjmigloaa
section
open Go.RowKit Go.Maps Classical

theorem one_of {α : Type} {R : α → α → Prop} (hR : ∀ a, ¬ R a a) {q : List α} {t : α} (h : q.Pairwise R) (hm : ∀ x, x ∈ q ↔ x = t) : q = [t] := by
  match q, h, hm with
  | [], _, hm => have := (hm t).2 rfl; cases this
  | [a], _, hm => rw [(hm a).1 List.mem_cons_self]
  | a :: b :: r, hp, hm =>
    have ha := (hm a).1 List.mem_cons_self
    have hb := (hm b).1 (List.mem_cons_of_mem _ List.mem_cons_self)
    have := (List.pairwise_cons.1 hp).1 b List.mem_cons_self
    rw [ha, hb] at this
    exact absurd this (hR t)
abbrev nm15 (n : Nat) : TxN := (0, 1, n + 1)
structure ManyAt (l : List (UsP KeyT)) (i : Nat) : Prop where
  ok : LkI l
  len : l.length = min i 64
  us : ∀ u ∈ l, u.pr = false ∧ (∀ k, u.w k = 0) ∧ u.h ka15 ≤ 1 ∧ ∃ n, n < i ∧ u.tx = nm15 n
  all : ∀ n, n < min i 64 → ∃ u ∈ l, u.tx = nm15 n
theorem many_nil : ManyAt [] 0 := ⟨lki_nil, rfl, (fun _ h => by cases h), (fun n h => by omega)⟩
theorem mayMany : ∀ i, i < 66 → mayA15 i (nm15 i) ka15 1 = true := by decide +kernel
theorem many_new {l : List (UsP KeyT)} {i : Nat} (h : ManyAt l i) : usL l (nm15 i) = none := usL_none.2 (fun x hx e => by
  obtain ⟨_, _, _, n, hn, e2⟩ := h.us x hx
  rw [e2] at e
  have := congrArg (fun t : TxN => t.2.2) e
  simp only at this
  omega)
theorem many_full {l l' : List (UsP KeyT)} {i : Nat} {e : Int} {wn : List TxN} {gr : List (GtP KeyT)} (h : ManyAt l i) (hi : 64 ≤ i) (hR : AskR kysF true l (nm15 i) i ka15 1 e l' wn gr) : e = 5 ∧ gr = [] ∧ ManyAt l' (i + 1) := by
  have hu := many_new h
  have hg : getU l (nm15 i) = zeroU := getU_none hu
  rcases hR with ⟨rfl, _, hgr, h1 | ⟨_, h1 | h1 | h1⟩⟩ | ⟨_, _, h1, _⟩
  · cases h1.1
  · rw [hg] at h1; cases h1.1
  · exact ⟨h1.2.2, hgr, h.ok, by rw [h.len]; omega, fun u hu => by
      obtain ⟨a, b, c, n, hn, e2⟩ := h.us u hu
      exact ⟨a, b, c, n, by omega, e2⟩, fun n hn => h.all n (by omega)⟩
  · obtain ⟨⟨x, hx, _⟩, _⟩ := h1; rw [hu] at hx; cases hx
  · have := h1 hu
    have := h.len
    omega
theorem many_ask {l l' : List (UsP KeyT)} {i : Nat} {e : Int} {wn : List TxN} {gr : List (GtP KeyT)} (h : ManyAt l i) (hi : i < 64) (hR : AskR kysF true l (nm15 i) i ka15 1 e l' wn gr) : e = 0 ∧ gr.length = 1 ∧ ManyAt l' (i + 1) := by
  have hu := many_new h
  have hg : getU l (nm15 i) = zeroU := getU_none hu
  have hl' : LkI l' := ask_ok h.ok ⟨by show 0 < 256; omega, by show 1 < 4294967296; omega, by show i + 1 < 4294967296; omega⟩ (by omega) (fun _ => by omega) hR
  rcases hR with ⟨_, _, _, h1 | ⟨_, h1 | h1 | h1⟩⟩ | ⟨_, _, _, _, he, hwn, ks, hks, hgr, hl⟩
  · cases h1.1
  · rw [hg] at h1; cases h1.1
  · have := h.len; omega
  · obtain ⟨⟨x, hx, _⟩, _⟩ := h1; rw [hu] at hx; cases hx
  · obtain ⟨x, hx⟩ : ∃ x, x = waitU ka15 1 (newU (K := KeyT) (nm15 i) i) := ⟨_, rfl⟩
    have ext : x.tx = nm15 i := by rw [hx]; rfl
    have exh : ∀ k', x.h k' = 0 := fun k' => by rw [hx]; rfl
    have exp : x.pr = false := by rw [hx]; rfl
    have exw : ∀ k, x.w k = if k = ka15 then 1 else 0 := fun k => by
      rw [hx]
      show (if k = ka15 then max 0 1 else 0) = _
      rfl
    obtain ⟨l1, hl1⟩ : ∃ l1, l1 = updU (askU l (nm15 i) i) (nm15 i) (waitU ka15 1) := ⟨_, rfl⟩
    rw [← hl1] at hwn hks hgr hl
    have hmem : ∀ y, y ∈ l1 ↔ y = x ∨ y ∈ l := fun y => by
      rw [hl1]
      unfold askU
      rw [hu, Option.isSome_none, if_neg (by simp), updU_mem]
      have hne := usL_none.1 hu
      constructor
      · rintro ⟨u, hu1, rfl⟩
        rcases (insU_mem l _ u).1 hu1 with rfl | hu1
        · left; exact (if_pos (show (newU (K := KeyT) (nm15 i) i).tx = nm15 i from rfl)).trans hx.symm
        · right; rw [if_neg (hne u hu1)]; exact hu1
      · rintro (rfl | hy)
        · exact ⟨newU (nm15 i) i, (insU_mem l _ _).2 (.inl rfl), hx.trans (if_pos (show (newU (K := KeyT) (nm15 i) i).tx = nm15 i from rfl)).symm⟩
        · exact ⟨y, (insU_mem l _ _).2 (.inr hy), by rw [if_neg (hne y hy)]⟩
    have hlen1 : l1.length = l.length + 1 := by
      rw [hl1]
      unfold askU updU
      rw [hu, Option.isSome_none, if_neg (by simp), List.length_map, (insU_perm l _).length_eq, List.length_cons]
    have hb1 : LkB l1 := by
      rw [hl1]
      have h2 : LkI (askU l (nm15 i) i) := by
        unfold askU
        rw [hu, Option.isSome_none, if_neg (by simp)]
        exact new_ok h.ok hu ⟨by show 0 < 256; omega, by show 1 < 4294967296; omega, by show i + 1 < 4294967296; omega⟩ (by omega) (by have := h.len; omega)
      exact wait_b h2.b _ _ (by omega)
    have hgx : getU l1 (nm15 i) = x := by rw [← ext]; exact getU_of hb1 ((hmem x).2 (.inl rfl))
    have hw0 : wn = [] := by
      rw [hwn]
      refine List.eq_nil_iff_forall_not_mem.2 (fun z hz => ?_)
      obtain ⟨y, hy, ⟨_, _, ha⟩, _⟩ := wndU_mem.1 hz
      rw [hgx, exw, if_pos rfl] at ha
      rcases (hmem y).1 hy with rfl | hy
      · exact ha.2.1 (exh _)
      · have := (h.us y hy).2.2.1
        rcases ha.2.2 with h3 | h3 <;> omega
    have hk1 : ks = [ka15] := ks_one kys_irr hks (fun k' => ⟨fun h => h.elim id (fun ⟨y, _, hy, _⟩ => by rw [hw0] at hy; cases hy), fun h => .inl h⟩)
    have hle : lessU l1 wn = l1 := by unfold lessU; rw [hw0]; simp
    rw [hle, hk1] at hgr hl
    have hq : queU l1 ka15 = [nm15 i] := one_of (R := OldN l1) (fun a h => h.asymm h) (queU_old hb1 ka15) (fun t => by
      rw [queU_mem]
      constructor
      · rintro ⟨u, hu1, hw, rfl⟩
        rcases (hmem u).1 hu1 with rfl | hu1
        · exact ext
        · exact absurd ((h.us u hu1).2.1 ka15) hw
      · rintro rfl
        exact ⟨x, (hmem x).2 (.inl rfl), by rw [exw, if_pos rfl]; omega, ext⟩)
    have hnf : ¬ NF l1 (getU l1 (nm15 i)) ka15 := by
      rw [hgx]
      rintro ⟨v, hv, hne, h3 | ⟨_, h3⟩⟩
      · rw [exw, if_pos rfl] at h3
        rcases (hmem v).1 hv with rfl | hv
        · exact hne rfl
        · have := (h.us v hv).2.2.1
          rcases h3.2.2 with h4 | h4 <;> omega
      · rcases (hmem v).1 hv with rfl | hv
        · exact hne rfl
        · exact h3.2.1 ((h.us v hv).2.1 ka15)
    have hgl : gr.length = 1 := by
      rw [hgr]
      show (onG1 l1 ka15 ++ onAG (onS1 l1 ka15) []).length = 1
      unfold onG1
      rw [hq]
      show ((stepG l1 (nm15 i) ka15 ++ onQG ka15 _ []) ++ []).length = 1
      unfold stepG
      rw [if_neg hnf]
      rfl
    have hll : l' = updU l1 (nm15 i) (grU ka15) := by
      rw [hl]
      show onS1 l1 ka15 = _
      unfold onS1
      rw [hq]
      show stepS l1 (nm15 i) ka15 = _
      unfold stepS
      rw [if_neg hnf]
    refine ⟨he, hgl, hl', ?_, fun u hu1 => ?_, fun n hn => ?_⟩
    · rw [hll]
      unfold updU
      rw [List.length_map, hlen1, h.len]
      omega
    · rw [hll] at hu1
      obtain ⟨y, hy, rfl⟩ := updU_mem.1 hu1
      rcases (hmem y).1 hy with rfl | hy
      · rw [if_pos ext]
        refine ⟨exp, fun k => ?_, ?_, i, by omega, ext⟩
        · show (if k = ka15 then 0 else y.w k) = 0
          by_cases hk : k = ka15
          · rw [if_pos hk]
          · rw [if_neg hk, exw, if_neg hk]
        · show (if ka15 = ka15 then max (y.h ka15) (y.w ka15) else y.h ka15) ≤ 1
          rw [if_pos rfl, exh, exw, if_pos rfl]
          omega
      · rw [if_neg (usL_none.1 hu y hy)]
        obtain ⟨a, b, c, n, hn, e2⟩ := h.us y hy
        exact ⟨a, b, c, n, by omega, e2⟩
    · by_cases hni : n < i
      · obtain ⟨u, hu1, e2⟩ := h.all n (by omega)
        refine ⟨u, ?_, e2⟩
        rw [hll]
        exact updU_mem.2 ⟨u, (hmem u).2 (.inr hu1), by rw [if_neg (usL_none.1 hu u hu1)]⟩
      · obtain rfl : n = i := by omega
        refine ⟨grU ka15 x, ?_, ext⟩
        rw [hll]
        exact updU_mem.2 ⟨x, (hmem x).2 (.inl rfl), by rw [if_pos ext]⟩
/-- The first one is let go, and is then no user. -/
theorem many_rel {l l1 l2 : List (UsP KeyT)} {e1 e2 : Int} {g1 g2 : List (GtP KeyT)} (h : ManyAt l 66) (h1 : RelR kysF l (nm15 0) e1 l1 g1) (h2 : RelR kysF l1 (nm15 0) e2 l2 g2) : e1 = 0 ∧ e2 = 6 := by
  obtain ⟨u, hu, e⟩ := h.all 0 (by omega)
  obtain ⟨he, _, hno, _⟩ := rel_some h.ok h1 hu e
  refine ⟨he, ?_⟩
  rcases h2 with ⟨_, _, _, h3⟩ | ⟨x, _, hx, _⟩
  · exact h3
  · rw [usL_none.2 hno] at hx; cases hx
end
section
open Go.RowKit Go.Maps Classical

structure NbAt (w4 : World) (a : LAct) (u v : Value) (p1 p5 : Nat) (W : World) : Prop where
  b : Below w4.heap.size w4 W
  n : Nob15 W v
  a : Box W p1 (lactA a u) 37
  o : Box W p5 zO 41
theorem NbAt.below {w4 : World} {a : LAct} {u v : Value} {p1 p5 : Nat} {W W' : World} (h : NbAt w4 a u v p1 p5 W) (hB : Below W.heap.size W W') : NbAt w4 a u v p1 p5 W' := ⟨h.b.trans (hB.mono h.b.size), h.n.below hB, h.a.belowI hB, h.o.belowI hB⟩
theorem NbAt.cells {w4 : World} {a : LAct} {u v : Value} {p1 p5 : Nat} {W : World} (h : NbAt w4 a u v p1 p5 W) : W.cell? ⟨p1, 2, none⟩ = some (.int .u8 (a.t.1 : Int)) ∧ W.cell? ⟨p1, 3, none⟩ = some (.int .u32 (a.t.2.1 : Int)) ∧ W.cell? ⟨p1, 4, none⟩ = some (.int .u32 (a.t.2.2 : Int)) ∧ W.cell? ⟨p1, 5, none⟩ = some (.int .u8 (at8 a.k.1 0)) ∧ W.cell? ⟨p1, 6, none⟩ = some (.int .u8 (at8 a.k.1 1)) ∧ W.cell? ⟨p1, 7, none⟩ = some (.int .u8 (at8 a.k.1 2)) ∧ W.cell? ⟨p1, 8, none⟩ = some (.int .u8 (at8 a.k.1 3)) ∧ W.cell? ⟨p1, 9, none⟩ = some (.int .u8 (at8 a.k.1 4)) ∧ W.cell? ⟨p1, 10, none⟩ = some (.int .u8 (at8 a.k.1 5)) ∧ W.cell? ⟨p1, 11, none⟩ = some (.int .u8 (at8 a.k.1 6)) ∧ W.cell? ⟨p1, 12, none⟩ = some (.int .u8 (at8 a.k.1 7)) ∧ W.cell? ⟨p5, 0, none⟩ = some (.slice none 0 0) ∧ W.cell? ⟨p5, 1, none⟩ = some (.slice none 0 0) :=
  ⟨h.a.cell 2 _ rfl, h.a.cell 3 _ rfl, h.a.cell 4 _ rfl, h.a.cell 5 _ rfl, h.a.cell 6 _ rfl, h.a.cell 7 _ rfl, h.a.cell 8 _ rfl, h.a.cell 9 _ rfl, h.a.cell 10 _ rfl, h.a.cell 11 _ rfl, h.a.cell 12 _ rfl, h.o.cell 0 _ rfl, h.o.cell 1 _ rfl⟩
variable {D : World → Nat → (Nat → Prop) → Nat → List (UsP KeyT) → Prop}
set_option maxRecDepth 100000 in
set_option maxHeartbeats 6400000 in
theorem walkN15 (H : LockDo D) (a : LAct) (u : Value) (w : World) (hok : LvOk w ⟨a, u⟩) :
    Calls Try.prog 5 #[.agg (lactA a u)] w fun e w' => e = .returned (.bool true) ∧ Below w.heap.size w w' := by
  obtain ⟨ro, rc, e1, hrc, _⟩ := hok.src.shape
  dsimp only at e1
  subst e1
  have CA := hide (fun W => alive_by15 H W)
  have hA1 := alloc_below14 w (.cells (lactA a (.slice ro a.ks.length rc)) 37)
  have HX1 := hide (box_new w (lactA a (.slice ro a.ks.length rc)) 37)
  obtain ⟨w1, hw1⟩ : ∃ w1, w1 = w.alloc (.cells (lactA a (.slice ro a.ks.length rc)) 37) := ⟨_, rfl⟩
  obtain ⟨p1, hp1⟩ : ∃ p1, p1 = w.heap.size := ⟨_, rfl⟩
  rw [← hw1, ← hp1] at HX1
  rw [← hw1] at hA1
  have hW1 := hw1.symm
  have hP1 := hp1.symm
  have HB1 := hide hA1
  have hA2 := alloc_below14 w1 (.cells (lactA a (.slice ro a.ks.length rc)) 37)
  have CF := hide (far_any15 (.slice (some ⟨w1.heap.size, 0, none⟩) 1 1) [⟨a, .slice ro a.ks.length rc⟩] (w1.alloc (.cells (lactA a (.slice ro a.ks.length rc)) 37)) (src_new (enc := lactE) w1 ⟨a, .slice ro a.ks.length rc⟩ _ rfl _) (fun x hx => by
    rw [List.mem_singleton.1 hx]
    exact lvok_below hok (hA1.trans (hA2.mono hA1.size))))
  have HB2 := hide (hA1.trans (hA2.mono hA1.size))
  have HX2 := hide (HX1.out.belowI hA2)
  obtain ⟨RF, hRF⟩ : ∃ RF, RF = farL [⟨a, .slice ro a.ks.length rc⟩] := ⟨_, rfl⟩
  rw [← hRF] at CF
  have hbu : ∀ W, (Instr.build 53 #[]).run Try.prog W = .ok (.agg #[.map none]) W := fun W => by kernel_rfl
  have hbk := build15k
  have hfl := fldStamp
  clear hok hA1 hA2 hw1 hp1 hRF hrc
  go_enter Try.func5, Try.ntmps5
  go_wp2_with (refine wp_load_box rfl _ rfl p1 rfl HX1.out Try.underlying37 rfl infoLA ?_)
  refine CF.out.mono ?_
  rintro e w2 ⟨rfl, hB3⟩
  have HB3 := hide (HB2.out.trans (hB3.mono HB2.out.size))
  have HX3 := hide (HX2.out.belowI hB3)
  clear hB3 CF HB2 HX2 HB1 HX1
  cases RF with
  | true =>
    go_wp2_with (go_at_call 8; refine (CA.out _).mono ?_; rintro e w3 ⟨rfl, hB4⟩; have HB4 := hide (HB3.out.trans (hB4.mono HB3.out.size)); clear hB4)
    go_ret
    exact ⟨rfl, HB4.out⟩
  | false =>
  go_wp2_with fail
  obtain ⟨w4, hw4⟩ : ∃ w4, w4 = (w2.alloc (.cells #[.map none] 53)).alloc (.cells #[.pointer none, .pointer (some ⟨w2.heap.size, 0, none⟩)] 23) := ⟨_, rfl⟩
  rw [← hw4]
  have hA4 : Below w2.heap.size w2 w4 := by rw [hw4]; exact ((Below.refl _ _).alloc (Nat.le_refl _) _).alloc (by simp) _
  have HB4 := hide (HB3.out.trans (hA4.mono HB3.out.size))
  have HX4 := hide (HX3.out.belowI hA4)
  have HZS : Hid (Box w4 w2.heap.size #[.map none] 53) := hide (by rw [hw4]; exact (box_new _ _ _).belowI ((Below.refl _ _).alloc (Nat.le_refl _) _))
  have HZP : Hid (Box w4 (w2.heap.size + 1) #[.pointer none, .pointer (some ⟨w2.heap.size, 0, none⟩)] 23) := hide (by rw [hw4]; have := box_new (w2.alloc (.cells #[.map none] 53)) #[.pointer none, .pointer (some ⟨w2.heap.size, 0, none⟩)] 23; simpa using this)
  clear hw4 hA4 HB3 HX3
  go_loopg [23] 2 (fun g i wr => ∃ (j : Nat), j + g = 2 ∧ i = .int .i64 j ∧ Hid (Below w4.heap.size w4 wr))
  case atStart => exact ⟨0, by omega, rfl, hide (Below.refl _ _)⟩
  case round =>
    obtain ⟨j, hj, rfl, HBL⟩ := hrel
    cases gk with
    | succ g =>
      have hz4 : (j : Int) < 2 := by omega
      obtain ⟨p, hcp, HNn⟩ : ∃ p, wr.cell? ⟨w2.heap.size + 1, j, none⟩ = some (.pointer p) ∧ Hid (Nob15 wr (.pointer p)) := by
        have h1 := HZP.out.belowI HBL.out
        rcases (show j = 0 ∨ j = 1 by omega) with rfl | rfl
        · exact ⟨none, h1.cell _ _ rfl, hide (.inl rfl)⟩
        · exact ⟨some ⟨w2.heap.size, 0, none⟩, h1.cell _ _ rfl, hide (.inr ⟨_, rfl, HZS.out.belowI HBL.out⟩)⟩
      have HXB := hide (HX4.out.belowI HBL.out)
      go_wp2_with (refine wp_load_box rfl _ rfl p1 rfl HXB.out Try.underlying37 rfl infoLA ?_)
      refine (nobDoes15 a (.slice ro a.ks.length rc) HNn.out).mono ?_
      rintro e w5 ⟨rfl, hB5⟩
      have HN5 := hide (HNn.out.below hB5)
      have HX5 := hide (HXB.out.belowI hB5)
      have HB5 := hide (HBL.out.trans (hB5.mono HBL.out.size))
      have hA6 := alloc_below14 w5 (.cells zO 41)
      have HZ5 := hide (box_new w5 zO 41)
      have HZB5 := hide hA6
      clear hB5 hcp HNn HXB hA6
      go_wp2_with (refine wp_store_box rfl rfl _ _ rfl w5.heap.size rfl (cs' := zO) rfl HZ5.out rfl infoOut15 (by simp [Value.oneCell']) ?_; intro w6 hb6 hk6; have hB56 : Below w5.heap.size w5 w6 := HZB5.out.trans (hk6.below HZB5.out.size (fun k e => by omega)); have HS : Hid (NbAt w4 a (.slice ro a.ks.length rc) (.pointer p) p1 w5.heap.size w6) := hide ⟨HB5.out.trans (hB56.mono HB5.out.size), HN5.out.below hB56, HX5.out.belowI hB56, hb6⟩; clear hb6 hk6 hB56)
      obtain ⟨p5, hp5⟩ : ∃ p5, p5 = w5.heap.size := ⟨_, rfl⟩
      rw [← hp5] at HS ⊢
      clear hp5 HZ5 HZB5 HN5 HX5 HB5
      have CMo := hide (fun W (h : Nob15 W (.pointer p)) => nobMode15 a.t a.k h)
      have CWa := hide (fun W (h : Nob15 W (.pointer p)) => nobWaits15 a.t h)
      have CPr := hide (fun W (h : Nob15 W (.pointer p)) => nobPrepared15 a.t h)
      have CUs := hide (fun W (h : Nob15 W (.pointer p)) => nobUsers15 h)
      have CQu := hide (fun W (h : Nob15 W (.pointer p)) => nobQueue15 a.k h)
      obtain ⟨k0, k1, k2, k3, k4, k5, k6, k7, k8, k9, k10, k11, k12⟩ := HS.out.cells
      go_region_held (fun w' => w'.cell? ⟨p1, 2, none⟩ = some (.int .u8 (a.t.1 : Int)) ∧ w'.cell? ⟨p1, 3, none⟩ = some (.int .u32 (a.t.2.1 : Int)) ∧ w'.cell? ⟨p1, 4, none⟩ = some (.int .u32 (a.t.2.2 : Int)) ∧ w'.cell? ⟨p1, 5, none⟩ = some (.int .u8 (at8 a.k.1 0)) ∧ w'.cell? ⟨p1, 6, none⟩ = some (.int .u8 (at8 a.k.1 1)) ∧ w'.cell? ⟨p1, 7, none⟩ = some (.int .u8 (at8 a.k.1 2)) ∧ w'.cell? ⟨p1, 8, none⟩ = some (.int .u8 (at8 a.k.1 3)) ∧ w'.cell? ⟨p1, 9, none⟩ = some (.int .u8 (at8 a.k.1 4)) ∧ w'.cell? ⟨p1, 10, none⟩ = some (.int .u8 (at8 a.k.1 5)) ∧ w'.cell? ⟨p1, 11, none⟩ = some (.int .u8 (at8 a.k.1 6)) ∧ w'.cell? ⟨p1, 12, none⟩ = some (.int .u8 (at8 a.k.1 7)) ∧ w'.cell? ⟨p5, 0, none⟩ = some (.slice none 0 0) ∧ w'.cell? ⟨p5, 1, none⟩ = some (.slice none 0 0)) (go_keep) (first
        | (go_at_call 12; refine (CMo.out _ (by first | exact HS.out.n | exact HS.out.n.below (below_drew14 _))).mono ?_; rintro e wq ⟨rfl, hBq⟩; replace HS := hide (by first | exact HS.out.below hBq | exact (HS.out.below (below_drew14 _)).below hBq); (try clear ss); have ss : _ ∧ _ ∧ _ ∧ _ ∧ _ ∧ _ ∧ _ ∧ _ ∧ _ ∧ _ ∧ _ ∧ _ ∧ _ := HS.out.cells; clear hBq)
        | (go_at_call 16; refine (CWa.out _ (by first | exact HS.out.n | exact HS.out.n.below (below_drew14 _))).mono ?_; rintro e wq ⟨rfl, hBq⟩; replace HS := hide (by first | exact HS.out.below hBq | exact (HS.out.below (below_drew14 _)).below hBq); (try clear ss); have ss : _ ∧ _ ∧ _ ∧ _ ∧ _ ∧ _ ∧ _ ∧ _ ∧ _ ∧ _ ∧ _ ∧ _ ∧ _ := HS.out.cells; clear hBq)
        | (go_at_call 15; refine (CPr.out _ (by first | exact HS.out.n | exact HS.out.n.below (below_drew14 _))).mono ?_; rintro e wq ⟨rfl, hBq⟩; replace HS := hide (by first | exact HS.out.below hBq | exact (HS.out.below (below_drew14 _)).below hBq); (try clear ss); have ss : _ ∧ _ ∧ _ ∧ _ ∧ _ ∧ _ ∧ _ ∧ _ ∧ _ ∧ _ ∧ _ ∧ _ ∧ _ := HS.out.cells; clear hBq)
        | (go_at_call 11; refine (CUs.out _ (by first | exact HS.out.n | exact HS.out.n.below (below_drew14 _))).mono ?_; rintro e wq ⟨rfl, hBq⟩; replace HS := hide (by first | exact HS.out.below hBq | exact (HS.out.below (below_drew14 _)).below hBq); (try clear ss); have ss : _ ∧ _ ∧ _ ∧ _ ∧ _ ∧ _ ∧ _ ∧ _ ∧ _ ∧ _ ∧ _ ∧ _ ∧ _ := HS.out.cells; clear hBq)
        | (go_at_call 17; refine (CQu.out _ (by first | exact HS.out.n | exact HS.out.n.below (below_drew14 _))).mono ?_; rintro e wq ⟨rfl, hBq⟩; replace HS := hide (by first | exact HS.out.below hBq | exact (HS.out.below (below_drew14 _)).below hBq); (try clear ss); have ss : _ ∧ _ ∧ _ ∧ _ ∧ _ ∧ _ ∧ _ ∧ _ ∧ _ ∧ _ ∧ _ ∧ _ ∧ _ := HS.out.cells; clear hBq))
      all_goals go_wp2_with fail
      all_goals
        go_roundg g
        case measure => omega
        case rel => exact ⟨j + 1, by omega, by first | rfl | go_num, hide HS.out.b⟩
    | zero =>
      obtain rfl : j = 2 := by omega
      have HBE := hide (HB4.out.trans (HBL.out.mono HB4.out.size))
      clear HBL HB4 HX4 HZS HZP
      go_wp2_with fail
      refine (H.new wr).mono ?_
      rintro e w7 ⟨q, F7, rfl, hD7, hF7, hB7⟩
      have HN7 : Hid (Since15 D wr q F7 0 [] w7) := hide ⟨hD7, hF7, hB7⟩
      have HM0 := hide many_nil
      clear hD7 hF7 hB7
      go_wp2_with fail
      go_loopg [83] 66 (fun g i wx => ∃ (j C : Nat) (F : Nat → Prop) (l : List (UsP KeyT)), j + g = 66 ∧ i = .int .i64 j ∧ C ≤ j ∧ Hid (ManyAt l j) ∧ Hid (Since15 D wr q F C l wx))
      case atStart => exact ⟨0, 0, F7, [], by omega, rfl, by omega, HM0, HN7⟩
      case round =>
        clear HN7 HM0
        obtain ⟨j, C, F, l, hj, rfl, hC, HM, HN⟩ := hrel
        cases gk with
        | succ g =>
          have hz6 : (j : Int) < 66 := by omega
          have hwr : IntKind.u32.wrap (j : Int) = (j : Int) := by rw [IntKind.wrap_u32]; omega
          obtain ⟨n1, hn1⟩ : ∃ n1 : Int, n1 = (j : Int) + 1 := ⟨_, rfl⟩
          have CST : Hid (∀ W, Calls Try.prog 19 #[.int .u32 (j : Int)] W fun e w' => e = .returned (.agg #[.int .u32 (j : Int), .int .u8 0, .int .u32 1, .int .u32 n1]) ∧ Below W.heap.size W w') := hide (fun W => by rw [hn1]; exact stamp_any15 j (by omega) W)
          have CAK : Hid (∀ W (h : D W q F C l), Calls Try.prog 18 #[ptr15 q, .agg #[.int .u32 (j : Int), .int .u8 0, .int .u32 1, .int .u32 n1], .agg kaA, .int .u8 1] W fun e w' => ∃ vw vg er wn gr l', e = .returned (.tuple #[outV15 vw vg, .int .i64 er]) ∧ AskR kysF true l (nm15 j) j ka15 1 er l' wn gr ∧ LDid D W w' q F (C + 1) l' ∧ w'.ownsRow W.heap.size 30 3 vw wn.length (rowOf (wn.map txI)) ∧ w'.ownsRow W.heap.size 89 12 vg gr.length (flat gtE gr)) := hide (fun W h => by
            have h1 := H.ask j (nm15 j) ka15 1 h (by omega) ⟨by show 0 < 256; omega, by show 1 < 4294967296; omega, by show j + 1 < 4294967296; omega⟩ (by omega) (by omega)
            rw [mayMany j (by omega)] at h1
            rw [hn1]
            exact h1)
          clear hn1
          go_wp2_with fail
          refine (CST.out _).mono ?_
          rintro e w8 ⟨rfl, hB8⟩
          have HNa := hide (HN.out.below H hB8)
          clear hB8
          go_wp2_with fail
          refine (CAK.out _ HNa.out.d).mono ?_
          rintro e w9 ⟨vw, vg, er, wn, gr, l', rfl, hR, hd, how, hog⟩
          by_cases h64 : j < 64
          · have h64z : (j : Int) < 64 := by omega
            have h64d : decide ((j : Int) < 64) = true := decide_eq_true h64z
            obtain ⟨rfl, hgr, hM2⟩ := many_ask HM.out h64 hR
            have HM2 := hide hM2
            obtain ⟨aw, cw, rfl, _⟩ := owns_shapeR how
            obtain ⟨ag, cg, rfl, _⟩ := owns_shapeR hog
            rw [hgr]
            obtain ⟨nw, hnw⟩ : ∃ nw, nw = wn.length := ⟨_, rfl⟩
            rw [← hnw]
            clear hR hM2 how hog hnw
            obtain ⟨F9, hs9, _, _⟩ := HNa.out.did hd
            have HN9 := hide hs9
            have hA9 := alloc_below14 w9 (.cells zO 41)
            have HZ9 := hide (box_new w9 zO 41)
            have HZB9 := hide hA9
            clear hd hs9 hA9 HNa
            go_wp2_with (refine wp_store_box rfl rfl _ _ rfl w9.heap.size rfl (cs' := #[.slice aw nw cw, .slice ag 1 cg]) rfl HZ9.out rfl infoOut15 (by simp [Value.oneCell']) ?_; intro w10 hb10 hk10; have y1 := hb10.cell 1 (.slice ag 1 cg) rfl; have HN10 := hide (HN9.out.below H (HZB9.out.trans (hk10.below HZB9.out.size (fun k e => by omega)))); clear hb10 hk10)
            go_roundg g
            case measure => omega
            case rel => exact ⟨j + 1, C + 1, F9, l', by omega, by first | rfl | go_num, by omega, HM2, HN10⟩
          · have h64z : ¬ (j : Int) < 64 := by omega
            have h64d : decide ((j : Int) < 64) = false := decide_eq_false h64z
            obtain ⟨rfl, hgr, hM2⟩ := many_full HM.out (by omega) hR
            subst hgr
            have HM2 := hide hM2
            obtain ⟨aw, cw, rfl, _⟩ := owns_shapeR how
            obtain ⟨ag, cg, rfl, _⟩ := owns_shapeR hog
            rw [List.length_nil]
            obtain ⟨nw, hnw⟩ : ∃ nw, nw = wn.length := ⟨_, rfl⟩
            rw [← hnw]
            clear hR hM2 how hog hnw
            obtain ⟨F9, hs9, _, _⟩ := HNa.out.did hd
            have HN9 := hide hs9
            have hA9 := alloc_below14 w9 (.cells zO 41)
            have HZ9 := hide (box_new w9 zO 41)
            have HZB9 := hide hA9
            clear hd hs9 hA9 HNa
            go_wp2_with (refine wp_store_box rfl rfl _ _ rfl w9.heap.size rfl (cs' := #[.slice aw nw cw, .slice ag 0 cg]) rfl HZ9.out rfl infoOut15 (by simp [Value.oneCell']) ?_; intro w10 hb10 hk10; have y1 := hb10.cell 1 (.slice ag 0 cg) rfl; have HN10 := hide (HN9.out.below H (HZB9.out.trans (hk10.below HZB9.out.size (fun k e => by omega)))); clear hb10 hk10)
            go_roundg g
            case measure => omega
            case rel => exact ⟨j + 1, C + 1, F9, l', by omega, by first | rfl | go_num, by omega, HM2, HN10⟩
        | zero =>
          obtain rfl : j = 66 := by omega
          have CS0 : Hid (∀ W, Calls Try.prog 19 #[.int .u32 0] W fun e w' => e = .returned (.agg #[.int .u32 0, .int .u8 0, .int .u32 1, .int .u32 1]) ∧ Below W.heap.size W w') := hide (fun W => stamp_any15 0 (by omega) W)
          have CR0 : Hid (∀ W F l (h : D W q F C l), Calls Try.prog 20 #[ptr15 q, .agg #[.int .u8 0, .int .u32 1, .int .u32 1]] W fun e w' => ∃ vg er gr l', e = .returned (.tuple #[outV15 (.slice none 0 0) vg, .int .i64 er]) ∧ RelR kysF l (nm15 0) er l' gr ∧ LDid D W w' q F C l' ∧ w'.ownsRow W.heap.size 89 12 vg gr.length (flat gtE gr)) := hide (fun W F l h => H.rel (nm15 0) h (by omega) ⟨by show 0 < 256; omega, by show 1 < 4294967296; omega, by show 1 < 4294967296; omega⟩)
          go_wp2_with fail
          refine (CS0.out _).mono ?_
          rintro e w8 ⟨rfl, hB8⟩
          have HNa := hide (HN.out.below H hB8)
          clear hB8
          go_wp2_with fail
          refine (CR0.out _ _ _ HNa.out.d).mono ?_
          rintro e w9 ⟨vg, e1, g1, l1, rfl, hR1, hd1, hog⟩
          have HR1 := hide hR1
          obtain ⟨ag, cg, rfl, _⟩ := owns_shapeR hog
          obtain ⟨n1, hn1⟩ : ∃ n1, n1 = g1.length := ⟨_, rfl⟩
          rw [← hn1]
          obtain ⟨F9, hs9, _, _⟩ := HNa.out.did hd1
          have HN9 := hide hs9
          have HZ9 := hide (box_new w9 zO 41)
          have HZB9 := hide (alloc_below14 w9 (.cells zO 41))
          clear hd1 hs9 hog hR1 hn1 HNa
          go_wp2_with (refine wp_store_box rfl rfl _ _ rfl w9.heap.size rfl (cs' := #[.slice none 0 0, .slice ag n1 cg]) rfl HZ9.out rfl infoOut15 (by simp [Value.oneCell']) ?_; intro w10 hb10 hk10; have HN10 := hide (HN9.out.below H (HZB9.out.trans (hk10.below HZB9.out.size (fun k e => by omega)))); clear hb10 hk10)
          refine (CS0.out _).mono ?_
          rintro e w11 ⟨rfl, hB11⟩
          have HNb := hide (HN10.out.below H hB11)
          clear hB11
          go_wp2_with fail
          refine (CR0.out _ _ _ HNb.out.d).mono ?_
          rintro e w12 ⟨vg2, e2, g2, l2, rfl, hR2, hd2, hog2⟩
          obtain ⟨rfl, rfl⟩ := many_rel HM.out HR1.out hR2
          obtain ⟨ag2, cg2, rfl, _⟩ := owns_shapeR hog2
          obtain ⟨n2, hn2⟩ : ∃ n2, n2 = g2.length := ⟨_, rfl⟩
          rw [← hn2]
          obtain ⟨F12, hs12, _, _⟩ := HNb.out.did hd2
          have HN12 := hide hs12
          have HZ12 := hide (box_new w12 zO 41)
          have HZB12 := hide (alloc_below14 w12 (.cells zO 41))
          clear hd2 hs12 hog2 hR2 hn2 HNb
          go_wp2_with (first | (refine wp_store_box rfl rfl _ _ rfl w12.heap.size rfl (cs' := #[.slice none 0 0, .slice ag2 n2 cg2]) rfl HZ12.out rfl infoOut15 (by simp [Value.oneCell']) ?_; intro w13 hb13 hk13; have HN13 := hide (HN12.out.below H (HZB12.out.trans (hk13.below HZB12.out.size (fun k e => by omega)))); clear hb13 hk13) | (go_at_call 8; refine (CA.out _).mono ?_; rintro e w14 ⟨rfl, hB14⟩; have HB14 := hide (HBE.out.trans ((HN13.out.b.trans (hB14.mono HN13.out.b.size)).mono HBE.out.size)); clear hB14))
          go_ret
          exact ⟨rfl, HB14.out⟩
end
section
open Go.RowKit Go.ChangeShapes Go.WideShapes Go.ChangeAt

namespace lockNobody
set_option maxRecDepth 100000 in
theorem lifted (os : Os) (started : os.Started) (H : Type) (enc : TypeId × Value → H) :
    ReturnsInHanded {} Try.checked os 5 .any (Rows.lockNobodySpec.pre6 enc Try.prog Try.f5 Rows.lockNobodyRow.domain false) (Rows.lockNobodySpec.post enc Try.prog Try.f5 false true false false) := by
  refine returnsInHanded_of_change_sized (C := Try.checked) own started (by kernel_rfl) Try.func5
    (ChangeSpec.witness6 (enc := enc) (C := Try.checked) false ⟨#[], #[.agg (lactA zeroLV.a zeroLV.p)], []⟩ 8 (by kernel_rfl) (by kernel_rfl) (by kernel_rfl) (by kernel_rfl)) ?_
  intro W base args ds gs before hval0 hW hcnd hsz _
  have hval : ∀ (j : Nat) t v, Try.f5.params[j]? = some t → args[j]? = some v → Value.okWide Try.prog W .any base t v := hval0
  have hW' := hW
  obtain ⟨p, q, hA0, hV, rfl, hfz, hnd⟩ := hW
  have hA : DataW.TrodAll enc Try.prog W 0 (fun _ => true) true Try.f5.params.toList args.toList ds p := hA0
  have hsz2 : ∀ (j : Nat) (t : TypeId) (d : DataW H), Try.f5.params.toList[j]? = some t → ds[j]? = some d → ∀ n ∈ d.weights Try.prog t, n ≤ 140737488351232 := fun j t d ht hd n hn => by
    have h1 := List.all_eq_true.1 hsz n (DataW.weights_mem_each (j := j) (t := t) (d := d) (by rw [List.getElem?_append_left (List.getElem?_eq_some_iff.1 ht).1]; exact ht) (by rw [List.getElem?_append_left (List.getElem?_eq_some_iff.1 hd).1]; exact hd) n hn)
    have h2 : n ≤ reachBytes := by simpa using h1
    have h3 : reachBytes = 140737488351232 := rfl
    omega
  rw [Try.params5] at hA hval hsz2
  obtain ⟨v0, vs0, d0, ds0, p0, q0, hargs, rfl, rfl, h0, r0⟩ := trodAll_cons hA
  obtain ⟨rfl, rfl, rfl⟩ := trodAll_nil r0
  obtain rfl : args = #[v0] := by cases args; simp_all
  obtain ⟨rfl, rfl⟩ := trodVars_none hV
  have k0 := h0
  have lt0 : ∀ x ∈ p0, x.block < W.heap.size := by obtain ⟨m, hm⟩ := k0; exact DataW.trod_lt m _ _ _ hm
  obtain ⟨ac0, rfl, ok0⟩ := lact_of_trod (hval 0 37 v0 rfl rfl) h0
  clear hA0 hval0
  refine (walkN15 (lk_do sortB64) ac0.a ac0.p W ok0).mono fun e W' ⟨he, bel⟩ => ?_
  subst he
  exact ⟨_, rfl, _, _, _, [], _, [], hW', trodAll_mk1 (shut_bool Try.underlying4 _), (trodAll_cons_mk (Below.trod laidOut (by kernel_rfl) (of_decide_eq_true (by kernel_rfl)) k0 bel lt0) trodAll_mk0), rfl, bel.frame _, fun h => by cases h⟩

theorem over : Rows.lockNobodyRow.holds Try.pinned (OpenSpec.ofChange Rows.lockNobodySpec) :=
  OpenClaim.holds_of_wide 5 Try.f5 rfl rfl rfl rfl rfl rfl rfl ⟨rfl, rfl, rfl, rfl, rfl⟩ rfl rfl rfl rfl rfl (by kernel_rfl) Try.func5 (by kernel_rfl)
    (of_decide_eq_true (by kernel_rfl)) (by unfold Func.isWrapper; first | (rw [if_pos (by decide +kernel)]; kernel_rfl) | (rw [if_neg (by decide +kernel)]; exact ⟨rfl, rfl⟩))
    (fun os started H enc _ => lifted os started H enc)
end lockNobody

/-- THE STATEMENT. -/
theorem lockNobody_holds : Rows.LockNobodySaid := lockNobody.over
#print axioms lockNobody_holds
end
end Go.Proofs.Ytddflccjmigloaa
