/-
  The reference's network: Twice. Own work.
-/
import Derived.Test.YteehkjdolmmapaaNtRef3
namespace Go.Proofs.Yteehkjdolmmapaa
open Go.RowKit

/-- A copy of the wires, and one more behind them, in whatever order the one is built: where the copy comes first. -/
theorem copy_push {w3 wa : World} {va : Value} {ws : List (Wr × Value)} (x : Wr) (a2 : Option Addr) (l c2 : Nat) (hB : Below w3.heap.size w3 wa) (ho : wa.ownsRow w3.heap.size 39 3 va ws.length (wcl ws)) (hl : ws.length ≤ 256) :
    ∃ v w', (∀ ty, (appR8 #[29, 29] ty #[va, .slice (some ⟨wa.heap.size, 0, none⟩) 1 1]).run Try.prog (wa.alloc (.cells #[.int .u8 (x.fr : Int), .int .u8 (x.to : Int), .slice a2 l c2] 39)) = .ok v w') ∧ w'.ownsRow w3.heap.size 39 3 v (ws ++ [(x, Value.slice a2 l c2)]).length (wcl (ws ++ [(x, Value.slice a2 l c2)])) ∧ Below w3.heap.size w3 w' ∧ KeepBut (fun k => va.ownBlock = some k) wa w' := by
  have hA := alloc_below8 wa (.cells #[.int .u8 (x.fr : Int), .int .u8 (x.to : Int), .slice a2 l c2] 39)
  obtain ⟨v, w', hr, ho', hg⟩ := app_wires _ w3.heap.size va (.slice (some ⟨wa.heap.size, 0, none⟩) 1 1) ws [(x, Value.slice a2 l c2)] (owns_keep ho (KeepBut.of_below (fun _ => False) hA) (fun _ _ h => h)) (src_one wa x a2 l c2 39) (by simp; omega) (Nat.le_trans hB.size hA.size)
  exact ⟨v, w', hr, ho', (hB.trans (hA.mono hB.size)).grown hg (Nat.le_trans hB.size hA.size) (fun k hk => (ho.lt k hk).1), (KeepBut.of_below (fun k => va.ownBlock = some k) hA).trans ⟨hg.os, hg.tape, hg.output, hg.size, fun k hk hS => hg.block k hk (fun e => hS e.symm)⟩ (fun _ _ h => h)⟩
attribute [local go_sem ↓] app_hide8
set_option maxRecDepth 100000 in
set_option maxHeartbeats 3200000 in
theorem rtwice_any (p : Nat) (vb : Value) (ws : List (Wr × Value)) (n : Nt) (i : Int) (w : World) (h : RNw w p vb ws n) :
    Calls Try.prog 32 #[.pointer (some ⟨p, 0, none⟩), .int .i64 i] w fun e w' => e = .returned (.int .i64 (twiA n i)) ∧ RNid w w' p vb ws (twiD n i) := by
  have C := hide (rat_any p vb ws n i w h)
  have HR0 := hide h
  have HOK := hide (twiD_ok h.ok i)
  have hmx : n.l.length ≤ 256 := Nat.le_trans h.ok.full h.ok.r2
  have hr2 := h.ok.r2
  clear h
  go_enter Try.func32, Try.ntmps32
  go_wp2_with fail
  refine C.out.mono ?_
  rintro e w1 ⟨sv, rfl, hL, hB, hyes, hno⟩
  obtain ⟨a2, c2, hsv⟩ := hL.shape
  subst hsv
  have hA := alloc_below8 w1 (.cells (wcs (n.nth i) (.slice a2 (n.nth i).b.length c2)) 39)
  have hX := box_new w1 (wcs (n.nth i) (.slice a2 (n.nth i).b.length c2)) 39
  have HB := hide (hB.trans (hA.mono hB.size))
  have HX := hide hX
  have HYES := hide hyes
  obtain ⟨x, hx⟩ : ∃ x, x = n.nth i := ⟨_, rfl⟩
  rw [← hx] at HB HX HYES ⊢
  unfold wcs at HB HX ⊢
  have HXX := hide hx
  clear hL hB hyes hno hA hX C hx
  cases hi : n.inN i
  · have HE : Hid (twiA n i = 6) := hide (by unfold twiA; rw [hi]; rfl)
    have hE : atA n i = 6 := by unfold atA; rw [hi]; rfl
    have HT : Hid (twiD n i = n) := hide (by unfold twiD; rw [hi]; rfl)
    rw [hE]
    clear hi hE
    go_wp2_with fail
    go_ret
    exact ⟨ret_int HE.out.symm, by rw [HT.out]; exact RNid.of_below HR0.out HB.out⟩
  · have hE : atA n i = 0 := by unfold atA; rw [hi]; rfl
    have hR1 := HR0.out.below HB.out
    obtain ⟨ao, cap, hvb, hcap⟩ := hR1.shape
    obtain ⟨m0, m1, m2⟩ := hR1.at
    rw [hvb] at m1
    have HVB := hide hvb
    rw [hE]
    by_cases hfl : n.room ≤ n.l.length
    · have HE : Hid (twiA n i = 9) := hide (by unfold twiA; rw [hi, if_pos rfl, if_pos hfl])
      have HT : Hid (twiD n i = n) := hide (by unfold twiD; rw [hi, if_pos rfl, if_pos hfl])
      have d1 : decide ((n.l.length : Int) ≥ (n.room : Int)) = true := decide_eq_true (by omega)
      have d2 : (n.room : Int) ≤ (n.l.length : Int) := by omega
      clear hi hE hR1 hvb
      go_wp2_with fail
      go_quiet (fail)
      go_wp2_with fail
      go_ret
      exact ⟨ret_int HE.out.symm, by rw [HT.out]; exact RNid.of_below HR0.out (HB.out.trans ((below_drewN8 _ _).mono HB.out.size))⟩
    · have HE : Hid (twiA n i = 0) := hide (by unfold twiA; rw [hi, if_pos rfl, if_neg hfl])
      have hT : twiD n i = ⟨n.room, n.l ++ [x], n.lost⟩ := by unfold twiD; rw [hi, if_pos rfl, if_neg hfl, ← HXX.out]
      have HT := hide hT
      rw [hT] at HOK
      have d1 : decide ((n.l.length : Int) ≥ (n.room : Int)) = false := decide_eq_false (by omega)
      have d2 : ¬ (n.room : Int) ≤ (n.l.length : Int) := by omega
      obtain ⟨k, hkw, hik, hwk⟩ := HYES.out hi
      have HMEM : Hid ((x, .slice a2 x.b.length c2) ∈ ws) := hide (by have := List.getElem_mem hkw; rw [hwk, HXX.out] at *; exact this)
      clear hi hE hR1 hvb hT hwk
      go_wp2_with fail
      go_quiet (fail)
      generalize hw3 : (w1.alloc (.cells #[.int .u8 (x.fr : Int), .int .u8 (x.to : Int), .slice a2 x.b.length c2] 39)).drewN nq = w3
      have hB13 : Below _ _ w3 := hw3 ▸ below_drewN8 (w1.alloc (.cells #[.int .u8 (x.fr : Int), .int .u8 (x.to : Int), .slice a2 x.b.length c2] 39)) nq
      have HX3 := hide (HX.out.below8 hB13)
      have HB3 := hide (HB.out.trans (hB13.mono HB.out.size))
      clear hw3 hB13 HX HB m0 m1 m2
      have hR3 := HR0.out.below HB3.out
      obtain ⟨m0, m1, m2⟩ := hR3.at
      rw [HVB.out] at m1
      have hwl : ws.length ≤ 256 := by rw [HR0.out.len]; exact hmx
      have hsrc := owns_src hR3.own HR0.out.sliced
      have hlt : ∀ g, vb.ownBlock = some g → g < w3.heap.size := fun g e => (hR3.own.lt g e).2
      rw [HVB.out] at hsrc hlt
      -- the copy first
      have hBd : Below w3.heap.size w3 w3.drew := (Below.refl _ _).drew
      obtain ⟨vA, wA, hrA, hoA, hgA⟩ := app_wires w3.drew w3.heap.size (.slice none 0 0) (.slice ao n.l.length cap) [] ws (World.ownsRow_nil _ _ _ _) (hsrc.below hBd hlt) (by simp; omega) (Nat.le_refl _)
      rw [List.nil_append] at hoA
      have hBA : Below w3.heap.size w3 wA := hBd.grown hgA (Nat.le_refl _) (fun k hk => by cases hk)
      obtain ⟨v5, w5, hr5, ho5, hB5, hkx5⟩ := copy_push x a2 x.b.length c2 hBA hoA hwl
      -- the one first
      obtain ⟨wB0, hwB0⟩ : ∃ wB0, wB0 = (w3.alloc (.cells #[.int .u8 (x.fr : Int), .int .u8 (x.to : Int), .slice a2 x.b.length c2] 39)).drew := ⟨_, rfl⟩
      have hBB0 : Below w3.heap.size w3 wB0 := hwB0 ▸ ((Below.refl w3.heap.size w3).alloc (Nat.le_refl _) _).drew
      have hs1 : WSrc wB0 (.slice (some ⟨w3.heap.size, 0, none⟩) 1 1) [(x, Value.slice a2 x.b.length c2)] := by
        rw [hwB0]
        exact (src_one w3 x a2 x.b.length c2 39).below (Below.refl _ _).drew (fun g e => by cases e; show w3.heap.size < _; simp)
      have hlt1 : w3.heap.size < wB0.heap.size := by rw [hwB0]; show w3.heap.size < (w3.alloc _).heap.size; simp
      obtain ⟨vB, wB, hrB, hoB, hgB⟩ := app_wires wB0 wB0.heap.size (.slice none 0 0) (.slice ao n.l.length cap) [] ws (World.ownsRow_nil _ _ _ _) (hsrc.below hBB0 hlt) (by simp; omega) (Nat.le_refl _)
      rw [List.nil_append] at hoB
      have hBB0B : Below wB0.heap.size wB0 wB := (Below.refl _ _).grown hgB (Nat.le_refl _) (fun k hk => by cases hk)
      obtain ⟨v6, w6, hr6, ho6, hg6⟩ := app_wires wB w3.heap.size vB (.slice (some ⟨w3.heap.size, 0, none⟩) 1 1) ws [(x, Value.slice a2 x.b.length c2)] (owns_up (owns_any8 hoB) (fun g e => Nat.le_trans hBB0.size (hoB.lt g e).1)) (hs1.below hBB0B (fun g e => by cases e; exact hlt1)) (by simp; omega) (Nat.le_trans hBB0.size hBB0B.size)
      have hB6 : Below w3.heap.size w3 w6 := (hBB0.trans (hBB0B.mono hBB0.size)).grown hg6 (Nat.le_trans hBB0.size hBB0B.size) (fun k hk => Nat.le_trans hBB0.size (hoB.lt k hk).1)
      have hpw := HR0.out.box.lt
      have FIN : ∀ wf v, Below w3.heap.size w3 wf → wf.ownsRow w3.heap.size 39 3 v (ws ++ [(x, Value.slice a2 x.b.length c2)]).length (wcl (ws ++ [(x, Value.slice a2 x.b.length c2)])) → RNid w (wf.setCell ⟨p, 1, none⟩ v) p vb ws ⟨n.room, n.l ++ [x], n.lost⟩ := fun wf v hBf hof => by
        have hsz := HB3.out.size
        have hf : ∀ g, v.ownBlock = some g → w3.heap.size ≤ g := fun g e => (hof.lt g e).1
        obtain ⟨rn, kn⟩ := hR3.push (KeepBut.of_below (fun _ => False) hBf) (fun h => h) (fun y hy g e => ⟨fun h => h, fun e2 => by have h1 := hf g e2; have h2 := (HR0.out.far y hy g e).1; omega⟩) (owns_any8 hof) (fun e => by have := hf p e; omega) ((hR3.by8 _ HMEM.out).below hBf)
          (fun g e => ⟨by have h2 := (HR0.out.far _ HMEM.out g e).1; have := hBf.size; omega, (HR0.out.far _ HMEM.out g e).2.1, fun e2 => by have h1 := hf g e2; have h2 := (HR0.out.far _ HMEM.out g e).1; omega⟩) HOK.out
        refine ⟨v, _, rn, ((KeepBut.of_below (fun k => k = p) (HB3.out.trans (hBf.mono hsz))).trans kn (fun _ _ h => h)), fun k' hu => ?_⟩
        rcases hu with h | h | ⟨y, hy, h⟩
        · exact .inl (.inl h)
        · exact .inr (Nat.le_trans hsz (hf k' h))
        · rcases List.mem_append.1 hy with hy | hy
          · exact .inl (.inr (.inr ⟨y, hy, h⟩))
          · obtain rfl : y = (x, .slice a2 x.b.length c2) := by simpa using hy
            exact .inl (.inr (.inr ⟨_, HMEM.out, h⟩))
      have H5 := hide (FIN w5 v5 hB5 ho5)
      have H6 := hide (FIN w6 v6 hB6 ho6)
      have qA : wA.cell? ⟨p, 1, none⟩ = some (.slice ao n.l.length cap) := by have := (hR3.below hBA).at.2.1; rw [HVB.out] at this; exact this
      have qB : wB.cell? ⟨p, 1, none⟩ = some (.slice ao n.l.length cap) := by have := ((hR3.below hBB0).below hBB0B).at.2.1; rw [HVB.out] at this; exact this
      have qB0 : wB0.cell? ⟨p, 1, none⟩ = some (.slice ao n.l.length cap) := by have := (hR3.below hBB0).at.2.1; rw [HVB.out] at this; exact this
      have q5 := (hR3.below hB5).at.2.1
      have q6 := (hR3.below hB6).at.2.1
      have z5 := (hR3.below hB5).box.frozen 1
      have z6 := (hR3.below hB6).box.frozen 1
      have t0 := HX3.out.cell 0 _ rfl
      have t1 := HX3.out.cell 1 _ rfl
      have t2 := HX3.out.cell 2 _ rfl
      have u0 := (HX3.out.below8 hBA).cell 0 _ rfl
      have u1 := (HX3.out.below8 hBA).cell 1 _ rfl
      have u2 := (HX3.out.below8 hBA).cell 2 _ rfl
      obtain ⟨aA, cA, hvA⟩ := owns_shape3 hoA
      obtain ⟨aB, cB, hvB⟩ := owns_shape3 hoB
      obtain ⟨a5, c5, hv5⟩ := owns_shape3 ho5
      obtain ⟨a6, c6, hv6⟩ := owns_shape3 ho6
      subst hvA
      subst hvB
      subst hv5
      subst hv6
      obtain ⟨el, hel⟩ : ∃ el, el = (ws ++ [(x, Value.slice a2 x.b.length c2)]).length := ⟨_, rfl⟩
      obtain ⟨yl, hyl⟩ : ∃ yl, yl = ws.length := ⟨_, rfl⟩
      rw [← hel] at hr5 hr6 H5 H6
      rw [← hyl] at hrA hr5 hrB hr6
      clear hkx5 hoA hgA hBA ho5 hB5 hs1 hoB hgB hBB0B ho6 hg6 hB6 FIN hel hyl hsrc hlt hR3 hBd hBB0 hlt1 m0 m2
      subst hwB0
      go_wp2_with fail
      go_region
      all_goals go_wp2_with fail
      all_goals go_ret
      all_goals first
        | exact ⟨ret_int HE.out.symm, by rw [HT.out]; exact H5.out⟩
        | exact ⟨ret_int HE.out.symm, by rw [HT.out]; exact H6.out⟩
end Go.Proofs.Yteehkjdolmmapaa
