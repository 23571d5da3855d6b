/-
  Proved: the table of locks answers every call, in every order, as the reference's does, and has behind each what it has; for every input of the form's own reach (of a script the first 60 calls count; one that is too large answers by its probe alone, as the law says). Own work.
-/
import Derived.Test.YtiloagmkkhlfjaaGreatG29
import Derived.Test.YtiloagmkkhlfjaaGreatG30
import Derived.Test.YtiloagmkkhlfjaaGreatG44
import Derived.Test.YtiloagmkkhlfjaaGreatG45
import Derived.Test.YtiloagmkkhlfjaaGreatG17
import Derived.Test.YtiloagmkkhlfjaaGreatG27
import Derived.SizedLaws
import Derived.ChangeArms
namespace Go.Proofs.YtiloagmkkhlfjaaGreat
set_option maxRecDepth 100000
section
open Go.RowKit Go.Maps Classical
variable {D : World → Nat → (Nat → Prop) → Nat → List (aS KeyT) → Prop}
abbrev nil3R : Array Value := #[.slice none 0 0, .slice none 0 0, .slice none 0 0]
set_option maxHeartbeats 6400000 in
theorem walkY15 (H : eH D) (v : Value) (fs : List LActV) (w : World) (hL : bI lactE w v fs) (hok : ∀ a ∈ fs, LvOk w a) :
  Calls Tryz.prog 3 #[v] w fun e w' => e = .returned (.bool true) ∧ Below w.heap.size w w' := by
 obtain ⟨ao, cap, rfl, hc, hm⟩ := hL.shape
 obtain ⟨LF, hLF⟩ : ∃ LF, LF = fs.length := ⟨_, rfl⟩
 rw [← hLF]
 have HSF : Hid (bI lactE w (.slice ao LF cap) fs) := aA (by rw [hLF]; exact hL)
 have HSO := aA hok
 have CF := aA (fun W (hB : Below w.heap.size w W) => far_any15 (.slice ao LF cap) fs W (HSF.out.below hB) (fun a ha => jI (HSO.out a ha) hB))
 have CA := aA (fun W => alive_by15 H W)
 have CSH := aA (fun W => short_any15 (.slice ao LF cap) fs W w HSF.out)
 clear hL hok hLF hc hm
 go_enter Tryz.func3, Tryz.ntmps3
 go_wp2_with fail
 refine (H.new w).mono ?_
 rintro e w1 ⟨q, F1, rfl, hD1, hF1, hB1⟩
 have HN1 : Hid (gH D w q w1.heap.size F1 (fun k => k = w1.heap.size) 0 0 [] [] (w1.alloc (.cells nil3R 28))) := aA ⟨fA.below H (⟨hD1, hF1, hB1⟩ : fA D w q F1 0 [] w1) (aE w1 _), rl_new w1, fun k e => by rw [e]; exact hB1.size, fun k e1 e2 => by have := H.lt hD1 k e1; omega⟩
 clear hD1 hF1 hB1
 go_wp2_with fail
 obtain ⟨r, hr⟩ : ∃ r, r = w1.heap.size := ⟨_, rfl⟩
 obtain ⟨w2, hw2⟩ : ∃ w2, w2 = w1.alloc (.cells nil3R 28) := ⟨_, rfl⟩
 rw [← hr, ← hw2] at HN1
 rw [← hw2, ← hr]
 obtain ⟨G1, hG1⟩ : ∃ G1, G1 = fun k : Nat => k = r := ⟨_, rfl⟩
 rw [← hG1] at HN1
 have HRW : Hid (w.heap.size ≤ r) := aA (HN1.out.new r (by rw [hG1]))
 clear hr hw2 hG1
 obtain ⟨RF, hRF⟩ : ∃ RF, RF = farL fs := ⟨_, rfl⟩
 have CF' := aA (CF.out w2 HN1.out.p.b)
 rw [← hRF] at CF'
 have HRF := aA hRF
 clear hRF CF
 cases RF with
 | true =>
  refine CF'.out.mono ?_
  rintro e w3 ⟨rfl, hB2⟩
  have HB2 := aA (HN1.out.p.b.trans (hB2.mono HN1.out.p.b.size))
  clear hB2
  go_wp2_with (go_at_call 6; refine (CA.out _).mono ?_; rintro e w3 ⟨rfl, hB3⟩; have HB3 := aA (HB2.out.trans (hB3.mono HB2.out.size)); clear hB3)
  go_ret
  exact ⟨rfl, HB3.out⟩
 | false =>
 refine CF'.out.mono ?_
 rintro e w3 ⟨rfl, hB2⟩
 replace HN1 := aA (HN1.out.below H hB2)
 clear hB2 CF'
 obtain ⟨ts, hts⟩ : ∃ ts, ts = fs.take 60 := ⟨_, rfl⟩
 have HTO : Hid (∀ a ∈ ts, LvOk w a) := aA (fun a ha => by rw [hts] at ha; exact HSO.out a (List.mem_of_mem_take ha))
 have HTK : Hid (∀ a ∈ ts, a.a.ks.length ≤ 30) := aA (fun a ha => by rw [hts] at ha; exact far_ks HRF.out.symm a ha)
 simp only [← hts] at CSH
 obtain ⟨LN, hLN⟩ : ∃ LN, LN = ts.length := ⟨_, rfl⟩
 have hKl : LN ≤ 60 := by rw [hLN, hts, List.length_take]; omega
 have HLN := aA hLN
 clear hts hLN HRF
 go_wp2_with (go_at_call 7; refine (CSH.out _).mono ?_; rintro e Y1 ⟨v1, rfl, rfl, hT⟩; obtain ⟨ta, tc, e1, _, _⟩ := hT.shape; rw [← HLN.out] at e1; subst e1; have HT := aA hT; clear hT)
 have HI0 : Hid (LkI ([] : List (aS KeyT))) := aA lki_nil
 go_loopg [29] LN (fun g i wr => ∃ (k C CR : Nat) (F G : Nat → Prop) (l : List (aS KeyT)), k + g = LN ∧ i = .int .i64 (k : Int) ∧ C ≤ 30 + k ∧ CR ≤ 30 * k ∧ Hid (LkI l) ∧ Hid (gH D w q r F G C CR l l wr))
 case atStart => exact ⟨0, 0, 0, F1, G1, [], by omega, rfl, by omega, by omega, HI0, HN1⟩
 case round =>
  clear HI0 HN1
  obtain ⟨k, C, CR, F, G, l, hk, rfl, hC, hCR, HI, HN⟩ := hrel
  cases gk with
  | succ g =>
   have hz : (k : Int) < (LN : Int) := by omega
   have hkn : k < ts.length := by rw [← HLN.out]; omega
   obtain ⟨en, b, off, e1, hb, hcl⟩ := (HT.out.below HN.out.p.b).at recLA.len hkn
   subst e1
   have HRg : Hid (wr.rangeAt b (off + k * 15) (lactE ts[k])) := aA (fun j v hv => hcl j v hv)
   have HOA := aA (jI (HTO.out _ (List.getElem_mem hkn)) HN.out.p.b)
   have HKA := aA (HTK.out _ (List.getElem_mem hkn))
   have HOW := aA (HTO.out _ (List.getElem_mem hkn))
   generalize ts[k] = ax at *
   obtain ⟨a, u⟩ := ax
   obtain ⟨ro, rc, e1, hrc, _⟩ := HOA.out.src.shape
   dsimp only at e1
   subst e1
   clear hcl en hb hrc
   obtain ⟨p6, hp6⟩ : ∃ p6, p6 = wr.heap.size := ⟨_, rfl⟩
   have HZ := aA (aN wr (eO jG.a jG.p) 41)
   have HZB : Hid (Below wr.heap.size wr (wr.alloc (.cells (eO jG.a jG.p) 41))) := aA (aE wr _)
   go_wp2_with (first | (refine wpList_load_mid rfl 41 _ rfl b (off + k * 15) rfl (lactE ⟨a, .slice ro a.ks.length rc⟩) _ HRg.out Tryz.underlying41 rfl infoLA ?_) | (refine aP rfl rfl _ _ rfl wr.heap.size rfl (cs' := eO a (.slice ro a.ks.length rc)) rfl HZ.out rfl infoLA (by simp [Value.oneCell']) ?_; intro w5 hb3 hk3; have HX5 := aA hb3; have HB5 : Hid (Below wr.heap.size wr w5) := aA (HZB.out.trans (hk3.below HZB.out.size (fun k hk => by omega))); clear hb3 hk3) | (refine dM rfl _ rfl wr.heap.size rfl HX5.out Tryz.underlying41 rfl infoLA ?_))
   have HN5 := aA (HN.out.below H HB5.out)
   have HNF : Hid (¬ F p6 ∧ ¬ G p6 ∧ w.heap.size ≤ p6) := aA ⟨fun hf => by have := H.lt HN.out.p.d _ hf; omega, fun hf => by have := rl_lt HN.out.d _ hf; omega, by rw [hp6]; exact HN.out.p.b.size⟩
   subst hp6
   refine (does_any15 H a (.slice ro a.ks.length rc) HN5.out.p.d (by omega) (jI HOA.out HB5.out) HKA.out).mono ?_
   rintro e w6 ⟨⟨vw, vg, er, wn, gr, l2, C2, rfl, hR, hC2, hd, how, hog⟩⟩
   have HI2 : Hid (LkI l2) := aA (does_ok HI.out HOA.out.tx HOA.out.tm hR)
   obtain ⟨F2, hs6, hk6, hf6⟩ := HN5.out.does hd
   have HN6 := aA hs6
   have HX6 := aA (HX5.out.keep hk6 HNF.out.1)
   have HOA6 := aA (jI HOW.out hs6.p.b)
   have HDR := aA hR
   have HWL : Hid (wn.length ≤ 1000) := aA (by
    rcases hR with ⟨_, _, e⟩ | ⟨_, _, e⟩ | ⟨_, _, e, _⟩ | ⟨_, h1⟩
    ·rw [e]; decide
    ·rw [e]; decide
    ·rw [e]; decide
    ·rcases h1 with ⟨_, e, _⟩ | ⟨hm, _, hf, _, _, e, _⟩
     ·rw [e]; decide
     ·rw [e]
      exact Nat.le_trans (wnd_lenR (wait_bR (ask_bR HI.out.b HOA.out.tx HOA.out.tm hf).1 a.t a.k (kE hm)) a.t a.k) (by decide))
   have hC3 : C2 ≤ 30 + (k + 1) := cgrow hC hC2
   obtain ⟨aw, cw, e1, _⟩ := aQ how
   obtain ⟨ag, cg, e2, _⟩ := aQ hog
   subst e1
   subst e2
   have HOW6 := aA how
   have HOG6 := aA hog
   have HNF2 : Hid (¬ F2 wr.heap.size) := aA (fun e => by
    have h1 := HX5.out.lt
    rcases hf6 _ e with e | e
    ·exact HNF.out.1 e
    ·omega)
   clear hR hd hs6 hk6 hf6 hC2 HZ HZB HRg HX5 HN how hog
   go_wp2_with (refine dM rfl _ rfl wr.heap.size rfl (HX6.out.belowI (aE w6 (.cells #[.slice aw wn.length cw, .slice ag gr.length cg] 45))) Tryz.underlying41 rfl infoLA ?_)
   have HA7 := aA (aE w6 (.cells #[.slice aw wn.length cw, .slice ag gr.length cg] 45))
   have HX77 : Hid (bZ (w6.alloc (.cells #[.slice aw wn.length cw, .slice ag gr.length cg] 45)) w6.heap.size #[.slice aw wn.length cw, .slice ag gr.length cg] 45) := aA (aN w6 _ _)
   have HN7 := aA (HN6.out.below H HA7.out)
   have HX67 := aA (HX6.out.belowI HA7.out)
   have HNG : Hid (¬ G wr.heap.size ∧ ¬ G w6.heap.size) := aA ⟨HNF.out.2.1, fun e => by have := rl_lt HN6.out.d _ e; omega⟩
   have HOW7 := aA (aJ HOW6.out (aC.of_below (fun _ => False) HA7.out) (fun _ _ h => h))
   have HOG7 := aA (aJ HOG6.out (aC.of_below (fun _ => False) HA7.out) (fun _ _ h => h))
   have hap : a.ks ≠ [] → ∀ g, (Value.slice ro a.ks.length rc).ownBlock = some g → g ≠ r := fun hne g0 hg0 e => by
    obtain ⟨b0, o0, c0, e0, h0, _⟩ := HOW.out.src.block hne
    have h1 := HRW.out
    have h2 : (Value.slice (some ⟨b0, o0, none⟩) a.ks.length c0).ownBlock = some g0 := e0 ▸ hg0
    have h3 : b0 = g0 := Option.some.inj h2
    omega
   have hCRb : CR ≤ 5000 := by omega
   refine (would_any15 a (.slice ro a.ks.length rc) HN7.out.d hCRb (jI HOA6.out HA7.out) HKA.out hap).mono ?_
   rintro e w8 ⟨⟨vw2, vg2, er2, wn2, gr2, l3, CR3, rfl, hR2, hC4, hd2, how2, hog2⟩⟩
   have HGL : Hid (gr2.length ≤ 10000) := aA (by have := would_len HN7.out.d HOA.out.tx HOA.out.tm hR2; omega)
   obtain ⟨d1, d2, d3, d4⟩ := does_det HI.out HOA.out.tx HOA.out.tm HDR.out hR2
   obtain rfl := d1.symm
   obtain rfl := d2.symm
   obtain rfl := d3.symm
   obtain rfl := d4.symm
   obtain ⟨G2, hs8, hk8, hg8⟩ := HN7.out.would H hd2
   have HN8 := aA hs8
   have HX68 := aA (HX67.out.keep hk8 HNG.out.1)
   have HX78 := aA (HX77.out.keep hk8 HNG.out.2)
   have HOW8 := aA (aJ HOW7.out hk8 (fun g hg e => by have h1 := (HOW6.out.lt g hg).1; have h2 := rl_lt HN5.out.d g e; omega))
   have HOG8 := aA (aJ HOG7.out hk8 (fun g hg e => by have h1 := (HOG6.out.lt g hg).1; have h2 := rl_lt HN5.out.d g e; omega))
   obtain ⟨aw2, cw2, e1, _⟩ := aQ how2
   obtain ⟨ag2, cg2, e2, _⟩ := aQ hog2
   subst e1
   subst e2
   have HRW8 := aA how2
   have HRG8 := aA hog2
   have hCR3 : CR3 ≤ 30 * (k + 1) := by omega
   have HNF3 : Hid (¬ F2 w6.heap.size ∧ ¬ F2 wr.heap.size) := aA ⟨fun e => by have := H.lt HN6.out.p.d _ e; omega, HNF2.out⟩
   clear hR2 hd2 hs8 hk8 hg8 how2 hog2 d1 d2 d3 d4 hap HX6 HX67 HX77 HN5 HN6 HN7 HOW6 HOG6 HOW7 HOG7 hC4
   have hA9 := aE w8 (.cells #[.slice aw2 wn.length cw2, .slice ag2 gr.length cg2] 50)
   have c2 := (HX68.out.belowI hA9).cell 2 (.int .u8 (a.t.1 : Int)) rfl
   have c3 := (HX68.out.belowI hA9).cell 3 (.int .u32 (a.t.2.1 : Int)) rfl
   have c4 := (HX68.out.belowI hA9).cell 4 (.int .u32 (a.t.2.2 : Int)) rfl
   clear hA9
   go_wp2_with fail
   have hA9 := aE w8 (.cells #[.slice aw2 wn.length cw2, .slice ag2 gr.length cg2] 50)
   have hA10 := aE (w8.alloc (.cells #[.slice aw2 wn.length cw2, .slice ag2 gr.length cg2] 50)) (.cells #[.int .u8 (a.t.1 : Int), .int .u32 (a.t.2.1 : Int), .int .u32 (a.t.2.2 : Int)] 34)
   have HX9Y := aA ((aN w8 #[.slice aw2 wn.length cw2, .slice ag2 gr.length cg2] 50).belowI hA10)
   have HX11Y := aA (aN (w8.alloc (.cells #[.slice aw2 wn.length cw2, .slice ag2 gr.length cg2] 50)) #[.int .u8 (a.t.1 : Int), .int .u32 (a.t.2.1 : Int), .int .u32 (a.t.2.2 : Int)] 34)
   have HBY := aA (hA9.trans (hA10.mono hA9.size))
   obtain ⟨Y, hY⟩ : ∃ Y, Y = (w8.alloc (.cells #[.slice aw2 wn.length cw2, .slice ag2 gr.length cg2] 50)).alloc (.cells #[.int .u8 (a.t.1 : Int), .int .u32 (a.t.2.1 : Int), .int .u32 (a.t.2.2 : Int)] 34) := ⟨_, rfl⟩
   rw [← hY] at HX9Y HX11Y HBY
   have hsz : (w8.alloc (.cells #[.slice aw2 wn.length cw2, .slice ag2 gr.length cg2] 50)).heap.size = w8.heap.size + 1 := by simp
   rw [hsz] at HX11Y
   have HX6Y := aA (HX68.out.belowI HBY.out)
   have HX7Y := aA (HX78.out.belowI HBY.out)
   have HNY := aA (HN8.out.below H HBY.out)
   have HOWY := aA (aJ HOW8.out (aC.of_below (fun _ => False) HBY.out) (fun _ _ h => h))
   have HOGY := aA (aJ HOG8.out (aC.of_below (fun _ => False) HBY.out) (fun _ _ h => h))
   have HRWY := aA (aJ HRW8.out (aC.of_below (fun _ => False) HBY.out) (fun _ _ h => h))
   have HRGY := aA (aJ HRG8.out (aC.of_below (fun _ => False) HBY.out) (fun _ _ h => h))
   rw [← hY]
   have HL2 : Hid (l2.length ≤ 64 ∧ (cS l2 a.k).length ≤ 64) := aA ⟨HI2.out.b.few, que_len HI2.out.b a.k⟩
   have C1 : Hid (∀ W, Below Y.heap.size Y W → Calls Tryz.prog 11 #[.agg #[.slice aw wn.length cw, .slice ag gr.length cg]] W fun e w' => ∃ v, e = .returned v ∧ RowW.is Y.heap.size (.out (.slice aw wn.length cw) 62 12 gr.length (bR gtE gr)) v w' ∧ Below W.heap.size W w') := aA (fun W hB => (ours_any15 aw wn.length cw (.slice ag gr.length cg) gr W ((bI.of_own HOGY.out).below hB) HGL.out).mono fun e w' ⟨v, he, ho, hB2⟩ => ⟨_, he, ⟨v, rfl, bQ ho hB.size⟩, hB2⟩)
   have C3 : Hid (∀ W v, Below Y.heap.size Y W → RowW.is Y.heap.size (.out (.slice aw wn.length cw) 62 12 gr.length (bR gtE gr)) v W → Calls Tryz.prog 10 #[v, .agg #[.slice aw2 wn.length cw2, .slice ag2 gr.length cg2]] W fun e w' => ∃ v, e = .returned v ∧ v = .bool true ∧ Below W.heap.size W w') := aA (fun W v hB ⟨v', e1, h1⟩ => by
    subst e1
    refine (rsame_any15 _ _ _ _ _ _ _ _ wn gr W (by rw [flat_rowT]; exact aJ HOWY.out (aC.of_below (fun _ => False) hB) (fun _ _ h => h)) (aJ HRWY.out (aC.of_below (fun _ => False) hB) (fun _ _ h => h)) h1 (aJ HRGY.out (aC.of_below (fun _ => False) hB) (fun _ _ h => h)) HWL.out).mono ?_
    exact fun e w' ⟨he, hB2⟩ => ⟨_, he, rfl, hB2⟩)
   have C12 : Hid (∀ W, Below Y.heap.size Y W → Calls Tryz.prog 13 #[cG q] W fun e w' => ∃ v, e = .returned v ∧ RowW.is Y.heap.size (.row 34 3 l2.length (bV (l2.map fun x => txI x.tx))) v w' ∧ Below W.heap.size W w') := aA (fun W hB => (H.users (HNY.out.below H hB).p.d).mono fun e w' ⟨v, he, ho, hB2⟩ => ⟨v, he, bQ ho hB.size, hB2⟩)
   have C13 : Hid (∀ W, Below Y.heap.size Y W → Calls Tryz.prog 14 #[.pointer (some ⟨r, 0, none⟩)] W fun e w' => ∃ v, e = .returned v ∧ RowW.is Y.heap.size (.row 34 3 l2.length (bV (l2.map fun x => txI x.tx))) v w' ∧ Below W.heap.size W w') := aA (fun W hB => (rl_users (HNY.out.below H hB).d).mono fun e w' ⟨v, he, ho, hB2⟩ => ⟨v, he, bQ ho hB.size, hB2⟩)
   have hC3b : CR3 ≤ 10000 := by omega
   have C21 : Hid (∀ W, Below Y.heap.size Y W → Calls Tryz.prog 15 #[cG q, .agg (aK a.k.1)] W fun e w' => ∃ v, e = .returned v ∧ RowW.is Y.heap.size (.row 34 3 (cS l2 a.k).length (bV ((cS l2 a.k).map txI))) v w' ∧ Below W.heap.size W w') := aA (fun W hB => (H.queue a.k (HNY.out.below H hB).p.d).mono fun e w' ⟨v, he, ho, hB2⟩ => ⟨v, he, bQ ho hB.size, hB2⟩)
   have C24 : Hid (∀ W, Below Y.heap.size Y W → Calls Tryz.prog 16 #[.pointer (some ⟨r, 0, none⟩), .agg (aK a.k.1)] W fun e w' => ∃ v, e = .returned v ∧ RowW.is Y.heap.size (.row 34 3 (cS l2 a.k).length (bV ((cS l2 a.k).map txI))) v w' ∧ Below W.heap.size W w') := aA (fun W hB => (rl_queue (HNY.out.below H hB).d hC3b a.k).mono fun e w' ⟨v, he, ho, hB2⟩ => ⟨v, he, bQ ho hB.size, hB2⟩)
   have C25 : Hid (∀ W v1 v2, RowW.is Y.heap.size (.row 34 3 (cS l2 a.k).length (bV ((cS l2 a.k).map txI))) v1 W → RowW.is Y.heap.size (.row 34 3 (cS l2 a.k).length (bV ((cS l2 a.k).map txI))) v2 W → Calls Tryz.prog 12 #[v1, v2] W fun e w' => ∃ v, e = .returned v ∧ v = .bool true ∧ Below W.heap.size W w') := aA (fun W v1 v2 h1 h2 => by
    have h1 : W.ownsRow Y.heap.size 34 3 v1 (cS l2 a.k).length (bV ((cS l2 a.k).map txI)) := h1
    have h2 : W.ownsRow Y.heap.size 34 3 v2 (cS l2 a.k).length (bV ((cS l2 a.k).map txI)) := h2
    rw [← flat_rowT] at h1 h2
    refine (same5_any15 v1 v2 (cS l2 a.k) W (bI.of_own h1) (bI.of_own h2) (by have := HL2.out.2; omega)).mono ?_
    exact fun e w' ⟨he, hB2⟩ => ⟨_, he, rfl, hB2⟩)
   have C14 : Hid (∀ W v1 v2, RowW.is Y.heap.size (.row 34 3 l2.length (bV (l2.map fun x => txI x.tx))) v1 W → RowW.is Y.heap.size (.row 34 3 l2.length (bV (l2.map fun x => txI x.tx))) v2 W → Calls Tryz.prog 12 #[v1, v2] W fun e w' => ∃ v, e = .returned v ∧ v = .bool true ∧ Below W.heap.size W w') := aA (fun W v1 v2 h1 h2 => by
    have h1 : W.ownsRow Y.heap.size 34 3 v1 l2.length (bV (l2.map fun x => txI x.tx)) := h1
    have h2 : W.ownsRow Y.heap.size 34 3 v2 l2.length (bV (l2.map fun x => txI x.tx)) := h2
    have e3 : (l2.map fun x => txI x.tx) = (l2.map (·.tx)).map txI := by rw [List.map_map]; rfl
    have e4 : l2.length = (l2.map (·.tx)).length := (List.length_map _).symm
    rw [e3, ← flat_rowT, e4] at h1 h2
    refine (same5_any15 v1 v2 (l2.map (·.tx)) W (bI.of_own h1) (bI.of_own h2) (by rw [← e4]; have := HL2.out.1; omega)).mono ?_
    exact fun e w' ⟨he, hB2⟩ => ⟨_, he, rfl, hB2⟩)
   clear hA9 hA10 hY hsz c2 c3 c4 HOW8 HOG8 HRW8 HRG8 HX68 HX78 HN8
   refine wp_region_pars (by kernel_rfl) (fun b : Value × Value × Value × Value × Value => [(some 47, .agg #[.slice aw wn.length cw, .slice ag gr.length cg]), (some 48, .agg #[.slice aw wn.length cw, b.1]), (some 49, .agg #[.slice aw2 wn.length cw2, .slice ag2 gr.length cg2]), (some 50, .bool true), (some 51, .bool false), (some 52, .bool false), (some 53, .int .i64 er), (some 54, .int .i64 er), (some 55, .bool false), (some 56, .bool false), (some 57, .bool false), (some 58, cG q), (some 59, b.2.1), (some 60, b.2.2.1), (some 61, .bool true), (some 62, .bool false), (some 63, .bool false), (some 64, .bool false), (some 65, cG q), (some 66, .pointer (some ⟨wr.heap.size, 5, none⟩)), (some 67, .agg (bP a.k.1).toArray), (some 68, b.2.2.2.1), (some 69, .pointer (some ⟨wr.heap.size, 5, none⟩)), (some 70, .agg (bP a.k.1).toArray), (some 71, b.2.2.2.2), (some 72, .bool true), (some 73, .bool false), (some 74, .bool false)]) (fun b => [(47, .agg #[.slice aw wn.length cw, .slice ag gr.length cg]), (48, .agg #[.slice aw wn.length cw, b.1]), (49, .agg #[.slice aw2 wn.length cw2, .slice ag2 gr.length cg2]), (50, .bool true), (51, .bool false), (52, .bool false), (53, .int .i64 er), (54, .int .i64 er), (55, .bool false), (56, .bool false), (57, .bool false), (58, cG q), (59, b.2.1), (60, b.2.2.1), (61, .bool true), (62, .bool false), (63, .bool false), (64, .bool false), (65, cG q), (66, .pointer (some ⟨wr.heap.size, 5, none⟩)), (67, .agg (bP a.k.1).toArray), (68, b.2.2.2.1), (69, .pointer (some ⟨wr.heap.size, 5, none⟩)), (70, .agg (bP a.k.1).toArray), (71, b.2.2.2.2), (72, .bool true), (73, .bool false), (74, .bool false)]) (ExI Y.heap.size [none, some (.out (.slice aw wn.length cw) 62 12 gr.length (bR gtE gr)), none, none, none, none, none, none, none, none, none, none, some (.row 34 3 l2.length (bV (l2.map fun x => txI x.tx))), some (.row 34 3 l2.length (bV (l2.map fun x => txI x.tx))), none, none, none, none, none, none, none, some (.row 34 3 (cS l2 a.k).length (bV ((cS l2 a.k).map txI))), none, none, some (.row 34 3 (cS l2 a.k).length (bV ((cS l2 a.k).map txI))), none, none, none] [.agg #[.slice aw wn.length cw, .slice ag gr.length cg], undef, .agg #[.slice aw2 wn.length cw2, .slice ag2 gr.length cg2], .bool true, .bool false, .bool false, .int .i64 er, .int .i64 er, .bool false, .bool false, .bool false, cG q, undef, undef, .bool true, .bool false, .bool false, .bool false, cG q, .pointer (some ⟨wr.heap.size, 5, none⟩), .agg (bP a.k.1).toArray, undef, .pointer (some ⟨wr.heap.size, 5, none⟩), .agg (bP a.k.1).toArray, undef, .bool true, .bool false, .bool false]) (fun _ _ => True) (by kernel_rfl) (fun i v w w' h hB => exI_keep i v w w' h hB) (fun _ => by kernel_rfl) (fun _ => rfl) ?_ ?_ ?_
   ·intro i o hi A w1 hB hold hdeps
    have hlt : i < 28 := (Array.getElem?_eq_some_iff.1 hi).1
    have hc : i = 0 ∨ i = 1 ∨ i = 2 ∨ i = 3 ∨ i = 4 ∨ i = 5 ∨ i = 6 ∨ i = 7 ∨ i = 8 ∨ i = 9 ∨ i = 10 ∨ i = 11 ∨ i = 12 ∨ i = 13 ∨ i = 14 ∨ i = 15 ∨ i = 16 ∨ i = 17 ∨ i = 18 ∨ i = 19 ∨ i = 20 ∨ i = 21 ∨ i = 22 ∨ i = 23 ∨ i = 24 ∨ i = 25 ∨ i = 26 ∨ i = 27 := by omega
    clear hlt
    rcases hc with rfl|rfl|rfl|rfl|rfl|rfl|rfl|rfl|rfl|rfl|rfl|rfl|rfl|rfl|rfl|rfl|rfl|rfl|rfl|rfl|rfl|rfl|rfl|rfl|rfl|rfl|rfl|rfl <;> obtain rfl := Option.some.inj hi
    ·have s7 : A.tmps.getD 7 undef = .pointer (some ⟨w6.heap.size, 0, none⟩) := hold 7 (by kernel_rfl)
     exact eK hi rfl rfl (iI _ _ s7 (HX7Y.out.belowI hB) Tryz.underlying45 rfl bX) hB rfl
    ·have s47 : A.tmps.getD 47 undef = .agg #[.slice aw wn.length cw, .slice ag gr.length cg] := bC hdeps 0 (by kernel_rfl)
     exact jV hi rfl rfl (cC 11 _ #[.agg #[.slice aw wn.length cw, .slice ag gr.length cg]] _ rfl (by simp only [List.map_toArray, List.map_cons, List.map_nil, show A.eval (.tmp 47) = .agg #[.slice aw wn.length cw, .slice ag gr.length cg] from s47]; try rfl) en_ours15) hB (C1.out w1 hB)
    ·have s9 : A.tmps.getD 9 undef = .pointer (some ⟨w8.heap.size, 0, none⟩) := hold 9 (by kernel_rfl)
     exact eK hi rfl rfl (iI _ _ s9 (HX9Y.out.belowI hB) Tryz.underlying50 rfl bM) hB rfl
    ·have h48 : RowW.is Y.heap.size (.out (.slice aw wn.length cw) 62 12 gr.length (bR gtE gr)) (A.tmps.getD 48 undef) w1 := bC hdeps 1 (by kernel_rfl)
     have s49 : A.tmps.getD 49 undef = .agg #[.slice aw2 wn.length cw2, .slice ag2 gr.length cg2] := bC hdeps 2 (by kernel_rfl)
     exact jV hi rfl rfl (cC 10 _ #[(A.tmps.getD 48 undef), .agg #[.slice aw2 wn.length cw2, .slice ag2 gr.length cg2]] _ rfl (by simp only [List.map_toArray, List.map_cons, List.map_nil, show A.eval (.tmp 48) = (A.tmps.getD 48 undef) from rfl, show A.eval (.tmp 49) = .agg #[.slice aw2 wn.length cw2, .slice ag2 gr.length cg2] from s49]; try rfl) en_same15) hB (C3.out w1 _ hB h48)
    ·have s50 : A.tmps.getD 50 undef = .bool true := bC hdeps 3 (by kernel_rfl)
     exact eK hi rfl rfl (y_not (a := true) _ _ s50) hB rfl
    ·have s51 : A.tmps.getD 51 undef = .bool false := bC hdeps 4 (by kernel_rfl)
     exact eK hi rfl rfl (aR _ s51) hB rfl
    ·have g6 : A.tmps.getD 52 undef = .bool false := bC hdeps 5 (by kernel_rfl)
     have s8 : A.tmps.getD 8 undef = .int .i64 er := hold 8 (by kernel_rfl)
     exact eK hi (aF rfl rfl g6) rfl (aR _ s8) hB rfl
    ·have g7 : A.tmps.getD 52 undef = .bool false := bC hdeps 5 (by kernel_rfl)
     have s10 : A.tmps.getD 10 undef = .int .i64 er := hold 10 (by kernel_rfl)
     exact eK hi (aF rfl rfl g7) rfl (aR _ s10) hB rfl
    ·have g8 : A.tmps.getD 52 undef = .bool false := bC hdeps 5 (by kernel_rfl)
     have s53 : A.tmps.getD 53 undef = .int .i64 er := bC hdeps 6 (by kernel_rfl)
     have s54 : A.tmps.getD 54 undef = .int .i64 er := bC hdeps 7 (by kernel_rfl)
     exact eK hi (aF rfl rfl g8) rfl (eE _ _ _ _ _ s53 s54 (neq_intR er er false (by simp) w1) (by kernel_rfl)) hB rfl
    ·have s52 : A.tmps.getD 52 undef = .bool false := bC hdeps 5 (by kernel_rfl)
     have s55 : A.tmps.getD 55 undef = .bool false := bC hdeps 8 (by kernel_rfl)
     exact eK hi rfl rfl (dB _ _ _ s52 s55) hB rfl
    ·have s56 : A.tmps.getD 56 undef = .bool false := bC hdeps 9 (by kernel_rfl)
     exact eK hi rfl rfl (aR _ s56) hB rfl
    ·have g11 : A.tmps.getD 57 undef = .bool false := bC hdeps 10 (by kernel_rfl)
     have s3 : A.tmps.getD 3 undef = cG q := hold 3 (by kernel_rfl)
     exact eK hi (aF rfl rfl g11) rfl (aR _ s3) hB rfl
    ·have g12 : A.tmps.getD 57 undef = .bool false := bC hdeps 10 (by kernel_rfl)
     have s58 : A.tmps.getD 58 undef = cG q := bC hdeps 11 (by kernel_rfl)
     exact jV hi (aF rfl rfl g12) rfl (cC 13 _ #[cG q] _ rfl (by simp only [List.map_toArray, List.map_cons, List.map_nil, show A.eval (.tmp 58) = cG q from s58]; try rfl) en_lusers) hB (C12.out w1 hB)
    ·have g13 : A.tmps.getD 57 undef = .bool false := bC hdeps 10 (by kernel_rfl)
     have s4 : A.tmps.getD 4 undef = .pointer (some ⟨r, 0, none⟩) := hold 4 (by kernel_rfl)
     exact jV hi (aF rfl rfl g13) rfl (cC 14 _ #[.pointer (some ⟨r, 0, none⟩)] _ rfl (by simp only [List.map_toArray, List.map_cons, List.map_nil, show A.eval (.tmp 4) = .pointer (some ⟨r, 0, none⟩) from s4]; try rfl) en_rusers) hB (C13.out w1 hB)
    ·have g14 : A.tmps.getD 57 undef = .bool false := bC hdeps 10 (by kernel_rfl)
     have h59 : RowW.is Y.heap.size (.row 34 3 l2.length (bV (l2.map fun x => txI x.tx))) (A.tmps.getD 59 undef) w1 := bC hdeps 12 (by kernel_rfl)
     have h60 : RowW.is Y.heap.size (.row 34 3 l2.length (bV (l2.map fun x => txI x.tx))) (A.tmps.getD 60 undef) w1 := bC hdeps 13 (by kernel_rfl)
     exact jV hi (aF rfl rfl g14) rfl (cC 12 _ #[(A.tmps.getD 59 undef), (A.tmps.getD 60 undef)] _ rfl (by simp only [List.map_toArray, List.map_cons, List.map_nil, show A.eval (.tmp 59) = (A.tmps.getD 59 undef) from rfl, show A.eval (.tmp 60) = (A.tmps.getD 60 undef) from rfl]; try rfl) en_same5) hB (C14.out w1 _ _ h59 h60)
    ·have g15 : A.tmps.getD 57 undef = .bool false := bC hdeps 10 (by kernel_rfl)
     have s61 : A.tmps.getD 61 undef = .bool true := bC hdeps 14 (by kernel_rfl)
     exact eK hi (aF rfl rfl g15) rfl (y_not (a := true) _ _ s61) hB rfl
    ·have s57 : A.tmps.getD 57 undef = .bool false := bC hdeps 10 (by kernel_rfl)
     have s62 : A.tmps.getD 62 undef = .bool false := bC hdeps 15 (by kernel_rfl)
     exact eK hi rfl rfl (dB _ _ _ s57 s62) hB rfl
    ·have s63 : A.tmps.getD 63 undef = .bool false := bC hdeps 16 (by kernel_rfl)
     exact eK hi rfl rfl (aR _ s63) hB rfl
    ·have g18 : A.tmps.getD 64 undef = .bool false := bC hdeps 17 (by kernel_rfl)
     have s3 : A.tmps.getD 3 undef = cG q := hold 3 (by kernel_rfl)
     exact eK hi (aF rfl rfl g18) rfl (aR _ s3) hB rfl
    ·have g19 : A.tmps.getD 64 undef = .bool false := bC hdeps 17 (by kernel_rfl)
     have s6 : A.tmps.getD 6 undef = .pointer (some ⟨wr.heap.size, 0, none⟩) := hold 6 (by kernel_rfl)
     exact eK hi (aF rfl rfl g19) rfl (yla_key _ s6) hB rfl
    ·have g20 : A.tmps.getD 64 undef = .bool false := bC hdeps 17 (by kernel_rfl)
     have s66 : A.tmps.getD 66 undef = .pointer (some ⟨wr.heap.size, 5, none⟩) := bC hdeps 19 (by kernel_rfl)
     exact eK hi (aF rfl rfl g20) rfl (eI _ _ s66 ((act_key (HX6Y.out.belowI hB))) Tryz.underlying38 rfl cE) hB rfl
    ·have g21 : A.tmps.getD 64 undef = .bool false := bC hdeps 17 (by kernel_rfl)
     have s65 : A.tmps.getD 65 undef = cG q := bC hdeps 18 (by kernel_rfl)
     have s67 : A.tmps.getD 67 undef = .agg (bP a.k.1).toArray := bC hdeps 20 (by kernel_rfl)
     exact jV hi (aF rfl rfl g21) rfl (cC 15 _ #[cG q, .agg (bP a.k.1).toArray] _ rfl (by simp only [List.map_toArray, List.map_cons, List.map_nil, show A.eval (.tmp 65) = cG q from s65, show A.eval (.tmp 67) = .agg (bP a.k.1).toArray from s67]; try rfl) en_lqueue) hB (C21.out w1 hB)
    ·have g22 : A.tmps.getD 64 undef = .bool false := bC hdeps 17 (by kernel_rfl)
     have s6 : A.tmps.getD 6 undef = .pointer (some ⟨wr.heap.size, 0, none⟩) := hold 6 (by kernel_rfl)
     exact eK hi (aF rfl rfl g22) rfl (yla_key _ s6) hB rfl
    ·have g23 : A.tmps.getD 64 undef = .bool false := bC hdeps 17 (by kernel_rfl)
     have s69 : A.tmps.getD 69 undef = .pointer (some ⟨wr.heap.size, 5, none⟩) := bC hdeps 22 (by kernel_rfl)
     exact eK hi (aF rfl rfl g23) rfl (eI _ _ s69 ((act_key (HX6Y.out.belowI hB))) Tryz.underlying38 rfl cE) hB rfl
    ·have g24 : A.tmps.getD 64 undef = .bool false := bC hdeps 17 (by kernel_rfl)
     have s4 : A.tmps.getD 4 undef = .pointer (some ⟨r, 0, none⟩) := hold 4 (by kernel_rfl)
     have s70 : A.tmps.getD 70 undef = .agg (bP a.k.1).toArray := bC hdeps 23 (by kernel_rfl)
     exact jV hi (aF rfl rfl g24) rfl (cC 16 _ #[.pointer (some ⟨r, 0, none⟩), .agg (bP a.k.1).toArray] _ rfl (by simp only [List.map_toArray, List.map_cons, List.map_nil, show A.eval (.tmp 4) = .pointer (some ⟨r, 0, none⟩) from s4, show A.eval (.tmp 70) = .agg (bP a.k.1).toArray from s70]; try rfl) en_rqueue) hB (C24.out w1 hB)
    ·have g25 : A.tmps.getD 64 undef = .bool false := bC hdeps 17 (by kernel_rfl)
     have h68 : RowW.is Y.heap.size (.row 34 3 (cS l2 a.k).length (bV ((cS l2 a.k).map txI))) (A.tmps.getD 68 undef) w1 := bC hdeps 21 (by kernel_rfl)
     have h71 : RowW.is Y.heap.size (.row 34 3 (cS l2 a.k).length (bV ((cS l2 a.k).map txI))) (A.tmps.getD 71 undef) w1 := bC hdeps 24 (by kernel_rfl)
     exact jV hi (aF rfl rfl g25) rfl (cC 12 _ #[(A.tmps.getD 68 undef), (A.tmps.getD 71 undef)] _ rfl (by simp only [List.map_toArray, List.map_cons, List.map_nil, show A.eval (.tmp 68) = (A.tmps.getD 68 undef) from rfl, show A.eval (.tmp 71) = (A.tmps.getD 71 undef) from rfl]; try rfl) en_same5) hB (C25.out w1 _ _ h68 h71)
    ·have g26 : A.tmps.getD 64 undef = .bool false := bC hdeps 17 (by kernel_rfl)
     have s72 : A.tmps.getD 72 undef = .bool true := bC hdeps 25 (by kernel_rfl)
     exact eK hi (aF rfl rfl g26) rfl (y_not (a := true) _ _ s72) hB rfl
    ·have s64 : A.tmps.getD 64 undef = .bool false := bC hdeps 17 (by kernel_rfl)
     have s73 : A.tmps.getD 73 undef = .bool false := bC hdeps 26 (by kernel_rfl)
     exact eK hi rfl rfl (dB _ _ _ s64 s73) hB rfl
   ·intro f w1 hf
    obtain ⟨v', e1, _⟩ := hf 1 (by decide)
    refine ⟨⟨v', f 12, f 13, f 21, f 24⟩, fun i hi => ?_, trivial⟩
    have hc : i = 0 ∨ i = 1 ∨ i = 2 ∨ i = 3 ∨ i = 4 ∨ i = 5 ∨ i = 6 ∨ i = 7 ∨ i = 8 ∨ i = 9 ∨ i = 10 ∨ i = 11 ∨ i = 12 ∨ i = 13 ∨ i = 14 ∨ i = 15 ∨ i = 16 ∨ i = 17 ∨ i = 18 ∨ i = 19 ∨ i = 20 ∨ i = 21 ∨ i = 22 ∨ i = 23 ∨ i = 24 ∨ i = 25 ∨ i = 26 ∨ i = 27 := by have : i < 28 := hi; omega
    rcases hc with rfl | rfl | rfl | rfl | rfl | rfl | rfl | rfl | rfl | rfl | rfl | rfl | rfl | rfl | rfl | rfl | rfl | rfl | rfl | rfl | rfl | rfl | rfl | rfl | rfl | rfl | rfl | rfl
    ·exact hf 0 (by decide)
    ·exact e1
    ·exact hf 2 (by decide)
    ·exact hf 3 (by decide)
    ·exact hf 4 (by decide)
    ·exact hf 5 (by decide)
    ·exact hf 6 (by decide)
    ·exact hf 7 (by decide)
    ·exact hf 8 (by decide)
    ·exact hf 9 (by decide)
    ·exact hf 10 (by decide)
    ·exact hf 11 (by decide)
    ·rfl
    ·rfl
    ·exact hf 14 (by decide)
    ·exact hf 15 (by decide)
    ·exact hf 16 (by decide)
    ·exact hf 17 (by decide)
    ·exact hf 18 (by decide)
    ·exact hf 19 (by decide)
    ·exact hf 20 (by decide)
    ·rfl
    ·exact hf 22 (by decide)
    ·exact hf 23 (by decide)
    ·rfl
    ·exact hf 25 (by decide)
    ·exact hf 26 (by decide)
    ·exact hf 27 (by decide)
   ·intro b w10 hB10 _
    simp only [cA, Act.put, List.setIfInBounds_toArray, List.set_cons_succ, List.set_cons_zero]
    have HBT := aA hB10
    have HNT := aA (HNY.out.below H HBT.out)
    have HX6T := aA (HX6Y.out.belowI HBT.out)
    have HXBT := aA (HX11Y.out.belowI HBT.out)
    obtain ⟨M, hM⟩ : ∃ M : Int, M = ((aT l2 a.t).h a.k : Int) := ⟨_, rfl⟩
    obtain ⟨BW, hBW⟩ : ∃ b : Bool, b = decide (∃ k, (aT l2 a.t).w k ≠ 0) := ⟨_, rfl⟩
    obtain ⟨BP, hBP⟩ : ∃ b : Bool, b = (aT l2 a.t).pr := ⟨_, rfl⟩
    have HTX := aA HOA.out.tx
    have D4 : Hid (∀ W, Below w10.heap.size w10 W → Calls Tryz.prog 17 #[cG q, aV a.t, .agg (aK a.k.1)] W fun e w' => e = .returned (.int .u8 M) ∧ Below W.heap.size W w') := aA (fun W hB => by rw [hM]; exact H.mode a.t a.k (HNT.out.below H hB).p.d HTX.out)
    have D8 : Hid (∀ W, Below w10.heap.size w10 W → Calls Tryz.prog 18 #[.pointer (some ⟨r, 0, none⟩), aV a.t, .agg (aK a.k.1)] W fun e w' => e = .returned (.int .u8 M) ∧ Below W.heap.size W w') := aA (fun W hB => by rw [hM]; exact rl_mode (HNT.out.below H hB).d hC3b a.t a.k)
    have D13 : Hid (∀ W, Below w10.heap.size w10 W → Calls Tryz.prog 19 #[cG q, aV a.t] W fun e w' => e = .returned (.bool BW) ∧ Below W.heap.size W w') := aA (fun W hB => (H.waits a.t (HNT.out.below H hB).p.d HTX.out).mono (fun e w' ⟨b, he, hb, hB2⟩ => ⟨by rw [he, hBW]; congr 2; rw [Bool.eq_iff_iff, hb, decide_eq_true_eq], hB2⟩))
    have D15 : Hid (∀ W, Below w10.heap.size w10 W → Calls Tryz.prog 20 #[.pointer (some ⟨r, 0, none⟩), aV a.t] W fun e w' => e = .returned (.bool BW) ∧ Below W.heap.size W w') := aA (fun W hB => (rl_waits (HNT.out.below H hB).d hC3b a.t).mono (fun e w' ⟨b, he, hb, hB2⟩ => ⟨by rw [he, hBW]; congr 2; rw [Bool.eq_iff_iff, hb, decide_eq_true_eq], hB2⟩))
    have D21 : Hid (∀ W, Below w10.heap.size w10 W → Calls Tryz.prog 21 #[cG q, aV a.t] W fun e w' => e = .returned (.bool BP) ∧ Below W.heap.size W w') := aA (fun W hB => by rw [hBP]; exact H.prepd a.t (HNT.out.below H hB).p.d HTX.out)
    have D23 : Hid (∀ W, Below w10.heap.size w10 W → Calls Tryz.prog 22 #[.pointer (some ⟨r, 0, none⟩), aV a.t] W fun e w' => e = .returned (.bool BP) ∧ Below W.heap.size W w') := aA (fun W hB => by rw [hBP]; exact rl_prep (HNT.out.below H hB).d a.t)
    clear hM hBW hBP hB10
    go_wp2_with fail
    refine bD (by kernel_rfl) [(75, cG q), (76, .agg #[.int .u8 (a.t.1 : Int), .int .u32 (a.t.2.1 : Int), .int .u32 (a.t.2.2 : Int)]), (77, .pointer (some ⟨wr.heap.size, 5, none⟩)), (78, .agg (bP a.k.1).toArray), (79, .int .u8 M), (80, .agg #[.int .u8 (a.t.1 : Int), .int .u32 (a.t.2.1 : Int), .int .u32 (a.t.2.2 : Int)]), (81, .pointer (some ⟨wr.heap.size, 5, none⟩)), (82, .agg (bP a.k.1).toArray), (83, .int .u8 M), (84, .bool false), (85, .bool false), (86, cG q), (87, .agg #[.int .u8 (a.t.1 : Int), .int .u32 (a.t.2.1 : Int), .int .u32 (a.t.2.2 : Int)]), (88, .bool BW), (89, .agg #[.int .u8 (a.t.1 : Int), .int .u32 (a.t.2.1 : Int), .int .u32 (a.t.2.2 : Int)]), (90, .bool BW), (91, .bool false), (92, .bool false), (93, .bool false), (94, cG q), (95, .agg #[.int .u8 (a.t.1 : Int), .int .u32 (a.t.2.1 : Int), .int .u32 (a.t.2.2 : Int)]), (96, .bool BP), (97, .agg #[.int .u8 (a.t.1 : Int), .int .u32 (a.t.2.1 : Int), .int .u32 (a.t.2.2 : Int)]), (98, .bool BP), (99, .bool false), (100, .bool false)] (by kernel_rfl) rfl ?_ ?_
    ·intro i o hi A w1 hB hold hdeps
     have hlt : i < 26 := (Array.getElem?_eq_some_iff.1 hi).1
     have hc : i = 0 ∨ i = 1 ∨ i = 2 ∨ i = 3 ∨ i = 4 ∨ i = 5 ∨ i = 6 ∨ i = 7 ∨ i = 8 ∨ i = 9 ∨ i = 10 ∨ i = 11 ∨ i = 12 ∨ i = 13 ∨ i = 14 ∨ i = 15 ∨ i = 16 ∨ i = 17 ∨ i = 18 ∨ i = 19 ∨ i = 20 ∨ i = 21 ∨ i = 22 ∨ i = 23 ∨ i = 24 ∨ i = 25 := by omega
     clear hlt
     rcases hc with rfl|rfl|rfl|rfl|rfl|rfl|rfl|rfl|rfl|rfl|rfl|rfl|rfl|rfl|rfl|rfl|rfl|rfl|rfl|rfl|rfl|rfl|rfl|rfl|rfl|rfl <;> obtain rfl := Option.some.inj hi
     ·have s3 : A.tmps.getD 3 undef = cG q := hold 3 (by kernel_rfl)
      exact aD hi rfl rfl (aR _ s3)
     ·have s11 : A.tmps.getD 11 undef = .pointer (some ⟨w8.heap.size + 1, 0, none⟩) := hold 11 (by kernel_rfl)
      exact aD hi rfl rfl (iI _ _ s11 (HXBT.out.belowI hB) Tryz.underlying34 rfl fS)
     ·have s6 : A.tmps.getD 6 undef = .pointer (some ⟨wr.heap.size, 0, none⟩) := hold 6 (by kernel_rfl)
      exact aD hi rfl rfl (yla_key _ s6)
     ·have s77 : A.tmps.getD 77 undef = .pointer (some ⟨wr.heap.size, 5, none⟩) := aB hdeps 2 (by kernel_rfl)
      exact aD hi rfl rfl (eI _ _ s77 ((act_key (HX6T.out.belowI hB))) Tryz.underlying38 rfl cE)
     ·have s75 : A.tmps.getD 75 undef = cG q := aB hdeps 0 (by kernel_rfl)
      have s76 : A.tmps.getD 76 undef = .agg #[.int .u8 (a.t.1 : Int), .int .u32 (a.t.2.1 : Int), .int .u32 (a.t.2.2 : Int)] := aB hdeps 1 (by kernel_rfl)
      have s78 : A.tmps.getD 78 undef = .agg (bP a.k.1).toArray := aB hdeps 3 (by kernel_rfl)
      exact cF hi rfl rfl (cC 17 _ #[cG q, .agg #[.int .u8 (a.t.1 : Int), .int .u32 (a.t.2.1 : Int), .int .u32 (a.t.2.2 : Int)], .agg (bP a.k.1).toArray] _ rfl (by simp only [List.map_toArray, List.map_cons, List.map_nil, show A.eval (.tmp 75) = cG q from s75, show A.eval (.tmp 76) = .agg #[.int .u8 (a.t.1 : Int), .int .u32 (a.t.2.1 : Int), .int .u32 (a.t.2.2 : Int)] from s76, show A.eval (.tmp 78) = .agg (bP a.k.1).toArray from s78]; try rfl) en_lmode) (D4.out w1 hB)
     ·have s11 : A.tmps.getD 11 undef = .pointer (some ⟨w8.heap.size + 1, 0, none⟩) := hold 11 (by kernel_rfl)
      exact aD hi rfl rfl (iI _ _ s11 (HXBT.out.belowI hB) Tryz.underlying34 rfl fS)
     ·have s6 : A.tmps.getD 6 undef = .pointer (some ⟨wr.heap.size, 0, none⟩) := hold 6 (by kernel_rfl)
      exact aD hi rfl rfl (yla_key _ s6)
     ·have s81 : A.tmps.getD 81 undef = .pointer (some ⟨wr.heap.size, 5, none⟩) := aB hdeps 6 (by kernel_rfl)
      exact aD hi rfl rfl (eI _ _ s81 ((act_key (HX6T.out.belowI hB))) Tryz.underlying38 rfl cE)
     ·have s4 : A.tmps.getD 4 undef = .pointer (some ⟨r, 0, none⟩) := hold 4 (by kernel_rfl)
      have s80 : A.tmps.getD 80 undef = .agg #[.int .u8 (a.t.1 : Int), .int .u32 (a.t.2.1 : Int), .int .u32 (a.t.2.2 : Int)] := aB hdeps 5 (by kernel_rfl)
      have s82 : A.tmps.getD 82 undef = .agg (bP a.k.1).toArray := aB hdeps 7 (by kernel_rfl)
      exact cF hi rfl rfl (cC 18 _ #[.pointer (some ⟨r, 0, none⟩), .agg #[.int .u8 (a.t.1 : Int), .int .u32 (a.t.2.1 : Int), .int .u32 (a.t.2.2 : Int)], .agg (bP a.k.1).toArray] _ rfl (by simp only [List.map_toArray, List.map_cons, List.map_nil, show A.eval (.tmp 4) = .pointer (some ⟨r, 0, none⟩) from s4, show A.eval (.tmp 80) = .agg #[.int .u8 (a.t.1 : Int), .int .u32 (a.t.2.1 : Int), .int .u32 (a.t.2.2 : Int)] from s80, show A.eval (.tmp 82) = .agg (bP a.k.1).toArray from s82]; try rfl) en_rmode) (D8.out w1 hB)
     ·have s79 : A.tmps.getD 79 undef = .int .u8 M := aB hdeps 4 (by kernel_rfl)
      have s83 : A.tmps.getD 83 undef = .int .u8 M := aB hdeps 8 (by kernel_rfl)
      exact aD hi rfl rfl (eE _ _ _ _ _ s79 s83 (neq_u8S M w1) (by kernel_rfl))
     ·have s84 : A.tmps.getD 84 undef = .bool false := aB hdeps 9 (by kernel_rfl)
      exact aD hi rfl rfl (aR _ s84)
     ·have g11 : A.tmps.getD 85 undef = .bool false := aB hdeps 10 (by kernel_rfl)
      have s3 : A.tmps.getD 3 undef = cG q := hold 3 (by kernel_rfl)
      exact aD hi (aF rfl rfl g11) rfl (aR _ s3)
     ·have g12 : A.tmps.getD 85 undef = .bool false := aB hdeps 10 (by kernel_rfl)
      have s11 : A.tmps.getD 11 undef = .pointer (some ⟨w8.heap.size + 1, 0, none⟩) := hold 11 (by kernel_rfl)
      exact aD hi (aF rfl rfl g12) rfl (iI _ _ s11 (HXBT.out.belowI hB) Tryz.underlying34 rfl fS)
     ·have g13 : A.tmps.getD 85 undef = .bool false := aB hdeps 10 (by kernel_rfl)
      have s86 : A.tmps.getD 86 undef = cG q := aB hdeps 11 (by kernel_rfl)
      have s87 : A.tmps.getD 87 undef = .agg #[.int .u8 (a.t.1 : Int), .int .u32 (a.t.2.1 : Int), .int .u32 (a.t.2.2 : Int)] := aB hdeps 12 (by kernel_rfl)
      exact cF hi (aF rfl rfl g13) rfl (cC 19 _ #[cG q, .agg #[.int .u8 (a.t.1 : Int), .int .u32 (a.t.2.1 : Int), .int .u32 (a.t.2.2 : Int)]] _ rfl (by simp only [List.map_toArray, List.map_cons, List.map_nil, show A.eval (.tmp 86) = cG q from s86, show A.eval (.tmp 87) = .agg #[.int .u8 (a.t.1 : Int), .int .u32 (a.t.2.1 : Int), .int .u32 (a.t.2.2 : Int)] from s87]; try rfl) en_lwaits) (D13.out w1 hB)
     ·have g14 : A.tmps.getD 85 undef = .bool false := aB hdeps 10 (by kernel_rfl)
      have s11 : A.tmps.getD 11 undef = .pointer (some ⟨w8.heap.size + 1, 0, none⟩) := hold 11 (by kernel_rfl)
      exact aD hi (aF rfl rfl g14) rfl (iI _ _ s11 (HXBT.out.belowI hB) Tryz.underlying34 rfl fS)
     ·have g15 : A.tmps.getD 85 undef = .bool false := aB hdeps 10 (by kernel_rfl)
      have s4 : A.tmps.getD 4 undef = .pointer (some ⟨r, 0, none⟩) := hold 4 (by kernel_rfl)
      have s89 : A.tmps.getD 89 undef = .agg #[.int .u8 (a.t.1 : Int), .int .u32 (a.t.2.1 : Int), .int .u32 (a.t.2.2 : Int)] := aB hdeps 14 (by kernel_rfl)
      exact cF hi (aF rfl rfl g15) rfl (cC 20 _ #[.pointer (some ⟨r, 0, none⟩), .agg #[.int .u8 (a.t.1 : Int), .int .u32 (a.t.2.1 : Int), .int .u32 (a.t.2.2 : Int)]] _ rfl (by simp only [List.map_toArray, List.map_cons, List.map_nil, show A.eval (.tmp 4) = .pointer (some ⟨r, 0, none⟩) from s4, show A.eval (.tmp 89) = .agg #[.int .u8 (a.t.1 : Int), .int .u32 (a.t.2.1 : Int), .int .u32 (a.t.2.2 : Int)] from s89]; try rfl) en_rwaits) (D15.out w1 hB)
     ·have g16 : A.tmps.getD 85 undef = .bool false := aB hdeps 10 (by kernel_rfl)
      have s88 : A.tmps.getD 88 undef = .bool BW := aB hdeps 13 (by kernel_rfl)
      have s90 : A.tmps.getD 90 undef = .bool BW := aB hdeps 15 (by kernel_rfl)
      exact aD hi (aF rfl rfl g16) rfl (eE _ _ _ _ _ s88 s90 (neq_boolS BW w1) (by kernel_rfl))
     ·have s85 : A.tmps.getD 85 undef = .bool false := aB hdeps 10 (by kernel_rfl)
      have s91 : A.tmps.getD 91 undef = .bool false := aB hdeps 16 (by kernel_rfl)
      exact aD hi rfl rfl (dB _ _ _ s85 s91)
     ·have s92 : A.tmps.getD 92 undef = .bool false := aB hdeps 17 (by kernel_rfl)
      exact aD hi rfl rfl (aR _ s92)
     ·have g19 : A.tmps.getD 93 undef = .bool false := aB hdeps 18 (by kernel_rfl)
      have s3 : A.tmps.getD 3 undef = cG q := hold 3 (by kernel_rfl)
      exact aD hi (aF rfl rfl g19) rfl (aR _ s3)
     ·have g20 : A.tmps.getD 93 undef = .bool false := aB hdeps 18 (by kernel_rfl)
      have s11 : A.tmps.getD 11 undef = .pointer (some ⟨w8.heap.size + 1, 0, none⟩) := hold 11 (by kernel_rfl)
      exact aD hi (aF rfl rfl g20) rfl (iI _ _ s11 (HXBT.out.belowI hB) Tryz.underlying34 rfl fS)
     ·have g21 : A.tmps.getD 93 undef = .bool false := aB hdeps 18 (by kernel_rfl)
      have s94 : A.tmps.getD 94 undef = cG q := aB hdeps 19 (by kernel_rfl)
      have s95 : A.tmps.getD 95 undef = .agg #[.int .u8 (a.t.1 : Int), .int .u32 (a.t.2.1 : Int), .int .u32 (a.t.2.2 : Int)] := aB hdeps 20 (by kernel_rfl)
      exact cF hi (aF rfl rfl g21) rfl (cC 21 _ #[cG q, .agg #[.int .u8 (a.t.1 : Int), .int .u32 (a.t.2.1 : Int), .int .u32 (a.t.2.2 : Int)]] _ rfl (by simp only [List.map_toArray, List.map_cons, List.map_nil, show A.eval (.tmp 94) = cG q from s94, show A.eval (.tmp 95) = .agg #[.int .u8 (a.t.1 : Int), .int .u32 (a.t.2.1 : Int), .int .u32 (a.t.2.2 : Int)] from s95]; try rfl) en_lprep) (D21.out w1 hB)
     ·have g22 : A.tmps.getD 93 undef = .bool false := aB hdeps 18 (by kernel_rfl)
      have s11 : A.tmps.getD 11 undef = .pointer (some ⟨w8.heap.size + 1, 0, none⟩) := hold 11 (by kernel_rfl)
      exact aD hi (aF rfl rfl g22) rfl (iI _ _ s11 (HXBT.out.belowI hB) Tryz.underlying34 rfl fS)
     ·have g23 : A.tmps.getD 93 undef = .bool false := aB hdeps 18 (by kernel_rfl)
      have s4 : A.tmps.getD 4 undef = .pointer (some ⟨r, 0, none⟩) := hold 4 (by kernel_rfl)
      have s97 : A.tmps.getD 97 undef = .agg #[.int .u8 (a.t.1 : Int), .int .u32 (a.t.2.1 : Int), .int .u32 (a.t.2.2 : Int)] := aB hdeps 22 (by kernel_rfl)
      exact cF hi (aF rfl rfl g23) rfl (cC 22 _ #[.pointer (some ⟨r, 0, none⟩), .agg #[.int .u8 (a.t.1 : Int), .int .u32 (a.t.2.1 : Int), .int .u32 (a.t.2.2 : Int)]] _ rfl (by simp only [List.map_toArray, List.map_cons, List.map_nil, show A.eval (.tmp 4) = .pointer (some ⟨r, 0, none⟩) from s4, show A.eval (.tmp 97) = .agg #[.int .u8 (a.t.1 : Int), .int .u32 (a.t.2.1 : Int), .int .u32 (a.t.2.2 : Int)] from s97]; try rfl) en_rprep) (D23.out w1 hB)
     ·have g24 : A.tmps.getD 93 undef = .bool false := aB hdeps 18 (by kernel_rfl)
      have s96 : A.tmps.getD 96 undef = .bool BP := aB hdeps 21 (by kernel_rfl)
      have s98 : A.tmps.getD 98 undef = .bool BP := aB hdeps 23 (by kernel_rfl)
      exact aD hi (aF rfl rfl g24) rfl (eE _ _ _ _ _ s96 s98 (neq_boolS BP w1) (by kernel_rfl))
     ·have s93 : A.tmps.getD 93 undef = .bool false := aB hdeps 18 (by kernel_rfl)
      have s99 : A.tmps.getD 99 undef = .bool false := aB hdeps 24 (by kernel_rfl)
      exact aD hi rfl rfl (dB _ _ _ s93 s99)
    ·intro w13 hB13
     simp only [cA, Act.put, List.setIfInBounds_toArray, List.set_cons_succ, List.set_cons_zero]
     have HNE := aA (HNT.out.below H hB13)
     clear hB13
     go_wp2_with fail
     go_roundg g
     all_goals first
      | (case measure => omega)
      | (case rel => exact ⟨k + 1, C2, CR3, F2, G2, l2, by omega, by first | rfl | go_num, hC3, hCR3, HI2, HNE⟩)
  | zero =>
   obtain rfl : k = LN := by omega
   have hz : ¬ ((k : Int) < (k : Int)) := by omega
   obtain ⟨vL, vH, vW, L, HH, WW, hT, hr, hb, hc, hG⟩ := HN.out.d
   obtain ⟨aH, cH, hvH, _, _⟩ := hT.sH.shape
   subst hvH
   obtain ⟨NH, hNH⟩ : ∃ NH, NH = HH.length := ⟨_, rfl⟩
   have HNH := aA hNH
   have HSH : Hid (bI gtE wr (.slice aH NH cH) HH) := aA (by rw [hNH]; exact hT.sH)
   have m1 : wr.cell? ⟨r, 1, none⟩ = some (.slice aH NH cH) := by rw [hNH]; exact hT.c1
   have HRP := aA hr
   have HLB := aA hb
   have hNHb : NH ≤ 10000 := by omega
   clear hT hr hb hc hG hNH
   go_wp2_with fail
   go_loopg [105] NH (fun gi i V => ∃ j : Nat, j + gi = NH ∧ i = .int .i64 (j : Int) ∧ Hid (Below wr.heap.size wr V))
   case atStart => exact ⟨0, by omega, rfl, aA (Below.refl _ _)⟩
   case round =>
    obtain ⟨j, hj, rfl, HBV⟩ := hrel
    cases gk with
    | zero =>
     obtain rfl : j = NH := by omega
     have hz2 : ¬ ((j : Int) < (j : Int)) := by omega
     have HBF := aA (HN.out.p.b.trans (HBV.out.mono HN.out.p.b.size))
     go_wp2_with (go_at_call 6; refine (CA.out _).mono ?_; rintro e w8 ⟨rfl, hB8⟩; have HB8 := aA (HBF.out.trans (hB8.mono HBF.out.size)); clear hB8)
     go_ret
     exact ⟨rfl, HB8.out⟩
    | succ gi =>
     have hjI : (j : Int) < (NH : Int) := by omega
     have hjn : j < HH.length := by rw [← HNH.out]; omega
     obtain ⟨en, b, off, e9, hb, hcl⟩ := (HSH.out.below HBV.out).at dJ.len hjn
     subst e9
     obtain ⟨hg1, hg2, hg3, hg4⟩ := HRP.out.h.got HLB.out (List.getElem_mem hjn)
     have HTX : Hid (kJ (HH[j]).tx) := aA (by rw [← hg2]; exact (HLB.out.oks _ hg1).1)
     have HMD : Hid ((aT l (HH[j]).tx).h (HH[j]).key = (HH[j]).mode) := aA hg3
     have HRg : Hid (∀ m v, (gtE HH[j])[m]? = some v → wr.cell? ⟨b, off + j * 12 + m, none⟩ = some v) := aA (fun m v hv => hcl m v hv)
     generalize HH[j] = y at *
     have HZ := aA (aN wr #[.int .u8 0, .int .u32 0, .int .u32 0, .int .u8 0, .int .u8 0, .int .u8 0, .int .u8 0, .int .u8 0, .int .u8 0, .int .u8 0, .int .u8 0, .int .u8 0] 62)
     have HZB : Hid (Below wr.heap.size wr (wr.alloc (.cells #[.int .u8 0, .int .u32 0, .int .u32 0, .int .u8 0, .int .u8 0, .int .u8 0, .int .u8 0, .int .u8 0, .int .u8 0, .int .u8 0, .int .u8 0, .int .u8 0] 62))) := aA (aE wr _)
     clear hcl hb en hg1 hg2 hg3 hg4
     go_wp2_with (first | (refine aO rfl _ (t := 62) rfl (b) (off + j * 12) rfl (gtE y) HRg.out Tryz.underlying62 rfl bS ?_) | (refine aP rfl rfl _ _ rfl wr.heap.size rfl (cs' := bW y) rfl HZ.out rfl bS (by simp [Value.oneCell']) ?_; intro w9 hb3 hk3; have HX9 := aA hb3; have HB9 : Hid (Below wr.heap.size wr w9) := aA (HZB.out.trans (hk3.below HZB.out.size (fun k hk => by omega))); clear hb3 hk3))
     have HB19 := aA (HBV.out.trans (HB9.out.mono HBV.out.size))
     have HNV := aA (HN.out.below H HB19.out)
     have D5 : Hid (∀ W, Below w9.heap.size w9 W → Calls Tryz.prog 17 #[cG q, aV y.tx, .agg (aK y.key.1)] W fun e w' => e = .returned (.int .u8 (y.mode : Int)) ∧ Below W.heap.size W w') := aA (fun W hB => by have h1 := H.mode y.tx y.key (HNV.out.below H hB).p.d HTX.out; rw [HMD.out] at h1; exact h1)
     clear HZ HZB HRg
     refine bD (by kernel_rfl) [(109, cG q), (110, .pointer (some ⟨wr.heap.size, 0, none⟩)), (111, .agg (tx3R y.tx).toArray), (112, .pointer (some ⟨wr.heap.size, 0 + 3, none⟩)), (113, .agg (bP y.key.1).toArray), (114, .int .u8 (y.mode : Int)), (115, .pointer (some ⟨wr.heap.size, 0 + 11, none⟩)), (116, .int .u8 (y.mode : Int)), (117, .bool false)] (by kernel_rfl) rfl ?_ ?_
     ·intro i o hi A w1 hB hold hdeps
      have hlt : i < 9 := (Array.getElem?_eq_some_iff.1 hi).1
      have hc : i = 0 ∨ i = 1 ∨ i = 2 ∨ i = 3 ∨ i = 4 ∨ i = 5 ∨ i = 6 ∨ i = 7 ∨ i = 8 := by omega
      clear hlt
      rcases hc with rfl|rfl|rfl|rfl|rfl|rfl|rfl|rfl|rfl <;> obtain rfl := Option.some.inj hi
      ·have s3 : A.tmps.getD 3 undef = cG q := hold 3 (by kernel_rfl)
       exact aD hi rfl rfl (aR _ s3)
      ·have s13 : A.tmps.getD 13 undef = .pointer (some ⟨wr.heap.size, 0, none⟩) := hold 13 (by kernel_rfl)
       exact aD hi rfl rfl (iJ _ s13)
      ·have s110 : A.tmps.getD 110 undef = .pointer (some ⟨wr.heap.size, 0, none⟩) := aB hdeps 1 (by kernel_rfl)
       exact aD hi rfl rfl (eI _ _ s110 (got_txR (HX9.out.belowI hB)) Tryz.underlying34 rfl fS)
      ·have s13 : A.tmps.getD 13 undef = .pointer (some ⟨wr.heap.size, 0, none⟩) := hold 13 (by kernel_rfl)
       exact aD hi rfl rfl (fG _ s13)
      ·have s112 : A.tmps.getD 112 undef = .pointer (some ⟨wr.heap.size, 0 + 3, none⟩) := aB hdeps 3 (by kernel_rfl)
       exact aD hi rfl rfl (eI _ _ s112 (got_keyR (HX9.out.belowI hB)) Tryz.underlying38 rfl cE)
      ·have s109 : A.tmps.getD 109 undef = cG q := aB hdeps 0 (by kernel_rfl)
       have s111 : A.tmps.getD 111 undef = .agg (tx3R y.tx).toArray := aB hdeps 2 (by kernel_rfl)
       have s113 : A.tmps.getD 113 undef = .agg (bP y.key.1).toArray := aB hdeps 4 (by kernel_rfl)
       exact cF hi rfl rfl (cC 17 _ #[cG q, .agg (tx3R y.tx).toArray, .agg (bP y.key.1).toArray] _ rfl (by simp only [List.map_toArray, List.map_cons, List.map_nil, show A.eval (.tmp 109) = cG q from s109, show A.eval (.tmp 111) = .agg (tx3R y.tx).toArray from s111, show A.eval (.tmp 113) = .agg (bP y.key.1).toArray from s113]; try rfl) en_lmode) (D5.out w1 hB)
      ·have s13 : A.tmps.getD 13 undef = .pointer (some ⟨wr.heap.size, 0, none⟩) := hold 13 (by kernel_rfl)
       exact aD hi rfl rfl (yr_gt2 _ s13)
      ·have s115 : A.tmps.getD 115 undef = .pointer (some ⟨wr.heap.size, 0 + 11, none⟩) := aB hdeps 6 (by kernel_rfl)
       exact aD hi rfl rfl (yc_u8 _ s115 ((HX9.out.belowI hB).cell (0 + 11) _ rfl))
      ·have s114 : A.tmps.getD 114 undef = .int .u8 (y.mode : Int) := aB hdeps 5 (by kernel_rfl)
       have s116 : A.tmps.getD 116 undef = .int .u8 (y.mode : Int) := aB hdeps 7 (by kernel_rfl)
       exact aD hi rfl rfl (eE _ _ _ _ _ s114 s116 (neq_u8S (y.mode : Int) w1) (by kernel_rfl))
     ·intro w19 hB19
      simp only [cA, Act.put, List.setIfInBounds_toArray, List.set_cons_succ, List.set_cons_zero]
      have HBE := aA (HB19.out.trans (hB19.mono HB19.out.size))
      clear hB19
      go_wp2_with fail
      go_roundg gi
      all_goals first
       | (case measure => omega)
       | (case rel => exact ⟨j + 1, by omega, by first | rfl | go_num, HBE⟩)
end
section
open Go.RowKit Go.ChangeShapes Go.WideShapes Go.ChangeAt
namespace lockPlays
theorem lifted (os : Os) (started : os.Started) (H : Type) (enc : TypeId × Value → H) :
  ReturnsInHanded {} Tryz.checked os 3 .any (Rows.lockPlaysSpec.pre6 enc Tryz.prog Tryz.f3 Rows.lockPlaysRow.domain false) (Rows.lockPlaysSpec.post enc Tryz.prog Tryz.f3 false true false false) := by
 refine returnsInHanded_of_change_sized (C := Tryz.checked) own started (by kernel_rfl) Tryz.func3
  (ChangeSpec.witness6 (enc := enc) (C := Tryz.checked) false ⟨#[], #[.slice none 0 0], []⟩ 8 (by kernel_rfl) (by kernel_rfl) (by kernel_rfl) (by kernel_rfl)) ?_
 intro W base args ds gs before hval0 hW hcnd hsz _
 have hval : ∀ (j : Nat) t v, Tryz.f3.params[j]? = some t → args[j]? = some v → Value.okWide Tryz.prog W .any base t v := hval0
 have hW' := hW
 obtain ⟨p, q, hA0, hV, rfl, hfz, hnd⟩ := hW
 have hA : DataW.TrodAll enc Tryz.prog W 0 (fun _ => true) true Tryz.f3.params.toList args.toList ds p := hA0
 have hsz2 : ∀ (j : Nat) (t : TypeId) (d : DataW H), Tryz.f3.params.toList[j]? = some t → ds[j]? = some d → ∀ n ∈ d.weights Tryz.prog t, n ≤ 140737488351232 := fun j t d ht hd n hn => by
  have h1 := List.all_eq_true.1 hsz n (DataW.weights_mem_each (j := j) (t := t) (d := d) (by rw [List.getElem?_append_left (List.getElem?_eq_some_iff.1 ht).1]; exact ht) (by rw [List.getElem?_append_left (List.getElem?_eq_some_iff.1 hd).1]; exact hd) n hn)
  have h2 : n ≤ reachBytes := by simpa using h1
  have h3 : reachBytes = 140737488351232 := rfl
  omega
 rw [Tryz.params3] at hA hval hsz2
 obtain ⟨v0, vs0, d0, ds0, p0, q0, hargs, rfl, rfl, h0, r0⟩ := trodAll_cons hA
 obtain ⟨rfl, rfl, rfl⟩ := trodAll_nil r0
 obtain rfl : args = #[v0] := by cases args; simp_all
 obtain ⟨rfl, rfl⟩ := trodVars_none hV
 obtain ⟨a0, len0, cap0, rfl⟩ := okWide_slice Tryz.underlying22 (hval 0 22 v0 rfl rfl)
 have k0 := h0
 have lt0 : ∀ x ∈ p0, x.block < W.heap.size := by obtain ⟨m, hm⟩ := k0; exact DataW.trod_lt m _ _ _ hm
 obtain ⟨xs0, lies0, by0⟩ := lacts_of_trod h0
 clear hA0 hval0
 refine (walkY15 (lk_do sortB64) _ xs0 W lies0 by0).mono fun e W' ⟨he, bel⟩ => ?_
 subst he
 exact ⟨_, rfl, _, _, _, [], _, [], hW', trodAll_mk1 (shut_bool Tryz.underlying4 _), (trodAll_cons_mk (Below.trod laidOut (by kernel_rfl) (of_decide_eq_true (by kernel_rfl)) k0 bel lt0) trodAll_mk0), rfl, bel.frame _, fun h => by cases h⟩
theorem over : Rows.lockPlaysRow.holds Tryz.pinned (OpenSpec.ofChange Rows.lockPlaysSpec) :=
 OpenClaim.holds_of_wide 3 Tryz.f3 rfl rfl rfl rfl rfl rfl rfl ⟨rfl, rfl, rfl, rfl, rfl⟩ rfl rfl rfl rfl rfl (by kernel_rfl) Tryz.func3 (by kernel_rfl)
  (of_decide_eq_true (by kernel_rfl)) (by unfold Func.isWrapper; first | (rw [if_pos (by decide +kernel)]; kernel_rfl) | (rw [if_neg (by decide +kernel)]; exact ⟨rfl, rfl⟩))
  (fun os started H enc _ => lifted os started H enc)
end lockPlays
theorem lockPlays_holds : Rows.LockPlaysSaid := lockPlays.over
#print axioms lockPlays_holds
end
end Go.Proofs.YtiloagmkkhlfjaaGreat
