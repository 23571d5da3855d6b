/-
  NetCounts: sent and doubled are as many as taken, lost behind that, and there. The walk, by the bundle. Own work.
-/
import Derived.Test.YteehkjdolmmapaaNtAlive
import Derived.Test.YteehkjdolmmapaaNtCount
import Derived.Deep.LoopGhost
namespace Go.Proofs.Yteehkjdolmmapaa
open Go.RowKit

section
variable {D : World → Nat → (Nat → Prop) → Nt → Prop}
set_option maxRecDepth 100000 in
set_option maxHeartbeats 3200000 in
theorem walkC8 (H : NetDo D) (m0 : Nat) (v : Value) (fs : List NAct) (w : World) (hL : NLies w v fs) (hok : ∀ f ∈ fs, f.Ok) (hm0 : m0 < 256) :
    Calls Try.prog 6 #[.int .u8 (m0 : Int), v] w fun e w' => e = .returned (.bool true) ∧ Below w.heap.size w w' := by
  have CL := hide (long_any8 v fs w hL)
  have CA := hide (fun W => alive_by8 H W)
  have CS := hide (fun W (h : NLies W v fs) => short_any8 v fs W h)
  have HLS := hide hL
  obtain ⟨ao0, cap0, hv0, _⟩ := hL.shape
  subst hv0
  have hokt : ∀ f ∈ fs.take 100, f.Ok := fun f hf => hok f (List.mem_of_mem_take hf)
  have hal : (fs.take 100).length ≤ 100 := by simp; omega
  obtain ⟨ts, hts⟩ : ∃ ts, ts = fs.take 100 := ⟨_, rfl⟩
  rw [← hts] at CL CS hokt hal
  have HOKT := hide hokt
  clear hts hok hL hokt
  obtain ⟨nn, hnn⟩ : ∃ nn : Nat, nn = m0 % 40 + 1 := ⟨_, rfl⟩
  have hn1 : (m0 : Int) % 40 + 1 = (nn : Int) := by omega
  have hnb : 1 ≤ nn ∧ nn ≤ 40 := by omega
  have HNEW : Hid (newOk8 (nn : Int) = true) := hide (by unfold newOk8; simp; omega)
  clear hnn
  by_cases hlong : 32768 < bulkN ts
  · rw [decide_eq_true hlong] at CL
    go_enter Try.func6, Try.ntmps6
    go_wp2_with fail
    refine CL.out.mono ?_
    rintro e w1 ⟨rfl, hB⟩
    have HB := hide hB
    clear hB CL
    go_wp2_with fail
    refine (CA.out w1).mono ?_
    rintro e we ⟨rfl, hB⟩
    replace HB := hide (HB.out.trans (hB.mono HB.out.size))
    clear hB
    go_wp2_with fail
    go_ret
    exact ⟨rfl, HB.out⟩
  · rw [decide_eq_false hlong] at CL
    clear hlong
    go_enter Try.func6, Try.ntmps6
    go_wp2_with fail
    refine CL.out.mono ?_
    rintro e w1 ⟨rfl, hB⟩
    have HB := hide hB
    clear hB CL
    go_wp2_with fail
    refine (H.new (nn : Int) w1 HNEW.out).mono ?_
    rintro e w2 ⟨q, F0, rfl, hD, hF, hB⟩
    rw [Int.toNat_natCast] at hD
    have HS0 : Hid (Since8 D w q (newN nn) w2) := hide ⟨F0, hD, fun k hk => Nat.le_trans HB.out.size (hF k hk), HB.out.trans (hB.mono HB.out.size)⟩
    replace HB := hide (HB.out.trans (hB.mono HB.out.size))
    clear hB hD hF
    go_wp2_with fail
    refine (CS.out w2 (HLS.out.below HB.out)).mono ?_
    rintro e wS ⟨v3, rfl, hL3, hw3, hLW⟩
    subst hw3
    obtain ⟨ao3, cap3, hv3, hc3, _, _⟩ := hL3.shape
    subst hv3
    have HLT := hide (hLW w HLS.out)
    clear hL3 hLW HB CS HLS
    go_wp2_with fail
    go_loopg [8, 9, 10, 37] ts.length (fun g x y z i wr => ∃ (k : Nat) (n : Nt) (c ww f : Nat), k + g = ts.length ∧ x = .int .i64 (c : Int) ∧ y = .int .i64 (ww : Int) ∧ z = .int .i64 (f : Int) ∧ i = .int .i64 k ∧ Hid (Since8 D w q n wr) ∧ Hid (Cnt n c ww f) ∧ n.lost ≤ k ∧ c ≤ k ∧ ww ≤ k ∧ f ≤ k ∧ n.room = nn)
    case atStart => exact ⟨0, newN nn, 0, 0, 0, by omega, rfl, rfl, rfl, rfl, HS0, hide ⟨rfl, Nat.zero_le _⟩, Nat.zero_le _, Nat.zero_le _, Nat.zero_le _, Nat.zero_le _, rfl⟩
    case round =>
      obtain ⟨k, n, c, ww, f, hk, rfl, rfl, rfl, rfl, HS, HC, hlk, hck, hwk, hfk, hrm⟩ := hrel
      obtain ⟨F, hD, hF, hB⟩ := HS.out
      have HD := hide hD
      have HF := hide hF
      have HB := hide hB
      clear hD hF hB HS HS0
      cases gk with
      | zero =>
        obtain rfl : k = ts.length := by omega
        have hz : ¬ ((ts.length : Int) < (ts.length : Int)) := by omega
        go_wp2_with fail
        refine (CA.out wr).mono ?_
        rintro e we ⟨rfl, hB⟩
        replace HB := hide (HB.out.trans (hB.mono HB.out.size))
        clear hB
        go_wp2_with fail
        go_ret
        exact ⟨rfl, HB.out⟩
      | succ g =>
        have hlost : n.lost ≤ 1000000 := by omega
        have hz : (k : Int) < (ts.length : Int) := by omega
        obtain ⟨b, off, cap', sv, e, hb, hLs, c0, c1, c2, c3, c4⟩ := (HLT.out.below HB.out).at k (by omega)
        cases e
        obtain ⟨sa, sc, hsv⟩ := hLs.shape
        subst hsv
        have ha := HOKT.out ts[k] (List.getElem_mem _)
        generalize ts[k] = a at *
        have HA := hide ha
        have HLA := hide hLs
        have hak := ha.k
        clear hLs ha
        go_wp2_with fail
        have hA := alloc_below8 wr (.cells #[.int .u8 (a.kind : Int), .int .u8 (a.fr : Int), .int .u8 (a.to : Int), .int .i64 a.i, .slice sa a.b.length sc] 37)
        have hX := box_new wr #[.int .u8 (a.kind : Int), .int .u8 (a.fr : Int), .int .u8 (a.to : Int), .int .i64 a.i, .slice sa a.b.length sc] 37
        revert hA hX
        generalize wr.alloc (.cells #[.int .u8 (a.kind : Int), .int .u8 (a.fr : Int), .int .u8 (a.to : Int), .int .i64 a.i, .slice sa a.b.length sc] 37) = W1
        intro hB hX
        have HX := hide hX
        have HFX : Hid (¬ F wr.heap.size) := hide (fun hf => by have := H.lt HD.out _ hf; omega)
        replace HD := hide (H.below HD.out hB)
        replace HB := hide (HB.out.trans (hB.mono HB.out.size))
        replace HLA := hide (HLA.out.below hB)
        clear hB hX c0 c1 c2 c3 c4 hb
        refine (does_any8 H q F n a _ W1 HD.out HA.out HLA.out hlost).mono ?_
        rintro e W2 ⟨sv2, rfl, h2⟩
        have HS2 := hide (Since8.did HB.out HF.out (NDidW.did h2))
        obtain ⟨F2, _, hk2, _, ho2, _⟩ := h2
        obtain ⟨a2, c2, hv2⟩ := (Lies.of_own ho2).shape
        subst hv2
        replace HX := hide (HX.out.keep hk2 HFX.out)
        have HOKN := hide (H.ok HD.out)
        clear hk2 ho2 HD HB HF HLA HFX
        unfold wcs
        have hA := alloc_below8 W2 (.cells #[.int .u8 ((nctW n a).fr : Int), .int .u8 ((nctW n a).to : Int), .slice a2 (nctW n a).b.length c2] 39)
        have x0 := (HX.out.below8 hA).cell 0 _ rfl
        obtain ⟨F2, hD2, hF2, hB2⟩ := HS2.out
        have HD := hide (H.below hD2 hA)
        have HF := hide hF2
        have HB := hide (hB2.trans (hA.mono hB2.size))
        clear hD2 hF2 hB2 HS2 hA HX
        have hrem : (a.kind : Int).tmod 6 = ((a.kind % 6 : Nat) : Int) := by
          rw [Int.tmod_eq_emod_of_nonneg (by omega)]; omega
        have hrem' : (a.kind : Int) % 6 = ((a.kind % 6 : Nat) : Int) := by omega
        have HAK : Hid (nctA n a = if a.kind % 6 = 1 then atA n a.i else if a.kind % 6 = 2 then atA n a.i else if a.kind % 6 = 3 then atA n a.i else if a.kind % 6 = 4 then twiA n a.i else if a.kind % 6 = 5 then atA n a.i else senA n a.wire) := rfl
        have HDK : Hid (nctD n a = if a.kind % 6 = 1 then takD n a.i else if a.kind % 6 = 2 then n else if a.kind % 6 = 3 then droD n a.i else if a.kind % 6 = 4 then twiD n a.i else if a.kind % 6 = 5 then latD n a.i else senD n a.wire) := rfl
        have hnl := nct_lost n a
        have hnr := (nct_room n a).trans hrm
        have HOK2 := hide (H.ok HD.out)
        have hr6 : a.kind % 6 < 6 := Nat.mod_lt _ (by decide)
        obtain ⟨A, hA⟩ : ∃ A, A = nctA n a := ⟨_, rfl⟩
        obtain ⟨n', hn'⟩ : ∃ n', n' = nctD n a := ⟨_, rfl⟩
        rw [← hA] at HAK ⊢
        rw [← hn'] at HDK hnl hnr HOK2 HD
        generalize a.kind % 6 = r at *
        have hcs : r = 0 ∨ r = 1 ∨ r = 2 ∨ r = 3 ∨ r = 4 ∨ r = 5 := by omega
        clear hA hn' hr6
        rcases hcs with rfl | rfl | rfl | rfl | rfl | rfl
        · have hAA : A = senA n a.wire := by rw [HAK.out]; simp
          have hDD : n' = senD n a.wire := by rw [HDK.out]; simp
          clear HAK HDK
          by_cases h0 : A = 0
          · have HC2 : Hid (Cnt n' (c + 1) ww f) := hide (by rw [hDD]; exact cnt_sen HC.out (by rw [← hAA, h0]))
            subst h0
            clear hAA hDD
            have hcl := HC2.out.len
            have hco := HC2.out.lost
            have hfu := HOK2.out.full
            have hlo2 : n'.lost ≤ 1000000 := by omega
            obtain ⟨ln, hln⟩ : ∃ ln : Nat, ln = n'.l.length := ⟨_, rfl⟩
            have hl1 : (ln : Int) = ((c : Int) + 1) - (ww : Int) := by omega
            have d1 : ((ln : Int) != ((c : Int) + 1) - (ww : Int)) = false := by rw [hl1]; simp
            have d2 : decide ((ln : Int) > (nn : Int)) = false := decide_eq_false (by omega)
            have d3 : decide ((n'.lost : Int) > (ww : Int) + (f : Int)) = false := decide_eq_false (by omega)
            have d2n : ln ≤ nn := by omega
            have d3n : (n'.lost : Int) ≤ (ww : Int) + (f : Int) := by omega
            have CLN : Hid (∀ W F, D W q F n' → Calls Try.prog 16 #[.pointer (some ⟨q, 0, none⟩)] W fun e w' => e = .returned (.int .i64 (ln : Int)) ∧ ∃ m, w' = W.drewN m) := hide (fun W F h => by rw [hln]; exact H.len h)
            clear hl1 hcl hco hfu hln
            go_wp2_with fail
            refine (CLN.out _ _ HD.out).mono ?_
            rintro e W4 ⟨rfl, m, hw⟩
            have hB : Below _ _ W4 := hw ▸ below_drewN8 _ m
            replace HD := hide (H.below HD.out hB)
            replace HB := hide (HB.out.trans (hB.mono HB.out.size))
            clear hw hB
            go_wp2_with fail
            refine (CLN.out _ _ HD.out).mono ?_
            rintro e W5 ⟨rfl, m, hw⟩
            have hB : Below W4.heap.size W4 W5 := hw ▸ below_drewN8 W4 m
            replace HD := hide (H.below HD.out hB)
            replace HB := hide (HB.out.trans (hB.mono HB.out.size))
            clear hw hB
            go_wp2_with fail
            refine (H.los HD.out hlo2).mono ?_
            rintro e W6 ⟨rfl, m, hw⟩
            have hB : Below W5.heap.size W5 W6 := hw ▸ below_drewN8 W5 m
            replace HD := hide (H.below HD.out hB)
            replace HB := hide (HB.out.trans (hB.mono HB.out.size))
            clear hw hB
            go_wp2_with fail
            go_roundg g
            case measure => omega
            case rel => exact ⟨k + 1, n', c + 1, ww, f, by omega, by first | rfl | go_num, by first | rfl | go_num, by first | rfl | go_num, by first | rfl | go_num, hide ⟨_, HD.out, HF.out, HB.out⟩, HC2, by omega, by omega, by omega, by omega, hnr⟩
          · by_cases h9 : A = 9
            · have HC2 : Hid (Cnt n' c ww (f + 1)) := hide (by rw [hDD]; exact cnt_sen_full HOKN.out HC.out (by rw [← hAA, h9]))
              have hfull : n'.l.length = nn := by rw [hDD, ← hrm]; exact (sen_full HOKN.out (by rw [← hAA, h9])).1
              subst h9
              clear hAA hDD
              have hcl := HC2.out.len
              have hco := HC2.out.lost
              have hfu := HOK2.out.full
              have hlo2 : n'.lost ≤ 1000000 := by omega
              obtain ⟨ln, hln⟩ : ∃ ln : Nat, ln = n'.l.length := ⟨_, rfl⟩
              have hl1 : (ln : Int) = (c : Int) - (ww : Int) := by omega
              have d1 : ((ln : Int) != (c : Int) - (ww : Int)) = false := by rw [hl1]; simp
              have d2 : decide ((ln : Int) > (nn : Int)) = false := decide_eq_false (by omega)
              have d3 : decide ((n'.lost : Int) > (ww : Int) + ((f : Int) + 1)) = false := decide_eq_false (by omega)
              have d2n : ln ≤ nn := by omega
              have d3n : (n'.lost : Int) ≤ (ww : Int) + ((f : Int) + 1) := by omega
              have CLN : Hid (∀ W F, D W q F n' → Calls Try.prog 16 #[.pointer (some ⟨q, 0, none⟩)] W fun e w' => e = .returned (.int .i64 (ln : Int)) ∧ ∃ m, w' = W.drewN m) := hide (fun W F h => by rw [hln]; exact H.len h)
              have d9 : ((ln : Int) != (nn : Int)) = false := by rw [show (ln : Int) = (nn : Int) by omega]; simp
              clear hl1 hcl hco hfu hln
              go_wp2_with fail
              refine (CLN.out _ _ HD.out).mono ?_
              rintro e W4 ⟨rfl, m, hw⟩
              have hB : Below _ _ W4 := hw ▸ below_drewN8 _ m
              replace HD := hide (H.below HD.out hB)
              replace HB := hide (HB.out.trans (hB.mono HB.out.size))
              clear hw hB
              go_wp2_with fail
              refine (CLN.out _ _ HD.out).mono ?_
              rintro e W5 ⟨rfl, m, hw⟩
              have hB : Below W4.heap.size W4 W5 := hw ▸ below_drewN8 W4 m
              replace HD := hide (H.below HD.out hB)
              replace HB := hide (HB.out.trans (hB.mono HB.out.size))
              clear hw hB
              go_wp2_with fail
              refine (H.los HD.out hlo2).mono ?_
              rintro e W6 ⟨rfl, m, hw⟩
              have hB : Below W5.heap.size W5 W6 := hw ▸ below_drewN8 W5 m
              replace HD := hide (H.below HD.out hB)
              replace HB := hide (HB.out.trans (hB.mono HB.out.size))
              clear hw hB
              go_wp2_with fail
              refine (CLN.out _ _ HD.out).mono ?_
              rintro e W7 ⟨rfl, m, hw⟩
              have hB : Below W6.heap.size W6 W7 := hw ▸ below_drewN8 W6 m
              replace HD := hide (H.below HD.out hB)
              replace HB := hide (HB.out.trans (hB.mono HB.out.size))
              clear hw hB
              go_wp2_with fail
              go_roundg g
              case measure => omega
              case rel => exact ⟨k + 1, n', c, ww, f + 1, by omega, by first | rfl | go_num, by first | rfl | go_num, by first | rfl | go_num, by first | rfl | go_num, hide ⟨_, HD.out, HF.out, HB.out⟩, HC2, by omega, by omega, by omega, by omega, hnr⟩
            · have hnn : n' = n := by rw [hDD]; exact sen_other (by rw [← hAA]; exact h0) (by rw [← hAA]; exact h9)
              have HC2 : Hid (Cnt n' c ww f) := hide (by rw [hnn]; exact HC.out)
              have e0 : (A == 0) = false := by simpa using h0
              have e9 : (A == 9) = false := by simpa using h9
              clear hAA hDD hnn h0 h9
              have hcl := HC2.out.len
              have hco := HC2.out.lost
              have hfu := HOK2.out.full
              have hlo2 : n'.lost ≤ 1000000 := by omega
              obtain ⟨ln, hln⟩ : ∃ ln : Nat, ln = n'.l.length := ⟨_, rfl⟩
              have hl1 : (ln : Int) = (c : Int) - (ww : Int) := by omega
              have d1 : ((ln : Int) != (c : Int) - (ww : Int)) = false := by rw [hl1]; simp
              have d2 : decide ((ln : Int) > (nn : Int)) = false := decide_eq_false (by omega)
              have d3 : decide ((n'.lost : Int) > (ww : Int) + (f : Int)) = false := decide_eq_false (by omega)
              have d2n : ln ≤ nn := by omega
              have d3n : (n'.lost : Int) ≤ (ww : Int) + (f : Int) := by omega
              have CLN : Hid (∀ W F, D W q F n' → Calls Try.prog 16 #[.pointer (some ⟨q, 0, none⟩)] W fun e w' => e = .returned (.int .i64 (ln : Int)) ∧ ∃ m, w' = W.drewN m) := hide (fun W F h => by rw [hln]; exact H.len h)
              clear hl1 hcl hco hfu hln
              go_wp2_with fail
              refine (CLN.out _ _ HD.out).mono ?_
              rintro e W4 ⟨rfl, m, hw⟩
              have hB : Below _ _ W4 := hw ▸ below_drewN8 _ m
              replace HD := hide (H.below HD.out hB)
              replace HB := hide (HB.out.trans (hB.mono HB.out.size))
              clear hw hB
              go_wp2_with fail
              refine (CLN.out _ _ HD.out).mono ?_
              rintro e W5 ⟨rfl, m, hw⟩
              have hB : Below W4.heap.size W4 W5 := hw ▸ below_drewN8 W4 m
              replace HD := hide (H.below HD.out hB)
              replace HB := hide (HB.out.trans (hB.mono HB.out.size))
              clear hw hB
              go_wp2_with fail
              refine (H.los HD.out hlo2).mono ?_
              rintro e W6 ⟨rfl, m, hw⟩
              have hB : Below W5.heap.size W5 W6 := hw ▸ below_drewN8 W5 m
              replace HD := hide (H.below HD.out hB)
              replace HB := hide (HB.out.trans (hB.mono HB.out.size))
              clear hw hB
              go_wp2_with fail
              go_roundg g
              case measure => omega
              case rel => exact ⟨k + 1, n', c, ww, f, by omega, by first | rfl | go_num, by first | rfl | go_num, by first | rfl | go_num, by first | rfl | go_num, hide ⟨_, HD.out, HF.out, HB.out⟩, HC2, by omega, by omega, by omega, by omega, hnr⟩
        · have hAA : A = atA n a.i := by rw [HAK.out]; simp
          have hDD : n' = takD n a.i := by rw [HDK.out]; simp
          clear HAK HDK
          by_cases h0 : A = 0
          · have HC2 : Hid (Cnt n' c (ww + 1) f) := hide (by rw [hDD]; exact cnt_tak HC.out (by rw [← hAA, h0]))
            subst h0
            clear hAA hDD
            have hcl := HC2.out.len
            have hco := HC2.out.lost
            have hfu := HOK2.out.full
            have hlo2 : n'.lost ≤ 1000000 := by omega
            obtain ⟨ln, hln⟩ : ∃ ln : Nat, ln = n'.l.length := ⟨_, rfl⟩
            have hl1 : (ln : Int) = (c : Int) - ((ww : Int) + 1) := by omega
            have d1 : ((ln : Int) != (c : Int) - ((ww : Int) + 1)) = false := by rw [hl1]; simp
            have d2 : decide ((ln : Int) > (nn : Int)) = false := decide_eq_false (by omega)
            have d3 : decide ((n'.lost : Int) > ((ww : Int) + 1) + (f : Int)) = false := decide_eq_false (by omega)
            have d2n : ln ≤ nn := by omega
            have d3n : (n'.lost : Int) ≤ ((ww : Int) + 1) + (f : Int) := by omega
            have CLN : Hid (∀ W F, D W q F n' → Calls Try.prog 16 #[.pointer (some ⟨q, 0, none⟩)] W fun e w' => e = .returned (.int .i64 (ln : Int)) ∧ ∃ m, w' = W.drewN m) := hide (fun W F h => by rw [hln]; exact H.len h)
            clear hl1 hcl hco hfu hln
            go_wp2_with fail
            refine (CLN.out _ _ HD.out).mono ?_
            rintro e W4 ⟨rfl, m, hw⟩
            have hB : Below _ _ W4 := hw ▸ below_drewN8 _ m
            replace HD := hide (H.below HD.out hB)
            replace HB := hide (HB.out.trans (hB.mono HB.out.size))
            clear hw hB
            go_wp2_with fail
            refine (CLN.out _ _ HD.out).mono ?_
            rintro e W5 ⟨rfl, m, hw⟩
            have hB : Below W4.heap.size W4 W5 := hw ▸ below_drewN8 W4 m
            replace HD := hide (H.below HD.out hB)
            replace HB := hide (HB.out.trans (hB.mono HB.out.size))
            clear hw hB
            go_wp2_with fail
            refine (H.los HD.out hlo2).mono ?_
            rintro e W6 ⟨rfl, m, hw⟩
            have hB : Below W5.heap.size W5 W6 := hw ▸ below_drewN8 W5 m
            replace HD := hide (H.below HD.out hB)
            replace HB := hide (HB.out.trans (hB.mono HB.out.size))
            clear hw hB
            go_wp2_with fail
            go_roundg g
            case measure => omega
            case rel => exact ⟨k + 1, n', c, ww + 1, f, by omega, by first | rfl | go_num, by first | rfl | go_num, by first | rfl | go_num, by first | rfl | go_num, hide ⟨_, HD.out, HF.out, HB.out⟩, HC2, by omega, by omega, by omega, by omega, hnr⟩
          · have hnn : n' = n := by rw [hDD]; exact tak_none (by rw [← hAA]; exact h0)
            have HC2 : Hid (Cnt n' c ww f) := hide (by rw [hnn]; exact HC.out)
            have h9 : A ≠ 9 := by rw [hAA]; exact at_nine n a.i
            have e0 : (A == 0) = false := by simpa using h0
            have e9 : (A == 9) = false := by simpa using h9
            clear hAA hDD hnn h0 h9
            have hcl := HC2.out.len
            have hco := HC2.out.lost
            have hfu := HOK2.out.full
            have hlo2 : n'.lost ≤ 1000000 := by omega
            obtain ⟨ln, hln⟩ : ∃ ln : Nat, ln = n'.l.length := ⟨_, rfl⟩
            have hl1 : (ln : Int) = (c : Int) - (ww : Int) := by omega
            have d1 : ((ln : Int) != (c : Int) - (ww : Int)) = false := by rw [hl1]; simp
            have d2 : decide ((ln : Int) > (nn : Int)) = false := decide_eq_false (by omega)
            have d3 : decide ((n'.lost : Int) > (ww : Int) + (f : Int)) = false := decide_eq_false (by omega)
            have d2n : ln ≤ nn := by omega
            have d3n : (n'.lost : Int) ≤ (ww : Int) + (f : Int) := by omega
            have CLN : Hid (∀ W F, D W q F n' → Calls Try.prog 16 #[.pointer (some ⟨q, 0, none⟩)] W fun e w' => e = .returned (.int .i64 (ln : Int)) ∧ ∃ m, w' = W.drewN m) := hide (fun W F h => by rw [hln]; exact H.len h)
            clear hl1 hcl hco hfu hln
            go_wp2_with fail
            refine (CLN.out _ _ HD.out).mono ?_
            rintro e W4 ⟨rfl, m, hw⟩
            have hB : Below _ _ W4 := hw ▸ below_drewN8 _ m
            replace HD := hide (H.below HD.out hB)
            replace HB := hide (HB.out.trans (hB.mono HB.out.size))
            clear hw hB
            go_wp2_with fail
            refine (CLN.out _ _ HD.out).mono ?_
            rintro e W5 ⟨rfl, m, hw⟩
            have hB : Below W4.heap.size W4 W5 := hw ▸ below_drewN8 W4 m
            replace HD := hide (H.below HD.out hB)
            replace HB := hide (HB.out.trans (hB.mono HB.out.size))
            clear hw hB
            go_wp2_with fail
            refine (H.los HD.out hlo2).mono ?_
            rintro e W6 ⟨rfl, m, hw⟩
            have hB : Below W5.heap.size W5 W6 := hw ▸ below_drewN8 W5 m
            replace HD := hide (H.below HD.out hB)
            replace HB := hide (HB.out.trans (hB.mono HB.out.size))
            clear hw hB
            go_wp2_with fail
            go_roundg g
            case measure => omega
            case rel => exact ⟨k + 1, n', c, ww, f, by omega, by first | rfl | go_num, by first | rfl | go_num, by first | rfl | go_num, by first | rfl | go_num, hide ⟨_, HD.out, HF.out, HB.out⟩, HC2, by omega, by omega, by omega, by omega, hnr⟩
        · have hAA : A = atA n a.i := by rw [HAK.out]; simp
          have hDD : n' = n := by rw [HDK.out]; simp
          have HC2 : Hid (Cnt n' c ww f) := hide (by rw [hDD]; exact HC.out)
          have h9 : A ≠ 9 := by rw [hAA]; exact at_nine n a.i
          have e9 : (A == 9) = false := by simpa using h9
          clear HAK HDK hAA hDD h9
          have hcl := HC2.out.len
          have hco := HC2.out.lost
          have hfu := HOK2.out.full
          have hlo2 : n'.lost ≤ 1000000 := by omega
          obtain ⟨ln, hln⟩ : ∃ ln : Nat, ln = n'.l.length := ⟨_, rfl⟩
          have hl1 : (ln : Int) = (c : Int) - (ww : Int) := by omega
          have d1 : ((ln : Int) != (c : Int) - (ww : Int)) = false := by rw [hl1]; simp
          have d2 : decide ((ln : Int) > (nn : Int)) = false := decide_eq_false (by omega)
          have d3 : decide ((n'.lost : Int) > (ww : Int) + (f : Int)) = false := decide_eq_false (by omega)
          have d2n : ln ≤ nn := by omega
          have d3n : (n'.lost : Int) ≤ (ww : Int) + (f : Int) := by omega
          have CLN : Hid (∀ W F, D W q F n' → Calls Try.prog 16 #[.pointer (some ⟨q, 0, none⟩)] W fun e w' => e = .returned (.int .i64 (ln : Int)) ∧ ∃ m, w' = W.drewN m) := hide (fun W F h => by rw [hln]; exact H.len h)
          clear hl1 hcl hco hfu hln
          go_wp2_with fail
          refine (CLN.out _ _ HD.out).mono ?_
          rintro e W4 ⟨rfl, m, hw⟩
          have hB : Below _ _ W4 := hw ▸ below_drewN8 _ m
          replace HD := hide (H.below HD.out hB)
          replace HB := hide (HB.out.trans (hB.mono HB.out.size))
          clear hw hB
          go_wp2_with fail
          refine (CLN.out _ _ HD.out).mono ?_
          rintro e W5 ⟨rfl, m, hw⟩
          have hB : Below W4.heap.size W4 W5 := hw ▸ below_drewN8 W4 m
          replace HD := hide (H.below HD.out hB)
          replace HB := hide (HB.out.trans (hB.mono HB.out.size))
          clear hw hB
          go_wp2_with fail
          refine (H.los HD.out hlo2).mono ?_
          rintro e W6 ⟨rfl, m, hw⟩
          have hB : Below W5.heap.size W5 W6 := hw ▸ below_drewN8 W5 m
          replace HD := hide (H.below HD.out hB)
          replace HB := hide (HB.out.trans (hB.mono HB.out.size))
          clear hw hB
          go_wp2_with fail
          go_roundg g
          case measure => omega
          case rel => exact ⟨k + 1, n', c, ww, f, by omega, by first | rfl | go_num, by first | rfl | go_num, by first | rfl | go_num, by first | rfl | go_num, hide ⟨_, HD.out, HF.out, HB.out⟩, HC2, by omega, by omega, by omega, by omega, hnr⟩
        · have hAA : A = atA n a.i := by rw [HAK.out]; simp
          have hDD : n' = droD n a.i := by rw [HDK.out]; simp
          clear HAK HDK
          by_cases h0 : A = 0
          · have HC2 : Hid (Cnt n' c (ww + 1) f) := hide (by rw [hDD]; exact cnt_dro HC.out (by rw [← hAA, h0]))
            subst h0
            clear hAA hDD
            have hcl := HC2.out.len
            have hco := HC2.out.lost
            have hfu := HOK2.out.full
            have hlo2 : n'.lost ≤ 1000000 := by omega
            obtain ⟨ln, hln⟩ : ∃ ln : Nat, ln = n'.l.length := ⟨_, rfl⟩
            have hl1 : (ln : Int) = (c : Int) - ((ww : Int) + 1) := by omega
            have d1 : ((ln : Int) != (c : Int) - ((ww : Int) + 1)) = false := by rw [hl1]; simp
            have d2 : decide ((ln : Int) > (nn : Int)) = false := decide_eq_false (by omega)
            have d3 : decide ((n'.lost : Int) > ((ww : Int) + 1) + (f : Int)) = false := decide_eq_false (by omega)
            have d2n : ln ≤ nn := by omega
            have d3n : (n'.lost : Int) ≤ ((ww : Int) + 1) + (f : Int) := by omega
            have CLN : Hid (∀ W F, D W q F n' → Calls Try.prog 16 #[.pointer (some ⟨q, 0, none⟩)] W fun e w' => e = .returned (.int .i64 (ln : Int)) ∧ ∃ m, w' = W.drewN m) := hide (fun W F h => by rw [hln]; exact H.len h)
            clear hl1 hcl hco hfu hln
            go_wp2_with fail
            refine (CLN.out _ _ HD.out).mono ?_
            rintro e W4 ⟨rfl, m, hw⟩
            have hB : Below _ _ W4 := hw ▸ below_drewN8 _ m
            replace HD := hide (H.below HD.out hB)
            replace HB := hide (HB.out.trans (hB.mono HB.out.size))
            clear hw hB
            go_wp2_with fail
            refine (CLN.out _ _ HD.out).mono ?_
            rintro e W5 ⟨rfl, m, hw⟩
            have hB : Below W4.heap.size W4 W5 := hw ▸ below_drewN8 W4 m
            replace HD := hide (H.below HD.out hB)
            replace HB := hide (HB.out.trans (hB.mono HB.out.size))
            clear hw hB
            go_wp2_with fail
            refine (H.los HD.out hlo2).mono ?_
            rintro e W6 ⟨rfl, m, hw⟩
            have hB : Below W5.heap.size W5 W6 := hw ▸ below_drewN8 W5 m
            replace HD := hide (H.below HD.out hB)
            replace HB := hide (HB.out.trans (hB.mono HB.out.size))
            clear hw hB
            go_wp2_with fail
            go_roundg g
            case measure => omega
            case rel => exact ⟨k + 1, n', c, ww + 1, f, by omega, by first | rfl | go_num, by first | rfl | go_num, by first | rfl | go_num, by first | rfl | go_num, hide ⟨_, HD.out, HF.out, HB.out⟩, HC2, by omega, by omega, by omega, by omega, hnr⟩
          · have hnn : n' = n := by rw [hDD]; exact dro_none (by rw [← hAA]; exact h0)
            have HC2 : Hid (Cnt n' c ww f) := hide (by rw [hnn]; exact HC.out)
            have h9 : A ≠ 9 := by rw [hAA]; exact at_nine n a.i
            have e0 : (A == 0) = false := by simpa using h0
            have e9 : (A == 9) = false := by simpa using h9
            clear hAA hDD hnn h0 h9
            have hcl := HC2.out.len
            have hco := HC2.out.lost
            have hfu := HOK2.out.full
            have hlo2 : n'.lost ≤ 1000000 := by omega
            obtain ⟨ln, hln⟩ : ∃ ln : Nat, ln = n'.l.length := ⟨_, rfl⟩
            have hl1 : (ln : Int) = (c : Int) - (ww : Int) := by omega
            have d1 : ((ln : Int) != (c : Int) - (ww : Int)) = false := by rw [hl1]; simp
            have d2 : decide ((ln : Int) > (nn : Int)) = false := decide_eq_false (by omega)
            have d3 : decide ((n'.lost : Int) > (ww : Int) + (f : Int)) = false := decide_eq_false (by omega)
            have d2n : ln ≤ nn := by omega
            have d3n : (n'.lost : Int) ≤ (ww : Int) + (f : Int) := by omega
            have CLN : Hid (∀ W F, D W q F n' → Calls Try.prog 16 #[.pointer (some ⟨q, 0, none⟩)] W fun e w' => e = .returned (.int .i64 (ln : Int)) ∧ ∃ m, w' = W.drewN m) := hide (fun W F h => by rw [hln]; exact H.len h)
            clear hl1 hcl hco hfu hln
            go_wp2_with fail
            refine (CLN.out _ _ HD.out).mono ?_
            rintro e W4 ⟨rfl, m, hw⟩
            have hB : Below _ _ W4 := hw ▸ below_drewN8 _ m
            replace HD := hide (H.below HD.out hB)
            replace HB := hide (HB.out.trans (hB.mono HB.out.size))
            clear hw hB
            go_wp2_with fail
            refine (CLN.out _ _ HD.out).mono ?_
            rintro e W5 ⟨rfl, m, hw⟩
            have hB : Below W4.heap.size W4 W5 := hw ▸ below_drewN8 W4 m
            replace HD := hide (H.below HD.out hB)
            replace HB := hide (HB.out.trans (hB.mono HB.out.size))
            clear hw hB
            go_wp2_with fail
            refine (H.los HD.out hlo2).mono ?_
            rintro e W6 ⟨rfl, m, hw⟩
            have hB : Below W5.heap.size W5 W6 := hw ▸ below_drewN8 W5 m
            replace HD := hide (H.below HD.out hB)
            replace HB := hide (HB.out.trans (hB.mono HB.out.size))
            clear hw hB
            go_wp2_with fail
            go_roundg g
            case measure => omega
            case rel => exact ⟨k + 1, n', c, ww, f, by omega, by first | rfl | go_num, by first | rfl | go_num, by first | rfl | go_num, by first | rfl | go_num, hide ⟨_, HD.out, HF.out, HB.out⟩, HC2, by omega, by omega, by omega, by omega, hnr⟩
        · have hAA : A = twiA n a.i := by rw [HAK.out]; simp
          have hDD : n' = twiD n a.i := by rw [HDK.out]; simp
          clear HAK HDK
          by_cases h0 : A = 0
          · have HC2 : Hid (Cnt n' (c + 1) ww f) := hide (by rw [hDD]; exact cnt_twi HC.out (by rw [← hAA, h0]))
            subst h0
            clear hAA hDD
            have hcl := HC2.out.len
            have hco := HC2.out.lost
            have hfu := HOK2.out.full
            have hlo2 : n'.lost ≤ 1000000 := by omega
            obtain ⟨ln, hln⟩ : ∃ ln : Nat, ln = n'.l.length := ⟨_, rfl⟩
            have hl1 : (ln : Int) = ((c : Int) + 1) - (ww : Int) := by omega
            have d1 : ((ln : Int) != ((c : Int) + 1) - (ww : Int)) = false := by rw [hl1]; simp
            have d2 : decide ((ln : Int) > (nn : Int)) = false := decide_eq_false (by omega)
            have d3 : decide ((n'.lost : Int) > (ww : Int) + (f : Int)) = false := decide_eq_false (by omega)
            have d2n : ln ≤ nn := by omega
            have d3n : (n'.lost : Int) ≤ (ww : Int) + (f : Int) := by omega
            have CLN : Hid (∀ W F, D W q F n' → Calls Try.prog 16 #[.pointer (some ⟨q, 0, none⟩)] W fun e w' => e = .returned (.int .i64 (ln : Int)) ∧ ∃ m, w' = W.drewN m) := hide (fun W F h => by rw [hln]; exact H.len h)
            clear hl1 hcl hco hfu hln
            go_wp2_with fail
            refine (CLN.out _ _ HD.out).mono ?_
            rintro e W4 ⟨rfl, m, hw⟩
            have hB : Below _ _ W4 := hw ▸ below_drewN8 _ m
            replace HD := hide (H.below HD.out hB)
            replace HB := hide (HB.out.trans (hB.mono HB.out.size))
            clear hw hB
            go_wp2_with fail
            refine (CLN.out _ _ HD.out).mono ?_
            rintro e W5 ⟨rfl, m, hw⟩
            have hB : Below W4.heap.size W4 W5 := hw ▸ below_drewN8 W4 m
            replace HD := hide (H.below HD.out hB)
            replace HB := hide (HB.out.trans (hB.mono HB.out.size))
            clear hw hB
            go_wp2_with fail
            refine (H.los HD.out hlo2).mono ?_
            rintro e W6 ⟨rfl, m, hw⟩
            have hB : Below W5.heap.size W5 W6 := hw ▸ below_drewN8 W5 m
            replace HD := hide (H.below HD.out hB)
            replace HB := hide (HB.out.trans (hB.mono HB.out.size))
            clear hw hB
            go_wp2_with fail
            go_roundg g
            case measure => omega
            case rel => exact ⟨k + 1, n', c + 1, ww, f, by omega, by first | rfl | go_num, by first | rfl | go_num, by first | rfl | go_num, by first | rfl | go_num, hide ⟨_, HD.out, HF.out, HB.out⟩, HC2, by omega, by omega, by omega, by omega, hnr⟩
          · by_cases h9 : A = 9
            · have hnn := twi_full HOKN.out (show twiA n a.i = 9 by rw [← hAA, h9])
              have HC2 : Hid (Cnt n' c ww f) := hide (by rw [hDD, hnn.1]; exact HC.out)
              have hfull : n'.l.length = nn := by rw [hDD, hnn.1, hnn.2, hrm]
              subst h9
              clear hAA hDD hnn
              have hcl := HC2.out.len
              have hco := HC2.out.lost
              have hfu := HOK2.out.full
              have hlo2 : n'.lost ≤ 1000000 := by omega
              obtain ⟨ln, hln⟩ : ∃ ln : Nat, ln = n'.l.length := ⟨_, rfl⟩
              have hl1 : (ln : Int) = (c : Int) - (ww : Int) := by omega
              have d1 : ((ln : Int) != (c : Int) - (ww : Int)) = false := by rw [hl1]; simp
              have d2 : decide ((ln : Int) > (nn : Int)) = false := decide_eq_false (by omega)
              have d3 : decide ((n'.lost : Int) > (ww : Int) + (f : Int)) = false := decide_eq_false (by omega)
              have d2n : ln ≤ nn := by omega
              have d3n : (n'.lost : Int) ≤ (ww : Int) + (f : Int) := by omega
              have CLN : Hid (∀ W F, D W q F n' → Calls Try.prog 16 #[.pointer (some ⟨q, 0, none⟩)] W fun e w' => e = .returned (.int .i64 (ln : Int)) ∧ ∃ m, w' = W.drewN m) := hide (fun W F h => by rw [hln]; exact H.len h)
              have d9 : ((ln : Int) != (nn : Int)) = false := by rw [show (ln : Int) = (nn : Int) by omega]; simp
              clear hl1 hcl hco hfu hln
              go_wp2_with fail
              refine (CLN.out _ _ HD.out).mono ?_
              rintro e W4 ⟨rfl, m, hw⟩
              have hB : Below _ _ W4 := hw ▸ below_drewN8 _ m
              replace HD := hide (H.below HD.out hB)
              replace HB := hide (HB.out.trans (hB.mono HB.out.size))
              clear hw hB
              go_wp2_with fail
              refine (CLN.out _ _ HD.out).mono ?_
              rintro e W5 ⟨rfl, m, hw⟩
              have hB : Below W4.heap.size W4 W5 := hw ▸ below_drewN8 W4 m
              replace HD := hide (H.below HD.out hB)
              replace HB := hide (HB.out.trans (hB.mono HB.out.size))
              clear hw hB
              go_wp2_with fail
              refine (H.los HD.out hlo2).mono ?_
              rintro e W6 ⟨rfl, m, hw⟩
              have hB : Below W5.heap.size W5 W6 := hw ▸ below_drewN8 W5 m
              replace HD := hide (H.below HD.out hB)
              replace HB := hide (HB.out.trans (hB.mono HB.out.size))
              clear hw hB
              go_wp2_with fail
              refine (CLN.out _ _ HD.out).mono ?_
              rintro e W7 ⟨rfl, m, hw⟩
              have hB : Below W6.heap.size W6 W7 := hw ▸ below_drewN8 W6 m
              replace HD := hide (H.below HD.out hB)
              replace HB := hide (HB.out.trans (hB.mono HB.out.size))
              clear hw hB
              go_wp2_with fail
              go_roundg g
              case measure => omega
              case rel => exact ⟨k + 1, n', c, ww, f, by omega, by first | rfl | go_num, by first | rfl | go_num, by first | rfl | go_num, by first | rfl | go_num, hide ⟨_, HD.out, HF.out, HB.out⟩, HC2, by omega, by omega, by omega, by omega, hnr⟩
            · have hnn : n' = n := by rw [hDD]; exact twi_other (by rw [← hAA]; exact h0)
              have HC2 : Hid (Cnt n' c ww f) := hide (by rw [hnn]; exact HC.out)
              have e0 : (A == 0) = false := by simpa using h0
              have e9 : (A == 9) = false := by simpa using h9
              clear hAA hDD hnn h0 h9
              have hcl := HC2.out.len
              have hco := HC2.out.lost
              have hfu := HOK2.out.full
              have hlo2 : n'.lost ≤ 1000000 := by omega
              obtain ⟨ln, hln⟩ : ∃ ln : Nat, ln = n'.l.length := ⟨_, rfl⟩
              have hl1 : (ln : Int) = (c : Int) - (ww : Int) := by omega
              have d1 : ((ln : Int) != (c : Int) - (ww : Int)) = false := by rw [hl1]; simp
              have d2 : decide ((ln : Int) > (nn : Int)) = false := decide_eq_false (by omega)
              have d3 : decide ((n'.lost : Int) > (ww : Int) + (f : Int)) = false := decide_eq_false (by omega)
              have d2n : ln ≤ nn := by omega
              have d3n : (n'.lost : Int) ≤ (ww : Int) + (f : Int) := by omega
              have CLN : Hid (∀ W F, D W q F n' → Calls Try.prog 16 #[.pointer (some ⟨q, 0, none⟩)] W fun e w' => e = .returned (.int .i64 (ln : Int)) ∧ ∃ m, w' = W.drewN m) := hide (fun W F h => by rw [hln]; exact H.len h)
              clear hl1 hcl hco hfu hln
              go_wp2_with fail
              refine (CLN.out _ _ HD.out).mono ?_
              rintro e W4 ⟨rfl, m, hw⟩
              have hB : Below _ _ W4 := hw ▸ below_drewN8 _ m
              replace HD := hide (H.below HD.out hB)
              replace HB := hide (HB.out.trans (hB.mono HB.out.size))
              clear hw hB
              go_wp2_with fail
              refine (CLN.out _ _ HD.out).mono ?_
              rintro e W5 ⟨rfl, m, hw⟩
              have hB : Below W4.heap.size W4 W5 := hw ▸ below_drewN8 W4 m
              replace HD := hide (H.below HD.out hB)
              replace HB := hide (HB.out.trans (hB.mono HB.out.size))
              clear hw hB
              go_wp2_with fail
              refine (H.los HD.out hlo2).mono ?_
              rintro e W6 ⟨rfl, m, hw⟩
              have hB : Below W5.heap.size W5 W6 := hw ▸ below_drewN8 W5 m
              replace HD := hide (H.below HD.out hB)
              replace HB := hide (HB.out.trans (hB.mono HB.out.size))
              clear hw hB
              go_wp2_with fail
              go_roundg g
              case measure => omega
              case rel => exact ⟨k + 1, n', c, ww, f, by omega, by first | rfl | go_num, by first | rfl | go_num, by first | rfl | go_num, by first | rfl | go_num, hide ⟨_, HD.out, HF.out, HB.out⟩, HC2, by omega, by omega, by omega, by omega, hnr⟩
        · have hAA : A = atA n a.i := by rw [HAK.out]; simp
          have hDD : n' = latD n a.i := by rw [HDK.out]; simp
          have HC2 : Hid (Cnt n' c ww f) := hide (by rw [hDD]; exact cnt_lat HC.out a.i)
          have h9 : A ≠ 9 := by rw [hAA]; exact at_nine n a.i
          have e9 : (A == 9) = false := by simpa using h9
          clear HAK HDK hAA hDD h9
          have hcl := HC2.out.len
          have hco := HC2.out.lost
          have hfu := HOK2.out.full
          have hlo2 : n'.lost ≤ 1000000 := by omega
          obtain ⟨ln, hln⟩ : ∃ ln : Nat, ln = n'.l.length := ⟨_, rfl⟩
          have hl1 : (ln : Int) = (c : Int) - (ww : Int) := by omega
          have d1 : ((ln : Int) != (c : Int) - (ww : Int)) = false := by rw [hl1]; simp
          have d2 : decide ((ln : Int) > (nn : Int)) = false := decide_eq_false (by omega)
          have d3 : decide ((n'.lost : Int) > (ww : Int) + (f : Int)) = false := decide_eq_false (by omega)
          have d2n : ln ≤ nn := by omega
          have d3n : (n'.lost : Int) ≤ (ww : Int) + (f : Int) := by omega
          have CLN : Hid (∀ W F, D W q F n' → Calls Try.prog 16 #[.pointer (some ⟨q, 0, none⟩)] W fun e w' => e = .returned (.int .i64 (ln : Int)) ∧ ∃ m, w' = W.drewN m) := hide (fun W F h => by rw [hln]; exact H.len h)
          clear hl1 hcl hco hfu hln
          go_wp2_with fail
          refine (CLN.out _ _ HD.out).mono ?_
          rintro e W4 ⟨rfl, m, hw⟩
          have hB : Below _ _ W4 := hw ▸ below_drewN8 _ m
          replace HD := hide (H.below HD.out hB)
          replace HB := hide (HB.out.trans (hB.mono HB.out.size))
          clear hw hB
          go_wp2_with fail
          refine (CLN.out _ _ HD.out).mono ?_
          rintro e W5 ⟨rfl, m, hw⟩
          have hB : Below W4.heap.size W4 W5 := hw ▸ below_drewN8 W4 m
          replace HD := hide (H.below HD.out hB)
          replace HB := hide (HB.out.trans (hB.mono HB.out.size))
          clear hw hB
          go_wp2_with fail
          refine (H.los HD.out hlo2).mono ?_
          rintro e W6 ⟨rfl, m, hw⟩
          have hB : Below W5.heap.size W5 W6 := hw ▸ below_drewN8 W5 m
          replace HD := hide (H.below HD.out hB)
          replace HB := hide (HB.out.trans (hB.mono HB.out.size))
          clear hw hB
          go_wp2_with fail
          go_roundg g
          case measure => omega
          case rel => exact ⟨k + 1, n', c, ww, f, by omega, by first | rfl | go_num, by first | rfl | go_num, by first | rfl | go_num, by first | rfl | go_num, hide ⟨_, HD.out, HF.out, HB.out⟩, HC2, by omega, by omega, by omega, by omega, hnr⟩
end
end Go.Proofs.Yteehkjdolmmapaa
