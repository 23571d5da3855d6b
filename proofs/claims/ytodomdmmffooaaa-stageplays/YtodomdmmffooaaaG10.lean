/-
  Own texts put together: SgFar, IdVals, IdSetK, IdSet, IdBox, IdIter, IdColl, SgDo. Own work.
-/
import Derived.Test.YtodomdmmffooaaaG09
import Derived.Test.YtodomdmmffooaaaG06
import Derived.Test.YtodomdmmffooaaaG01
import Derived.BigQuiet
import Derived.Deep.LoopGhost
import Derived.Laws.StructEq
import Derived.Maps.OwnSet
import Derived.DeepKeys4
import Derived.OpenShut
import Derived.Deep.RegionHeldLaw
import Derived.Deep.QuietTactic
import Derived.Carry
import Derived.RangeFuncNested
import Derived.RangeFuncLeaves
import Derived.RangeFuncBox
import Derived.Sort.MapsRangeIn
import Derived.Sort.KeysCollected
import Derived.Shelf.Abstract
import Derived.OwnWalkIn
import Derived.TacticsInMore
import Derived.LoopNIn
import Derived.LoopIn
namespace Go.Proofs.Ytodomdmmffooaaa
section
open Go.RowKit

theorem short_any14 (v : Value) (fs : List SActV) (w w0 : World) (h : RSrc sactE w0 v fs) :
    Calls Try.prog 9 #[v] w fun e w' => ∃ v', e = .returned v' ∧ w' = w ∧ RSrc sactE w0 v' (fs.take 100) := by
  obtain ⟨ao, cap, rfl, hc, hm⟩ := h.shape
  unfold maxLen at hm
  have HH := hide h
  clear h
  by_cases hl : fs.length ≤ 100
  · have hto := fun W => run_toR recSA W ao fs.length cap fs.length hc
    have HT : Hid (RSrc sactE w0 (.slice ao fs.length cap) (fs.take 100)) := hide (by rw [List.take_of_length_le hl]; exact HH.out)
    have d1 : ¬ ((100 : Int) < (fs.length : Int)) := by omega
    go_enter Try.func9, Try.ntmps9
    go_wp2
    go_ret
    exact ⟨_, rfl, rfl, HT.out⟩
  · have hto := fun W => run_toR recSA W ao fs.length cap 100 (by omega)
    have HT : Hid (RSrc sactE w0 (.slice ao 100 cap) (fs.take 100)) := hide (src_takeR HH.out recSA.len (by omega))
    have d1 : (100 : Int) < (fs.length : Int) := by omega
    go_enter Try.func9, Try.ntmps9
    go_wp2
    go_ret
    exact ⟨_, rfl, rfl, HT.out⟩
/-- How much the acts bring. -/
def wrN14 (x : WrP) : Nat := min x.it.val.length 10000
def actN14 (a : SActV) : Nat := (a.a.on.wr.map wrN14).sum
def actB14 (a : SActV) : Bool := decide (40 < a.a.on.wr.length)
def farS (l : List SActV) : Bool := (l.take 100).any actB14 || decide (20000 < ((l.take 100).map actN14).sum)
theorem take_sum14 {α : Type} (f : α → Nat) (l : List α) {k : Nat} (h : k < l.length) : ((l.take (k + 1)).map f).sum = ((l.take k).map f).sum + f l[k] := by
  rw [List.take_succ_eq_append_getElem h, List.map_append, List.sum_append]
  simp only [List.map_cons, List.map_nil, List.sum_cons, List.sum_nil, Nat.add_zero]
theorem take_any14 {α : Type} (f : α → Bool) (l : List α) {k : Nat} (h : k < l.length) : (l.take (k + 1)).any f = ((l.take k).any f || f l[k]) := by
  rw [List.take_succ_eq_append_getElem h, List.any_append]
  simp only [List.any_cons, List.any_nil, Bool.or_false]
theorem wrA_one14 (x : WrP) : (wrA x).all (·.oneCell') = true := by simp [Value.oneCell']
theorem infoSA : (Try.prog.info? 38).map (·.size) = some 7 := by kernel_rfl
set_option maxRecDepth 100000 in
set_option maxHeartbeats 6400000 in
theorem far_any14 (v : Value) (fs : List SActV) (w : World) (h : RSrc sactE w v fs) (hok : ∀ a ∈ fs, SvOk w a) :
    Calls Try.prog 7 #[v] w fun e w' => e = .returned (.bool (farS fs)) ∧ Below w.heap.size w w' := by
  have HSH := hide (fun W => short_any14 v fs W w h)
  have HOK : Hid (∀ a ∈ fs.take 100, SvOk w a) := hide (fun a ha => hok a (List.mem_of_mem_take ha))
  have hKl : (fs.take 100).length ≤ 100 := by rw [List.length_take]; omega
  obtain ⟨R, hR⟩ : ∃ R, R = farS fs := ⟨_, rfl⟩
  rw [← hR]
  obtain ⟨ts, hts⟩ : ∃ ts, ts = fs.take 100 := ⟨_, rfl⟩
  have HR : Hid (R = (ts.any actB14 || decide (20000 < (ts.map actN14).sum))) := hide (by rw [hR, hts]; rfl)
  rw [← hts] at hKl HOK
  have HTS := hide hts
  obtain ⟨LN, hLN⟩ : ∃ LN, LN = ts.length := ⟨_, rfl⟩
  rw [← hLN] at hKl
  have HLN := hide hLN
  clear hR hts hok h hLN
  go_enter Try.func7, Try.ntmps7
  go_wp2_with (go_at_call 9; refine (HSH.out _).mono ?_; rintro e Y1 ⟨v1, rfl, rfl, hT⟩; rw [← HTS.out] at hT; obtain ⟨ao, cap, e1, _, _⟩ := hT.shape; rw [← HLN.out] at e1; subst e1; have HT := hide hT; clear hT)
  go_loopg [3, 11] LN (fun g x i wr => ∃ (k S : Nat), k + g = LN ∧ x = .int .i64 (S : Int) ∧ i = .int .i64 k ∧ S ≤ k * 400000 ∧ Hid (S = ((ts.take k).map actN14).sum ∧ (ts.take k).any actB14 = false) ∧ Hid (Below Y1.heap.size Y1 wr))
  case atStart => exact ⟨0, 0, by omega, rfl, rfl, by omega, hide ⟨by simp, by simp⟩, hide (Below.refl _ _)⟩
  case round =>
    obtain ⟨k, S, hk, rfl, rfl, hS, HS, HB⟩ := hrel
    cases gk with
    | zero =>
      obtain rfl : k = LN := by omega
      have hz : ¬ ((k : Int) < (k : Int)) := by omega
      have HE : Hid (ts.take k = ts) := hide (by rw [HLN.out]; exact List.take_length)
      rw [HE.out] at HS
      have HV : Hid (R = decide (20000 < S)) := hide (by rw [HR.out, HS.out.1, HS.out.2, Bool.false_or])
      by_cases hb : 20000 < S
      · have d2 : (20000 : Int) < (S : Int) := by omega
        have HW : Hid (R = true) := hide (by rw [HV.out, decide_eq_true hb])
        go_wp2
        go_ret
        exact ⟨by rw [HW.out]; first | rfl | (simp; omega), HB.out⟩
      · have d2 : ¬ ((20000 : Int) < (S : Int)) := by omega
        have HW : Hid (R = false) := hide (by rw [HV.out, decide_eq_false hb])
        go_wp2
        go_ret
        exact ⟨by rw [HW.out]; first | rfl | (simp; omega), HB.out⟩
    | succ g =>
      have hz : (k : Int) < (LN : Int) := by omega
      have hkn : k < ts.length := by rw [← HLN.out]; omega
      obtain ⟨en, b, off, rfl, hb, hcl⟩ := (HT.out.below HB.out).at recSA.len hkn
      have HRg : Hid (wr.rangeAt b (off + k * 7) (sactE ts[k])) := hide (fun j v hv => hcl j v hv)
      have HOA := hide (HOK.out _ (List.getElem_mem hkn))
      have HSS : Hid (((ts.take (k + 1)).map actN14).sum = ((ts.take k).map actN14).sum + actN14 ts[k] ∧ ((ts.take (k + 1)).any actB14 = ((ts.take k).any actB14 || actB14 ts[k])) ∧ (actB14 ts[k] = true → ts.any actB14 = true)) := hide ⟨take_sum14 _ _ hkn, take_any14 _ _ hkn, fun h => List.any_eq_true.mpr ⟨_, List.getElem_mem hkn, h⟩⟩
      generalize ts[k] = a at *
      obtain ⟨⟨tk, ⟨tx, rg, ws⟩⟩, pv⟩ := a
      obtain ⟨ro, rc, e1, hrc, _⟩ := HOA.out.src.shape
      dsimp only at e1
      subst e1
      obtain ⟨LR, hLR⟩ : ∃ LR, LR = ws.length := ⟨_, rfl⟩
      have HLR := hide hLR
      have HSR : Hid (RSrc wrE Y1 (.slice ro LR rc) ws) := hide (by rw [hLR]; exact HOA.out.src)
      have HRO : Hid (∀ y ∈ ws, y.it.val.length ≤ 9223372036854775807) := hide (fun y hy => (HOA.out.wr y hy).2.2)
      have HAN : Hid (actN14 ⟨⟨tk, ⟨tx, rg, ws⟩⟩, .slice ro ws.length rc⟩ = (ws.map wrN14).sum) := hide rfl
      have HAB : Hid (actB14 ⟨⟨tk, ⟨tx, rg, ws⟩⟩, .slice ro ws.length rc⟩ = decide (40 < LR)) := hide (by rw [hLR]; rfl)
      rw [HAN.out, HAB.out] at HSS
      rw [← hLR] at HRg
      clear HOA HAN HAB hLR hcl en hb hrc
      have HZ := hide (box_new wr (sactA zeroSV) 38)
      have HZB : Hid (Below Y1.heap.size Y1 (wr.alloc (.cells (sactA zeroSV) 38))) := hide (HB.out.alloc HB.out.size _)
      have HWS := HB.out.size
      by_cases hc : 40 < LR
      · have HW : Hid (R = true) := hide (by rw [HR.out, HSS.out.2.2 (by simp [hc]), Bool.true_or])
        have d8 : (40 : Int) < (LR : Int) := by omega
        go_wp2_with (first | (refine wpList_load_mid rfl 38 _ rfl b (off + k * 7) rfl (sactE ⟨⟨tk, ⟨tx, rg, ws⟩⟩, .slice ro LR rc⟩) _ HRg.out Try.underlying38 rfl infoSA ?_) | (refine wp_store_box rfl rfl _ _ rfl wr.heap.size rfl (cs' := sactA ⟨⟨tk, ⟨tx, rg, ws⟩⟩, .slice ro LR rc⟩) rfl HZ.out rfl infoSA (by simp [Value.oneCell']) ?_; intro w3 hb3 hk3; have y6 := hb3.cell 6 (.slice ro LR rc) rfl; have HK3 : Hid (Below Y1.heap.size Y1 w3) := hide (HZB.out.trans (hk3.below HZB.out.size (fun k hk => by omega))); clear hb3 hk3))
        go_ret
        exact ⟨by rw [HW.out]; rfl, HK3.out⟩
      · have d8 : ¬ ((40 : Int) < (LR : Int)) := by omega
        have HNB : Hid ((ts.take (k + 1)).any actB14 = false) := hide (by rw [HSS.out.2.1, HS.out.2, decide_eq_false hc]; rfl)
        go_wp2_with (first | (refine wpList_load_mid rfl 38 _ rfl b (off + k * 7) rfl (sactE ⟨⟨tk, ⟨tx, rg, ws⟩⟩, .slice ro LR rc⟩) _ HRg.out Try.underlying38 rfl infoSA ?_) | (refine wp_store_box rfl rfl _ _ rfl wr.heap.size rfl (cs' := sactA ⟨⟨tk, ⟨tx, rg, ws⟩⟩, .slice ro LR rc⟩) rfl HZ.out rfl infoSA (by simp [Value.oneCell']) ?_; intro w3 hb3 hk3; have y6 := hb3.cell 6 (.slice ro LR rc) rfl; have HK3 : Hid (Below Y1.heap.size Y1 w3) := hide (HZB.out.trans (hk3.below HZB.out.size (fun k hk => by omega))); clear hb3 hk3))
        clear y6 HZ HZB HRg
        go_loopg [3, 22] LR (fun g x i wr => ∃ (j C : Nat), j + g = LR ∧ x = .int .i64 (C : Int) ∧ i = .int .i64 j ∧ C ≤ k * 400000 + j * 10000 ∧ Hid (C = S + ((ws.take j).map wrN14).sum) ∧ Hid (Below Y1.heap.size Y1 wr))
        case atStart => exact ⟨0, S, by omega, rfl, rfl, Nat.le_trans hS (Nat.le_add_right _ _), hide (by simp), HK3⟩
        case round =>
          obtain ⟨j, C, hj, rfl, rfl, hC, HC, HB2⟩ := hrel
          cases gk with
          | zero =>
            obtain rfl : j = LR := by omega
            have hz2 : ¬ ((j : Int) < (j : Int)) := by omega
            have HE : Hid (ws.take j = ws) := hide (by rw [HLR.out]; exact List.take_length)
            rw [HE.out] at HC
            have HS2 : Hid (C = ((ts.take (k + 1)).map actN14).sum ∧ (ts.take (k + 1)).any actB14 = false) := hide ⟨by rw [HSS.out.1, HC.out, HS.out.1], HNB.out⟩
            go_wp2
            go_roundg g
            case measure => omega
            case rel => exact ⟨k + 1, C, by omega, by first | rfl | go_num, by first | rfl | go_num, by omega, HS2, HB2⟩
          | succ g2 =>
            have hz2 : (j : Int) < (LR : Int) := by omega
            have hjn : j < ws.length := by rw [← HLR.out]; omega
            obtain ⟨en, b2, off2, rfl, hb2, hcl⟩ := (HSR.out.below HB2.out).at recWR.len hjn
            have HRg : Hid (wr.rangeAt b2 (off2 + j * 21) (wrE ws[j])) := hide (fun j v hv => hcl j v hv)
            have HSS2 := hide (take_sum14 wrN14 ws hjn)
            have hvl := HRO.out _ (List.getElem_mem hjn)
            generalize ws[j] = x at *
            have HZ := hide (box_new wr (wrA zeroWr) 59)
            have HZB : Hid (Below Y1.heap.size Y1 (wr.alloc (.cells (wrA zeroWr) 59))) := hide (HB2.out.alloc HB2.out.size _)
            have HWS2 := HB2.out.size
            obtain ⟨LV, hLV⟩ : ∃ LV, LV = x.it.val.length := ⟨_, rfl⟩
            have hsz : (strOfNums x.it.val).size = LV := by rw [hLV]; simp [strOfNums, ByteArray.size]
            have HWN : Hid (wrN14 x = min LV 10000) := hide (by rw [hLV]; rfl)
            rw [HWN.out] at HSS2
            rw [← hLV] at hvl
            clear hcl en hb2 hLV HWN
            by_cases hb : (10000 : Int) < (LV : Int)
            · have HS2 : Hid (C + 10000 = S + ((ws.take (j + 1)).map wrN14).sum) := hide (by rw [HSS2.out, HC.out]; omega)
              go_wp2_with (first | (refine wpList_load_mid rfl 59 _ rfl b2 (off2 + j * 21) rfl (wrE x) _ HRg.out Try.underlying59 rfl infoWrite ?_) | (refine wp_store_box rfl rfl _ _ rfl wr.heap.size rfl (cs' := wrA x) rfl HZ.out rfl infoWrite (wrA_one14 x) ?_; intro w3 hb3 hk3; have y9 := hb3.cell 9 (.string (strOfNums x.it.val)) rfl; have HK4 : Hid (Below Y1.heap.size Y1 w3) := hide (HZB.out.trans (hk3.below HZB.out.size (fun k hk => by omega))); clear hb3 hk3))
              go_roundg g2
              case measure => omega
              case rel => exact ⟨j + 1, C + 10000, by omega, by first | rfl | go_num, by first | rfl | go_num, by omega, HS2, HK4⟩
            · have HS2 : Hid (C + LV = S + ((ws.take (j + 1)).map wrN14).sum) := hide (by rw [HSS2.out, HC.out]; omega)
              go_wp2_with (first | (refine wpList_load_mid rfl 59 _ rfl b2 (off2 + j * 21) rfl (wrE x) _ HRg.out Try.underlying59 rfl infoWrite ?_) | (refine wp_store_box rfl rfl _ _ rfl wr.heap.size rfl (cs' := wrA x) rfl HZ.out rfl infoWrite (wrA_one14 x) ?_; intro w3 hb3 hk3; have y9 := hb3.cell 9 (.string (strOfNums x.it.val)) rfl; have HK4 : Hid (Below Y1.heap.size Y1 w3) := hide (HZB.out.trans (hk3.below HZB.out.size (fun k hk => by omega))); clear hb3 hk3))
              all_goals
                go_roundg g2
                case measure => omega
                case rel => exact ⟨j + 1, C + LV, by omega, by first | rfl | go_num, by first | rfl | go_num, by omega, HS2, HK4⟩
end
section
open Go.RowKit

theorem eq_tx (a b c d e f : Int) (w : World) : (Op.equalIn 10000 33 (.agg #[.int .u8 a, .int .u32 b, .int .u32 c]) (.agg #[.int .u8 d, .int .u32 e, .int .u32 f])).run Try.prog w = .ok (a == d && b == e && c == f) w := by
  have hS : Try.prog.underlying 33 = some (.struct (Try.prog.fieldsOf 33)) := by kernel_rfl
  rw [show (10000 : Nat) = 9999 + 1 from rfl, run_equalIn_agg w 9999 33 _ _ hS (by kernel_rfl)]
  simp only [Program.fieldsOf, Try.underlying33]
  go_simp
  by_cases h1 : a = d <;> by_cases h2 : b = e <;> by_cases h3 : c = f <;> simp [h1, h2, h3]
theorem eql_tx (a b c d e f : Int) (w : World) : (binOp .eql 33 (.agg #[.int .u8 a, .int .u32 b, .int .u32 c]) (.agg #[.int .u8 d, .int .u32 e, .int .u32 f])).run Try.prog w = .ok (.bool (a == d && b == e && c == f)) w := by
  rw [run_eql_struct, eq_tx]; rfl
theorem neq_tx (a b c d e f : Int) (w : World) : (binOp .neq 33 (.agg #[.int .u8 a, .int .u32 b, .int .u32 c]) (.agg #[.int .u8 d, .int .u32 e, .int .u32 f])).run Try.prog w = .ok (.bool (!(a == d && b == e && c == f))) w := by
  rw [run_neq_struct, eq_tx]; rfl
theorem eq_reg (a b d e : Int) (w : World) : (Op.equalIn 10000 35 (.agg #[.int .u32 a, .int .u32 b]) (.agg #[.int .u32 d, .int .u32 e])).run Try.prog w = .ok (a == d && b == e) w := by
  have hS : Try.prog.underlying 35 = some (.struct (Try.prog.fieldsOf 35)) := by kernel_rfl
  rw [show (10000 : Nat) = 9999 + 1 from rfl, run_equalIn_agg w 9999 35 _ _ hS (by kernel_rfl)]
  simp only [Program.fieldsOf, Try.underlying35]
  go_simp
  by_cases h1 : a = d <;> by_cases h2 : b = e <;> simp [h1, h2]
theorem eql_reg (a b d e : Int) (w : World) : (binOp .eql 35 (.agg #[.int .u32 a, .int .u32 b]) (.agg #[.int .u32 d, .int .u32 e])).run Try.prog w = .ok (.bool (a == d && b == e)) w := by
  rw [run_eql_struct, eq_reg]; rfl
theorem eqi_key (a0 a1 a2 a3 a4 a5 a6 a7 b0 b1 b2 b3 b4 b5 b6 b7 : Int) (w : World) :
    (Op.equalIn 10000 53 (.agg #[.int .u8 a0, .int .u8 a1, .int .u8 a2, .int .u8 a3, .int .u8 a4, .int .u8 a5, .int .u8 a6, .int .u8 a7]) (.agg #[.int .u8 b0, .int .u8 b1, .int .u8 b2, .int .u8 b3, .int .u8 b4, .int .u8 b5, .int .u8 b6, .int .u8 b7])).run Try.prog w
      = .ok (decide ([a0, a1, a2, a3, a4, a5, a6, a7] = [b0, b1, b2, b3, b4, b5, b6, b7])) w := by
  rw [show (10000 : Nat) = 9999 + 1 from rfl, Op.equalIn]
  simp only [Sem.run_bind, run_underlying Try.underlying53, Result.andThen_ok]
  simp only [Std.Legacy.Range.forIn_eq_forIn_range', Std.Legacy.Range.size, Nat.sub_zero, Nat.add_sub_cancel, Nat.div_one, List.range'_succ, List.range'_zero, List.forIn_cons, List.forIn_nil]
  go_simp
  by_cases h0 : a0 = b0
  · by_cases h1 : a1 = b1
    · by_cases h2 : a2 = b2
      · by_cases h3 : a3 = b3
        · by_cases h4 : a4 = b4
          · by_cases h5 : a5 = b5
            · by_cases h6 : a6 = b6
              · by_cases h7 : a7 = b7 <;> simp [h0, h1, h2, h3, h4, h5, h6, h7]
              · simp [h0, h1, h2, h3, h4, h5, h6]
            · simp [h0, h1, h2, h3, h4, h5]
          · simp [h0, h1, h2, h3, h4]
        · simp [h0, h1, h2, h3]
      · simp [h0, h1, h2]
    · simp [h0, h1]
  · simp [h0]
theorem eqli_key (a0 a1 a2 a3 a4 a5 a6 a7 b0 b1 b2 b3 b4 b5 b6 b7 : Int) (w : World) :
    (binOp .eql 53 (.agg #[.int .u8 a0, .int .u8 a1, .int .u8 a2, .int .u8 a3, .int .u8 a4, .int .u8 a5, .int .u8 a6, .int .u8 a7]) (.agg #[.int .u8 b0, .int .u8 b1, .int .u8 b2, .int .u8 b3, .int .u8 b4, .int .u8 b5, .int .u8 b6, .int .u8 b7])).run Try.prog w
      = .ok (.bool (decide ([a0, a1, a2, a3, a4, a5, a6, a7] = [b0, b1, b2, b3, b4, b5, b6, b7]))) w := by
  rw [run_eql_struct, eqi_key]; rfl
theorem neqi_key (a0 a1 a2 a3 a4 a5 a6 a7 b0 b1 b2 b3 b4 b5 b6 b7 : Int) (w : World) :
    (binOp .neq 53 (.agg #[.int .u8 a0, .int .u8 a1, .int .u8 a2, .int .u8 a3, .int .u8 a4, .int .u8 a5, .int .u8 a6, .int .u8 a7]) (.agg #[.int .u8 b0, .int .u8 b1, .int .u8 b2, .int .u8 b3, .int .u8 b4, .int .u8 b5, .int .u8 b6, .int .u8 b7])).run Try.prog w
      = .ok (.bool (!decide ([a0, a1, a2, a3, a4, a5, a6, a7] = [b0, b1, b2, b3, b4, b5, b6, b7]))) w := by
  rw [run_neq_struct, eqi_key]; rfl
end
section
open Go.RowKit Go.Maps

abbrev txV (t : TxP) : Value := .agg #[.int .u8 t.1, .int .u32 t.2.1, .int .u32 t.2.2]
/-- What a name reads as, as a key. -/
def txKey (t : TxP) : Lit := .string (keyBytes [.int .u8 t.1, .int .u32 t.2.1, .int .u32 t.2.2])
theorem idLaid : laidOutB Try.prog = true := by kernel_rfl
theorem txRow : (33 : TypeId) < Try.prog.types.size := of_decide_eq_true (by kernel_rfl)
theorem txKeyed : Keyed Try.prog 33 := Keyed.of_law (deep_law_laid idLaid (m := 2) (by omega) txRow (by kernel_rfl) (by kernel_rfl))
theorem txIsKey : Try.prog.keyType 33 = true := by kernel_rfl
theorem txCells : Try.prog.cellsOf 33 = 3 := by kernel_rfl
theorem u8Cells : Try.prog.cellsOf 5 = 1 := by kernel_rfl
theorem u32Cells : Try.prog.cellsOf 31 = 1 := by kernel_rfl
theorem typesPos : ∃ k, Try.prog.types.size = k + 1 := ⟨Try.prog.types.size - 1, by
  have : 0 < Try.prog.types.size := of_decide_eq_true (by kernel_rfl)
  omega⟩
theorem wf_u8 {n : Int} (h0 : 0 ≤ n) (h1 : n < 256) : (Lit.int .u8 n).wf = true := by
  simp [Lit.wf, IntKind.min, IntKind.max, IntKind.signed, IntKind.bits]; omega
theorem wf_u32 {n : Int} (h0 : 0 ≤ n) (h1 : n < 4294967296) : (Lit.int .u32 n).wf = true := by
  simp [Lit.wf, IntKind.min, IntKind.max, IntKind.signed, IntKind.bits]; omega
theorem lits_tx (t : TxP) (h : txOk t) : Try.prog.keyLits (Try.prog.types.size + 1) 33 [.int .u8 t.1, .int .u32 t.2.1, .int .u32 t.2.2] = some [.int .u8 t.1, .int .u32 t.2.1, .int .u32 t.2.2] := by
  obtain ⟨k, hk⟩ := typesPos
  obtain ⟨⟨a0, a1⟩, ⟨b0, b1⟩, ⟨c0, c1⟩⟩ := h
  have w1 := wf_u8 a0 a1
  have w2 := wf_u32 b0 b1
  have w3 := wf_u32 c0 c1
  rw [hk]
  unfold Program.keyLits
  rw [Try.underlying33]
  simp [txCells, u8Cells, u32Cells, Program.keyLits, Try.underlying5, Try.underlying31, w1, w2, w3]
theorem keyOf_tx (t : TxP) (h : txOk t) : keyOf Try.prog 33 (txV t) = some (txKey t) := by
  have hl := lits_tx t h
  unfold keyOf
  rw [Try.underlying33]
  simp only [txIsKey, Bool.true_and]
  have hf : (txV t).formed Try.prog 33 = true := by
    simp [Value.formed, Try.underlying33, txCells]
  rw [if_pos hf]
  have hc : (txV t).cells.toList = [.int .u8 t.1, .int .u32 t.2.1, .int .u32 t.2.2] := rfl
  rw [hc, hl]
  rfl
theorem three_cells (cs : Array Value) (h : cs.size = 3) : ∃ a b c, cs = #[a, b, c] := by
  obtain ⟨l⟩ := cs
  match l, h with
  | [a, b, c], _ => exact ⟨a, b, c, rfl⟩
theorem lits_open (k : Nat) (c0 c1 c2 : Value) (ls : List Lit) : Try.prog.keyLits (k + 1 + 1) 33 [c0, c1, c2] = some ls →
    ∃ a b c, Try.prog.keyLits (k + 1) 5 [c0] = some a ∧ Try.prog.keyLits (k + 1) 31 [c1] = some b ∧ Try.prog.keyLits (k + 1) 31 [c2] = some c ∧ ls = a ++ b ++ c := by
  rw [Program.keyLits.eq_def]
  simp only [Try.underlying33]
  simp [txCells, u8Cells, u32Cells]
  intro h
  cases ha : Try.prog.keyLits (k + 1) 5 [c0] with
  | none => rw [ha] at h; simp at h
  | some a =>
    cases hb : Try.prog.keyLits (k + 1) 31 [c1] with
    | none => rw [ha, hb] at h; simp at h
    | some b =>
      cases hc : Try.prog.keyLits (k + 1) 31 [c2] with
      | none => rw [ha, hb, hc] at h; simp at h
      | some c =>
        rw [ha, hb, hc] at h
        simp at h
        exact ⟨a, rfl, b, rfl, c, rfl, h.symm⟩
theorem keyOf_tx_inv {v : Value} {kl : Lit} (h : keyOf Try.prog 33 v = some kl) : ∃ t, txOk t ∧ v = txV t ∧ kl = txKey t := by
  obtain ⟨k, hk⟩ := typesPos
  simp only [keyOf, Try.underlying33, txIsKey, Bool.true_and] at h
  split at h
  · rename_i hf
    cases v <;> simp [Value.formed, Try.underlying33] at hf
    rename_i cs
    rw [txCells] at hf
    obtain ⟨c0, c1, c2, rfl⟩ := three_cells cs hf
    rw [hk] at h
    have hc : (Value.agg #[c0, c1, c2]).cells.toList = [c0, c1, c2] := rfl
    rw [hc] at h
    obtain ⟨ls, h1, rfl⟩ := Option.map_eq_some_iff.1 h
    obtain ⟨a, b, c, ha, hb, hcc, rfl⟩ := lits_open k c0 c1 c2 ls h1
    obtain ⟨x, e1, e2⟩ := keyLits_int' Try.underlying5 ha
    obtain ⟨y, f1, f2⟩ := keyLits_int' Try.underlying31 hb
    obtain ⟨z, g1, g2⟩ := keyLits_int' Try.underlying31 hcc
    simp at e1 f1 g1
    subst e1; subst f1; subst g1; subst e2; subst f2; subst g2
    have w1 := bounds_u8 (keyLits_wf ha _ (List.mem_singleton.2 rfl))
    have w2 := bounds_u32 (keyLits_wf hb _ (List.mem_singleton.2 rfl))
    have w3 := bounds_u32 (keyLits_wf hcc _ (List.mem_singleton.2 rfl))
    refine ⟨(x, y, z), ?_, rfl, rfl⟩
    unfold txOk
    simp only
    omega
  · simp at h
theorem txKey_inj {t u : TxP} (ht : txOk t) (hu : txOk u) (h : txKey t = txKey u) : t = u := by
  have := txKeyed.inj (keyOf_tx t ht) (by rw [keyOf_tx u hu, h])
  obtain ⟨a, b, c⟩ := t
  obtain ⟨d, e, f⟩ := u
  simp [txV] at this
  obtain ⟨rfl, rfl, rfl⟩ := this
  rfl
end
section
open Go.RowKit

theorem Box.two {w : World} {p : Nat} {a b : Value} {t : TypeId} (h : Box w p #[a, b] t) : w.cell? ⟨p, 0, none⟩ = some a ∧ w.cell? ⟨p, 1, none⟩ = some b := ⟨h.cell 0 _ rfl, h.cell 1 _ rfl⟩
theorem Box.three {w : World} {p : Nat} {a b c : Value} {t : TypeId} (h : Box w p #[a, b, c] t) : w.cell? ⟨p, 0, none⟩ = some a ∧ w.cell? ⟨p, 1, none⟩ = some b ∧ w.cell? ⟨p, 2, none⟩ = some c := ⟨h.cell 0 _ rfl, h.cell 1 _ rfl, h.cell 2 _ rfl⟩
theorem Box.eight {w : World} {p : Nat} {a b c d e f g i : Value} {t : TypeId} (h : Box w p #[a, b, c, d, e, f, g, i] t) : w.cell? ⟨p, 0, none⟩ = some a ∧ w.cell? ⟨p, 1, none⟩ = some b ∧ w.cell? ⟨p, 2, none⟩ = some c ∧ w.cell? ⟨p, 3, none⟩ = some d ∧ w.cell? ⟨p, 4, none⟩ = some e ∧ w.cell? ⟨p, 5, none⟩ = some f ∧ w.cell? ⟨p, 6, none⟩ = some g ∧ w.cell? ⟨p, 7, none⟩ = some i :=
  ⟨h.cell 0 _ rfl, h.cell 1 _ rfl, h.cell 2 _ rfl, h.cell 3 _ rfl, h.cell 4 _ rfl, h.cell 5 _ rfl, h.cell 6 _ rfl, h.cell 7 _ rfl⟩
theorem Box.belowI {w w' : World} {p : Nat} {cs : Array Value} {t : TypeId} (h : Box w p cs t) (hB : Below w.heap.size w w') : Box w' p cs t := h.keep (KeepBut.of_below (fun _ => False) hB) id
theorem below_drewN {B n : Nat} {w w' : World} (h : Below B w w') : Below B w (w'.drewN n) := ⟨h.os, h.tape, h.output, h.size, h.block⟩
theorem drewN2 (w : World) (a b : Nat) : (w.drewN a).drewN b = w.drewN (a + b) := by simp [World.drewN, Nat.add_assoc]
theorem drewN3 (w : World) (a b c : Nat) : ((w.drewN a).drewN b).drewN c = w.drewN (a + b + c) := by simp [World.drewN, Nat.add_assoc]
/-- A cell of the block that was made last. -/
theorem new_cell (W : World) (cs : Array Value) (t : TypeId) (B i : Nat) (v : Value) (hb : B = W.heap.size) (hv : cs[i]? = some v) : (W.alloc (.cells cs t)).drew.cell? ⟨B, i, none⟩ = some v := by
  subst hb
  exact (box_new W cs t).cell i v hv
end
section
open Go.RowKit Go.Maps Go.Shelf
attribute [local go_sem] Oper.semAt_some

section StoreIn
variable {P : Program} {F : Fence} {n : Nat} {ops : Array Oper} {rest : List Oper} {op : Oper} {a : Act} {w : World} {Q : Exit → Act → World → Prop}
/-- A whole variable is stored, inside a fence. -/
theorem wpIn_store_box {t t0 : TypeId} (hgd : op.guard = none) (hdst : op.dst = none) (x y : Operand) (ho : op.op = .store t x y)
    (p : Nat) (hx : a.eval x = .pointer (some ⟨p, 0, none⟩)) {cs cs' : Array Value} (hy : a.eval y = .agg cs') (hb : Box w p cs t0) (hsz : cs.size = cs'.size) (hi : (P.info? t).map (·.size) = some cs'.size) (h1 : cs'.all (·.oneCell') = true)
    (h : ∀ w', Box w' p cs' t0 → KeepBut (fun k => k = p) w w' → wpListIn F n P ops Q rest a w') : wpListIn F n P ops Q (op :: rest) a w := by
  refine wpListIn_plain hgd fun K hK => ?_
  have hr := run_storeVar_row (P := P) w p t0 t cs cs' hb hi hsz h1
  unfold Oper.wpIn
  refine ⟨by simp [Oper.about, ho], ?_⟩
  rw [Oper.semAt_plain F _ _ (by rw [ho]; intro c hc'; cases hc')]
  unfold execOp
  simp only [ho, hx, hy, Instr.storeAt, Instr.sureAddr, Sem.run_bind, Sem.run_pure, Result.andThen_ok, hr]
  show K (a.put op.dst undef) _
  rw [hdst]
  refine hK _ _ (h _ ?_ ?_)
  · exact setRow_heap w p cs cs' t0 (0, 0) hb
  · exact ⟨rfl, rfl, rfl, by simp [World.setRow], fun k _ hS => setRow_other w p k cs' hS⟩
end StoreIn
theorem infoTx3 : (Try.prog.info? 33).map (·.size) = some 3 := by kernel_rfl
/-- A new block, then written: nothing that lay has turned. -/
theorem grown_new {w w' : World} (o : Obj) (hk : KeepBut (fun k => k = w.heap.size) (w.alloc o) w') : w.grownBy w' none :=
  ⟨hk.os, hk.tape, hk.output, by have := hk.size; simp at this; omega, fun k hlt _ => (hk.block k (by simp; omega) (by omega)).trans (Below.heap_alloc _ _ k hlt)⟩

/-- What was met so far of a map's names. -/
def Met (D0 : DataW Unit) (left : Lit → Bool) (ss : List TxP) : Prop := ss.Nodup ∧ (∀ t ∈ ss, txOk t) ∧ ∀ t, txOk t → (t ∈ ss ↔ (has D0 (txKey t) = true ∧ left (txKey t) = false))
theorem Met.start (D0 : DataW Unit) : Met D0 (has D0) [] := ⟨List.nodup_nil, by simp, fun t _ => by cases has D0 (txKey t) <;> simp⟩
theorem Met.step {D0 : DataW Unit} {left : Lit → Bool} {ss : List TxP} (h : Met D0 left ss) {t : TxP} (ht : txOk t) {y : DataW Unit} (hlk : left (txKey t) = true) (hat : ∀ zd, D0.atKey (txKey t) zd = y) : Met D0 (fun z => left z && !z.sameKey (txKey t)) (ss ++ [t]) := by
  have hhas : has D0 (txKey t) = true := has_true_of_atKey hat
  have hnew : t ∉ ss := fun hx => by have := ((h.2.2 t ht).1 hx).2; rw [hlk] at this; cases this
  refine ⟨List.nodup_append.2 ⟨h.1, by simp, fun a ha b hb => by simp at hb; subst hb; exact fun e => hnew (e ▸ ha)⟩, fun u hu => ?_, fun u hu => ?_⟩
  · rcases List.mem_append.1 hu with hu | hu
    · exact h.2.1 u hu
    · simp at hu; subst hu; exact ht
  · by_cases hy : u = t
    · subst hy
      have hss : (txKey u).sameKey (txKey u) = true := by unfold txKey; simp [Lit.sameKey]
      simp [hhas, hss]
    · have hne : txKey u ≠ txKey t := fun e => hy (txKey_inj hu ht e)
      have hsk : (txKey u).sameKey (txKey t) = false := by
        unfold txKey at hne ⊢
        simp [Lit.sameKey]
        intro e
        exact hne (by rw [e])
      simp [h.2.2 u hu, hy, hsk]
/-- The names of a set. -/
def NamesOf (D : DataW Unit) (ss : List TxP) : Prop := ss.Nodup ∧ (∀ t ∈ ss, txOk t) ∧ ∀ t, txOk t → (t ∈ ss ↔ has D (txKey t) = true)
theorem Met.done {D0 : DataW Unit} {left : Lit → Bool} {ss : List TxP} (h : Met D0 left ss) (hl : ∀ kl, left kl = false) : NamesOf D0 ss := ⟨h.1, h.2.1, fun t ht => by rw [h.2.2 t ht, hl]; simp⟩
end
section
open Go.RowKit Go.Maps Go.Shelf
attribute [local go_sem] Oper.semAt_some

/-- A name's cells; a row of names. -/
abbrev txCs (t : TxP) : List Value := [.int .u8 t.1, .int .u32 t.2.1, .int .u32 t.2.2]
def rowOf (ss : List TxP) : List Value := ss.flatMap txCs
theorem rowOf_length (ss : List TxP) : (rowOf ss).length = ss.length * 3 := by
  induction ss with
  | nil => rfl
  | cons t r ih => unfold rowOf at *; simp [List.flatMap_cons, ih]; omega
theorem rowOf_append (ss ts : List TxP) : rowOf (ss ++ ts) = rowOf ss ++ rowOf ts := by unfold rowOf; simp
theorem infoTxs : (Try.prog.info? 33).map (fun i => (i.zero, i.size, i.bytes)) = some (some (.agg #[.int .u8 0, .int .u32 0, .int .u32 0]), 3, 12) := by kernel_rfl
theorem Box.grownI {W W' : World} {row : Option Nat} {B : Nat} {cs : Array Value} {t : TypeId} (h : Box W B cs t) (hg : W.grownBy W' row) (hr : ∀ r, row = some r → ∃ o : Obj, W.heap[r]? = some o ∧ o.isCells = false) : Box W' B cs t :=
  (hg.block B h.lt (fun e => by
    obtain ⟨o, ho, hc⟩ := hr B e.symm
    have hb : W.heap[B]? = _ := h
    rw [hb] at ho; cases ho; cases hc)).trans h
theorem cells_news (W : World) (x : TxP) (o : Obj) (ho : o = .cells #[.int .u8 x.1, .int .u32 x.2.1, .int .u32 x.2.2] 33) : ∀ j u, (txCs x)[j]? = some u → (W.alloc o).cell? (Addr.add ⟨W.heap.size, 0, none⟩ j) = some u := by
  intro j u hu
  subst ho
  rw [Addr.add_lit, Nat.zero_add]
  exact (box_new W _ _).cell j u (by simpa using hu)

set_option maxRecDepth 100000 in
set_option maxHeartbeats 2000000 in
theorem appendSeq_in (n : Nat) (hn : 2 ≤ n) (g : Nat) (lb : Array Value) (eg : ∀ args w, (callFunc g args).run Try.prog w = .ok (.enter g args) w) (S : List TxP → Prop) (N : Nat) (hN : N ≤ 1000000) (w : World)
    (hseq : SeqStopsK Fence.wide (n - 1) Try.prog g lb (fun x : TxP => #[txV x]) KeepsWalks S (fun _ => True) N w) :
    CallsIn Fence.wide n Try.prog 86 #[.slice none 0 0, .func (.func g) #[] lb] w fun e w' => ∃ (v : Value) (ss : List TxP), e = .returned v ∧ S ss ∧ w'.ownsRow w.heap.size 33 3 v ss.length (rowOf ss) ∧ Below w.heap.size w w' := by
  have h1 : 1 ≤ n := by omega
  have HI := hide infoTx3
  obtain ⟨i0, hi, hz0, hz1, hz2⟩ := info_parts infoTxs
  have hF : Fence.wide.fn 86 := trivial
  refine callsIn_of_wp_marks Try.func86 rfl hF ?_ rfl
  simp only [Try.ntmps86, List.size_toArray, List.length_cons, List.length_nil, Nat.reduceAdd, Nat.reduceSub, Array.replicate_succ, Array.replicate_zero, List.push_toArray, List.append_toArray, List.nil_append, List.cons_append]
  gi_wp2
  have bO := Boxed.new w 50 (.slice none 0 0)
  have hB0 : Below w.heap.size w (w.alloc (.cells #[.slice none 0 0] 50)) := (Below.refl _ w).alloc (Nat.le_refl _) _
  have hI : OwnFrom (w.alloc (.cells #[.slice none 0 0] 50)).heap.size (fun (pre : List TxP) W => (∃ v, Boxed W w.heap.size 50 v ∧ W.ownsRow w.heap.size 33 3 v pre.length (rowOf pre) ∧ True) ∧ Below w.heap.size w W) :=
    OwnFrom.and (Own.from (holdsRow_own w.heap.size w.heap.size 50 33 3 (fun pre : List TxP => pre.length) rowOf (fun _ _ => True)) _) (ownFrom_below (Nat.le_refl _) (by simp))
  refine wpIn_rangeFunc_ownH rfl h1 (gf := g) (lb := lb) rfl trivial eg hseq walksK_t walksK_b hB0 (fun _ => rfl)
    (fun pre W => (∃ v, Boxed W w.heap.size 50 v ∧ W.ownsRow w.heap.size 33 3 v pre.length (rowOf pre) ∧ True) ∧ Below w.heap.size w W)
    (fun _ _ _ => False) hI (fun _ _ _ _ _ hs _ _ => hs) ⟨⟨_, bO, World.ownsRow_nil _ _ _ _, trivial⟩, hB0⟩
    (fun x a' W => ∃ q, a' = { tmps := #[.slice none 0 0, .func (.func g) #[] lb, .pointer (some ⟨w.heap.size, 0, none⟩), undef, .slice none 0 0, .pointer (some ⟨q, 0, none⟩), .func (.func g) #[] lb, txV x, undef, undef, undef, undef, undef], defers := [] } ∧ Box W q #[.int .u8 x.1, .int .u32 x.2.1, .int .u32 x.2.2] 33)
    (fun x a' s X Y row hs hg hr => by
      obtain ⟨q, e, hb⟩ := hs
      exact ⟨q, e, hb.grownI hg (fun r e => (hr r e).2)⟩) ?assign ?body ?done ?stop
  case assign =>
    rintro l pre ⟨xa, xb, xc⟩ W K hi2 hK
    have HX := hide (box_new W #[.int .u8 0, .int .u32 0, .int .u32 0] 33)
    gi_wp2_with (refine wpIn_store_box (cs' := #[.int .u8 xa, .int .u32 xb, .int .u32 xc]) rfl rfl _ _ rfl _ rfl rfl HX.out rfl HI.out (by simp [Value.oneCell']) ?_; intro w3 hb3 hk3; have HB3 := hide hb3; have HK3 := hide hk3; clear hb3 hk3)
    have hg3 := grown_new _ HK3.out
    exact hK _ _ (KeepsFrom.of_grownBy hg3 (fun j e => by cases e)) (KeepsWalks.of_grownBy hg3 (fun j o e => by cases e)) (hI pre W w3 none hi2 hg3 (fun r e => by cases e)) ⟨_, rfl, HB3.out⟩
  case body =>
    rintro l pre ⟨xa, xb, xc⟩ a' W hl hrec ⟨⟨v, hv, hrow, _⟩, hB⟩ ⟨q, rfl, hbx⟩ hlt
    have hc := hv.cell
    obtain ⟨z0, z1, z2⟩ := hbx.three
    have zl := hbx.lt
    have HBX := hide hbx
    have HN := hide (cells_news W (xa, xb, xc) _ rfl)
    clear hbx hrec
    gi_wp2_with (gi_at_builtin; refine wpListIn_append_own _ rfl _ _ 50 rfl w.heap.size 33 i0 _ 3 12 Try.underlying50 hi hz0 hz1 hz2 rfl (by decide) _ _ _ rfl (hrow.alloc _) ⟨W.heap.size, 0, none⟩ 1 1 (txCs (xa, xb, xc)) rfl rfl HN.out (by simp [Value.oneCell']) (by unfold maxLen; omega) (by omega) (by have := hB.size; simp; omega) ?_; intro v' w1 hown' hgrow _; obtain ⟨g', cap', rfl⟩ := ownsRow_succ hown'; obtain ⟨hv1, hv2, hr2, hk2, hb2⟩ := hv.appended (by decide) hrow hB.size (Nat.le_refl _) hown' hgrow; have hc1 := hv1.cell; have hf1 := hv1.frozen; have HR2 := hide hr2; have HK2 := hide hk2; have HB2 := hide hb2; have HV2 := hide hv2; clear hr2 hk2 hb2 hv2 hown' hgrow)
    have hro : rowOf (pre ++ [(xa, xb, xc)]) = rowOf pre ++ txCs (xa, xb, xc) := by rw [rowOf_append]; simp [rowOf]
    have hle : (pre ++ [(xa, xb, xc)]).length = pre.length + 1 := by simp
    refine ⟨HK2.out.from _, HK2.out.walks, ⟨_, HV2.out, ?_⟩, hB.trans HB2.out⟩
    rw [hro, hle]
    exact HR2.out
  case done =>
    rintro D ys W hD hS ⟨⟨v, hv, hrow, _⟩, hB⟩ hK
    have hc := hv.cell
    gi_wp2
    refine ⟨by simp, .inl ⟨_, _, rfl, run_takeDeferred hK, ?_⟩⟩
    exact ⟨_, results_tmp rfl _ _ _, v, ys, rfl, hS, ownsRow_putObj hrow _ hK rfl, hB.trans (belowK_b (w := w) (Nat.le_refl _) W D _ _ (by simp at hD; omega) hK rfl rfl)⟩
  case stop =>
    rintro D c pre W _ _ h _
    exact h.elim
set_option maxRecDepth 100000 in
theorem collect_in (n : Nat) (hn : 3 ≤ n) (g : Nat) (lb : Array Value) (eg : ∀ args w, (callFunc g args).run Try.prog w = .ok (.enter g args) w) (S : List TxP → Prop) (N : Nat) (hN : N ≤ 1000000) (w : World)
    (hseq : SeqStopsK Fence.wide (n - 1 - 1) Try.prog g lb (fun x : TxP => #[txV x]) KeepsWalks S (fun _ => True) N w) :
    CallsIn Fence.wide n Try.prog 64 #[.func (.func g) #[] lb] w fun e w' => ∃ (v : Value) (ss : List TxP), e = .returned v ∧ S ss ∧ w'.ownsRow w.heap.size 33 3 v ss.length (rowOf ss) ∧ Below w.heap.size w w' := by
  have h1 : 1 ≤ n := by omega
  have hF : Fence.wide.fn 64 := trivial
  refine callsIn_of_wp Try.func64 rfl hF ?_ rfl
  simp only [Try.ntmps64, List.size_toArray, List.length_cons, List.length_nil, Nat.reduceAdd, Nat.reduceSub, Array.replicate_succ, Array.replicate_zero, List.push_toArray, List.append_toArray, List.nil_append, List.cons_append]
  gi_wp2_with (refine ⟨trivial, ?_⟩; gi_at_call 86; refine (appendSeq_in (n - 1) (by omega) g lb eg S N hN _ hseq).mono ?_; rintro e w' ⟨v, ss, rfl, hS, hrow, hb⟩)
  go_ret
  exact ⟨v, ss, rfl, hS, hrow, hb⟩
end
section
open Go.RowKit

abbrev txVN (t : TxN) : Value := .agg #[.int .u8 (t.1 : Int), .int .u32 (t.2.1 : Int), .int .u32 (t.2.2 : Int)]
abbrev rgV (g : Nat × Nat) : Value := .agg #[.int .u32 (g.1 : Int), .int .u32 (g.2 : Int)]
def TxB (t : TxN) : Prop := t.1 < 256 ∧ t.2.1 < 4294967296 ∧ t.2.2 < 4294967296
def RgB (g : Nat × Nat) : Prop := g.1 < 4294967296 ∧ g.2 < 4294967296
/-- Of the sizes that Go has. -/
structure OnOk (x : OnP) : Prop where
  tx : TxB x.tx
  rg : RgB x.rg
  wr : ∀ y ∈ x.wr, KeyOk y.key ∧ ItOk y.it
def rgOf (l : List OnP) (t : TxN) : Nat × Nat := ((onS l t).map OnP.rg).getD (0, 0)
theorem tW_ok {l : List OnP} (h : ∀ x ∈ l, OnOk x) (t : TxN) : ∀ y ∈ tW l t, KeyOk y.key ∧ ItOk y.it := by
  unfold tW
  cases hf : onS l t with
  | none => intro y hy; cases hy
  | some x => exact (h x (List.mem_of_find?_eq_some hf)).wr
/-- What a call leaves of a stage. -/
def SDid (D : World → Nat → (Nat → Prop) → List OnP → Prop) (w w' : World) (q : Nat) (F : Nat → Prop) (l' : List OnP) : Prop :=
  ∃ F', D w' q F' l' ∧ KeepBut F w w' ∧ ∀ k, F' k → F k ∨ w.heap.size ≤ k
/-- What a program's stage must do. -/
structure StageDo (D : World → Nat → (Nat → Prop) → List OnP → Prop) : Prop where
  keep : ∀ {w w' : World} {q : Nat} {F S : Nat → Prop} {l : List OnP}, D w q F l → KeepBut S w w' → (∀ k, F k → ¬ S k) → D w' q F l
  lt : ∀ {w : World} {q : Nat} {F : Nat → Prop} {l : List OnP}, D w q F l → ∀ k, F k → k < w.heap.size
  ok : ∀ {w : World} {q : Nat} {F : Nat → Prop} {l : List OnP}, D w q F l → SgAll l ∧ ∀ x ∈ l, OnOk x
  new : ∀ (w : World), Calls Try.prog 6 #[] w fun e w' => ∃ q F, e = .returned (.pointer (some ⟨q, 0, none⟩)) ∧ D w' q F [] ∧ (∀ k, F k → w.heap.size ≤ k) ∧ Below w.heap.size w w'
  put : ∀ {w : World} {q : Nat} {F : Nat → Prop} {l : List OnP} (x : OnP) (v : Value), D w q F l → OnOk x → RSrc wrE w v x.wr →
    Calls Try.prog 13 #[.pointer (some ⟨q, 0, none⟩), txVN x.tx, rgV x.rg, v] w fun e w' => e = .returned (.int .i64 (pA l x)) ∧ SDid D w w' q F (pS l x)
  take : ∀ {w : World} {q : Nat} {F : Nat → Prop} {l : List OnP} (t : TxN), D w q F l → TxB t →
    Calls Try.prog 10 #[.pointer (some ⟨q, 0, none⟩), txVN t] w fun e w' => ∃ v F', e = .returned (.tuple #[v, .int .i64 (tA l t)]) ∧ D w' q F' (dropS l t) ∧ KeepBut F w w' ∧ (∀ k, F' k → F k ∨ w.heap.size ≤ k) ∧ RSrc wrE w' v (tW l t) ∧ ∀ g, v.ownBlock = some g → F g ∧ ¬ F' g
  writes : ∀ {w : World} {q : Nat} {F : Nat → Prop} {l : List OnP} (t : TxN), D w q F l → TxB t →
    Calls Try.prog 15 #[.pointer (some ⟨q, 0, none⟩), txVN t] w fun e w' => ∃ v, e = .returned (.tuple #[v, rgV (rgOf l t), .bool (onS l t).isSome]) ∧ w'.ownsRow w.heap.size 59 21 v (tW l t).length (flat wrE (tW l t)) ∧ Below w.heap.size w w'
  owner : ∀ {w : World} {q : Nat} {F : Nat → Prop} {l : List OnP} (k : List Int), D w q F l → KeyOk k →
    Calls Try.prog 20 #[.pointer (some ⟨q, 0, none⟩), .agg (eightA k)] w fun e w' => e = .returned (.tuple #[txVN ((ownS l k).getD (0, 0, 0)), .bool (ownS l k).isSome]) ∧ Below w.heap.size w w'
  all : ∀ {w : World} {q : Nat} {F : Nat → Prop} {l : List OnP}, D w q F l → Calls Try.prog 18 #[.pointer (some ⟨q, 0, none⟩)] w fun e w' => ∃ v, e = .returned v ∧ w'.ownsRow w.heap.size 33 3 v l.length (rowOf (l.map fun x => txI x.tx)) ∧ Below w.heap.size w w'
section
variable {D : World → Nat → (Nat → Prop) → List OnP → Prop}
theorem StageDo.below (H : StageDo D) {w w' : World} {q : Nat} {F : Nat → Prop} {l : List OnP} (h : D w q F l) (hB : Below w.heap.size w w') : D w' q F l := H.keep h (KeepBut.of_below (fun _ => False) hB) (fun _ _ h => h)
/-- A stage, and nothing below B turned since. -/
structure Since14 (D : World → Nat → (Nat → Prop) → List OnP → Prop) (w : World) (q : Nat) (F : Nat → Prop) (l : List OnP) (W : World) : Prop where
  d : D W q F l
  new : ∀ k, F k → w.heap.size ≤ k
  b : Below w.heap.size w W
theorem Since14.did {w w1 w2 : World} {q : Nat} {F : Nat → Prop} {l l' : List OnP} (h : Since14 D w q F l w1) (hd : SDid D w1 w2 q F l') : ∃ F', Since14 D w q F' l' w2 ∧ KeepBut F w1 w2 ∧ ∀ k, F' k → F k ∨ w1.heap.size ≤ k := by
  obtain ⟨F', h1, hk, h2⟩ := hd
  exact ⟨F', ⟨h1, fun k hk' => (h2 k hk').elim (h.new k) (fun h3 => Nat.le_trans h.b.size h3), h.b.trans (hk.below h.b.size h.new)⟩, hk, h2⟩
theorem Since14.below (H : StageDo D) {w W W' : World} {q : Nat} {F : Nat → Prop} {l : List OnP} (h : Since14 D w q F l W) (hB : Below W.heap.size W W') : Since14 D w q F l W' :=
  ⟨H.below h.d hB, h.new, h.b.trans (hB.mono h.b.size)⟩
/-- .. behind a write elsewhere. -/
theorem Since14.keep (H : StageDo D) {S : Nat → Prop} {w W W' : World} {q : Nat} {F : Nat → Prop} {l : List OnP} (h : Since14 D w q F l W) (hk : KeepBut S W W') (h1 : ∀ k, F k → ¬ S k) (h2 : ∀ k, S k → w.heap.size ≤ k) : Since14 D w q F l W' :=
  ⟨H.keep h.d hk h1, h.new, h.b.trans (hk.below h.b.size h2)⟩
end
end
end Go.Proofs.Ytodomdmmffooaaa
