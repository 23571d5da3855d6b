/-
  Own texts put together: SgGet, SgClone, SgRef1, E10One, SgPut. Own work.
-/
import Derived.Test.YtodomdmmffooaaaG18
import Derived.Test.YtodomdmmffooaaaG12
import Derived.Deep.LoopGhost
namespace Go.Proofs.Ytodomdmmffooaaa
section
open Go.RowKit Go.Maps Classical

section
/-- A result in a variable, and one beside. -/
theorem results_box2s {P : Program} {fn : Func} {p : Tmp} {t t0 : TypeId} {q : Tmp} {d : TypeDesc} (h : fn.results = #[.cell p t, .tmp q]) (tmps : Array Value) (w : World) (b : Nat) (hp : tmps.getD p undef = .pointer (some ⟨b, 0, none⟩)) {v : Value} (hq : tmps.getD q undef = v) {cs : Array Value} (hb : Box w b cs t0)
    (hu : P.underlying t = some d) (hd : d.isRow = true) (hi : (P.info? t).map (·.size) = some cs.size) : (results fn tmps).run P w = .ok (.tuple #[.agg cs, v]) w := by
  have hr : w.rangeAt b 0 cs.toList := fun j v hv => by
    rw [Nat.zero_add]; exact hb.cell j v (by simpa using hv)
  have hl := run_loadVar_mid (P := P) w b 0 t cs.toList d hr hu hd (by simpa using hi)
  have hp' : tmps[p]?.getD undef = .pointer (some ⟨b, 0, none⟩) := by rw [← Array.getD_eq_getD_getElem?]; exact hp
  have hq' : tmps[q]?.getD undef = v := by rw [← Array.getD_eq_getD_getElem?]; exact hq
  simp only [results, h]
  simp [hp', hq', asAddr, hl]
/-- .. in the midst of three. -/
theorem results_box3s {P : Program} {fn : Func} {p : Tmp} {t t0 : TypeId} {q r : Tmp} {d : TypeDesc} (h : fn.results = #[.tmp r, .cell p t, .tmp q]) (tmps : Array Value) (w : World) (b : Nat) (hp : tmps.getD p undef = .pointer (some ⟨b, 0, none⟩)) {v u : Value} (hr0 : tmps.getD r undef = u) (hq : tmps.getD q undef = v) {cs : Array Value} (hb : Box w b cs t0)
    (hu : P.underlying t = some d) (hd : d.isRow = true) (hi : (P.info? t).map (·.size) = some cs.size) : (results fn tmps).run P w = .ok (.tuple #[u, .agg cs, v]) w := by
  have hr : w.rangeAt b 0 cs.toList := fun j v hv => by
    rw [Nat.zero_add]; exact hb.cell j v (by simpa using hv)
  have hl := run_loadVar_mid (P := P) w b 0 t cs.toList d hr hu hd (by simpa using hi)
  have hp' : tmps[p]?.getD undef = .pointer (some ⟨b, 0, none⟩) := by rw [← Array.getD_eq_getD_getElem?]; exact hp
  have hq' : tmps[q]?.getD undef = v := by rw [← Array.getD_eq_getD_getElem?]; exact hq
  have hr' : tmps[r]?.getD undef = u := by rw [← Array.getD_eq_getD_getElem?]; exact hr0
  simp only [results, h]
  simp [hp', hq', hr', asAddr, hl]
end
set_option maxRecDepth 100000 in
set_option maxHeartbeats 1600000 in
theorem psOwner_any (q b1 b2 : Nat) (p : TxN → Value) (l : List OnP) (k : List Int) (w : World) (h : PSg w q b1 b2 p l) (hk : KeyOk k) :
    Calls Try.prog 20 #[.pointer (some ⟨q, 0, none⟩), .agg (eightA k)] w fun e w' => e = .returned (.tuple #[txVN ((ownS l k).getD (0, 0, 0)), .bool (ownS l k).isSome]) ∧ Below w.heap.size w w' := by
  have hA := alloc_below14 w (.cells (eightA k) 53)
  have hA2 := alloc_below14 (w.alloc (.cells (eightA k) 53)) (.cells #[.int .u8 0, .int .u32 0, .int .u32 0] 33)
  have hB2 := hA.trans (hA2.mono hA.size)
  have H2 := hide (h.below hB2)
  have C := hide (made14 q b1 b2 _ H2.out.box)
  have HXK := hide ((box_new w (eightA k) 53).belowI hA2)
  have HXR : Hid (Box ((w.alloc (.cells (eightA k) 53)).alloc (.cells #[.int .u8 0, .int .u32 0, .int .u32 0] 33)) (w.heap.size + 1) #[.int .u8 0, .int .u32 0, .int .u32 0] 33) := hide (by have := box_new (w.alloc (.cells (eightA k) 53)) #[.int .u8 0, .int .u32 0, .int .u32 0] 33; simpa using this)
  have HB2 := hide hB2
  obtain ⟨R1, hR1⟩ : ∃ R1, R1 = (ownS l k).getD (0, 0, 0) := ⟨_, rfl⟩
  obtain ⟨R2, hR2⟩ : ∃ R2, R2 = (ownS l k).isSome := ⟨_, rfl⟩
  have HR1 := hide hR1
  have HR2 := hide hR2
  rw [← hR1, ← hR2]
  clear hA hA2 hB2 h hR1 hR2
  go_enter Try.func20, Try.ntmps20
  go_wp2_with fail
  refine C.out.mono ?_
  rintro e w1 ⟨rfl, hw1⟩
  replace H2 : Hid (PSg w1 q b1 b2 p l) := hide (by rw [hw1]; exact H2.out)
  replace HXK : Hid (Box w1 w.heap.size (eightA k) 53) := hide (by rw [hw1]; exact HXK.out)
  replace HXR : Hid (Box w1 (w.heap.size + 1) #[.int .u8 0, .int .u32 0, .int .u32 0] 33) := hide (by rw [hw1]; exact HXR.out)
  replace HB2 : Hid (Below w.heap.size w w1) := hide (by rw [hw1]; exact HB2.out)
  clear hw1 C
  have h0 : w1.cell? ⟨q, 1, none⟩ = some (.map (some b2)) := H2.out.box.cell 1 _ rfl
  obtain ⟨k0, k1, k2, k3, k4, k5, k6, k7⟩ := box_eight14 HXK.out
  obtain ⟨n, hm2⟩ := H2.out.m2
  have L1 := (hm2.below (below_drew14 w1)).look omTy ⟨k, hk⟩
  have L2 := fun o => ((hm2.below (alloc_below14 w1 o)).below (below_drew14 _)).look omTy ⟨k, hk⟩
  simp only [← HR1.out, ← HR2.out] at L1 L2
  have hlt := HXK.out.lt
  have hqt := H2.out.box.lt
  clear hm2
  go_wp2
  go_region
  have hA3 := (alloc_below14 w1 (.cells #[.int .u8 (R1.1 : Int), .int .u32 (R1.2.1 : Int), .int .u32 (R1.2.2 : Int)] 33)).trans ((below_drew14 (w1.alloc (.cells #[.int .u8 (R1.1 : Int), .int .u32 (R1.2.1 : Int), .int .u32 (R1.2.2 : Int)] 33))).mono (by simp))
  have HX3 := hide ((box_new w1 #[.int .u8 (R1.1 : Int), .int .u32 (R1.2.1 : Int), .int .u32 (R1.2.2 : Int)] 33).belowI (below_drew14 _))
  have HR3 := hide (HXR.out.belowI hA3)
  have HB3 := hide (HB2.out.trans (hA3.mono HB2.out.size))
  clear hA3 L1 L2 HXK HXR HB2 H2 h0 k0 k1 k2 k3 k4 k5 k6 k7 hlt hqt
  generalize (w1.alloc (.cells #[.int .u8 (R1.1 : Int), .int .u32 (R1.2.1 : Int), .int .u32 (R1.2.2 : Int)] 33)).drew = w3 at *
  go_wp2_with (first | (refine wp_load_box rfl _ rfl w1.heap.size rfl HX3.out Try.underlying33 rfl infoTx14 ?_) | (refine wp_store_box rfl rfl _ _ rfl (w.heap.size + 1) rfl (cs' := #[.int .u8 (R1.1 : Int), .int .u32 (R1.2.1 : Int), .int .u32 (R1.2.2 : Int)]) rfl HR3.out rfl infoTx14 (by simp [Value.oneCell']) ?_; intro w4 hb4 hk4; have HR4 := hide hb4; have HB4 := hide (HB3.out.trans (hk4.below HB3.out.size (fun k hk => by omega))); clear hb4 hk4))
  refine bodyPost_ret (v := .tuple #[txVN R1, .bool R2]) (results_box2s Try.results20 _ _ (w.heap.size + 1) rfl rfl HR4.out Try.underlying33 rfl infoTx14) rfl ⟨rfl, HB4.out⟩
set_option maxRecDepth 100000 in
theorem psAll_any (q b1 b2 : Nat) (p : TxN → Value) (l : List OnP) (w : World) (h : PSg w q b1 b2 p l) :
    Calls Try.prog 18 #[.pointer (some ⟨q, 0, none⟩)] w fun e w' => ∃ v, e = .returned v ∧ w'.ownsRow w.heap.size 33 3 v l.length (rowOf (l.map fun x => txI x.tx)) ∧ Below w.heap.size w w' := by
  refine (callsIn_wide (n := 9)).1 ?_
  have hlt := h.box.lt
  have hp0 := h.box.cell 0 _ rfl
  obtain ⟨R, D, hR, hown, hsz, hhas, _⟩ := h.m1.own
  have hsl := h.all.ok.few
  have HRS : Hid (∀ ss, NamesG D ss → sortT ss = l.map fun x => txI x.tx) := hide (fun ss hss => sortT_unique ss _ hss.1 (by
      unfold Rising
      rw [List.pairwise_map]
      exact h.all.ok.rise) (fun t => by
      constructor
      · intro ht
        obtain ⟨x, hx, rfl⟩ := List.mem_map.1 ht
        have hok := (h.oks x hx).tx
        refine (hss.2.2 _ (txI_ok hok)).2 ?_
        rw [hhas ⟨x.tx, hok⟩]
        show ((onS l x.tx).map _).isSome = true
        rw [on_of h.all.ok hx]
        rfl
      · intro ht
        have hok := hss.2.1 t ht
        have hh := (hss.2.2 t hok).1 ht
        obtain ⟨u, rfl⟩ := tx_back hok
        rw [hhas u] at hh
        obtain ⟨y, hy⟩ := Option.isSome_iff_exists.1 hh
        obtain ⟨x, hx, _⟩ := Option.map_eq_some_iff.1 hy
        have hxx := (onS_some h.all.ok).1 hx
        exact List.mem_map.2 ⟨x, hxx.1, by rw [hxx.2]⟩))
  have hF : Fence.wide.fn 18 := trivial
  have C := hide (made14 q b1 b2 w h.box)
  have HS := hide (keysG_stops 5 (by omega) w.heap.size b1 _ D (w.alloc (.cells #[.map (some b1)] 62)) (by simp) (Boxed.new w 62 (.map (some b1))).cell (hown.alloc _))
  clear h hown hhas
  refine callsIn_of_wp Try.func18 rfl hF ?_ rfl
  simp only [Try.ntmps18, List.size_toArray, List.length_cons, List.length_nil, Nat.reduceAdd, Nat.reduceSub, Array.replicate_succ, Array.replicate_zero, List.push_toArray, List.append_toArray, List.nil_append, List.cons_append]
  gi_wp2_with (first | (refine ⟨trivial, ?_⟩; gi_at_call 30; refine (callsIn_wide.2 C.out).mono ?_; rintro e w' ⟨rfl, hw'⟩; rw [hw']; clear hw') | (refine ⟨trivial, ?_⟩; gi_at_call 43; refine (keysG_in _ (some b1) _).mono ?_; rintro e w' ⟨rfl, hw'⟩; rw [hw']; clear hw'))
  refine ⟨trivial, ?_⟩
  refine (sorted_in 8 (by omega) 66 _ (enters_of Try.func66 (by kernel_rfl) rfl) (fun ss => NamesG D ss ∧ ss.length ≤ Maps.size D) (Maps.size D) (by omega) _ (fun ss h => h.2) HS.out).mono ?_
  rintro e w' ⟨v, ss, rfl, ⟨hN, _⟩, ho, hB⟩
  have hso := HRS.out ss hN
  have hsl2 := sortT_length ss
  rw [hso] at ho hsl2
  rw [List.length_map] at hsl2
  rw [← hsl2] at ho
  have HO := hide ho
  have HB := hide hB
  clear ho hB hso hsl2
  gi_wp2
  go_ret
  refine ⟨v, rfl, ?_, ((Below.refl _ w).alloc (Nat.le_refl _) _).trans (HB.out.mono (by simp))⟩
  exact own_base HO.out (by simp)
end
section
open Go.RowKit Go.Maps Classical

theorem eqlSome14 (a : Addr) (n c : Nat) (w : World) : (binOp .eql 36 (.slice (some a) n c) (.slice none 0 0)).run Try.prog w = .ok (.bool false) w := by kernel_rfl
theorem eqlNone14 (w : World) : (binOp .eql 36 (.slice none 0 0) (.slice none 0 0)).run Try.prog w = .ok (.bool true) w := by kernel_rfl
set_option maxRecDepth 100000 in
theorem clone14 (v : Value) (ws : List WrP) (w : World) (h : RSrc wrE w v ws) (hl : ws.length ≤ 1000) :
    Calls Try.prog 37 #[v] w fun e w' => ∃ v', e = .returned v' ∧ w'.ownsRow w.heap.size 59 21 v' ws.length (flat wrE ws) ∧ Below w.heap.size w w' := by
  obtain ⟨ao, c, rfl, hc, _, hn, _⟩ := id h
  cases ao with
  | none =>
    obtain ⟨rfl, rfl⟩ := hn rfl
    have he := eqlNone14
    go_enter Try.func37, Try.ntmps37
    go_wp2
    go_ret
    exact ⟨_, rfl, World.ownsRow_nil _ _ _ _, Below.refl _ _⟩
  | some a =>
    have he := eqlSome14 a ws.length c
    have hA := alloc_below14 w (.cells #[] 59)
    have HS := hide (h.below hA)
    have HA := hide hA
    have HO : Hid ((w.alloc (.cells #[] 59)).ownsRow w.heap.size 59 21 (.slice (some ⟨w.heap.size, 0, none⟩) 0 0) ([] : List WrP).length (flat wrE ([] : List WrP))) := hide ⟨rfl, .inr ⟨w.heap.size, 0, #[], rfl, Nat.le_refl _, heap_alloc_last w _, Nat.le_refl _, Nat.zero_le _, rfl, rfl⟩⟩
    obtain ⟨L, hL⟩ : ∃ L, L = ws.length := ⟨_, rfl⟩
    rw [← hL] at HS he hl hc ⊢
    have HL := hide hL
    clear h hn hL hA
    go_enter Try.func37, Try.ntmps37
    go_wp2_with (refine wp_recs recWR _ rfl _ _ rfl w.heap.size _ _ [] ws rfl HO.out rfl HS.out (fun x _ => wr_one x) (by rw [← HL.out]; simp; omega) (by simp) ?_; intro v' w' ho hg hob; have HO' := hide ho; have HG' := hide hg; clear ho hg hob)
    go_ret
    refine ⟨_, rfl, ?_, ?_⟩
    · have := HO'.out
      rw [List.nil_append, ← HL.out] at this
      exact this
    · exact HA.out.grown HG'.out HA.out.size (fun j hj => by cases hj; exact Nat.le_refl _)
theorem src_of_row {w : World} {base : Nat} {v : Value} {xs : List WrP} (h : w.ownsRow base 59 21 v xs.length (flat wrE xs)) : RSrc wrE w v xs := by
  obtain ⟨hl, ⟨rfl, hz⟩ | ⟨g, cap, cur, rfl, hb, hh, h1, h2, h3, h4⟩⟩ := h
  · have : xs = [] := List.eq_nil_of_length_eq_zero hz
    subst this
    exact RSrc.nil w
  · refine ⟨some ⟨g, 0, none⟩, cap, rfl, h1, h2, (fun e => by cases e), fun _ => ⟨g, 0, rfl, (Array.getElem?_eq_some_iff.1 hh).1, fun j u hu => ?_⟩⟩
    rw [Nat.zero_add, cell_of_row w g j cur _ (0, 0) hh]
    have hj := (List.getElem?_eq_some_iff.1 hu).1
    rw [hl] at hj
    have : (cur.toList.take (xs.length * 21))[j]? = some u := by rw [h4]; exact hu
    rw [List.getElem?_take_of_lt hj] at this
    simpa using this
theorem neq_reg14 (a b d e : Int) (w : World) : (binOp .neq 35 (.agg #[.int .u32 a, .int .u32 b]) (.agg #[.int .u32 d, .int .u32 e])).run Try.prog w = .ok (.bool (!(a == d && b == e))) w := by
  rw [run_neq_struct, eq_reg]; rfl
theorem rg_dec (a b : Nat × Nat) : (((a.1 : Int) == (b.1 : Int)) && ((a.2 : Int) == (b.2 : Int))) = decide (a = b) := by
  obtain ⟨a1, a2⟩ := a
  obtain ⟨b1, b2⟩ := b
  rw [Bool.eq_iff_iff]
  simp only [Bool.and_eq_true, beq_iff_eq, decide_eq_true_eq, Prod.mk.injEq]
  omega
set_option maxRecDepth 100000 in
theorem wkRefusal (g h : Nat × Nat) (v u : Value) (la lb : List WrP) (w : World) (h1 : RSrc wrE w v la) (h2 : RSrc wrE w u lb) (ha : ∀ x ∈ la, KeyOk x.key ∧ ItOk x.it) (hb : ∀ x ∈ lb, KeyOk x.key ∧ ItOk x.it) :
    Calls Try.prog 35 #[wkV (g, v), rgV h, u] w fun e w' => e = .returned (.int .i64 (if (decide (g = h) && wsEqB la lb) = true then 0 else 7)) ∧ Below w.heap.size w w' := by
  have hA := alloc_below14 w (.cells #[.int .u32 (g.1 : Int), .int .u32 (g.2 : Int), v] 86)
  have hA2 := alloc_below14 (w.alloc (.cells #[.int .u32 (g.1 : Int), .int .u32 (g.2 : Int), v] 86)) (.cells #[.int .u32 (h.1 : Int), .int .u32 (h.2 : Int)] 35)
  have hB := hA.trans (hA2.mono hA.size)
  have hX := (box_new w #[.int .u32 (g.1 : Int), .int .u32 (g.2 : Int), v] 86).belowI hA2
  have hY : Box ((w.alloc (.cells #[.int .u32 (g.1 : Int), .int .u32 (g.2 : Int), v] 86)).alloc (.cells #[.int .u32 (h.1 : Int), .int .u32 (h.2 : Int)] 35)) (w.heap.size + 1) #[.int .u32 (h.1 : Int), .int .u32 (h.2 : Int)] 35 := by have := box_new (w.alloc (.cells #[.int .u32 (g.1 : Int), .int .u32 (g.2 : Int), v] 86)) #[.int .u32 (h.1 : Int), .int .u32 (h.2 : Int)] 35; simpa using this
  have HC := hide (equalWs_any v u la lb _ (h1.below hB) (h2.below hB) ha hb)
  have x0 := hX.cell 0 _ rfl
  have x1 := hX.cell 1 _ rfl
  have x2 := hX.cell 2 _ rfl
  have y0 := hY.cell 0 _ rfl
  have y1 := hY.cell 1 _ rfl
  have HB := hide hB
  have hne := neq_reg14 (g.1 : Int) (g.2 : Int) (h.1 : Int) (h.2 : Int)
  rw [rg_dec g h] at hne
  have hd : decide (la = lb) = wsEqB la lb := by rw [Bool.eq_iff_iff, decide_eq_true_eq, wsEqB_iff]
  rw [hd] at HC
  obtain ⟨E, hE⟩ : ∃ E, E = decide (g = h) := ⟨_, rfl⟩
  obtain ⟨M, hM⟩ : ∃ M, M = wsEqB la lb := ⟨_, rfl⟩
  rw [← hM] at HC ⊢
  rw [← hE] at hne ⊢
  clear h1 h2 ha hb hA hA2 hB hX hY hd hM hE
  cases E with
  | false =>
    go_enter Try.func35, Try.ntmps35
    go_wp2_with fail
    go_ret
    exact ⟨by simp, HB.out⟩
  | true =>
    go_enter Try.func35, Try.ntmps35
    go_wp2_with (go_at_call 57; refine HC.out.mono ?_; rintro e w1 ⟨rfl, hB1⟩; have HB1 := hide (HB.out.trans (hB1.mono HB.out.size)); clear hB1; cases M)
    all_goals go_wp2_with fail
    all_goals go_ret
    all_goals exact ⟨by simp, HB1.out⟩
end
section
open Go.RowKit Go.Maps Classical

def refS (l : List OnP) (ws : List WrP) : Int := if (ws.any fun y => (ownS l y.key).isSome) = true then 11 else if 64 ≤ l.length then 5 else 0
set_option maxRecDepth 100000 in
set_option maxHeartbeats 3200000 in
theorem psRefusal (q b1 b2 : Nat) (p : TxN → Value) (l : List OnP) (v : Value) (ws : List WrP) (w : World) (h : PSg w q b1 b2 p l) (hs : RSrc wrE w v ws) (hok : ∀ y ∈ ws, KeyOk y.key ∧ ItOk y.it) :
    Calls Try.prog 36 #[.pointer (some ⟨q, 0, none⟩), v] w fun e w' => e = .returned (.int .i64 (refS l ws)) ∧ Below w.heap.size w w' := by
  obtain ⟨ao, cap, rfl, hc, hm⟩ := hs.shape
  unfold maxLen at hm
  have H := hide h
  have HOK := hide hok
  obtain ⟨R, hR⟩ : ∃ R, R = refS l ws := ⟨_, rfl⟩
  rw [← hR]
  have HR := hide hR
  obtain ⟨LN, hLN⟩ : ∃ LN, LN = ws.length := ⟨_, rfl⟩
  have HS : Hid (RSrc wrE w (.slice ao LN cap) ws) := hide (by rw [hLN]; exact hs)
  rw [← hLN]
  have HLN := hide hLN
  have hLm : LN ≤ 9223372036854775807 := by omega
  clear h hs hok hR hLN hc hm
  go_enter Try.func36, Try.ntmps36
  go_wp2_with fail
  go_loopg [11] LN (fun g i wr => ∃ k : Nat, k + g = LN ∧ i = .int .i64 k ∧ Hid (Below w.heap.size w wr) ∧ Hid (((ws.take k).any fun y => (ownS l y.key).isSome) = false))
  case atStart => exact ⟨0, by omega, rfl, hide (Below.refl _ _), hide (by simp)⟩
  case round =>
    obtain ⟨k, hk, rfl, HB, HT⟩ := hrel
    cases gk with
    | zero =>
      obtain rfl : k = LN := by omega
      have hz : ¬ ((k : Int) < (k : Int)) := by omega
      have HE : Hid (ws.take k = ws) := hide (by rw [HLN.out]; exact List.take_length)
      rw [HE.out] at HT
      have HW : Hid (R = if 64 ≤ l.length then 5 else 0) := hide (by rw [HR.out]; unfold refS; rw [HT.out]; simp)
      have hL := (H.out.m1.below HB.out).len pmTy
      have h0 : wr.cell? ⟨q, 0, none⟩ = some (.map (some b1)) := (H.out.box.belowI HB.out).cell 0 _ rfl
      generalize l.length = n at *
      by_cases hb : 64 ≤ n
      · have d1 : (64 : Int) ≤ (n : Int) := by omega
        go_wp2_with fail
        go_ret
        exact ⟨by rw [HW.out, if_pos hb]; rfl, HB.out⟩
      · have d1 : ¬ ((64 : Int) ≤ (n : Int)) := by omega
        go_wp2_with fail
        go_ret
        exact ⟨by rw [HW.out, if_neg hb]; rfl, HB.out⟩
    | succ g =>
      have hz : (k : Int) < (LN : Int) := by omega
      have hkn : k < ws.length := by rw [← HLN.out]; omega
      obtain ⟨en, b, off, rfl, hb, hcl⟩ := (HS.out.below HB.out).at recWR.len hkn
      have HRg : Hid (wr.rangeAt b (off + k * 21) (wrE ws[k])) := hide (fun j v hv => hcl j v hv)
      have HKO := hide (HOK.out _ (List.getElem_mem hkn)).1
      have HTS := hide (take_any14 (fun y : WrP => (ownS l y.key).isSome) ws hkn)
      have HAN : Hid ((ownS l (ws[k]).key).isSome = true → (ws.any fun y => (ownS l y.key).isSome) = true) := hide (fun h => List.any_eq_true.mpr ⟨_, List.getElem_mem hkn, h⟩)
      generalize ws[k] = x at *
      have HZ := hide (box_new wr (wrA zeroWr) 59)
      have HZB : Hid (Below w.heap.size w (wr.alloc (.cells (wrA zeroWr) 59))) := hide (HB.out.alloc HB.out.size _)
      have HWS := HB.out.size
      clear hcl en hb
      obtain ⟨O, hO⟩ : ∃ O, O = ownS l x.key := ⟨_, rfl⟩
      have HO := hide hO
      clear hO
      go_wp2_with (first | (refine wpList_load_mid rfl 59 _ rfl b (off + k * 21) rfl (wrE x) _ HRg.out Try.underlying59 rfl infoWrite ?_) | (refine wp_store_box rfl rfl _ _ rfl wr.heap.size rfl (cs' := wrA x) rfl HZ.out rfl infoWrite (wrA_one14 x) ?_; intro w3 hb3 hk3; have HX3 := hide hb3; have HK3 : Hid (Below w.heap.size w w3) := hide (HZB.out.trans (hk3.below HZB.out.size (fun k hk => by omega))); clear hb3 hk3))
      have h0 : w3.cell? ⟨q, 1, none⟩ = some (.map (some b2)) := (H.out.box.belowI HK3.out).cell 1 _ rfl
      obtain ⟨n, hm2⟩ := (H.out.below HK3.out).m2
      have L1 := (hm2.below (below_drew14 w3)).look omTy ⟨x.key, HKO.out⟩
      have L2 := fun o => ((hm2.below (alloc_below14 w3 o)).below (below_drew14 _)).look omTy ⟨x.key, HKO.out⟩
      simp only [← HO.out] at L1 L2
      have x0 := HX3.out.cell 0 _ rfl
      have x1 := HX3.out.cell 1 _ rfl
      have x2 := HX3.out.cell 2 _ rfl
      have x3 := HX3.out.cell 3 _ rfl
      have x4 := HX3.out.cell 4 _ rfl
      have x5 := HX3.out.cell 5 _ rfl
      have x6 := HX3.out.cell 6 _ rfl
      have x7 := HX3.out.cell 7 _ rfl
      have hlt := HX3.out.lt
      have hqt := (H.out.box.belowI HK3.out).lt
      clear hm2 HZ HZB HRg
      go_wp2_with fail
      go_region
      have HB4 : Hid (Below w.heap.size w ((w3.alloc (.cells #[.int .u8 ((O.getD (0, 0, 0)).1 : Int), .int .u32 ((O.getD (0, 0, 0)).2.1 : Int), .int .u32 ((O.getD (0, 0, 0)).2.2 : Int)] 33)).drew)) := hide ((HK3.out.alloc HK3.out.size _).drew)
      clear x0 x1 x2 x3 x4 x5 x6 x7 L1 L2 h0 hlt hqt
      generalize ((w3.alloc (.cells #[.int .u8 ((O.getD (0, 0, 0)).1 : Int), .int .u32 ((O.getD (0, 0, 0)).2.1 : Int), .int .u32 ((O.getD (0, 0, 0)).2.2 : Int)] 33)).drew) = w4 at *
      rw [← HO.out] at HAN HTS
      obtain ⟨B, hB⟩ : ∃ B, B = O.isSome := ⟨_, rfl⟩
      rw [← hB] at HAN HTS ⊢
      clear hB
      cases B with
      | true =>
        have HW : Hid (R = 11) := hide (by rw [HR.out]; unfold refS; rw [if_pos (HAN.out rfl)])
        go_wp2_with fail
        go_ret
        exact ⟨by rw [HW.out]; rfl, HB4.out⟩
      | false =>
        have HT2 : Hid (((ws.take (k + 1)).any fun y => (ownS l y.key).isSome) = false) := hide (by rw [HTS.out, HT.out]; rfl)
        go_wp2_with fail
        go_roundg g
        case measure => omega
        case rel => exact ⟨k + 1, by omega, by first | rfl | go_num, HB4, HT2⟩
set_option maxRecDepth 100000 in
set_option maxHeartbeats 1600000 in
theorem psWrites_any (q b1 b2 : Nat) (p : TxN → Value) (l : List OnP) (t : TxN) (w : World) (h : PSg w q b1 b2 p l) (ht : TxB t) :
    Calls Try.prog 15 #[.pointer (some ⟨q, 0, none⟩), txVN t] w fun e w' => ∃ v, e = .returned (.tuple #[v, rgV (rgOf l t), .bool (onS l t).isSome]) ∧ w'.ownsRow w.heap.size 59 21 v (tW l t).length (flat wrE (tW l t)) ∧ Below w.heap.size w w' := by
  have hA := alloc_below14 w (.cells #[.int .u8 (t.1 : Int), .int .u32 (t.2.1 : Int), .int .u32 (t.2.2 : Int)] 33)
  have hA2 := alloc_below14 (w.alloc (.cells #[.int .u8 (t.1 : Int), .int .u32 (t.2.1 : Int), .int .u32 (t.2.2 : Int)] 33)) (.cells #[.int .u32 0, .int .u32 0] 35)
  have hB2 := hA.trans (hA2.mono hA.size)
  have H2 := hide (h.below hB2)
  have C := hide (made14 q b1 b2 _ H2.out.box)
  have HXK := hide ((box_new w #[.int .u8 (t.1 : Int), .int .u32 (t.2.1 : Int), .int .u32 (t.2.2 : Int)] 33).belowI hA2)
  have HXR : Hid (Box ((w.alloc (.cells #[.int .u8 (t.1 : Int), .int .u32 (t.2.1 : Int), .int .u32 (t.2.2 : Int)] 33)).alloc (.cells #[.int .u32 0, .int .u32 0] 35)) (w.heap.size + 1) #[.int .u32 0, .int .u32 0] 35) := hide (by have := box_new (w.alloc (.cells #[.int .u8 (t.1 : Int), .int .u32 (t.2.1 : Int), .int .u32 (t.2.2 : Int)] 33)) #[.int .u32 0, .int .u32 0] 35; simpa using this)
  have HB2 := hide hB2
  obtain ⟨R0, hR0⟩ : ∃ R0, R0 = (gP l p ⟨t, ht⟩).getD ((0, 0), .slice none 0 0) := ⟨_, rfl⟩
  obtain ⟨R2, hR2⟩ : ∃ R2, R2 = (onS l t).isSome := ⟨_, rfl⟩
  have hR3 : (gP l p ⟨t, ht⟩).isSome = R2 := by rw [hR2]; simp [gP]
  have hrg : rgOf l t = R0.1 := by
    rw [hR0]
    unfold rgOf gP
    cases onS l t <;> rfl
  have hwl : (tW l t).length ≤ 1000 := by
    unfold tW
    cases hf : onS l t with
    | none => simp
    | some x =>
      have hm := (h.all.may x (List.mem_of_find?_eq_some hf)).1
      unfold mayO wsMayB at hm
      simp only [Bool.and_eq_true, decide_eq_true_eq] at hm
      exact Nat.le_trans hm.2.2 (by decide)
  have hsrc : ∀ W, PSg W q b1 b2 p l → RSrc wrE W R0.2 (tW l t) := fun W hW => by
    rw [hR0]
    unfold gP tW
    cases hf : onS l t with
    | none => exact RSrc.nil W
    | some x =>
      have hx := (onS_some hW.all.ok).1 hf
      have := src_of_row (hW.rows x hx.1)
      rw [hx.2] at this
      exact this
  have HSRC := hide hsrc
  have HR0 := hide hR0
  have HR3 := hide hR3
  have HTB := hide ht
  have HWL := hide hwl
  rw [← hR2, hrg]
  generalize tW l t = ws at *
  clear hA hA2 hB2 h hR0 hR2 hR3 hrg hwl hsrc
  go_enter Try.func15, Try.ntmps15
  go_wp2_with fail
  refine C.out.mono ?_
  rintro e w1 ⟨rfl, hw1⟩
  replace H2 : Hid (PSg w1 q b1 b2 p l) := hide (by rw [hw1]; exact H2.out)
  replace HXK : Hid (Box w1 w.heap.size #[.int .u8 (t.1 : Int), .int .u32 (t.2.1 : Int), .int .u32 (t.2.2 : Int)] 33) := hide (by rw [hw1]; exact HXK.out)
  replace HXR : Hid (Box w1 (w.heap.size + 1) #[.int .u32 0, .int .u32 0] 35) := hide (by rw [hw1]; exact HXR.out)
  replace HB2 : Hid (Below w.heap.size w w1) := hide (by rw [hw1]; exact HB2.out)
  clear hw1 C
  have h0 : w1.cell? ⟨q, 0, none⟩ = some (.map (some b1)) := H2.out.box.cell 0 _ rfl
  obtain ⟨k0, k1, k2⟩ := HXK.out.three
  have L1 := (H2.out.m1.below (below_drew14 w1)).look pmTy ⟨t, HTB.out⟩
  have L2 := fun o => ((H2.out.m1.below (alloc_below14 w1 o)).below (below_drew14 _)).look pmTy ⟨t, HTB.out⟩
  simp only [← HR0.out, HR3.out] at L1 L2
  have hlt := HXK.out.lt
  have hqt := H2.out.box.lt
  obtain ⟨⟨a, b⟩, vv⟩ := R0
  obtain ⟨sa, sc, e, hsc, _⟩ := (HSRC.out w1 H2.out).shape
  dsimp only at e
  subst e
  obtain ⟨LN, hLN⟩ : ∃ LN, LN = ws.length := ⟨_, rfl⟩
  rw [← hLN] at L1 HSRC hsc HWL
  simp only [← hLN] at L2
  have HLN := hide hLN
  clear hLN
  go_wp2
  go_region
  have hA3 := (alloc_below14 w1 (.cells #[.int .u32 (a : Int), .int .u32 (b : Int), .slice sa LN sc] 86)).trans ((below_drew14 (w1.alloc (.cells #[.int .u32 (a : Int), .int .u32 (b : Int), .slice sa LN sc] 86))).mono (by simp))
  have HX3 := hide ((box_new w1 #[.int .u32 (a : Int), .int .u32 (b : Int), .slice sa LN sc] 86).belowI (below_drew14 _))
  have HR3' := hide (HXR.out.belowI hA3)
  have HB3 := hide (HB2.out.trans (hA3.mono HB2.out.size))
  have HS3 := hide (HSRC.out _ (H2.out.below hA3))
  have HWS := HB2.out.size
  clear hA3 L1 L2 HXK HXR HB2 H2 h0 k0 k1 k2 hlt hqt HSRC HR0 HR3
  generalize (w1.alloc (.cells #[.int .u32 (a : Int), .int .u32 (b : Int), .slice sa LN sc] 86)).drew = w3 at *
  have CC := hide (fun W hW => clone14 (.slice sa LN sc) ws W hW (by rw [← HLN.out]; exact HWL.out))
  obtain ⟨z0, z1, z2⟩ := HX3.out.three
  obtain ⟨y0, y1⟩ := HR3'.out.two
  have yf0 := HR3'.out.frozen 0
  have yf1 := HR3'.out.frozen 1
  have yl := HR3'.out.lt
  have zl := HX3.out.lt
  go_wp2_with fail
  go_region_with (go_at_call 37; refine (CC.out _ (HS3.out.below (below_drew14 _))).mono ?_; rintro e w5 ⟨v5, rfl, ho5, hB5⟩; have hB35 : Below w3.heap.size w3 w5 := (below_drew14 w3).trans hB5; have HO5 := hide ho5; have HB5 := hide (HB3.out.trans (hB35.mono HB3.out.size)); have HR5 := hide (HR3'.out.belowI hB35); obtain ⟨x0, x1, x2⟩ := (HX3.out.belowI hB35).three; obtain ⟨u0, u1⟩ := HR5.out.two; have uf0 := HR5.out.frozen 0; have uf1 := HR5.out.frozen 1; have ul := HR5.out.lt; have xl := (HX3.out.belowI hB35).lt; clear ho5 hB5 hB35)
  all_goals
    go_wp2_with fail
    have hk6 := ((KeepBut.refl (fun k => k = w.heap.size + 1) w5).setCell (p := ⟨w.heap.size + 1, 0, none⟩) (.inl rfl) (.int .u32 (a : Int))).setCell (p := ⟨w.heap.size + 1, 1, none⟩) (.inl rfl) (.int .u32 (b : Int))
    have hx6 := (HR5.out.set (i := 0) (v := .int .u32 (a : Int))).set (i := 1) (v := .int .u32 (b : Int))
    refine bodyPost_ret (v := .tuple #[v5, rgV (a, b), .bool R2]) (results_box3s Try.results15 _ _ (w.heap.size + 1) rfl rfl rfl hx6 Try.underlying35 rfl infoRg14) rfl ⟨v5, rfl, ?_, ?_⟩
    · refine owns_keep (own_base HO5.out (by simp; omega)) hk6 (fun g hg e => ?_)
      have := (HO5.out.lt g hg).1
      simp at this
      omega
    · exact HB5.out.trans (hk6.below HB5.out.size (fun k hk => by omega))
end
section
open Go.RowKit Classical

/-- A whole variable is loaded, behind a guard that lets it by. -/
theorem wp_load_box_g {ops : Array Oper} {rest : List Oper} {op : Oper} {a : Act} {w : World} {Q : Exit → Act → World → Prop} {t t0 : TypeId} {d : TypeDesc} (hgd : Region.wanted op (yielded ops a.tmps) = true) (x : Operand) (ho : op.op = .load t x)
    (p : Nat) (hx : a.eval x = .pointer (some ⟨p, 0, none⟩)) {cs : Array Value} (hb : Box w p cs t0) (hu : Try.prog.underlying t = some d) (hd : d.isRow = true) (hi : (Try.prog.info? t).map (·.size) = some cs.size)
    (h : wpList Try.prog ops Q rest (a.put op.dst (.agg cs)) w) : wpList Try.prog ops Q (op :: rest) a w := by
  have hr : w.rangeAt p 0 cs.toList := fun j v hv => by
    rw [Nat.zero_add]; exact hb.cell j v (by simpa using hv)
  exact wpList_wanted hgd fun _ hK => wp_load_mid t x ho p 0 hx cs.toList d hr hu hd (by simpa using hi) (hK _ _ (by simpa using h))
end
section
open Go.RowKit Go.Maps Classical

theorem keys_len {l : List OnP} (h : ∀ x ∈ l, x.wr.length ≤ 16) : (keysS l).length ≤ l.length * 16 := by
  induction l with
  | nil => simp [keysS]
  | cons x l ih =>
    have e : keysS (x :: l) = x.wr.map WrP.key ++ keysS l := by
      unfold keysS
      rw [List.flatMap_cons]
    rw [e, List.length_append, List.length_map, List.length_cons]
    have h1 := h x List.mem_cons_self
    have h2 := ih (fun y hy => h y (List.mem_cons_of_mem _ hy))
    omega
theorem may_len {x : OnP} (h : mayO x = true) : x.wr.length ≤ 16 := by
  unfold mayO wsMayB at h
  simp only [Bool.and_eq_true, decide_eq_true_eq] at h
  exact h.2.2
/-- No more owners than keys. -/
theorem own_few {w : World} {b n : Nat} {g : KeyT → Option TxN} (h : OMap w b g n) (L : List (List Int)) (hL : ∀ k : KeyT, (g k).isSome = true → k.1 ∈ L) : n ≤ L.length := by
  have := h.few omTy (L.filterMap fun k => if hk : KeyOk k then some (⟨k, hk⟩ : KeyT) else none) (fun k hk => List.mem_filterMap.2 ⟨k.1, hL k hk, by simp [k.2]⟩)
  exact Nat.le_trans this (List.length_filterMap_le _ _)
theorem src_no_map {w : World} {v : Value} {ws : List WrP} (h : RSrc wrE w v ws) {w' : World} {S : Nat → Prop} (hk : KeepBut S w w') (hS : ∀ k, S k → ∃ es c, w.heap[k]? = some (.map es c)) : RSrc wrE w' v ws := by
  obtain ⟨ao, c, rfl, h1, h2, h3, h4⟩ := h
  refine ⟨ao, c, rfl, h1, h2, h3, fun hne => ?_⟩
  obtain ⟨g, off, rfl, hg, hc⟩ := h4 hne
  have hng : ¬ S g := fun hs => by
    obtain ⟨es, cl, hm⟩ := hS g hs
    cases ws with
    | nil => exact hne rfl
    | cons x r =>
      have := hc 0 (.int .u8 (at8 x.key 0)) rfl
      simp [World.cell?, hm] at this
  refine ⟨g, off, rfl, Nat.lt_of_lt_of_le hg hk.size, fun j u hu => ?_⟩
  rw [← hc j u hu]
  exact World.cell?_of_block (hk.block g hg hng)
/-- Behind a Put that was taken. -/
theorem PSg.put {w w' : World} {q b1 b2 : Nat} {p : TxN → Value} {l : List OnP} (h : PSg w q b1 b2 p l) {x : OnP} {v : Value} {n : Nat} (hk : KeepBut (fun k => k = b1 ∨ k = b2) w w')
    (hx : OnOk x) (hm : mayO x = true) (hn : onS l x.tx = none) (hi : SgOk (insS l x))
    (h1 : PMap w' b1 (fun t => if t.1 = x.tx then some (x.rg, v) else gP l p t) (l.length + 1))
    (h2 : OMap w' b2 (fun k => if k.1 ∈ x.wr.map WrP.key then some x.tx else ownS l k.1) n)
    (hv : w'.ownsRow w.heap.size 59 21 v x.wr.length (flat wrE x.wr)) :
    PSg w' q b1 b2 (fun t => if t = x.tx then v else p t) (insS l x) ∧ ∀ k, FSg q b1 b2 (fun t => if t = x.tx then v else p t) (insS l x) k → FSg q b1 b2 p l k ∨ w.heap.size ≤ k := by
  have hne := onS_none.1 hn
  obtain ⟨hq1, hq2⟩ := h.q_ne
  obtain ⟨p', hp'⟩ : ∃ p' : TxN → Value, p' = fun t => if t = x.tx then v else p t := ⟨_, rfl⟩
  have hpt : ∀ t, p' t = if t = x.tx then v else p t := fun t => by rw [hp']
  have hpx : p' x.tx = v := by rw [hpt, if_pos rfl]
  have hpy : ∀ y ∈ l, p' y.tx = p y.tx := fun y hy => by rw [hpt, if_neg (hne y hy)]
  rw [← hp']
  clear hp'
  have hblk : ∀ y ∈ l, ∀ g, (p y.tx).ownBlock = some g → g < w.heap.size ∧ ¬ (g = b1 ∨ g = b2) := fun y hy g hg => by
    have := h.blk hy hg
    exact ⟨this.1, fun e => e.elim this.2.2.1 this.2.2.2⟩
  refine ⟨⟨h.box.keep hk (fun e => e.elim hq1 hq2), ?_, ⟨n, h2.as fun k => ?_⟩, h.ne, fun y hy => ?_, fun y hy z hz g hg hg' => ?_, ⟨hi, fun y hy => ?_⟩, fun y hy => ?_⟩, fun k hk' => ?_⟩
  · have e : (insS l x).length = l.length + 1 := by rw [(insS_perm l x).length_eq, List.length_cons]
    rw [e]
    refine h1.as fun t => ?_
    show _ = (onS (insS l x) t.1).map _
    rw [onS_ins h.all.ok hi]
    by_cases e2 : t.1 = x.tx
    · rw [if_pos e2, if_pos e2]
      simp [e2, hpx]
    · rw [if_neg e2, if_neg e2, hpt, if_neg e2]
  · rw [ownS_ins h.all.ok hi]
    by_cases e2 : k.1 ∈ x.wr.map WrP.key
    · rw [if_pos e2, if_pos ((hasK_iff x _).2 (List.mem_map.1 e2))]
    · rw [if_neg e2, if_neg (fun h3 => e2 (List.mem_map.2 ((hasK_iff x _).1 h3)))]
  · rcases (insS_mem l x y).1 hy with rfl | hy
    · rw [hpx]
      exact own_base hv (Nat.zero_le _)
    · rw [hpy y hy]
      exact owns_keep (h.rows y hy) hk (fun g hg => (hblk y hy g hg).2)
  · rcases (insS_mem l x y).1 hy with e1 | hy2
    · rcases (insS_mem l x z).1 hz with e2 | hz2
      · rw [e1, e2]
      · rw [e1, hpx] at hg
        rw [hpy z hz2] at hg'
        have a1 := (hv.lt g hg).1
        have a2 := (hblk z hz2 g hg').1
        omega
    · rcases (insS_mem l x z).1 hz with e2 | hz2
      · rw [e2, hpx] at hg'
        rw [hpy y hy2] at hg
        have a1 := (hv.lt g hg').1
        have a2 := (hblk y hy2 g hg).1
        omega
      · rw [hpy y hy2] at hg
        rw [hpy z hz2] at hg'
        exact h.apart y hy2 z hz2 g hg hg'
  · rcases (insS_mem l x y).1 hy with rfl | hy
    · exact ⟨hm, fun z hz => (hx.wr z hz).1.l⟩
    · exact h.all.may y hy
  · rcases (insS_mem l x y).1 hy with rfl | hy
    · exact hx
    · exact h.oks y hy
  · rcases hk' with e | e | e | ⟨y, hy, hg⟩
    · exact .inl (.inl e)
    · exact .inl (.inr (.inl e))
    · exact .inl (.inr (.inr (.inl e)))
    · rcases (insS_mem l x y).1 hy with rfl | hy
      · rw [hpx] at hg
        exact .inr (hv.lt k hg).1
      · rw [hpy y hy] at hg
        exact .inl (.inr (.inr (.inr ⟨y, hy, hg⟩)))
end
end Go.Proofs.Ytodomdmmffooaaa
