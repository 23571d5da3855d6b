/-
  Walks of Make and After, of the program and of the reference; Sets; the probe 'alive' of layer 6. Own work.
-/
import Derived.Test.YtnljibmdcknmeabDoorVtMay2
import Derived.Test.YtnljibmdcknmeabDoorVtQuo
import Derived.Test.YtnljibmdcknmeabDoorCopyAt
namespace Go.Proofs.YtnljibmdcknmeabDoor
open Go.RowKit

def natI (xs : List Nat) : List Int := xs.map fun (x : Nat) => (x : Int)
theorem natI_len (xs : List Nat) : (natI xs).length = xs.length := by simp [natI]
theorem natI_at (xs : List Nat) (k : Nat) : (natI xs).getD k 0 = ((xs.getD k 0 : Nat) : Int) := by
  simp only [natI, List.getD_eq_getElem?_getD, List.getElem?_map]
  cases xs[k]? <;> simp
theorem votL_natI (xs : List Nat) : votL xs = (natI xs).map (Value.int .u8) := by simp [votL, natI]
def zeroC : Cf := ⟨0, 0, 0, [0, 0, 0, 0, 0, 0, 0, 0]⟩
theorem zeroC_arr : zeroC.arr = #[.int .u32 0, .int .u8 0, .int .u8 0, .int .u8 0, .int .u8 0, .int .u8 0, .int .u8 0, .int .u8 0, .int .u8 0, .int .u8 0, .int .u8 0] := rfl
theorem zeroC_ok : zeroC.Ok := ⟨by decide, by decide, by decide, rfl, by simp [zeroC]⟩
/-- What it is made of: as far as k. -/
def mkTo (e r w : Nat) (xs : List Nat) (k : Nat) : Cf := ⟨e, r, w, xs.take k ++ List.replicate (8 - k) 0⟩
def mkC (e r w : Nat) (xs : List Nat) : Cf := mkTo e r w xs xs.length
theorem mkTo_ok (e r w : Nat) (xs : List Nat) (k : Nat) (he : e < 4294967296) (hr : r < 256) (hw : w < 256) (hx : ∀ x ∈ xs, x < 256) (hk : k ≤ 8) (hl : k ≤ xs.length) : (mkTo e r w xs k).Ok := by
  refine ⟨he, hr, hw, ?_, fun v hv => ?_⟩
  · simp [mkTo]; omega
  · simp only [mkTo, List.mem_append, List.mem_replicate] at hv
    rcases hv with hv | ⟨_, rfl⟩
    · exact hx v (List.mem_of_mem_take hv)
    · decide
theorem mkC_eq (e r w : Nat) (xs : List Nat) : mkC e r w xs = ⟨(mkTo e r w xs 0).e, (mkTo e r w xs 0).r, (mkTo e r w xs 0).w, xs.take xs.length ++ (mkTo e r w xs 0).vs.drop xs.length⟩ := by
  unfold mkC mkTo
  simp only [List.take_zero, List.nil_append, List.drop_replicate, Nat.sub_zero]
def makeF (e r w : Nat) (xs : List Nat) : Cf := if decide (xs.length ≤ 8) && mayB (mkC e r w xs) then mkC e r w xs else zeroC
def makeW (e r w : Nat) (xs : List Nat) : Int := if decide (xs.length ≤ 8) && mayB (mkC e r w xs) then 0 else 16
theorem run_copy_cfg (w : World) (ty : TypeId) (p : Nat) (t : TypeId) (c c' : Cf) (xs : List Nat) (hok : c.Ok) (hb : Box w p c.arr t) (vx : Value) (hL : Lies .u8 w vx (natI xs)) (m : Nat) (hm : Nat.min xs.length 8 = m)
    (hz : c' = ⟨c.e, c.r, c.w, xs.take m ++ c.vs.drop m⟩) :
    ∃ w', (Builtin.copy_ #[41, 41] ty #[.slice (some ⟨p, 3, none⟩) 8 8, vx]).run Tryd.prog w = .ok (.int .i64 m) w' ∧ Box w' p c'.arr t ∧ KeepBut (fun k => k = p) w w' := by
  obtain ⟨i0, hi, hz0, hz1, hz2⟩ := info_parts info5
  have hyl := natI_len xs
  have hm8 : m ≤ 8 := by rw [← hm]; exact Nat.min_le_right _ _
  by_cases h0 : m = 0
  · subst h0
    obtain ⟨ao, cc, rfl⟩ := hL.shape
    have e : c' = c := by rw [hz]; cases c; simp
    rw [e]
    exact ⟨w, run_copy_none (P := Tryd.prog) w 41 41 ty 5 _ _ _ _ _ _ Tryd.underlying41 (by simp [hi, hz1]) (by rw [hyl]; exact hm), hb, KeepBut.refl _ _⟩
  · rcases hL with ⟨h1, _⟩ | ⟨hne, b, o2, c2, rfl, hlt, hl, hmx, hc⟩
    · rw [h1] at hyl; simp at hyl; simp [← hyl] at hm; omega
    · have hmy : m ≤ xs.length := by rw [← hm]; exact Nat.min_le_left _ _
      have hlen : (((natI xs).take m).map (Value.int .u8)).length = m := by simp [hyl]; omega
      have hr := run_copy_row (P := Tryd.prog) w 41 41 ty 5 p 3 8 8 ⟨b, o2, none⟩ (natI xs).length c2 c.arr t (((natI xs).take m).map (Value.int .u8)) Tryd.underlying41 (by simp [hi, hz1]) hb
        (by rw [hlen, hyl]; exact hm.symm) (fun j v hj => by
          have hjl : j < m := by have := (List.getElem?_eq_some_iff.1 hj).1; omega
          rw [Addr.add_lit, hc j (by omega)]
          rw [List.getElem?_map, List.getElem?_take_of_lt hjl] at hj
          simp [List.getD] at hj ⊢
          obtain ⟨x, h1, h2⟩ := hj
          simp [h1, h2]) (by rw [hlen, hok.size]; omega) (ints_oneCell _ _)
      rw [hlen] at hr
      have e : (c.arr.toList.take 3 ++ ((natI xs).take m).map (Value.int .u8) ++ c.arr.toList.drop (3 + m)).toArray = c'.arr := by
        rw [hz]
        have h3 : 3 + m = m + 1 + 1 + 1 := by omega
        rw [h3]
        simp [Cf.arr, Cf.cells, votL, natI, List.map_take, List.map_drop]
        rfl
      rw [e] at hr
      exact ⟨_, hr, setRow_heap w p _ _ t (0, 0) hb, ⟨rfl, rfl, rfl, by simp [World.setRow], fun k _ hS => setRow_other w p k _ hS⟩⟩
/-- 'copy(c.Votes[:], votes)' -/
theorem wp_copy_cfg {ops : Array Oper} {rest : List Oper} {o : Oper} {a : Act} {Q : Exit → Act → World → Prop} (w : World) (hgd : o.guard = none) (d s : Operand)
    (ho : o.op = .call { callee := .builtin .copy, args := #[d, s], argTypes := #[41, 41] }) (p : Nat) (t : TypeId) (c c' : Cf) (xs : List Nat) (hok : c.Ok) (hb : Box w p c.arr t) (hd : a.eval d = .slice (some ⟨p, 3, none⟩) 8 8)
    (vx : Value) (hs : a.eval s = vx) (hL : Lies .u8 w vx (natI xs)) (m : Nat) (hm : Nat.min xs.length 8 = m) (hz : c' = ⟨c.e, c.r, c.w, xs.take m ++ c.vs.drop m⟩)
    (h : ∀ w', Box w' p c'.arr t → KeepBut (fun k => k = p) w w' → wpList Tryd.prog ops Q rest (a.put o.dst (.int .i64 m)) w') : wpList Tryd.prog ops Q (o :: rest) a w := by
  obtain ⟨w', hr, h1, h2⟩ := run_copy_cfg w o.type p t c c' xs hok hb vx hL m hm hz
  refine wpList_plain hgd fun K hK => ?_
  unfold Oper.wp execOp
  simp only [ho, resolve, invoke, builtin, Sem.run_bind, Sem.run_pure, Result.andThen_ok, List.map_toArray, List.map_cons, List.map_nil, hd, hs, hr]
  exact hK _ _ (h _ h1 h2)
theorem results_box2 {P : Program} {fn : Func} {q t1 : Tmp} {t t0 : TypeId} {d : TypeDesc} (h : fn.results = #[.cell q t, .tmp t1]) (tmps : Array Value) (w : World) (p : Nat) (hq : tmps.getD q undef = .pointer (some ⟨p, 0, none⟩)) {v1 : Value} (h1 : tmps.getD t1 undef = v1) {cs : Array Value} (hb : Box w p cs t0)
    (hu : P.underlying t = some d) (hd : d.isRow = true) (hi : (P.info? t).map (·.size) = some cs.size) : (results fn tmps).run P w = .ok (.tuple #[.agg cs, v1]) w := by
  subst h1
  have hr : w.rangeAt p 0 cs.toList := fun j v hv => by
    rw [Nat.zero_add]; exact hb.cell j v (by simpa using hv)
  have hl := run_loadVar_mid (P := P) w p 0 t cs.toList d hr hu hd (by simpa using hi)
  have hq' : tmps[q]?.getD undef = .pointer (some ⟨p, 0, none⟩) := by rw [← Array.getD_eq_getD_getElem?]; exact hq
  simp only [results, h]
  simp [hq', asAddr, hl]
/-- A configuration is stored over one. -/
theorem wp_store_cfg {ops : Array Oper} {rest : List Oper} {op : Oper} {a : Act} {w : World} {Q : Exit → Act → World → Prop} {t0 : TypeId} (hgd : op.guard = none) (hdst : op.dst = none) (x y : Operand) (ho : op.op = .store 25 x y)
    (p : Nat) (hx : a.eval x = .pointer (some ⟨p, 0, none⟩)) {c c' : Cf} (hok : c.Ok) (hok' : c'.Ok) (hy : a.eval y = .agg c'.arr) (hb : Box w p c.arr t0)
    (h : ∀ w', Box w' p c'.arr t0 → KeepBut (fun k => k = p) w w' → wpList Tryd.prog ops Q rest a w') : wpList Tryd.prog ops Q (op :: rest) a w :=
  wp_store_box hgd hdst x y ho p hx hy hb (by rw [hok.size, hok'.size]) (by rw [hok'.size]; exact infoCfg) c'.one h

set_option maxRecDepth 100000 in
set_option maxHeartbeats 3200000 in
theorem make_any (e r w0 : Nat) (xs : List Nat) (v : Value) (w : World) (hL : Lies .u8 w v (natI xs)) (he : e < 4294967296) (hr : r < 256) (hw : w0 < 256) (hx : ∀ x ∈ xs, x < 256) :
    Calls Tryd.prog 27 #[.int .u32 ((e : Nat) : Int), .int .u8 ((r : Nat) : Int), .int .u8 ((w0 : Nat) : Int), v] w fun e' w' => e' = .returned (.tuple #[.agg (makeF e r w0 xs).arr, .int .i64 (makeW e r w0 xs)]) ∧ Below w.heap.size w w' := by
  have hB0 := ((Below.refl w.heap.size w).alloc (Nat.le_refl _) (.cells #[.int .u32 0, .int .u8 0, .int .u8 0, .int .u8 0, .int .u8 0, .int .u8 0, .int .u8 0, .int .u8 0, .int .u8 0, .int .u8 0, .int .u8 0] 25)).alloc (by simp) (.cells #[.int .u32 0, .int .u8 0, .int .u8 0, .int .u8 0, .int .u8 0, .int .u8 0, .int .u8 0, .int .u8 0, .int .u8 0, .int .u8 0, .int .u8 0] 25)
  have HB0 := hide hB0
  have HR0 : Hid (Box ((w.alloc (.cells #[.int .u32 0, .int .u8 0, .int .u8 0, .int .u8 0, .int .u8 0, .int .u8 0, .int .u8 0, .int .u8 0, .int .u8 0, .int .u8 0, .int .u8 0] 25)).alloc (.cells #[.int .u32 0, .int .u8 0, .int .u8 0, .int .u8 0, .int .u8 0, .int .u8 0, .int .u8 0, .int .u8 0, .int .u8 0, .int .u8 0, .int .u8 0] 25)) w.heap.size zeroC.arr 25) := hide ((box_new w zeroC.arr 25).belowV ((Below.refl _ _).alloc (Nat.le_refl _) _))
  have HC0 : Hid (Box ((w.alloc (.cells #[.int .u32 0, .int .u8 0, .int .u8 0, .int .u8 0, .int .u8 0, .int .u8 0, .int .u8 0, .int .u8 0, .int .u8 0, .int .u8 0, .int .u8 0] 25)).alloc (.cells #[.int .u32 0, .int .u8 0, .int .u8 0, .int .u8 0, .int .u8 0, .int .u8 0, .int .u8 0, .int .u8 0, .int .u8 0, .int .u8 0, .int .u8 0] 25)) (w.heap.size + 1) zeroC.arr 25) := hide (by
    have := box_new (w.alloc (.cells #[.int .u32 0, .int .u8 0, .int .u8 0, .int .u8 0, .int .u8 0, .int .u8 0, .int .u8 0, .int .u8 0, .int .u8 0, .int .u8 0, .int .u8 0] 25)) zeroC.arr 25
    rw [World.size_alloc] at this
    exact this)
  have HL0 := hide (hL.below hB0)
  have hlen := hL.len
  unfold maxLen at hlen
  have hnl := natI_len xs
  have hlt : (w.heap.size + 1) < ((w.alloc (.cells #[.int .u32 0, .int .u8 0, .int .u8 0, .int .u8 0, .int .u8 0, .int .u8 0, .int .u8 0, .int .u8 0, .int .u8 0, .int .u8 0, .int .u8 0] 25)).alloc (.cells #[.int .u32 0, .int .u8 0, .int .u8 0, .int .u8 0, .int .u8 0, .int .u8 0, .int .u8 0, .int .u8 0, .int .u8 0, .int .u8 0, .int .u8 0] 25)).heap.size := HC0.out.lt
  have HLB : Hid (∀ b, b < w.heap.size → b ≠ w.heap.size + 1) := hide (fun b hb => by omega)
  obtain ⟨ao, cap, hv, _⟩ := hL.at
  rw [hnl] at hv
  have HLw := hide hL
  subst hv
  obtain ⟨cb, hcb⟩ : ∃ c : Cf, c = mkTo e r w0 xs 0 := ⟨_, rfl⟩
  have HCB := hide hcb
  have HKB : Hid cb.Ok := hide (by rw [hcb]; exact mkTo_ok e r w0 xs 0 he hr hw hx (by omega) (by omega))
  have HAB : Hid (Value.agg #[.int .u32 ((e : Nat) : Int), .int .u8 ((r : Nat) : Int), .int .u8 ((w0 : Nat) : Int), .int .u8 0, .int .u8 0, .int .u8 0, .int .u8 0, .int .u8 0, .int .u8 0, .int .u8 0, .int .u8 0] = .agg cb.arr) := hide (by rw [hcb]; rfl)
  clear hL hB0 hcb
  by_cases h8 : xs.length ≤ 8
  · have hmin : Nat.min xs.length 8 = xs.length := Nat.min_eq_left h8
    obtain ⟨cc, hcc⟩ : ∃ c : Cf, c = mkC e r w0 xs := ⟨_, rfl⟩
    have HKC : Hid cc.Ok := hide (by rw [hcc]; exact mkTo_ok e r w0 xs xs.length he hr hw hx h8 (Nat.le_refl _))
    have HCC : Hid (cc = ⟨cb.e, cb.r, cb.w, xs.take xs.length ++ cb.vs.drop xs.length⟩) := hide (by rw [hcc, HCB.out]; exact mkC_eq e r w0 xs)
    have CM := hide (fun W => may_any cc HKC.out W)
    have d1 : decide ((xs.length : Int) < (xs.length : Int)) = false := by simp
    have HF : Hid (makeF e r w0 xs = if decide (xs.length ≤ 8) && mayB cc then cc else zeroC) := by rw [hcc]; exact rfl
    have HW : Hid (makeW e r w0 xs = if decide (xs.length ≤ 8) && mayB cc then 0 else 16) := by rw [hcc]; exact rfl
    rw [decide_eq_true h8] at HF HW
    clear hcc HCB
    cases hm : mayB cc
    · rw [hm] at CM HF HW
      have HF2 : Hid (makeF e r w0 xs = zeroC) := hide (by rw [HF.out]; rfl)
      have HW2 : Hid (makeW e r w0 xs = 16) := hide (by rw [HW.out]; rfl)
      clear HF HW hm
      go_enter Tryd.func27, Tryd.ntmps27
      go_wp2_with (first | (refine wp_store_cfg rfl rfl _ _ rfl _ rfl zeroC_ok HKB.out HAB.out HC0.out ?_; intro w2 hb2 hk2; have HC2 := hide hb2; have HR2 := hide (HR0.out.keep hk2 (by omega)); have HB2 := hide (HB0.out.trans (hk2.below HB0.out.size (fun k hk => by omega))); clear hb2 hk2 HC0 HR0) | (refine wp_copy_cfg _ rfl _ _ rfl _ _ cb cc xs HKB.out HC2.out rfl _ rfl (HLw.out.below HB2.out) xs.length hmin HCC.out ?_; intro w3 hb3 hk3; have HC3 := hide hb3; have HR3 := hide (HR2.out.keep hk3 (by omega)); have HB3 := hide (HB2.out.trans (hk3.below HB2.out.size (fun k hk => by omega))); clear hb3 hk3 HC2 HR2) | (refine wp_load_cfg_g rfl _ rfl _ rfl HKC.out HC3.out ?_) | (go_at_call 13; refine (CM.out _).mono ?_; rintro e' w4 ⟨rfl, hB4⟩; have HR4 := hide (HR3.out.belowV hB4); have HC4 := hide (HC3.out.belowV hB4); have HB4 := hide (HB3.out.trans (hB4.mono HB3.out.size)); clear hB4 HC3 HR3) | (refine wp_store_cfg rfl rfl _ _ rfl _ rfl zeroC_ok zeroC_ok rfl HR4.out ?_; intro w5 hb5 hk5; have HR5 := hide hb5; have HB5 := hide (HB4.out.trans (hk5.below HB4.out.size (fun k hk => by omega))); clear hb5 hk5 HR4))
      refine bodyPost_ret (v := .tuple #[.agg zeroC.arr, .int .i64 16]) (results_box2 Tryd.results27 _ _ w.heap.size rfl rfl HR5.out Tryd.underlying25 rfl (by rw [zeroC_ok.size]; exact infoCfg)) rfl ⟨by rw [HF2.out, HW2.out], HB5.out⟩
    · rw [hm] at CM HF HW
      have HF2 : Hid (makeF e r w0 xs = cc) := hide (by rw [HF.out]; rfl)
      have HW2 : Hid (makeW e r w0 xs = 0) := hide (by rw [HW.out]; rfl)
      clear HF HW hm
      go_enter Tryd.func27, Tryd.ntmps27
      go_wp2_with (first | (refine wp_store_cfg rfl rfl _ _ rfl _ rfl zeroC_ok HKB.out HAB.out HC0.out ?_; intro w2 hb2 hk2; have HC2 := hide hb2; have HR2 := hide (HR0.out.keep hk2 (by omega)); have HB2 := hide (HB0.out.trans (hk2.below HB0.out.size (fun k hk => by omega))); clear hb2 hk2 HC0 HR0) | (refine wp_copy_cfg _ rfl _ _ rfl _ _ cb cc xs HKB.out HC2.out rfl _ rfl (HLw.out.below HB2.out) xs.length hmin HCC.out ?_; intro w3 hb3 hk3; have HC3 := hide hb3; have HR3 := hide (HR2.out.keep hk3 (by omega)); have HB3 := hide (HB2.out.trans (hk3.below HB2.out.size (fun k hk => by omega))); clear hb3 hk3 HC2 HR2) | (refine wp_load_cfg_g rfl _ rfl _ rfl HKC.out HC3.out ?_) | (go_at_call 13; refine (CM.out _).mono ?_; rintro e' w4 ⟨rfl, hB4⟩; have HR4 := hide (HR3.out.belowV hB4); have HC4 := hide (HC3.out.belowV hB4); have HB4 := hide (HB3.out.trans (hB4.mono HB3.out.size)); clear hB4 HC3 HR3) | (refine wp_load_cfg rfl _ rfl _ rfl HKC.out HC4.out ?_) | (refine wp_store_cfg rfl rfl _ _ rfl _ rfl zeroC_ok HKC.out rfl HR4.out ?_; intro w5 hb5 hk5; have HR5 := hide hb5; have HB5 := hide (HB4.out.trans (hk5.below HB4.out.size (fun k hk => by omega))); clear hb5 hk5 HR4))
      refine bodyPost_ret (v := .tuple #[.agg cc.arr, .int .i64 0]) (results_box2 Tryd.results27 _ _ w.heap.size rfl rfl HR5.out Tryd.underlying25 rfl (by rw [HKC.out.size]; exact infoCfg)) rfl ⟨by rw [HF2.out, HW2.out], HB5.out⟩
  · have hmin : Nat.min xs.length 8 = 8 := Nat.min_eq_right (by omega)
    obtain ⟨cc, hcc⟩ : ∃ c : Cf, c = ⟨cb.e, cb.r, cb.w, xs.take 8 ++ cb.vs.drop 8⟩ := ⟨_, rfl⟩
    have HCC := hide hcc
    have d1 : decide ((8 : Int) < (xs.length : Int)) = true := decide_eq_true (by omega)
    have HF2 : Hid (makeF e r w0 xs = zeroC) := hide (by unfold makeF; rw [decide_eq_false h8]; rfl)
    have HW2 : Hid (makeW e r w0 xs = 16) := hide (by unfold makeW; rw [decide_eq_false h8]; rfl)
    clear hcc HCB
    go_enter Tryd.func27, Tryd.ntmps27
    go_wp2_with (first | (refine wp_store_cfg rfl rfl _ _ rfl _ rfl zeroC_ok HKB.out HAB.out HC0.out ?_; intro w2 hb2 hk2; have HC2 := hide hb2; have HR2 := hide (HR0.out.keep hk2 (by omega)); have HB2 := hide (HB0.out.trans (hk2.below HB0.out.size (fun k hk => by omega))); clear hb2 hk2 HC0 HR0) | (refine wp_copy_cfg _ rfl _ _ rfl _ _ cb cc xs HKB.out HC2.out rfl _ rfl (HLw.out.below HB2.out) 8 hmin HCC.out ?_; intro w3 hb3 hk3; have HC3 := hide hb3; have HR3 := hide (HR2.out.keep hk3 (by omega)); have HB3 := hide (HB2.out.trans (hk3.below HB2.out.size (fun k hk => by omega))); clear hb3 hk3 HC2 HR2) | (refine wp_store_cfg rfl rfl _ _ rfl _ rfl zeroC_ok zeroC_ok rfl HR3.out ?_; intro w5 hb5 hk5; have HR5 := hide hb5; have HB5 := hide (HB3.out.trans (hk5.below HB3.out.size (fun k hk => by omega))); clear hb5 hk5 HR3))
    refine bodyPost_ret (v := .tuple #[.agg zeroC.arr, .int .i64 16]) (results_box2 Tryd.results27 _ _ w.heap.size rfl rfl HR5.out Tryd.underlying25 rfl (by rw [zeroC_ok.size]; exact infoCfg)) rfl ⟨by rw [HF2.out, HW2.out], HB5.out⟩

end Go.Proofs.YtnljibmdcknmeabDoor
