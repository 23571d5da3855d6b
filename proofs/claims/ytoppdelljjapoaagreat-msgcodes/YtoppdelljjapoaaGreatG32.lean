/-
  Own texts put together: MgR5. Own work.
-/
import Derived.Test.YtoppdelljjapoaaGreatG31
namespace Go.Proofs.YtoppdelljjapoaaGreat
section
open Go.RowKit Classical

/-- A value goes into the midst of a variable. -/
theorem wp_store_midbox {P : Program} {ops : Array Oper} {rest : List Oper} {op : Oper} {a : Act} {w : World} {Q : Exit → Act → World → Prop} {t t0 : TypeId} (hgd : op.guard = none) (hdst : op.dst = none) (x y : Operand) (ho : op.op = .store t x y)
    (p o : Nat) (hx : a.eval x = .pointer (some ⟨p, o, none⟩)) {v : Value} {cs cs' : Array Value} (hy : a.eval y = v) (hb : Box w p cs t0) (hcs : cs' = (cs.toList.take o ++ v.cells.toList ++ cs.toList.drop (o + v.cells.toList.length)).toArray) (hsz : decide (o + v.cells.toList.length ≤ cs.size) = true) (hi : (P.info? t).map (·.size) = some v.cells.size) (h1 : v.cells.toList.all (·.oneCell') = true)
    (h : ∀ w', Box w' p cs' t0 → KeepBut (fun k => k = p) w w' → wpList P ops Q rest a w') : wpList P ops Q (op :: rest) a w := by
  refine wpList_plain hgd fun K hK => ?_
  have hr : (storeVar t ⟨p, o, none⟩ v).run P w = .ok () (w.setRow p cs') := by
    cases hq : P.info? t with
    | none => simp [hq] at hi
    | some i =>
      have hs : v.cells.size = i.size := by simp [hq] at hi; omega
      have h0 := run_storeCells_at (P := P) p o t0 v.cells.toList 0 cs w hb (by simpa using hsz) (List.all_eq_true.1 h1)
      simp only [Nat.add_zero] at h0
      rw [← hcs] at h0
      simp [storeVar, sizeOf, typeInfo, hq, hs, h0]
  unfold Oper.wp execOp
  simp only [ho, hx, hy, Instr.storeAt, Instr.sureAddr, Sem.run_bind, Sem.run_pure, Result.andThen_ok, hr]
  show K (a.put op.dst undef) _
  rw [hdst]
  refine hK _ _ (h _ ?_ ?_)
  · exact setRow_heap w p cs cs' t0 (0, 0) hb
  · exact ⟨rfl, rfl, rfl, by simp [World.setRow], fun k _ hS => setRow_other w p k cs' hS⟩
def putS : List Nat → Value → Value → Value
  | [], _, v => v
  | f :: fs, s, v => putS fs s (if f = 9 then s else v)
theorem putS_src {w : World} {s : Value} {m : MsgP} (hs : RSrc wrE w s m.wr) : ∀ (fs : List Nat), (∀ f ∈ fs, f < 10) → ∀ (v : Value) (a : MsgP), RSrc wrE w v a.wr → RSrc wrE w (putS fs s v) (putFs fs m a).wr
  | [], _, _, _, h => h
  | f :: fs, hf, v, a, h => putS_src hs fs (fun g hg => hf g (List.mem_cons_of_mem _ hg)) _ _ (by
    have h10 := hf f (List.mem_cons_self ..)
    refine ten (P := fun f => RSrc wrE w (if f = 9 then s else v) (putF f m a).wr) h10 ?_ ?_ ?_ ?_ ?_ ?_ ?_ ?_ ?_ ?_
    all_goals first | exact h | exact hs)
theorem letters_at {kind k : Nat} (h : k < (fieldsN kind).length) (w : World) : (Instr.index 9 (.string (strOfNums (lettersF kind))) (.int .i64 (k : Int))).run Tryz.prog w = .ok (.int .u8 (letterF (fieldsN kind)[k])) w := by
  have hl : (strOfNums (lettersF kind)).size = (fieldsN kind).length := by rw [strOf_size10]; simp [lettersF]
  have h10 := (fields_facts kind).2 _ (List.getElem_mem h)
  have hb : 0 ≤ letterF (fieldsN kind)[k] ∧ letterF (fieldsN kind)[k] < 256 := ten (P := fun f => 0 ≤ letterF f ∧ letterF f < 256) h10 (by decide) (by decide) (by decide) (by decide) (by decide) (by decide) (by decide) (by decide) (by decide) (by decide)
  rw [run_index_string w 9 _ _ _ Tryz.underlying9, dif_pos ⟨by omega, by rw [hl]; omega⟩]
  congr 2
  have hk : ((k : Int)).toNat = k := by omega
  simp only [hk]
  have : (strOfNums (lettersF kind))[k]'(by rw [hl]; exact h) = UInt8.ofNat (letterF (fieldsN kind)[k]).toNat := by
    simp [strOfNums, lettersF, ByteArray.getElem_eq_getElem_data]
  rw [this]
  rw [UInt8.toNat_ofNat']
  omega
theorem buildMsg (k : Nat) (w : World) : (Instr.build 35 #[(0, .int .u8 (k : Int))]).run Tryz.prog w = .ok (.agg (msgA (zeroM k) (.slice none 0 0))) w := by kernel_rfl
theorem infoU8k : (Tryz.prog.info? 5).map (·.size) = some 1 := by kernel_rfl
theorem infoU32k : (Tryz.prog.info? 22).map (·.size) = some 1 := by kernel_rfl
theorem infoWrsk : (Tryz.prog.info? 33).map (·.size) = some 1 := by kernel_rfl
set_option maxRecDepth 100000 in
set_option maxHeartbeats 6400000 in
theorem rkept_any (m : MsgP) (ao : Option Addr) (l c : Nat) (w : World) : Calls Tryz.prog 45 #[.agg (msgA m (.slice ao l c))] w fun e w' => e = .returned (.agg (msgA (putFs (fieldsN m.kind) m (zeroM m.kind)) (putS (fieldsN m.kind) (.slice ao l c) (.slice none 0 0)))) ∧ Below w.heap.size w w' := by
  have hA0 := alloc_below10 w (.cells (msgA m (.slice ao l c)) 35)
  have hX0 := box_new w (msgA m (.slice ao l c)) 35
  have hZ0 : (w.alloc (.cells (msgA m (.slice ao l c)) 35)).heap.size = w.heap.size + 1 := by simp
  obtain ⟨w0, hw0⟩ : ∃ w0, w0 = w.alloc (.cells (msgA m (.slice ao l c)) 35) := ⟨_, rfl⟩
  rw [← hw0] at hA0 hX0 hZ0
  have hA1 := alloc_below10 w0 (.cells #[.int .u8 0, .int .u8 0, .int .u32 0, .int .u32 0, .int .u32 0, .int .u32 0, .int .u32 0, .int .u8 0, .int .u8 0, .int .u8 0, .int .u8 0, .int .u8 0, .int .u8 0, .int .u8 0, .int .u8 0, .int .u8 0, .int .u32 0, .int .u8 0, .int .u8 0, .int .u32 0, .string ⟨#[]⟩, .int .u32 0, .int .u8 0, .int .u8 0, .int .u8 0, .int .u8 0, .int .u8 0, .int .u8 0, .int .u8 0, .int .u8 0, .int .u8 0, .int .u8 0, .slice none 0 0] 35)
  have hX1 := box_new w0 #[.int .u8 0, .int .u8 0, .int .u32 0, .int .u32 0, .int .u32 0, .int .u32 0, .int .u32 0, .int .u8 0, .int .u8 0, .int .u8 0, .int .u8 0, .int .u8 0, .int .u8 0, .int .u8 0, .int .u8 0, .int .u8 0, .int .u32 0, .int .u8 0, .int .u8 0, .int .u32 0, .string ⟨#[]⟩, .int .u32 0, .int .u8 0, .int .u8 0, .int .u8 0, .int .u8 0, .int .u8 0, .int .u8 0, .int .u8 0, .int .u8 0, .int .u8 0, .int .u8 0, .slice none 0 0] 35
  have hZ1 : (w0.alloc (.cells #[.int .u8 0, .int .u8 0, .int .u32 0, .int .u32 0, .int .u32 0, .int .u32 0, .int .u32 0, .int .u8 0, .int .u8 0, .int .u8 0, .int .u8 0, .int .u8 0, .int .u8 0, .int .u8 0, .int .u8 0, .int .u8 0, .int .u32 0, .int .u8 0, .int .u8 0, .int .u32 0, .string ⟨#[]⟩, .int .u32 0, .int .u8 0, .int .u8 0, .int .u8 0, .int .u8 0, .int .u8 0, .int .u8 0, .int .u8 0, .int .u8 0, .int .u8 0, .int .u8 0, .slice none 0 0] 35)).heap.size = w0.heap.size + 1 := by simp
  obtain ⟨w1, hw1⟩ : ∃ w1, w1 = w0.alloc (.cells #[.int .u8 0, .int .u8 0, .int .u32 0, .int .u32 0, .int .u32 0, .int .u32 0, .int .u32 0, .int .u8 0, .int .u8 0, .int .u8 0, .int .u8 0, .int .u8 0, .int .u8 0, .int .u8 0, .int .u8 0, .int .u8 0, .int .u32 0, .int .u8 0, .int .u8 0, .int .u32 0, .string ⟨#[]⟩, .int .u32 0, .int .u8 0, .int .u8 0, .int .u8 0, .int .u8 0, .int .u8 0, .int .u8 0, .int .u8 0, .int .u8 0, .int .u8 0, .int .u8 0, .slice none 0 0] 35) := ⟨_, rfl⟩
  rw [← hw1] at hA1 hX1 hZ1
  have hA2 := alloc_below10 w1 (.cells #[.int .u8 0, .int .u8 0, .int .u32 0, .int .u32 0, .int .u32 0, .int .u32 0, .int .u32 0, .int .u8 0, .int .u8 0, .int .u8 0, .int .u8 0, .int .u8 0, .int .u8 0, .int .u8 0, .int .u8 0, .int .u8 0, .int .u32 0, .int .u8 0, .int .u8 0, .int .u32 0, .string ⟨#[]⟩, .int .u32 0, .int .u8 0, .int .u8 0, .int .u8 0, .int .u8 0, .int .u8 0, .int .u8 0, .int .u8 0, .int .u8 0, .int .u8 0, .int .u8 0, .slice none 0 0] 35)
  have hX2 := box_new w1 #[.int .u8 0, .int .u8 0, .int .u32 0, .int .u32 0, .int .u32 0, .int .u32 0, .int .u32 0, .int .u8 0, .int .u8 0, .int .u8 0, .int .u8 0, .int .u8 0, .int .u8 0, .int .u8 0, .int .u8 0, .int .u8 0, .int .u32 0, .int .u8 0, .int .u8 0, .int .u32 0, .string ⟨#[]⟩, .int .u32 0, .int .u8 0, .int .u8 0, .int .u8 0, .int .u8 0, .int .u8 0, .int .u8 0, .int .u8 0, .int .u8 0, .int .u8 0, .int .u8 0, .slice none 0 0] 35
  obtain ⟨w2, hw2⟩ : ∃ w2, w2 = w1.alloc (.cells #[.int .u8 0, .int .u8 0, .int .u32 0, .int .u32 0, .int .u32 0, .int .u32 0, .int .u32 0, .int .u8 0, .int .u8 0, .int .u8 0, .int .u8 0, .int .u8 0, .int .u8 0, .int .u8 0, .int .u8 0, .int .u8 0, .int .u32 0, .int .u8 0, .int .u8 0, .int .u32 0, .string ⟨#[]⟩, .int .u32 0, .int .u8 0, .int .u8 0, .int .u8 0, .int .u8 0, .int .u8 0, .int .u8 0, .int .u8 0, .int .u8 0, .int .u8 0, .int .u8 0, .slice none 0 0] 35) := ⟨_, rfl⟩
  rw [← hw2] at hA2 hX2
  have x0 := hX0.cell 0 (.int .u8 (m.kind : Int)) rfl
  obtain ⟨p0, hp0⟩ : ∃ p, w.heap.size = p := ⟨_, rfl⟩
  obtain ⟨p1, hp1⟩ : ∃ p, w0.heap.size = p := ⟨_, rfl⟩
  obtain ⟨p2, hp2⟩ : ∃ p, w1.heap.size = p := ⟨_, rfl⟩
  rw [hp0] at hA0 hX0 hZ0 x0 ⊢
  rw [hp1] at hA1 hX1 hZ0 hZ1
  rw [hp2] at hA2 hX2 hZ1
  have y0 := (hX0.belowI (hp1 ▸ hA1)).cell 0 (.int .u8 (m.kind : Int)) rfl
  have z0 := ((hX0.belowI (hp1 ▸ hA1)).belowI (hp2 ▸ hA2)).cell 0 (.int .u8 (m.kind : Int)) rfl
  have HB := hide (hA0.trans ((hA1.mono (by omega)).trans (hA2.mono (by omega))))
  have HX0 := hide ((hX0.belowI (hp1 ▸ hA1)).belowI (hp2 ▸ hA2))
  have HX1 : Hid (Box w2 p1 (msgA (zeroM 0) (.slice none 0 0)) 35) := hide (hX1.belowI (hp2 ▸ hA2))
  have HX2 := hide hX2
  have HZ := hide (And.intro hZ0 hZ1)
  have HNE : Hid (p0 ≠ p2 ∧ p1 ≠ p2 ∧ p0 ≠ p1) := hide (by omega)
  have hW0 := hw0.symm
  have hW1 := hw1.symm
  have hW2 := hw2.symm
  have hbm := fun W => buildMsg m.kind W
  have HL : Hid (∀ f ∈ fieldsN m.kind, f < 10) := hide (fields_facts m.kind).2
  have HI : Hid (∀ k (h : k < (fieldsN m.kind).length) W, (Instr.index 9 (.string (strOfNums (lettersF m.kind))) (.int .i64 (k : Int))).run Tryz.prog W = .ok (.int .u8 (letterF (fieldsN m.kind)[k])) W) := hide (fun k h W => letters_at h W)
  have C := hide (fun W => rfields_any m.kind W)
  have HS : Hid ((strOfNums (lettersF m.kind)).size = (fieldsN m.kind).length) := hide (by rw [strOf_size10]; simp [lettersF])
  have hLM : (fieldsN m.kind).length ≤ 6 := by unfold fieldsN; repeat' split
                                               all_goals decide
  obtain ⟨s, hs⟩ : ∃ s, s = strOfNums (lettersF m.kind) := ⟨_, rfl⟩
  rw [← hs] at HI C HS
  obtain ⟨fs, hfs⟩ : ∃ fs, fs = fieldsN m.kind := ⟨_, rfl⟩
  rw [← hfs] at HI HS HL hLM ⊢
  obtain ⟨L, hL⟩ : ∃ L, L = fs.length := ⟨_, rfl⟩
  have hsz : s.size = L := by rw [HS.out, hL]
  rw [← hL] at hLM
  have HLn := hide hL
  obtain ⟨KM, hKM⟩ : ∃ KM, KM = putFs fs m (zeroM m.kind) := ⟨_, rfl⟩
  obtain ⟨KS, hKS⟩ : ∃ KS, KS = putS fs (.slice ao l c) (.slice none 0 0) := ⟨_, rfl⟩
  rw [← hKM, ← hKS]
  have HKM := hide hKM
  have HKS := hide hKS
  clear hA0 hA1 hA2 hX0 hX1 hX2 hw0 hw1 hw2 hs hfs hL hKM hKS hZ0 hZ1 HS
  go_enter Tryz.func45, Tryz.ntmps45
  go_wp2_with (first
    | (refine wp_store_box (cs' := msgA (zeroM m.kind) (.slice none 0 0)) rfl rfl _ _ rfl p2 rfl rfl HX2.out rfl infoRMsg (by simp [Value.oneCell']) ?_; intro w3 hb3 hk3; have HB3 := hide hb3; have HK3 := hide hk3; have q0 := (HX0.out.keep hk3 HNE.out.1).cell 0 (.int .u8 (m.kind : Int)) rfl; clear hb3 hk3)
    | (go_at_call 44; refine (C.out _).mono ?_; rintro e w4 ⟨rfl, rfl⟩))
  have HX3 := hide (HX0.out.keep HK3.out HNE.out.1)
  have HY3 := hide (HX1.out.keep HK3.out HNE.out.2.1)
  have HD3 := hide (HB.out.trans (HK3.out.below (B := p0) (Nat.le_of_lt HX0.out.lt) (fun k e => by have := HZ.out; have e : k = p2 := e; omega)))
  clear x0 y0 z0 q0 hW0 hW1 hW2 hp0 hp1 hp2 hbm
  go_loopg [5] L (fun g i wr => ∃ (k : Nat) (A : MsgP) (ax : Option Addr) (lx cx : Nat), k + g = L ∧ i = .int .i64 k ∧ Hid (Box wr p2 (msgA A (.slice ax lx cx)) 35) ∧ Hid (Box wr p1 (msgA (zeroM 0) (.slice none 0 0)) 35) ∧ Hid (Box wr p0 (msgA m (.slice ao l c)) 35) ∧ Hid (Below p0 w wr) ∧ Hid (putFs (fs.drop k) m A = KM) ∧ Hid (putS (fs.drop k) (.slice ao l c) (.slice ax lx cx) = KS))
  case atStart => exact ⟨0, zeroM m.kind, none, 0, 0, by omega, rfl, HB3, HY3, HX3, HD3, hide HKM.out.symm, hide HKS.out.symm⟩
  case round =>
    clear HX0 HX1 HX2 HB HB3 HK3 HX3 HY3 HD3 C
    obtain ⟨k, A, ax, lx, cx, hk, rfl, HO, HY, HM, HD, HPM, HPS⟩ := hrel
    cases gk with
    | zero =>
      obtain rfl : k = L := by omega
      have hz : ¬ ((k : Int) < (k : Int)) := by omega
      have HE1 : Hid (KM = A) := hide (by rw [← HPM.out, HLn.out, List.drop_length]; rfl)
      have HE2 : Hid (KS = .slice ax lx cx) := hide (by rw [← HPS.out, HLn.out, List.drop_length]; rfl)
      go_wp2_with (first
        | (refine wp_load_box rfl _ rfl p2 rfl HO.out Tryz.underlying35 rfl infoRMsg ?_)
        | (refine wp_store_box (cs' := msgA A (.slice ax lx cx)) rfl rfl _ _ rfl p1 rfl rfl HY.out rfl infoRMsg (by simp [Value.oneCell']) ?_; intro w6 hb6 hk6; have HB6 := hide hb6; have HK6 := hide hk6; clear hb6 hk6))
      refine bodyPost_ret (v := .agg (msgA A (.slice ax lx cx))) (results_box Tryz.results45 _ _ p1 rfl HB6.out Tryz.underlying35 rfl infoRMsg) rfl ⟨by rw [HE1.out, HE2.out], HD.out.trans (HK6.out.below (Nat.le_of_lt HM.out.lt) (fun j e => by have := HZ.out; have e : j = p1 := e; omega))⟩
    | succ g =>
      have hz : (k : Int) < (L : Int) := by omega
      have hkl : k < fs.length := by rw [← HLn.out]; omega
      obtain ⟨f, hf⟩ : ∃ f, f = fs[k] := ⟨_, rfl⟩
      have hix := HI.out k hkl
      have h10 := HL.out _ (List.getElem_mem hkl)
      have HPM2 := HPM.out
      have HPS2 := HPS.out
      rw [List.drop_eq_getElem_cons hkl] at HPM2 HPS2
      rw [← hf] at hix h10 HPM2 HPS2
      have HPM := hide HPM2
      have HPS := hide HPS2
      clear HPM2 HPS2 hf hkl HI HL HKM HKS HLn
      have hc : f = 0 ∨ f = 1 ∨ f = 2 ∨ f = 3 ∨ f = 4 ∨ f = 5 ∨ f = 6 ∨ f = 7 ∨ f = 8 ∨ f = 9 := by omega
      clear h10
      rcases hc with rfl | rfl | rfl | rfl | rfl | rfl | rfl | rfl | rfl | rfl
      · have hidx : ∀ W, (Instr.index 9 (.string s) (.int .i64 (k : Int))).run Tryz.prog W = .ok (.int .u8 116) W := hix
        clear hix
        have x1 := HM.out.cell 1 _ rfl
        have x2 := HM.out.cell 2 _ rfl
        have x3 := HM.out.cell 3 _ rfl
        go_wp2_with (first
          | (refine wp_store_midbox (v := .agg (txE m.tx).toArray) (cs' := msgA (putF 0 m A) (.slice ax lx cx)) rfl rfl _ _ rfl p2 1 rfl rfl HO.out rfl rfl infoTx10 rfl ?_; intro w6 hb6 hk6; have HB6 := hide hb6; have HK6 := hide hk6; clear hb6 hk6))
        go_roundg g
        case measure => omega
        case rel => exact ⟨k + 1, putF 0 m A, ax, lx, cx, by omega, by first | rfl | go_num, HB6, hide (HY.out.keep HK6.out HNE.out.2.1), hide (HM.out.keep HK6.out HNE.out.1), hide (HD.out.trans (HK6.out.below (Nat.le_of_lt HM.out.lt) (fun j e => by have := HZ.out; have e : j = p2 := e; omega))), HPM, HPS⟩
      · have hidx : ∀ W, (Instr.index 9 (.string s) (.int .i64 (k : Int))).run Tryz.prog W = .ok (.int .u8 99) W := hix
        clear hix
        have x4 := HM.out.cell 4 _ rfl
        go_wp2_with (first
          | (refine wp_store_midbox (v := .int .u32 (m.time : Int)) (cs' := msgA (putF 1 m A) (.slice ax lx cx)) rfl rfl _ _ rfl p2 4 rfl rfl HO.out rfl rfl infoU32k rfl ?_; intro w6 hb6 hk6; have HB6 := hide hb6; have HK6 := hide hk6; clear hb6 hk6))
        go_roundg g
        case measure => omega
        case rel => exact ⟨k + 1, putF 1 m A, ax, lx, cx, by omega, by first | rfl | go_num, HB6, hide (HY.out.keep HK6.out HNE.out.2.1), hide (HM.out.keep HK6.out HNE.out.1), hide (HD.out.trans (HK6.out.below (Nat.le_of_lt HM.out.lt) (fun j e => by have := HZ.out; have e : j = p2 := e; omega))), HPM, HPS⟩
      · have hidx : ∀ W, (Instr.index 9 (.string s) (.int .i64 (k : Int))).run Tryz.prog W = .ok (.int .u8 103) W := hix
        clear hix
        have x5 := HM.out.cell 5 _ rfl
        have x6 := HM.out.cell 6 _ rfl
        go_wp2_with (first
          | (refine wp_store_midbox (v := .agg (rgE m.reg).toArray) (cs' := msgA (putF 2 m A) (.slice ax lx cx)) rfl rfl _ _ rfl p2 5 rfl rfl HO.out rfl rfl infoReg10 rfl ?_; intro w6 hb6 hk6; have HB6 := hide hb6; have HK6 := hide hk6; clear hb6 hk6))
        go_roundg g
        case measure => omega
        case rel => exact ⟨k + 1, putF 2 m A, ax, lx, cx, by omega, by first | rfl | go_num, HB6, hide (HY.out.keep HK6.out HNE.out.2.1), hide (HM.out.keep HK6.out HNE.out.1), hide (HD.out.trans (HK6.out.below (Nat.le_of_lt HM.out.lt) (fun j e => by have := HZ.out; have e : j = p2 := e; omega))), HPM, HPS⟩
      · have hidx : ∀ W, (Instr.index 9 (.string s) (.int .i64 (k : Int))).run Tryz.prog W = .ok (.int .u8 107) W := hix
        clear hix
        have x7 := HM.out.cell 7 _ rfl
        have x8 := HM.out.cell 8 _ rfl
        have x9 := HM.out.cell 9 _ rfl
        have x10 := HM.out.cell 10 _ rfl
        have x11 := HM.out.cell 11 _ rfl
        have x12 := HM.out.cell 12 _ rfl
        have x13 := HM.out.cell 13 _ rfl
        have x14 := HM.out.cell 14 _ rfl
        go_wp2_with (first
          | (refine wp_store_midbox (v := .agg (eightA m.key)) (cs' := msgA (putF 3 m A) (.slice ax lx cx)) rfl rfl _ _ rfl p2 7 rfl rfl HO.out rfl rfl infoKey10 rfl ?_; intro w6 hb6 hk6; have HB6 := hide hb6; have HK6 := hide hk6; clear hb6 hk6))
        go_roundg g
        case measure => omega
        case rel => exact ⟨k + 1, putF 3 m A, ax, lx, cx, by omega, by first | rfl | go_num, HB6, hide (HY.out.keep HK6.out HNE.out.2.1), hide (HM.out.keep HK6.out HNE.out.1), hide (HD.out.trans (HK6.out.below (Nat.le_of_lt HM.out.lt) (fun j e => by have := HZ.out; have e : j = p2 := e; omega))), HPM, HPS⟩
      · have hidx : ∀ W, (Instr.index 9 (.string s) (.int .i64 (k : Int))).run Tryz.prog W = .ok (.int .u8 109) W := hix
        clear hix
        have x15 := HM.out.cell 15 _ rfl
        go_wp2_with (first
          | (refine wp_store_midbox (v := .int .u8 (m.mode : Int)) (cs' := msgA (putF 4 m A) (.slice ax lx cx)) rfl rfl _ _ rfl p2 15 rfl rfl HO.out rfl rfl infoU8k rfl ?_; intro w6 hb6 hk6; have HB6 := hide hb6; have HK6 := hide hk6; clear hb6 hk6))
        go_roundg g
        case measure => omega
        case rel => exact ⟨k + 1, putF 4 m A, ax, lx, cx, by omega, by first | rfl | go_num, HB6, hide (HY.out.keep HK6.out HNE.out.2.1), hide (HM.out.keep HK6.out HNE.out.1), hide (HD.out.trans (HK6.out.below (Nat.le_of_lt HM.out.lt) (fun j e => by have := HZ.out; have e : j = p2 := e; omega))), HPM, HPS⟩
      · have hidx : ∀ W, (Instr.index 9 (.string s) (.int .i64 (k : Int))).run Tryz.prog W = .ok (.int .u8 110) W := hix
        clear hix
        have x16 := HM.out.cell 16 _ rfl
        go_wp2_with (first
          | (refine wp_store_midbox (v := .int .u32 (m.no : Int)) (cs' := msgA (putF 5 m A) (.slice ax lx cx)) rfl rfl _ _ rfl p2 16 rfl rfl HO.out rfl rfl infoU32k rfl ?_; intro w6 hb6 hk6; have HB6 := hide hb6; have HK6 := hide hk6; clear hb6 hk6))
        go_roundg g
        case measure => omega
        case rel => exact ⟨k + 1, putF 5 m A, ax, lx, cx, by omega, by first | rfl | go_num, HB6, hide (HY.out.keep HK6.out HNE.out.2.1), hide (HM.out.keep HK6.out HNE.out.1), hide (HD.out.trans (HK6.out.below (Nat.le_of_lt HM.out.lt) (fun j e => by have := HZ.out; have e : j = p2 := e; omega))), HPM, HPS⟩
      · have hidx : ∀ W, (Instr.index 9 (.string s) (.int .i64 (k : Int))).run Tryz.prog W = .ok (.int .u8 119) W := hix
        clear hix
        have x17 := HM.out.cell 17 _ rfl
        go_wp2_with (first
          | (refine wp_store_midbox (v := .int .u8 (m.why : Int)) (cs' := msgA (putF 6 m A) (.slice ax lx cx)) rfl rfl _ _ rfl p2 17 rfl rfl HO.out rfl rfl infoU8k rfl ?_; intro w6 hb6 hk6; have HB6 := hide hb6; have HK6 := hide hk6; clear hb6 hk6))
        go_roundg g
        case measure => omega
        case rel => exact ⟨k + 1, putF 6 m A, ax, lx, cx, by omega, by first | rfl | go_num, HB6, hide (HY.out.keep HK6.out HNE.out.2.1), hide (HM.out.keep HK6.out HNE.out.1), hide (HD.out.trans (HK6.out.below (Nat.le_of_lt HM.out.lt) (fun j e => by have := HZ.out; have e : j = p2 := e; omega))), HPM, HPS⟩
      · have hidx : ∀ W, (Instr.index 9 (.string s) (.int .i64 (k : Int))).run Tryz.prog W = .ok (.int .u8 121) W := hix
        clear hix
        have x18 := HM.out.cell 18 _ rfl
        go_wp2_with (first
          | (refine wp_store_midbox (v := .int .u8 (m.yes : Int)) (cs' := msgA (putF 7 m A) (.slice ax lx cx)) rfl rfl _ _ rfl p2 18 rfl rfl HO.out rfl rfl infoU8k rfl ?_; intro w6 hb6 hk6; have HB6 := hide hb6; have HK6 := hide hk6; clear hb6 hk6))
        go_roundg g
        case measure => omega
        case rel => exact ⟨k + 1, putF 7 m A, ax, lx, cx, by omega, by first | rfl | go_num, HB6, hide (HY.out.keep HK6.out HNE.out.2.1), hide (HM.out.keep HK6.out HNE.out.1), hide (HD.out.trans (HK6.out.below (Nat.le_of_lt HM.out.lt) (fun j e => by have := HZ.out; have e : j = p2 := e; omega))), HPM, HPS⟩
      · have hidx : ∀ W, (Instr.index 9 (.string s) (.int .i64 (k : Int))).run Tryz.prog W = .ok (.int .u8 105) W := hix
        clear hix
        have x19 := HM.out.cell 19 _ rfl
        have x20 := HM.out.cell 20 _ rfl
        have x21 := HM.out.cell 21 _ rfl
        have x22 := HM.out.cell 22 _ rfl
        have x23 := HM.out.cell 23 _ rfl
        have x24 := HM.out.cell 24 _ rfl
        have x25 := HM.out.cell 25 _ rfl
        have x26 := HM.out.cell 26 _ rfl
        have x27 := HM.out.cell 27 _ rfl
        have x28 := HM.out.cell 28 _ rfl
        have x29 := HM.out.cell 29 _ rfl
        have x30 := HM.out.cell 30 _ rfl
        have x31 := HM.out.cell 31 _ rfl
        go_wp2_with (first
          | (refine wp_store_midbox (v := .agg (itA m.item)) (cs' := msgA (putF 8 m A) (.slice ax lx cx)) rfl rfl _ _ rfl p2 19 rfl rfl HO.out rfl rfl infoItem rfl ?_; intro w6 hb6 hk6; have HB6 := hide hb6; have HK6 := hide hk6; clear hb6 hk6))
        go_roundg g
        case measure => omega
        case rel => exact ⟨k + 1, putF 8 m A, ax, lx, cx, by omega, by first | rfl | go_num, HB6, hide (HY.out.keep HK6.out HNE.out.2.1), hide (HM.out.keep HK6.out HNE.out.1), hide (HD.out.trans (HK6.out.below (Nat.le_of_lt HM.out.lt) (fun j e => by have := HZ.out; have e : j = p2 := e; omega))), HPM, HPS⟩
      · have hidx : ∀ W, (Instr.index 9 (.string s) (.int .i64 (k : Int))).run Tryz.prog W = .ok (.int .u8 108) W := hix
        clear hix
        have x32 := HM.out.cell 32 _ rfl
        go_wp2_with (first
          | (refine wp_store_midbox (v := (.slice ao l c)) (cs' := msgA (putF 9 m A) (.slice ao l c)) rfl rfl _ _ rfl p2 32 rfl rfl HO.out rfl rfl infoWrsk rfl ?_; intro w6 hb6 hk6; have HB6 := hide hb6; have HK6 := hide hk6; clear hb6 hk6))
        go_roundg g
        case measure => omega
        case rel => exact ⟨k + 1, putF 9 m A, ao, l, c, by omega, by first | rfl | go_num, HB6, hide (HY.out.keep HK6.out HNE.out.2.1), hide (HM.out.keep HK6.out HNE.out.1), hide (HD.out.trans (HK6.out.below (Nat.le_of_lt HM.out.lt) (fun j e => by have := HZ.out; have e : j = p2 := e; omega))), HPM, HPS⟩
end
end Go.Proofs.YtoppdelljjapoaaGreat
