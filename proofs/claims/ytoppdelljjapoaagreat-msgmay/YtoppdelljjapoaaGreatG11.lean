/-
  Own texts put together: MgDo. Own work.
-/
import Derived.Test.YtoppdelljjapoaaGreatG10
import Derived.Test.YtoppdelljjapoaaGreatG03
namespace Go.Proofs.YtoppdelljjapoaaGreat
section
open Go.RowKit Classical

/-- A message as a value: its writes lie there. -/
def MgLies (w : World) (v : Value) (m : MsgP) : Prop := ∃ (ao : Option Addr) (cap : Nat), v = .agg (msgA m (.slice ao m.wr.length cap)) ∧ RSrc wrE w (.slice ao m.wr.length cap) m.wr
theorem MgLies.below {w w' : World} {v : Value} {m : MsgP} (h : MgLies w v m) (hB : Below w.heap.size w w') : MgLies w' v m := by
  obtain ⟨ao, cap, rfl, hs⟩ := h
  exact ⟨ao, cap, rfl, hs.below hB⟩
structure MsgDo : Prop where
  may : ∀ {w : World} {v : Value} {m : MsgP}, MsgOk m → MgLies w v m → Calls Tryz.prog 11 #[v] w fun e w' => e = .returned (.bool (mayM m)) ∧ Below w.heap.size w w'
  item : ∀ (w : World) {i : ItP}, ItOk i → Calls Tryz.prog 14 #[.agg (itA i)] w fun e w' => e = .returned (.bool (itMayB i)) ∧ Below w.heap.size w w'
  writes : ∀ {w : World} {v : Value} {ws : List WrP}, (∀ x ∈ ws, KeyOk x.key ∧ ItOk x.it) → RSrc wrE w v ws → Calls Tryz.prog 16 #[v] w fun e w' => e = .returned (.bool (wsMayB ws)) ∧ Below w.heap.size w w'
  same : ∀ {w : World} {v u : Value} {m k : MsgP}, MsgOk m → MsgOk k → MgLies w v m → MgLies w u k → Calls Tryz.prog 18 #[v, u] w fun e w' => e = .returned (.bool (decide (m = k))) ∧ Below w.heap.size w w'
  enc : ∀ {w : World} {v : Value} {m : MsgP}, MsgOk m → MgLies w v m → Calls Tryz.prog 20 #[v] w fun e w' => ∃ u, e = .returned (.tuple #[u, .int .i64 (if mayM m then 0 else 1)]) ∧ Lies .u8 w' u (if mayM m then encM m else []) ∧ Below w.heap.size w w'
  dec : ∀ {w : World} {v : Value} {b : List Int}, b.length ≤ 1000000 → (∀ c ∈ b, 0 ≤ c ∧ c < 256) → Lies .u8 w v b → Calls Tryz.prog 23 #[v] w fun e w' => ∃ u, e = .returned (.tuple #[u, .agg #[.int .i64 (decM b).2.1, .int .i64 ((decM b).2.2 : Int)]]) ∧ MgLies w' u (decM b).1 ∧ Below w.heap.size w w'
def ackM : MsgP := { zeroM 8 with tx := (1, 2, 3) }
theorem ack_ok : MsgOk ackM := ⟨by decide, by decide, by decide, by decide, ⟨by decide, by decide⟩, by decide, by decide, by decide, by decide, ⟨by decide, by decide, ⟨by decide, by decide, by decide, by decide, by decide⟩⟩, fun x hx => by cases hx⟩
theorem ack_facts : mayM ackM = true ∧ encM ackM = [8, 1, 2, 3] ∧ decM [8, 1, 2, 3] = (ackM, 0, 0) := by
  have h1 : mayM ackM = true := by decide
  have h2 : encM ackM = [8, 1, 2, 3] := by decide
  have hok := ack_ok
  exact ⟨h1, h2, by rw [← h2]; exact dec_enc hok h1⟩
theorem flt_one : (#[.int .i64 0, .int .i64 0] : Array Value).all (·.oneCell') = true := by simp [Value.oneCell']
theorem infoFlt : (Tryz.prog.info? 53).map (·.size) = some 2 := by kernel_rfl
theorem eq_flt10 (a b c d : Int) (w : World) : (Op.equalIn 10000 53 (.agg #[.int .i64 a, .int .i64 b]) (.agg #[.int .i64 c, .int .i64 d])).run Tryz.prog w = .ok (a == c && b == d) w := by
  have hS : Tryz.prog.underlying 53 = some (.struct (Tryz.prog.fieldsOf 53)) := by kernel_rfl
  rw [show (10000 : Nat) = 9999 + 1 from rfl, run_equalIn_agg w 9999 53 _ _ hS (by kernel_rfl)]
  simp only [Program.fieldsOf, Tryz.underlying53]
  go_simp
  by_cases h1 : a = c <;> by_cases h2 : b = d <;> simp [h1, h2]
theorem eql_flt10 (a b c d : Int) (w : World) : (binOp .eql 53 (.agg #[.int .i64 a, .int .i64 b]) (.agg #[.int .i64 c, .int .i64 d])).run Tryz.prog w = .ok (.bool (a == c && b == d)) w := by
  rw [run_eql_struct, eq_flt10]; rfl
set_option maxRecDepth 100000 in
set_option maxHeartbeats 3200000 in
theorem alive_by10 (H : MsgDo) (w : World) : Calls Tryz.prog 10 #[] w fun e w' => e = .returned (.bool true) ∧ Below w.heap.size w w' := by
  have HF := hide ack_facts
  have heq := fun W => eql_flt10 0 0 0 0 W
  go_enter Tryz.func10, Tryz.ntmps10
  go_wp2_with fail
  refine (H.enc (m := ackM) ack_ok ⟨none, 0, rfl, RSrc.nil _⟩).mono ?_
  rintro e w1 ⟨u, rfl, hL, hB⟩
  rw [HF.out.1, HF.out.2.1] at hL
  simp only [if_true] at hL
  have HL := hide hL
  have HB := hide hB
  obtain ⟨ub, uo, uc, hu⟩ : ∃ ub uo uc, u = .slice (some ⟨ub, uo, none⟩) 4 uc := by
    rcases hL with ⟨h, _⟩ | ⟨_, b, off, cap, e, _⟩
    · cases h
    · exact ⟨b, off, cap, e⟩
  subst hu
  have C := H.dec (b := [8, 1, 2, 3]) (by decide) (by decide) HL.out
  rw [HF.out.2.2] at C
  have HC := hide C
  rw [HF.out.1]
  clear hL hB C
  go_wp2_with fail
  refine HC.out.mono ?_
  rintro e w2 ⟨v, rfl, hM, hB2⟩
  obtain ⟨ao, cap, rfl, hM⟩ := hM
  have HB2 := hide (HB.out.trans (hB2.mono HB.out.size))
  have HL2 := hide (HL.out.below hB2)
  clear hM hB2
  have HA : Hid (Below w2.heap.size w2 ((w2.alloc (.cells (msgA (zeroM 0) (.slice none 0 0)) 39)).alloc (.cells #[.int .i64 0, .int .i64 0] 53))) := hide (((Below.refl _ _).alloc (Nat.le_refl _) _).alloc (by simp) _)
  have HZ1 : Hid (Box ((w2.alloc (.cells (msgA (zeroM 0) (.slice none 0 0)) 39)).alloc (.cells #[.int .i64 0, .int .i64 0] 53)) w2.heap.size (msgA (zeroM 0) (.slice none 0 0)) 39) := hide ((box_new w2 _ _).belowI (alloc_below10 _ _))
  have HZ2 : Hid (Box ((w2.alloc (.cells (msgA (zeroM 0) (.slice none 0 0)) 39)).alloc (.cells #[.int .i64 0, .int .i64 0] 53)) (w2.heap.size + 1) #[.int .i64 0, .int .i64 0] 53) := hide (by have := box_new (w2.alloc (.cells (msgA (zeroM 0) (.slice none 0 0)) 39)) #[.int .i64 0, .int .i64 0] 53; simpa using this)
  go_wp2_with (first | (refine wp_store_box rfl rfl _ _ rfl w2.heap.size rfl (cs' := msgA ackM (.slice ao ackM.wr.length cap)) rfl HZ1.out rfl infoMsg (msg_one _ _ _ _) ?_; intro w3 hb3 hk3; have HM := hide hb3; have HZ3 := hide (HZ2.out.keep hk3 (by omega)); have HA3 := hide (HA.out.trans (hk3.below HA.out.size (fun k hk => by omega))); clear hb3 hk3) | (refine wp_store_box rfl rfl _ _ rfl (w2.heap.size + 1) rfl (cs' := #[.int .i64 0, .int .i64 0]) rfl HZ3.out rfl infoFlt flt_one ?_; intro w4 hb4 hk4; have HM4 := hide (HM.out.keep hk4 (by omega)); have HF4 := hide hb4; have HA4 := hide (HA3.out.trans (hk4.below HA3.out.size (fun k hk => by omega))); clear hb4 hk4))
  have HN := hide (lies_new .u8 w4 [8, 1, 2, 3] 5 (by simp) (by decide))
  have HA5 := hide (alloc_below10 w4 (.cells #[.int .u8 8, .int .u8 1, .int .u8 2, .int .u8 3] 5))
  refine (same_any _ _ [8, 1, 2, 3] _ ((HL2.out.below HA4.out).below HA5.out) HN.out).mono ?_
  rintro e w5 ⟨rfl, hw5⟩
  rw [hw5]
  clear hw5
  have HM5 := HM4.out.belowI HA5.out
  have HF5 := HF4.out.belowI HA5.out
  have HE := hide (HB2.out.trans ((HA4.out.trans (HA5.out.mono HA4.out.size)).mono HB2.out.size))
  obtain ⟨w5, h5⟩ : ∃ w5, w5 = w4.alloc (.cells #[.int .u8 8, .int .u8 1, .int .u8 2, .int .u8 3] 5) := ⟨_, rfl⟩
  have y0 := HM5.cell 0 (.int .u8 8) rfl
  have y3 := HM5.cell 3 (.int .u32 3) rfl
  have z0 := HF5.cell 0 (.int .i64 0) rfl
  have z1 := HF5.cell 1 (.int .i64 0) rfl
  rw [← h5] at y0 y3 z0 z1 HE
  have hW5 := h5.symm
  clear HM5 HF5 h5
  go_wp2_with fail
  go_ret
  exact ⟨rfl, HE.out⟩
end
end Go.Proofs.YtoppdelljjapoaaGreat
