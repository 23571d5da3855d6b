/-
  Own texts put together: RpNext, RpIn3. Own work.
-/
import Derived.Test.YtlegliimgjmphaaGreatG15
import Derived.Test.YtlegliimgjmphaaGreatG31
namespace Go.Proofs.YtlegliimgjmphaaGreat
section
open Go.RowKit Classical
theorem en_Has : ∀ args w, (callFunc 111 args).run Tryz.prog w = .ok (.enter 111 args) w := enters_of Tryz.func111 (by kernel_rfl) rfl
section
variable {P : Program} {ρ : Operand → Value} {w : World} {dst : Option Tmp} {ty : TypeId} {pos : String} {aft : Array Edge} {gd : Option (Nat × Bool)}
theorem y_yield (g : Operand) (l : Nat) (xs : Array Operand) (vs : Array Value) (tys : Array TypeId) {f : FuncId} {tmps : Array Value} {assign body : Code} (hf : ρ g = .func (.yield l) #[] #[]) (hv : xs.map ρ = vs) (hy : (Instr.yield l vs).run P w = .ok (.round l f tmps assign body) w) : (execOp ρ ⟨dst, .call { callee := .value g, args := xs, argTypes := tys }, ty, pos, aft, gd⟩).run P w = .ok (.round l f tmps assign body) w := by
 subst hv
 simp [go_sem, hf, hy]
theorem y_cell_ryield (x : Operand) {q o : Nat} {v : Value} (hx : ρ x = .pointer (some ⟨q, o, none⟩)) (h : w.cell? ⟨q, o, none⟩ = some v) : (execOp ρ ⟨dst, .load 169 x, ty, pos, aft, gd⟩).run Tryz.prog w = .ok (.value v) w := by simp [go_sem, hx, h]
end
def INx (l cnt n : Nat) (fs : List Value) (b : Bool) (T : Value → World → Prop) (i : Nat) (v : Value) (W : World) : Prop := match i with
 | 0 => v = .func (.yield l) #[] #[]
 | 1 => v = .agg fs.toArray
 | 2 => v = .int .u64 (cnt : Int)
 | 3 => v = .int .i64 (n : Int)
 | 4 => v = .bool b
 | 5 => T v W
 | 6 => T v W
 | _ => True
set_option maxRecDepth 100000 in
theorem next_any (l by_ bc n cnt : Nat) (f0 f1 f2 f3 : Fn) (c0 c1 c2 c3 : Array Value) (T : Value → World → Prop) (w : World) (h1 : Box w by_ #[.func (.yield l) #[] #[]] 169) (h2 : Box w bc #[.int .u64 (cnt : Int)] 77) (hc : cnt < 18446744073709551616) (hn : n < 64)
  (hY : ∀ W, Below w.heap.size w W → YieldAt Fence.wide 0 Tryz.prog l #[.agg #[.func f0 #[] c0, .func f1 #[] c1, .func f2 #[] c2, .func f3 #[] c3], .bool (cnt.testBit n)] W fun e W' => ∃ v, e = .returned v ∧ T v W') :
  Calls Tryz.prog 110 #[.int .i64 (n : Int), .agg #[.func f0 #[] c0, .func f1 #[] c1, .func f2 #[] c2, .func f3 #[] c3], .pointer (some ⟨by_, 0, none⟩), .pointer (some ⟨bc, 0, none⟩)] w fun e w' => ∃ v, e = .returned v ∧ T v w' := by
 obtain ⟨fs, hfs⟩ : ∃ fs, fs = [Value.func f0 #[] c0, .func f1 #[] c1, .func f2 #[] c2, .func f3 #[] c3] := ⟨_, rfl⟩
 have hA := alloc_below10 w (.cells #[.func f0 #[] c0, .func f1 #[] c1, .func f2 #[] c2, .func f3 #[] c3] 137)
 have hX := box_new w #[.func f0 #[] c0, .func f1 #[] c1, .func f2 #[] c2, .func f3 #[] c3] 137
 have HHas := hide (fun W => has_in cnt n hc hn W)
 obtain ⟨b, hb⟩ : ∃ b, b = cnt.testBit n := ⟨_, rfl⟩
 rw [← hb] at hY HHas
 obtain ⟨w1, hw1⟩ : ∃ w1, w1 = w.alloc (.cells #[.func f0 #[] c0, .func f1 #[] c1, .func f2 #[] c2, .func f3 #[] c3] 137) := ⟨_, rfl⟩
 rw [← hw1] at hA hX
 have H1 := hide (h1.belowI hA)
 have H2 := hide (h2.belowI hA)
 have HX := hide hX
 have HY := hide (hY w1.drew (hA.drew))
 have hW := hw1.symm
 clear h1 h2 hc hn hY hX hA hw1 hb
 go_enter Tryz.func110, Tryz.ntmps110
 go_wp2_with fail
 have HFS := hide hfs
 have hBD : Below w1.heap.size w1 w1.drew := (Below.refl _ _).drew
 refine wpIn_wide.1 (wpIn_region_each4 (n := 0) (by kernel_rfl) (INx l cnt n fs b T) (fun listed W => listed.getD 5 true = false → W = w1.drew) (fun i W W' => i = 5 ∨ W' = W) (by kernel_rfl) ?_ (fun _ => rfl) ?_ ?_)
 ·intro i j v W W' hij hh hv hR
  rcases hR with rfl | rfl
  ·by_cases h5 : j = 5
   ·exact absurd h5.symm hij
   by_cases h6 : j = 6
   ·subst h6
    refine Bool.noConfusion (Eq.trans (Eq.symm (hh 1)) ?_ : false = true)
    kernel_rfl
   revert hv
   unfold INx
   split <;> first | exact fun h => h | exact absurd rfl h5 | exact absurd rfl h6
  ·exact hv
 ·intro i o hi listed A W hsz hN hS hold hdeps
  have hlt : i < 7 := (Array.getElem?_eq_some_iff.1 hi).1
  have hc : i = 0 ∨ i = 1 ∨ i = 2 ∨ i = 3 ∨ i = 4 ∨ i = 5 ∨ i = 6 := by omega
  clear hlt
  have hSn : i ≠ 5 → ((listed.setIfInBounds i true).getD 5 true = false → W = w1.drew) := fun h h2 => hS (by rw [listed_ne h] at h2; exact h2)
  rcases hc with rfl | rfl | rfl | rfl | rfl | rfl | rfl
  ·obtain rfl := Option.some.inj hi
   have hd := hS (unlisted_of hN.un hN.cl 7 5 (by kernel_rfl))
   subst hd
   have s2 : A.tmps.getD 2 undef = .pointer (some ⟨by_, 0, none⟩) := hold 2 (by kernel_rfl)
   exact u_value (I := INx l cnt n fs b T) (R := fun W' => (0 : Nat) = 5 ∨ W' = w1.drew) hi rfl rfl (y_cell_ryield _ s2 ((H1.out.belowI hBD).cell 0 _ rfl)) (hSn (by decide)) (.inr rfl) rfl
  ·obtain rfl := Option.some.inj hi
   have hd := hS (unlisted_of hN.un hN.cl 7 5 (by kernel_rfl))
   subst hd
   have s5 : A.tmps.getD 5 undef = .pointer (some ⟨w.heap.size, 0, none⟩) := hold 5 (by kernel_rfl)
   exact u_value (I := INx l cnt n fs b T) (R := fun W' => (1 : Nat) = 5 ∨ W' = w1.drew) hi rfl rfl (y_load _ _ s5 (HX.out.belowI hBD) Tryz.underlying137 rfl infoFld) (hSn (by decide)) (.inr rfl) (by show _ = Value.agg fs.toArray; rw [HFS.out])
  ·obtain rfl := Option.some.inj hi
   have hd := hS (unlisted_of hN.un hN.cl 7 5 (by kernel_rfl))
   subst hd
   have s3 : A.tmps.getD 3 undef = .pointer (some ⟨bc, 0, none⟩) := hold 3 (by kernel_rfl)
   exact u_value (I := INx l cnt n fs b T) (R := fun W' => (2 : Nat) = 5 ∨ W' = w1.drew) hi rfl rfl (y_cell_u64 _ s3 ((H2.out.belowI hBD).cell 0 _ rfl)) (hSn (by decide)) (.inr rfl) rfl
  ·obtain rfl := Option.some.inj hi
   have s0 : A.tmps.getD 0 undef = .int .i64 (n : Int) := hold 0 (by kernel_rfl)
   exact u_value (I := INx l cnt n fs b T) (R := fun W' => (3 : Nat) = 5 ∨ W' = W) hi rfl rfl (y_move _ s0) (hSn (by decide)) (.inr rfl) rfl
  ·obtain rfl := Option.some.inj hi
   have s9 : A.tmps.getD 9 undef = .int .u64 (cnt : Int) := dep3_of hdeps 2 (by kernel_rfl)
   have s10 : A.tmps.getD 10 undef = .int .i64 (n : Int) := dep3_of hdeps 3 (by kernel_rfl)
   refine u_enter (I := INx l cnt n fs b T) (R := fun W' => (4 : Nat) = 5 ∨ W' = W) hi rfl rfl (y_call 111 _ #[.int .u64 (cnt : Int), .int .i64 (n : Int)] _ rfl (by simp only [List.map_toArray, List.map_cons, List.map_nil, show A.eval (.tmp 9) = .int .u64 (cnt : Int) from s9, show A.eval (.tmp 10) = .int .i64 (n : Int) from s10]) en_Has) ((HHas.out W).mono ?_)
   rintro e w' ⟨rfl, rfl⟩
   exact ⟨_, rfl, hSn (by decide), .inr rfl, rfl⟩
  ·obtain rfl := Option.some.inj hi
   have hd := hS hN.un
   subst hd
   have s7 : A.tmps.getD 7 undef = .func (.yield l) #[] #[] := dep3_of hdeps 0 (by kernel_rfl)
   have s8 : A.tmps.getD 8 undef = .agg fs.toArray := dep3_of hdeps 1 (by kernel_rfl)
   have s11 : A.tmps.getD 11 undef = .bool b := dep3_of hdeps 4 (by kernel_rfl)
   obtain ⟨fn, tmps, assign, body, hy, hR⟩ := HY.out
   refine u_round (I := INx l cnt n fs b T) (R := fun W' => (5 : Nat) = 5 ∨ W' = w1.drew) hi rfl rfl (y_yield _ l _ #[.agg fs.toArray, .bool b] _ s7 (by simp only [List.map_toArray, List.map_cons, List.map_nil, show A.eval (.tmp 8) = .agg fs.toArray from s8, show A.eval (.tmp 11) = .bool b from s11]) (by rw [HFS.out]; exact hy)) (hR.mono ?_)
   rintro e w' ⟨v, rfl, hT⟩
   exact ⟨v, rfl, fun h => (by rw [listed_at] at h; cases h), .inl rfl, hT⟩
  ·obtain rfl := Option.some.inj hi
   have s12 : T (A.tmps.getD 12 undef) W := dep3_of hdeps 5 (by kernel_rfl)
   exact u_value (I := INx l cnt n fs b T) (R := fun W' => (6 : Nat) = 5 ∨ W' = W) hi rfl rfl (y_assign _ rfl) (hSn (by decide)) (.inr rfl) s12
 ·intro listed a w8 hall hS8 hsz hdf hold hnew
  have hT : T (a.tmps.getD 6 undef) w8 := hnew 6 (by decide)
  obtain ⟨tm, df⟩ := a
  have hdf : df = [] := hdf
  subst hdf
  obtain ⟨tl⟩ := tm
  have hz0 : tl.length = 13 := by simpa using hsz
  obtain ⟨x0, l0, e0, hz1⟩ := list_more hz0
  subst e0
  obtain ⟨x1, l1, e1, hz2⟩ := list_more hz1
  subst e1
  obtain ⟨x2, l2, e2, hz3⟩ := list_more hz2
  subst e2
  obtain ⟨x3, l3, e3, hz4⟩ := list_more hz3
  subst e3
  obtain ⟨x4, l4, e4, hz5⟩ := list_more hz4
  subst e4
  obtain ⟨x5, l5, e5, hz6⟩ := list_more hz5
  subst e5
  obtain ⟨x6, l6, e6, hz7⟩ := list_more hz6
  subst e6
  obtain ⟨x7, l7, e7, hz8⟩ := list_more hz7
  subst e7
  obtain ⟨x8, l8, e8, hz9⟩ := list_more hz8
  subst e8
  obtain ⟨x9, l9, e9, hz10⟩ := list_more hz9
  subst e9
  obtain ⟨x10, l10, e10, hz11⟩ := list_more hz10
  subst e10
  obtain ⟨x11, l11, e11, hz12⟩ := list_more hz11
  subst e11
  obtain ⟨x12, l12, e12, hz13⟩ := list_more hz12
  subst e12
  obtain rfl := List.eq_nil_of_length_eq_zero hz13
  have hT : T x6 w8 := hT
  have HT := hide hT
  clear hold hnew hS8 hall hsz hT H1 H2 HX HY HHas
  go_wp2_with fail
  go_ret
  exact ⟨_, rfl, HT.out⟩
end
section
open Go.RowKit Classical
theorem en_rc_fieldAt_uint32__1 : ∀ args w, (callFunc 165 args).run Tryz.prog w = .ok (.enter 165 args) w := enters_of Tryz.func165 (by kernel_rfl) rfl
theorem en_rc_fieldAt_uint32__2 : ∀ args w, (callFunc 166 args).run Tryz.prog w = .ok (.enter 166 args) w := enters_of Tryz.func166 (by kernel_rfl) rfl
theorem en_rc_fieldAt_uint32__3 : ∀ args w, (callFunc 167 args).run Tryz.prog w = .ok (.enter 167 args) w := enters_of Tryz.func167 (by kernel_rfl) rfl
theorem en_rc_fieldAt_uint32__4 : ∀ args w, (callFunc 168 args).run Tryz.prog w = .ok (.enter 168 args) w := enters_of Tryz.func168 (by kernel_rfl) rfl
theorem en_rc_fieldAt_parrel_api_Tx__1 : ∀ args w, (callFunc 170 args).run Tryz.prog w = .ok (.enter 170 args) w := enters_of Tryz.func170 (by kernel_rfl) rfl
theorem en_rc_fieldAt_parrel_api_Tx__2 : ∀ args w, (callFunc 171 args).run Tryz.prog w = .ok (.enter 171 args) w := enters_of Tryz.func171 (by kernel_rfl) rfl
theorem en_rc_fieldAt_parrel_api_Tx__3 : ∀ args w, (callFunc 172 args).run Tryz.prog w = .ok (.enter 172 args) w := enters_of Tryz.func172 (by kernel_rfl) rfl
theorem en_rc_fieldAt_parrel_api_Tx__4 : ∀ args w, (callFunc 173 args).run Tryz.prog w = .ok (.enter 173 args) w := enters_of Tryz.func173 (by kernel_rfl) rfl
theorem en_rc_fieldAt_parrel_api_Reg__1 : ∀ args w, (callFunc 178 args).run Tryz.prog w = .ok (.enter 178 args) w := enters_of Tryz.func178 (by kernel_rfl) rfl
theorem en_rc_fieldAt_parrel_api_Reg__2 : ∀ args w, (callFunc 179 args).run Tryz.prog w = .ok (.enter 179 args) w := enters_of Tryz.func179 (by kernel_rfl) rfl
theorem en_rc_fieldAt_parrel_api_Reg__3 : ∀ args w, (callFunc 180 args).run Tryz.prog w = .ok (.enter 180 args) w := enters_of Tryz.func180 (by kernel_rfl) rfl
theorem en_rc_fieldAt_parrel_api_Reg__4 : ∀ args w, (callFunc 181 args).run Tryz.prog w = .ok (.enter 181 args) w := enters_of Tryz.func181 (by kernel_rfl) rfl
theorem en_rc_fieldAt_uint64__1 : ∀ args w, (callFunc 183 args).run Tryz.prog w = .ok (.enter 183 args) w := enters_of Tryz.func183 (by kernel_rfl) rfl
theorem en_rc_fieldAt_uint64__2 : ∀ args w, (callFunc 184 args).run Tryz.prog w = .ok (.enter 184 args) w := enters_of Tryz.func184 (by kernel_rfl) rfl
theorem en_rc_fieldAt_uint64__3 : ∀ args w, (callFunc 185 args).run Tryz.prog w = .ok (.enter 185 args) w := enters_of Tryz.func185 (by kernel_rfl) rfl
theorem en_rc_fieldAt_uint64__4 : ∀ args w, (callFunc 186 args).run Tryz.prog w = .ok (.enter 186 args) w := enters_of Tryz.func186 (by kernel_rfl) rfl
theorem en_rc_fieldAt_parrel_api_Key__1 : ∀ args w, (callFunc 200 args).run Tryz.prog w = .ok (.enter 200 args) w := enters_of Tryz.func200 (by kernel_rfl) rfl
theorem en_rc_fieldAt_parrel_api_Key__2 : ∀ args w, (callFunc 201 args).run Tryz.prog w = .ok (.enter 201 args) w := enters_of Tryz.func201 (by kernel_rfl) rfl
theorem en_rc_fieldAt_parrel_api_Key__3 : ∀ args w, (callFunc 202 args).run Tryz.prog w = .ok (.enter 202 args) w := enters_of Tryz.func202 (by kernel_rfl) rfl
theorem en_rc_fieldAt_parrel_api_Key__4 : ∀ args w, (callFunc 203 args).run Tryz.prog w = .ok (.enter 203 args) w := enters_of Tryz.func203 (by kernel_rfl) rfl
theorem en_rc_fieldAt_parrel_api_Item__1 : ∀ args w, (callFunc 207 args).run Tryz.prog w = .ok (.enter 207 args) w := enters_of Tryz.func207 (by kernel_rfl) rfl
theorem en_rc_fieldAt_parrel_api_Item__2 : ∀ args w, (callFunc 208 args).run Tryz.prog w = .ok (.enter 208 args) w := enters_of Tryz.func208 (by kernel_rfl) rfl
theorem en_rc_fieldAt_parrel_api_Item__3 : ∀ args w, (callFunc 209 args).run Tryz.prog w = .ok (.enter 209 args) w := enters_of Tryz.func209 (by kernel_rfl) rfl
theorem en_rc_fieldAt_parrel_api_Item__4 : ∀ args w, (callFunc 210 args).run Tryz.prog w = .ok (.enter 210 args) w := enters_of Tryz.func210 (by kernel_rfl) rfl
theorem en_rc_bootMay : ∀ args w, (callFunc 113 args).run Tryz.prog w = .ok (.enter 113 args) w := enters_of Tryz.func113 (by kernel_rfl) rfl
theorem en_rc_putCount : ∀ args w, (callFunc 114 args).run Tryz.prog w = .ok (.enter 114 args) w := enters_of Tryz.func114 (by kernel_rfl) rfl
theorem en_rc_getCount : ∀ args w, (callFunc 115 args).run Tryz.prog w = .ok (.enter 115 args) w := enters_of Tryz.func115 (by kernel_rfl) rfl
theorem en_i_TxMay : ∀ args w, (callFunc 117 args).run Tryz.prog w = .ok (.enter 117 args) w := enters_of Tryz.func117 (by kernel_rfl) rfl
theorem en_i_PutTx : ∀ args w, (callFunc 118 args).run Tryz.prog w = .ok (.enter 118 args) w := enters_of Tryz.func118 (by kernel_rfl) rfl
theorem en_i_GetTx : ∀ args w, (callFunc 119 args).run Tryz.prog w = .ok (.enter 119 args) w := enters_of Tryz.func119 (by kernel_rfl) rfl
theorem en_i_RegMay : ∀ args w, (callFunc 121 args).run Tryz.prog w = .ok (.enter 121 args) w := enters_of Tryz.func121 (by kernel_rfl) rfl
theorem en_i_PutReg : ∀ args w, (callFunc 122 args).run Tryz.prog w = .ok (.enter 122 args) w := enters_of Tryz.func122 (by kernel_rfl) rfl
theorem en_i_GetReg : ∀ args w, (callFunc 123 args).run Tryz.prog w = .ok (.enter 123 args) w := enters_of Tryz.func123 (by kernel_rfl) rfl
theorem en_rc_setMay : ∀ args w, (callFunc 125 args).run Tryz.prog w = .ok (.enter 125 args) w := enters_of Tryz.func125 (by kernel_rfl) rfl
theorem en_cw_Num : ∀ args w, (callFunc 126 args).run Tryz.prog w = .ok (.enter 126 args) w := enters_of Tryz.func126 (by kernel_rfl) rfl
theorem en_rc_getSet : ∀ args w, (callFunc 127 args).run Tryz.prog w = .ok (.enter 127 args) w := enters_of Tryz.func127 (by kernel_rfl) rfl
theorem en_rc_keyMay : ∀ args w, (callFunc 131 args).run Tryz.prog w = .ok (.enter 131 args) w := enters_of Tryz.func131 (by kernel_rfl) rfl
theorem en_cw_Key : ∀ args w, (callFunc 132 args).run Tryz.prog w = .ok (.enter 132 args) w := enters_of Tryz.func132 (by kernel_rfl) rfl
theorem en_cr_Key : ∀ args w, (callFunc 133 args).run Tryz.prog w = .ok (.enter 133 args) w := enters_of Tryz.func133 (by kernel_rfl) rfl
theorem en_m_ItemMay : ∀ args w, (callFunc 135 args).run Tryz.prog w = .ok (.enter 135 args) w := enters_of Tryz.func135 (by kernel_rfl) rfl
theorem en_m_PutItem : ∀ args w, (callFunc 136 args).run Tryz.prog w = .ok (.enter 136 args) w := enters_of Tryz.func136 (by kernel_rfl) rfl
theorem en_m_GetItem : ∀ args w, (callFunc 137 args).run Tryz.prog w = .ok (.enter 137 args) w := enters_of Tryz.func137 (by kernel_rfl) rfl
theorem en_rc_writesIn_1 : ∀ args w, (callFunc 188 args).run Tryz.prog w = .ok (.enter 188 args) w := enters_of Tryz.func188 (by kernel_rfl) rfl
theorem en_rc_writesIn_2 : ∀ args w, (callFunc 189 args).run Tryz.prog w = .ok (.enter 189 args) w := enters_of Tryz.func189 (by kernel_rfl) rfl
theorem en_rc_writesIn_3 : ∀ args w, (callFunc 191 args).run Tryz.prog w = .ok (.enter 191 args) w := enters_of Tryz.func191 (by kernel_rfl) rfl
theorem en_rc_writesIn_4 : ∀ args w, (callFunc 193 args).run Tryz.prog w = .ok (.enter 193 args) w := enters_of Tryz.func193 (by kernel_rfl) rfl
theorem en_rc_missingIn_1 : ∀ args w, (callFunc 195 args).run Tryz.prog w = .ok (.enter 195 args) w := enters_of Tryz.func195 (by kernel_rfl) rfl
theorem en_rc_missingIn_2 : ∀ args w, (callFunc 196 args).run Tryz.prog w = .ok (.enter 196 args) w := enters_of Tryz.func196 (by kernel_rfl) rfl
theorem en_rc_missingIn_3 : ∀ args w, (callFunc 198 args).run Tryz.prog w = .ok (.enter 198 args) w := enters_of Tryz.func198 (by kernel_rfl) rfl
theorem en_rc_missingIn_4 : ∀ args w, (callFunc 199 args).run Tryz.prog w = .ok (.enter 199 args) w := enters_of Tryz.func199 (by kernel_rfl) rfl
def FV (n lo q : Nat) (w : World) (vs : List Value) : Prop := match n with
 | 0 => ∃ hi ba bm bp bg bz, FvA lo hi q 1 (.func (.func 113) #[] #[]) (.func (.func 114) #[] #[]) (.func (.func 115) #[] #[]) 174 175 176 177 72 (#[.int .u32 0]) 165 166 167 168 ba bm bp bg bz w vs
 | 1 => ∃ hi ba bm bp bg bz, FvA lo hi q 2 (.func (.func 117) #[] #[]) (.func (.func 118) #[] #[]) (.func (.func 119) #[] #[]) 179 180 181 182 74 ((txE (0, 0, 0)).toArray) 170 171 172 173 ba bm bp bg bz w vs
 | 2 => ∃ hi ba bm bp bg bz, FvA lo hi q 5 (.func (.func 121) #[] #[]) (.func (.func 122) #[] #[]) (.func (.func 123) #[] #[]) 184 185 186 187 76 ((rgE (0, 0)).toArray) 178 179 180 181 ba bm bp bg bz w vs
 | 3 => ∃ hi ba bm bp bg bz, FvA lo hi q 7 (.func (.func 125) #[] #[]) (.func (.func 126) #[] #[]) (.func (.func 127) #[] #[]) 189 190 191 193 77 (#[.int .u64 0]) 183 184 185 186 ba bm bp bg bz w vs
 | 4 => ∃ b1, vs = [.func (.func 188) #[] #[.pointer (some ⟨b1, 0, none⟩)], .func (.func 189) #[] #[.pointer (some ⟨b1, 0, none⟩)], .func (.func 191) #[] #[.pointer (some ⟨b1, 0, none⟩)], .func (.func 193) #[] #[.pointer (some ⟨b1, 0, none⟩)]] ∧ Box w b1 #[.pointer (some ⟨q, 0, none⟩)] 133 ∧ lo ≤ b1
 | 5 => ∃ b1, vs = [.func (.func 195) #[] #[.pointer (some ⟨b1, 0, none⟩)], .func (.func 196) #[] #[.pointer (some ⟨b1, 0, none⟩)], .func (.func 198) #[] #[.pointer (some ⟨b1, 0, none⟩)], .func (.func 199) #[] #[.pointer (some ⟨b1, 0, none⟩)]] ∧ Box w b1 #[.pointer (some ⟨q, 0, none⟩)] 133 ∧ lo ≤ b1
 | 6 => ∃ hi ba bm bp bg bz, FvA lo hi q 10 (.func (.func 131) #[] #[]) (.func (.func 132) #[] #[]) (.func (.func 133) #[] #[]) 196 197 198 200 81 (eightA [0, 0, 0, 0, 0, 0, 0, 0]) 200 201 202 203 ba bm bp bg bz w vs
 | _ => ∃ hi ba bm bp bg bz, FvA lo hi q 18 (.func (.func 135) #[] #[]) (.func (.func 136) #[] #[]) (.func (.func 137) #[] #[]) 202 203 204 205 85 (itA zeroIt) 207 208 209 210 ba bm bp bg bz w vs
theorem FvA.calm {B lo hi q off : Nat} {mv pv gv : Value} {tp tm tw tg tz : TypeId} {Z : Array Value} {f1 f2 f3 f4 : FuncId} {ba bm bp bg bz : Nat} {w w' : World} {vs : List Value} (h : FvA lo hi q off mv pv gv tp tm tw tg tz Z f1 f2 f3 f4 ba bm bp bg bz w vs) (hc : Calm B w w') : FvA lo hi q off mv pv gv tp tm tw tg tz Z f1 f2 f3 f4 ba bm bp bg bz w' vs :=
 ⟨h.eq, hc.box h.a, hc.box h.m, hc.box h.p, hc.box h.g, hc.box h.z, h.lo, h.hi⟩
theorem FV.calm {B n lo q : Nat} {w w' : World} {vs : List Value} (h : FV n lo q w vs) (hc : Calm B w w') : FV n lo q w' vs := by
 revert h
 unfold FV
 split <;> first | exact fun ⟨b1, e, hb, hl⟩ => ⟨b1, e, hc.box hb, hl⟩ | exact fun ⟨hi, ba, bm, bp, bg, bz, h⟩ => ⟨hi, ba, bm, bp, bg, bz, h.calm hc⟩
theorem FV.below {n lo q : Nat} {w w' : World} {vs : List Value} (h : FV n lo q w vs) (hB : Below w.heap.size w w') : FV n lo q w' vs := h.calm (B := 0) (Calm.of_below hB)
theorem FV.fns {n lo q : Nat} {w : World} {vs : List Value} (h : FV n lo q w vs) : ∃ f0 f1 f2 f3 c0 c1 c2 c3, vs = [.func f0 #[] c0, .func f1 #[] c1, .func f2 #[] c2, .func f3 #[] c3] := by
 revert h
 unfold FV
 split <;> first | exact fun ⟨b1, e, _⟩ => ⟨_, _, _, _, _, _, _, _, e⟩ | exact fun ⟨_, _, _, _, _, _, h⟩ => ⟨_, _, _, _, _, _, _, _, h.eq⟩
theorem arr_app0 (a : Array Value) : a ++ #[] = a := Array.append_empty
theorem zero_decR (n : Nat) (hn : n < 8) (m : RecP) : zeroRB n m = decide (eqR n m (zeroR 0)) := by
 rw [Bool.eq_iff_iff, decide_eq_true_eq]
 exact zeroRB_eq hn m 0
def FnOk (f : FuncId) : Prop := ∀ args w, (callFunc f args).run Tryz.prog w = .ok (.enter f args) w
theorem zeroIt_ok : ItOk zeroIt := ⟨by decide, (fun c hc => by cases hc), zeroC_ok⟩
set_option maxRecDepth 100000 in
theorem FV.none_any {lo q : Nat} {w : World} {vs : List Value} {m : RecP} {ao bo : Option Addr} {c d n : Nat} (h : FV n lo q w vs) (hm : RecOk m) (hb : Box w q (recA m (.slice ao m.wr.length c) (.slice bo m.mis.length d)) 87) (hn : n < 8) :
  ∃ f cap, vs[0]? = some (.func (.func f) #[] cap) ∧ FnOk f ∧ Calls Tryz.prog f cap w fun e w' => e = .returned (.bool (zeroRB n m)) ∧ Below w.heap.size w w' := by
 have hc : n = 0 ∨ n = 1 ∨ n = 2 ∨ n = 3 ∨ n = 4 ∨ n = 5 ∨ n = 6 ∨ n = 7 := by omega
 have hq := hb.lt
 rw [zero_decR n hn m]
 clear hn
 rcases hc with rfl | rfl | rfl | rfl | rfl | rfl | rfl | rfl
 ·obtain ⟨hi, ba, bm, bp, bg, bz, hf⟩ := h
  rw [hf.eq]
  refine ⟨_, _, rfl, en_rc_fieldAt_uint32__1, fa1_u32 ba bz q 1 ((m.n : Int)) _ w (hf.a.cell 0 _ rfl) hf.z (hb.cell 1 _ rfl) hf.a.lt hq (fun W => ?_)⟩
  exact (eql_u32_10 m.n 0 W).trans (congrArg (fun b => Result.ok (Value.bool b) W) (decide_eq_decide.2 Iff.rfl))
 ·obtain ⟨hi, ba, bm, bp, bg, bz, hf⟩ := h
  rw [hf.eq]
  refine ⟨_, _, rfl, en_rc_fieldAt_parrel_api_Tx__1, fa1_tx ba bz q 2 (txE m.tx) _ w (hf.a.cell 0 _ rfl) hf.z (rec_tx hb) rfl hf.a.lt hq (fun W => ?_)⟩
  exact (eql_tx10 m.tx (0, 0, 0) W).trans (congrArg (fun b => Result.ok (Value.bool b) W) (decide_eq_decide.2 Iff.rfl))
 ·obtain ⟨hi, ba, bm, bp, bg, bz, hf⟩ := h
  rw [hf.eq]
  refine ⟨_, _, rfl, en_rc_fieldAt_parrel_api_Reg__1, fa1_reg ba bz q 5 (rgE m.reg) _ w (hf.a.cell 0 _ rfl) hf.z (rec_reg hb) rfl hf.a.lt hq (fun W => ?_)⟩
  exact (eql_reg10 m.reg (0, 0) W).trans (congrArg (fun b => Result.ok (Value.bool b) W) (decide_eq_decide.2 Iff.rfl))
 ·obtain ⟨hi, ba, bm, bp, bg, bz, hf⟩ := h
  rw [hf.eq]
  refine ⟨_, _, rfl, en_rc_fieldAt_uint64__1, fa1_u64 ba bz q 7 ((m.mem : Int)) _ w (hf.a.cell 0 _ rfl) hf.z (hb.cell 7 _ rfl) hf.a.lt hq (fun W => ?_)⟩
  exact (eql_u64_11 m.mem 0 W).trans (congrArg (fun b => Result.ok (Value.bool b) W) (decide_eq_decide.2 Iff.rfl))
 ·obtain ⟨b1, e, hb1, _⟩ := h
  rw [e]
  refine ⟨_, _, rfl, en_rc_writesIn_1, (ww1_any b1 q ao m.wr.length c w (hb1.cell 0 _ rfl) (hb.cell 8 _ rfl)).mono ?_⟩
  rintro e w' ⟨rfl, hB⟩
  refine ⟨?_, hB⟩
  have : decide (m.wr.length = 0) = decide (eqR 4 m (zeroR 0)) := by
   rw [Bool.eq_iff_iff, decide_eq_true_eq, decide_eq_true_eq]
   exact List.length_eq_zero_iff
  rw [this]
 ·obtain ⟨b1, e, hb1, _⟩ := h
  rw [e]
  refine ⟨_, _, rfl, en_rc_missingIn_1, (mm1_any b1 q bo m.mis.length d w (hb1.cell 0 _ rfl) (hb.cell 9 _ rfl)).mono ?_⟩
  rintro e w' ⟨rfl, hB⟩
  refine ⟨?_, hB⟩
  have : decide (m.mis.length = 0) = decide (eqR 5 m (zeroR 0)) := by
   rw [Bool.eq_iff_iff, decide_eq_true_eq, decide_eq_true_eq]
   exact List.length_eq_zero_iff
  rw [this]
 ·obtain ⟨hi, ba, bm, bp, bg, bz, hf⟩ := h
  rw [hf.eq]
  refine ⟨_, _, rfl, en_rc_fieldAt_parrel_api_Key__1, fa1_key ba bz q 10 (eightE m.key) _ w (hf.a.cell 0 _ rfl) hf.z (rec_key hb) rfl hf.a.lt hq (fun W => ?_)⟩
  exact (eql_key10 (b := [0, 0, 0, 0, 0, 0, 0, 0]) hm.key.l rfl W).trans (congrArg (fun b => Result.ok (Value.bool b) W) (decide_eq_decide.2 Iff.rfl))
 ·obtain ⟨hi, ba, bm, bp, bg, bz, hf⟩ := h
  rw [hf.eq]
  refine ⟨_, _, rfl, en_rc_fieldAt_parrel_api_Item__1, fa1_item ba bz q 18 (itE m.item) _ w (hf.a.cell 0 _ rfl) hf.z (rec_item hb) rfl hf.a.lt hq (fun W => ?_)⟩
  exact (eql_it10 hm.item zeroIt_ok W).trans (congrArg (fun b => Result.ok (Value.bool b) W) (decide_eq_decide.2 Iff.rfl))
set_option maxRecDepth 100000 in
theorem FV.may_any {lo q : Nat} {w : World} {vs : List Value} {m : RecP} {ao bo : Option Addr} {c d n : Nat} (h : FV n lo q w vs) (hm : RecOk m) (hb : Box w q (recA m (.slice ao m.wr.length c) (.slice bo m.mis.length d)) 87) (hs : RSrc wrE w (.slice ao m.wr.length c) m.wr) (hl : Lies .u64 w (.slice bo m.mis.length d) (misI m.mis)) (hn : n < 8) :
  ∃ f cap, vs[1]? = some (.func (.func f) #[] cap) ∧ FnOk f ∧ Calls Tryz.prog f cap w fun e w' => e = .returned (.bool (mayRf m n)) ∧ Below w.heap.size w w' := by
 have hc : n = 0 ∨ n = 1 ∨ n = 2 ∨ n = 3 ∨ n = 4 ∨ n = 5 ∨ n = 6 ∨ n = 7 := by omega
 have hq := hb.lt
 clear hn
 rcases hc with rfl | rfl | rfl | rfl | rfl | rfl | rfl | rfl
 ·obtain ⟨hi, ba, bm, bp, bg, bz, hf⟩ := h
  rw [hf.eq]
  exact ⟨_, _, rfl, en_rc_fieldAt_uint32__2, fa2_u32 bm ba q 1 ((m.n : Int)) _ _ _ w (hf.m.cell 0 _ rfl) (hf.a.cell 0 _ rfl) (hb.cell 1 _ rfl) hf.m.lt hf.a.lt hq en_rc_bootMay (fun W hB => by rw [arr_app0]; exact bootMay_any m.n W)⟩
 ·obtain ⟨hi, ba, bm, bp, bg, bz, hf⟩ := h
  rw [hf.eq]
  exact ⟨_, _, rfl, en_rc_fieldAt_parrel_api_Tx__2, fa2_tx bm ba q 2 (txE m.tx) _ _ _ w (hf.m.cell 0 _ rfl) (hf.a.cell 0 _ rfl) (rec_tx hb) rfl hf.m.lt hf.a.lt hq en_i_TxMay (fun W hB => by rw [arr_app0]; exact txMay_any _ _ _ W)⟩
 ·obtain ⟨hi, ba, bm, bp, bg, bz, hf⟩ := h
  rw [hf.eq]
  exact ⟨_, _, rfl, en_rc_fieldAt_parrel_api_Reg__2, fa2_reg bm ba q 5 (rgE m.reg) _ _ _ w (hf.m.cell 0 _ rfl) (hf.a.cell 0 _ rfl) (rec_reg hb) rfl hf.m.lt hf.a.lt hq en_i_RegMay (fun W hB => by rw [arr_app0]; exact regMay_any _ _ W)⟩
 ·obtain ⟨hi, ba, bm, bp, bg, bz, hf⟩ := h
  rw [hf.eq]
  exact ⟨_, _, rfl, en_rc_fieldAt_uint64__2, fa2_u64 bm ba q 7 ((m.mem : Int)) _ _ _ w (hf.m.cell 0 _ rfl) (hf.a.cell 0 _ rfl) (hb.cell 7 _ rfl) hf.m.lt hf.a.lt hq en_rc_setMay (fun W hB => by rw [arr_app0]; exact (setMay_any m.mem W).mono fun e w' ⟨h1, h2⟩ => ⟨h1, by rw [h2]; exact Below.refl _ _⟩)⟩
 ·obtain ⟨b1, e, hb1, _⟩ := h
  rw [e]
  exact ⟨_, _, rfl, en_rc_writesIn_2, ww2_any b1 q ao m.wr.length c m.wr w (hb1.cell 0 _ rfl) (hb.cell 8 _ rfl) hs hm.wr⟩
 ·obtain ⟨b1, e, hb1, _⟩ := h
  rw [e]
  exact ⟨_, _, rfl, en_rc_missingIn_2, mm2_any b1 q ao bo m.wr.length c m.mis.length d m.mis w hb1 hq (hb.cell 8 _ rfl) (hb.cell 9 _ rfl) hl⟩
 ·obtain ⟨hi, ba, bm, bp, bg, bz, hf⟩ := h
  rw [hf.eq]
  exact ⟨_, _, rfl, en_rc_fieldAt_parrel_api_Key__2, fa2_key bm ba q 10 (eightE m.key) _ _ _ w (hf.m.cell 0 _ rfl) (hf.a.cell 0 _ rfl) (rec_key hb) rfl hf.m.lt hf.a.lt hq en_rc_keyMay (fun W hB => by rw [arr_app0]; exact pkeyMay_any m.key hm.key W)⟩
 ·obtain ⟨hi, ba, bm, bp, bg, bz, hf⟩ := h
  rw [hf.eq]
  exact ⟨_, _, rfl, en_rc_fieldAt_parrel_api_Item__2, fa2_item bm ba q 18 (itE m.item) _ _ _ w (hf.m.cell 0 _ rfl) (hf.a.cell 0 _ rfl) (rec_item hb) rfl hf.m.lt hf.a.lt hq en_m_ItemMay (fun W hB => by rw [arr_app0]; exact itemMay_any m.item hm.item W)⟩
set_option maxRecDepth 100000 in
theorem FV.put_any {lo q pw : Nat} {w w0 : World} {v : Value} {xs : List Int} {vs : List Value} {m : RecP} {ao bo : Option Addr} {c d n : Nat} (h : FV n lo q w vs) (hm : RecOk m) (hb : Box w q (recA m (.slice ao m.wr.length c) (.slice bo m.mis.length d)) 87) (hs : RSrc wrE w0 (.slice ao m.wr.length c) m.wr) (hl : Lies .u64 w0 (.slice bo m.mis.length d) (misI m.mis)) (hw : CBl w0 w pw v xs) (hx : xs.length ≤ 5000) (hwr : m.mis.length ≤ 100) (hn : n < 8) (hok : okR n m) :
  ∃ f cap, vs[2]? = some (.func (.func f) #[] cap) ∧ FnOk f ∧ Calls Tryz.prog f (#[.pointer (some ⟨pw, 0, none⟩)] ++ cap) w fun e w' => e = .returned (.tuple #[]) ∧ ∃ v', CWrote w w' pw v v' (xs ++ encR n m) := by
 have hc : n = 0 ∨ n = 1 ∨ n = 2 ∨ n = 3 ∨ n = 4 ∨ n = 5 ∨ n = 6 ∨ n = 7 := by omega
 have hq := hb.lt
 clear hn
 rcases hc with rfl | rfl | rfl | rfl | rfl | rfl | rfl | rfl
 ·obtain ⟨hi, ba, bm, bp, bg, bz, hf⟩ := h
  rw [hf.eq]
  refine ⟨_, _, rfl, en_rc_fieldAt_uint32__3, fa3_u32 pw bp ba q 1 ((m.n : Int)) _ _ (fun w' => ∃ v', CWrote w w' pw v v' (xs ++ encR 0 m)) w (hf.p.cell 0 _ rfl) (hf.a.cell 0 _ rfl) (hb.cell 1 _ rfl) hf.p.lt hf.a.lt hq en_rc_putCount (fun W hB => ?_)⟩
  rw [arr_app0]
  exact (rputCount_any pw v xs m.n W (hw.wr.below hB) (by unfold roomFor; omega) hm.n).mono fun e w' ⟨e1, v', h'⟩ => ⟨e1, v', CWrote.before hB h'⟩
 ·obtain ⟨hi, ba, bm, bp, bg, bz, hf⟩ := h
  rw [hf.eq]
  refine ⟨_, _, rfl, en_rc_fieldAt_parrel_api_Tx__3, fa3_tx pw bp ba q 2 (txE m.tx) _ _ (fun w' => ∃ v', CWrote w w' pw v v' (xs ++ encR 1 m)) w (hf.p.cell 0 _ rfl) (hf.a.cell 0 _ rfl) (rec_tx hb) rfl hf.p.lt hf.a.lt hq en_i_PutTx (fun W hB => ?_)⟩
  rw [arr_app0]
  exact (puttx_any pw v xs (m.tx.1 : Int) m.tx.2.1 m.tx.2.2 W (hw.wr.below hB) (by omega) hm.tx.2.1 hm.tx.2.2).mono fun e w' ⟨e1, v', h'⟩ => ⟨e1, v', CWrote.before hB h'⟩
 ·obtain ⟨hi, ba, bm, bp, bg, bz, hf⟩ := h
  rw [hf.eq]
  refine ⟨_, _, rfl, en_rc_fieldAt_parrel_api_Reg__3, fa3_reg pw bp ba q 5 (rgE m.reg) _ _ (fun w' => ∃ v', CWrote w w' pw v v' (xs ++ encR 2 m)) w (hf.p.cell 0 _ rfl) (hf.a.cell 0 _ rfl) (rec_reg hb) rfl hf.p.lt hf.a.lt hq en_i_PutReg (fun W hB => ?_)⟩
  rw [arr_app0]
  exact (putreg_any pw v xs m.reg.1 m.reg.2 W (hw.wr.below hB) (by omega) hm.reg.1 hm.reg.2).mono fun e w' ⟨e1, v', h'⟩ => ⟨e1, v', CWrote.before hB h'⟩
 ·obtain ⟨hi, ba, bm, bp, bg, bz, hf⟩ := h
  rw [hf.eq]
  refine ⟨_, _, rfl, en_rc_fieldAt_uint64__3, fa3_u64 pw bp ba q 7 ((m.mem : Int)) _ _ (fun w' => ∃ v', CWrote w w' pw v v' (xs ++ encR 3 m)) w (hf.p.cell 0 _ rfl) (hf.a.cell 0 _ rfl) (hb.cell 7 _ rfl) hf.p.lt hf.a.lt hq en_cw_Num (fun W hB => ?_)⟩
  rw [arr_app0]
  exact (cwnum_any pw v xs m.mem W (hw.wr.below hB) (by unfold roomFor; omega) hm.mem).mono fun e w' ⟨e1, v', h'⟩ => ⟨e1, v', CWrote.before hB h'⟩
 ·obtain ⟨b1, e, hb1, _⟩ := h
  rw [e]
  refine ⟨_, _, rfl, en_rc_writesIn_3, ww3_any pw b1 q ao m.wr.length c (fun w' => ∃ v', CWrote w w' pw v v' (xs ++ encR 4 m)) w (hb1.cell 0 _ rfl) (hb.cell 8 _ rfl) ?_⟩
  exact putWrites_any w0 pw v xs ao m.wr.length c m.wr w hw hs (by omega) hm.wr hok.2 hok.1
 ·obtain ⟨b1, e, hb1, _⟩ := h
  rw [e]
  exact ⟨_, _, rfl, en_rc_missingIn_3, mm3_any w0 pw b1 q v xs bo m.mis.length d m.mis w (hb1.cell 0 _ rfl) (hb.cell 9 _ rfl) hw hl hok.2 (by omega) hwr⟩
 ·obtain ⟨hi, ba, bm, bp, bg, bz, hf⟩ := h
  rw [hf.eq]
  refine ⟨_, _, rfl, en_rc_fieldAt_parrel_api_Key__3, fa3_key pw bp ba q 10 (eightE m.key) _ _ (fun w' => ∃ v', CWrote w w' pw v v' (xs ++ encR 6 m)) w (hf.p.cell 0 _ rfl) (hf.a.cell 0 _ rfl) (rec_key hb) rfl hf.p.lt hf.a.lt hq en_cw_Key (fun W hB => ?_)⟩
  rw [arr_app0]
  exact (ckeyI_any pw v xs m.key W hm.key.l (hw.wr.below hB) (by omega)).mono fun e w' ⟨e1, v', h'⟩ => ⟨e1, v', CWrote.before hB h'⟩
 ·obtain ⟨hi, ba, bm, bp, bg, bz, hf⟩ := h
  rw [hf.eq]
  refine ⟨_, _, rfl, en_rc_fieldAt_parrel_api_Item__3, fa3_item pw bp ba q 18 (itE m.item) _ _ (fun w' => ∃ v', CWrote w w' pw v v' (xs ++ encR 7 m)) w (hf.p.cell 0 _ rfl) (hf.a.cell 0 _ rfl) (rec_item hb) rfl hf.p.lt hf.a.lt hq en_m_PutItem (fun W hB => ?_)⟩
  rw [arr_app0]
  exact (putItem_any pw v xs m.item W (hw.wr.below hB) (by omega) hm.item (by have : m.item.val.length ≤ 64 := hok.2.1; omega)).mono fun e w' ⟨e1, v', h'⟩ => ⟨e1, v', CWrote.before hB h'⟩
end
end Go.Proofs.YtlegliimgjmphaaGreat
