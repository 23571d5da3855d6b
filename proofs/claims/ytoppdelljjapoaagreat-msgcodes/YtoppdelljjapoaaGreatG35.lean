/-
  Own texts put together: MpIn2, MpIn3. Own work.
-/
import Derived.Test.YtoppdelljjapoaaGreatG34
namespace Go.Proofs.YtoppdelljjapoaaGreat
section
open Go.RowKit Classical

def GotW (w0 W : World) (r : RS) (v : Value) (ws : List WrP) : Prop := RSrc wrE W v ws ∧ (∀ g, v.ownBlock = some g → w0.heap.size ≤ g) ∧ ((wsC.dec r).2.why = 0 → ws = (wsC.dec r).1) ∧ (∀ x ∈ ws, KeyOk x.key ∧ ItOk x.it)
def I10 (w : World) (pr q : Nat) (r : RS) (i : Nat) (v : Value) (W : World) : Prop := match i with
  | 0 => v = .pointer (some ⟨q, 0, none⟩)
  | 1 => v = .pointer (some ⟨pr, 0, none⟩)
  | 2 => ∃ ws, GotW w W r v ws
  | 3 => v = .pointer (some ⟨q, 0, none⟩)
  | 4 => v = .pointer (some ⟨q, 32, none⟩)
  | _ => True
def R10 (q : Nat) (i : Nat) (W W' : World) : Prop := match i with
  | 5 => KeepBut (fun k => k = q) W W'
  | 2 => True
  | _ => W' = W
def Fin10 (w : World) (pr q : Nat) (vb : Value) (all : List Int) (m : MsgP) (r : RS) (W : World) : Prop := ∃ p' ws, Box W q (msgA { m with wr := ws } p') 39 ∧ GotW w W r p' ws ∧ CR W pr vb all (wsC.dec r).2 ∧ KeepBut (fun k => k = pr ∨ k = q) w W
def S10 (w : World) (pr q : Nat) (vb : Value) (all : List Int) (m : MsgP) (r : RS) (listed : Array Bool) (W : World) : Prop :=
  (listed.getD 5 true = false → (listed.getD 2 true = false → W = w.drew) ∧ (listed.getD 2 true = true → CR W pr vb all (wsC.dec r).2 ∧ KeepBut (fun k => k = pr) w W)) ∧ (listed.getD 5 true = true → Fin10 w pr q vb all m r W)
theorem S10.next {w W : World} {pr q : Nat} {vb : Value} {all : List Int} {m : MsgP} {r : RS} {listed : Array Bool} {i : Nat} (h : S10 w pr q vb all m r listed W) (hi : i ≠ 5) (hi2 : i ≠ 2) : S10 w pr q vb all m r (listed.setIfInBounds i true) W := by
  unfold S10 at *
  rw [listed_ne hi, listed_ne hi2]
  exact h
theorem y_fldQ10 {ρ : Operand → Value} {w : World} {dst : Option Tmp} {ty : TypeId} {pos : String} {aft : Array Edge} {gd : Option (Nat × Bool)} (x : Operand) {q : Nat} (hx : ρ x = .pointer (some ⟨q, 0, none⟩)) : (execOp ρ ⟨dst, .fieldAddr 39 x 10, ty, pos, aft, gd⟩).run Tryz.prog w = .ok (.value (.pointer (some ⟨q, 32, none⟩))) w := by simp [go_sem, hx]
theorem en10_gw : ∀ args w, (callFunc 35 args).run Tryz.prog w = .ok (.enter 35 args) w := enters_of Tryz.func35 (by kernel_rfl) rfl
theorem infoWs : (Tryz.prog.info? 33).map (·.size) = some 1 := by kernel_rfl
set_option maxRecDepth 100000 in
theorem wn10_any (pr b1 q : Nat) (vb : Value) (all : List Int) (r : RS) (m : MsgP) (p : Value) (w : World) (h1 : Box w b1 #[.pointer (some ⟨q, 0, none⟩)] 95) (h2 : Box w q (msgA m p) 39) (hcr : CR w pr vb all r) (hb1 : b1 ≠ pr) (hq : q ≠ pr) (hvq : vb.ownBlock ≠ some q) :
    Calls Tryz.prog 105 #[.pointer (some ⟨pr, 0, none⟩), .pointer (some ⟨b1, 0, none⟩)] w fun e w' => e = .returned (.tuple #[]) ∧ Fin10 w pr q vb all m r w' := by
  have hBD : Hid (Below w.heap.size w w.drew) := hide (Below.refl _ _).drew
  have H1 := hide h1
  have H2 := hide h2
  have HC := hide hcr
  have HN1 := hide hb1
  have HNQ := hide hq
  have HVQ := hide hvq
  clear h1 h2 hcr hb1 hq hvq
  go_enter Tryz.func105, Tryz.ntmps105
  go_wp2_with fail
  refine wp_region_each3 (by kernel_rfl) (I10 w pr q r) (S10 w pr q vb all m r) (R10 q) (by kernel_rfl) ?_ ⟨fun _ => ⟨fun _ => rfl, fun h => by cases h⟩, fun h => by cases h⟩ ?_ ?_
  · intro i j v W W' hij hv hR
    by_cases h5 : i = 5
    · subst h5
      have hk : KeepBut (fun k => k = q) W W' := hR
      by_cases h2 : j = 2
      · subst h2
        obtain ⟨ws, g1, g2, g3, g4⟩ := hv
        exact ⟨ws, g1.keep hk (fun g hg e => by have := g2 g hg; have := H2.out.lt; omega), g2, g3, g4⟩
      · revert hv
        unfold I10
        split <;> first | exact fun h => h | exact absurd rfl h2
    · by_cases h2 : i = 2
      · subst h2
        revert hv
        unfold I10
        split <;> first | exact fun h => h | exact absurd rfl hij
      · have e : W' = W := by
          revert hR
          unfold R10
          split <;> first | exact fun h => h | exact absurd rfl h5 | exact absurd rfl h2
        rw [e]
        exact hv
  · intro i o hi listed A W hsz hN hS hold hdeps
    have hlt : i < 6 := (Array.getElem?_eq_some_iff.1 hi).1
    have hc : i = 0 ∨ i = 1 ∨ i = 2 ∨ i = 3 ∨ i = 4 ∨ i = 5 := by omega
    clear hlt
    rcases hc with rfl | rfl | rfl | rfl | rfl | rfl
    · obtain rfl := Option.some.inj hi
      have h5 := unlisted_of hN.un hN.cl 5 5 (by kernel_rfl)
      have s1 : A.tmps.getD 1 undef = .pointer (some ⟨b1, 0, none⟩) := hold 1 (by kernel_rfl)
      have hcell : W.cell? ⟨b1, 0, none⟩ = some (.pointer (some ⟨q, 0, none⟩)) := by
        cases h3 : listed.getD 2 true with
        | false => rw [(hS.1 h5).1 h3]; exact (H1.out.belowI hBD.out).cell 0 _ rfl
        | true => exact (H1.out.keep ((hS.1 h5).2 h3).2 HN1.out).cell 0 _ rfl
      exact t_value (I := I10 w pr q r) (R := R10 q 0 W) hi rfl rfl (y_cell_msgp _ s1 hcell) (hS.next (by decide) (by decide)) rfl rfl
    · obtain rfl := Option.some.inj hi
      have s0 : A.tmps.getD 0 undef = .pointer (some ⟨pr, 0, none⟩) := hold 0 (by kernel_rfl)
      exact t_value (I := I10 w pr q r) (R := R10 q 1 W) hi rfl rfl (y_move _ s0) (hS.next (by decide) (by decide)) rfl rfl
    · obtain rfl := Option.some.inj hi
      have h5 := unlisted_of hN.un hN.cl 5 5 (by kernel_rfl)
      have hd := (hS.1 h5).1 hN.un
      subst hd
      have s4 : A.tmps.getD 4 undef = .pointer (some ⟨pr, 0, none⟩) := dep3_of hdeps 1 (by kernel_rfl)
      refine t_enter (I := I10 w pr q r) (R := R10 q 2 w.drew) hi rfl rfl (y_call 35 _ #[.pointer (some ⟨pr, 0, none⟩)] _ rfl (by simp only [List.map_toArray, List.map_cons, List.map_nil, show A.eval (.tmp 4) = .pointer (some ⟨pr, 0, none⟩) from s4]) en10_gw) ((getWrites_any pr vb all r w.drew (HC.out.below hBD.out)).mono ?_)
      rintro e w' ⟨v, ws, rfl, g1, g2, g3, g4, g5, g6⟩
      exact ⟨v, rfl, ⟨fun _ => ⟨fun h3 => (by rw [listed_at] at h3; cases h3), fun _ => ⟨g5, (KeepBut.of_below _ hBD.out).trans g6 (fun _ _ h => h)⟩⟩, fun h6 => (by rw [listed_ne (by decide), h5] at h6; cases h6)⟩, trivial, ws, g1, g2, g3, g4⟩
    · obtain rfl := Option.some.inj hi
      have s3 : A.tmps.getD 3 undef = .pointer (some ⟨q, 0, none⟩) := dep3_of hdeps 0 (by kernel_rfl)
      exact t_value (I := I10 w pr q r) (R := R10 q 3 W) hi rfl rfl (y_nilc _ s3) (hS.next (by decide) (by decide)) rfl rfl
    · obtain rfl := Option.some.inj hi
      have s6 : A.tmps.getD 6 undef = .pointer (some ⟨q, 0, none⟩) := dep3_of hdeps 3 (by kernel_rfl)
      exact t_value (I := I10 w pr q r) (R := R10 q 4 W) hi rfl rfl (y_fldQ10 _ s6) (hS.next (by decide) (by decide)) rfl rfl
    · obtain rfl := Option.some.inj hi
      have h3 := (hS.1 hN.un).2 (listed_dep hN 2 (by kernel_rfl))
      have hg : ∃ ws, GotW w W r (A.tmps.getD 5 undef) ws := dep3_of hdeps 2 (by kernel_rfl)
      obtain ⟨ws, g1, g2, g3, g4⟩ := hg
      have s7 : A.tmps.getD 7 undef = .pointer (some ⟨q, 32, none⟩) := dep3_of hdeps 4 (by kernel_rfl)
      obtain ⟨v, hv⟩ : ∃ v, A.tmps.getD 5 undef = v := ⟨_, rfl⟩
      rw [hv] at g1 g2
      obtain ⟨ao, c, rfl, _, _⟩ := g1.shape
      have hbx := H2.out.keep h3.2 HNQ.out
      have hb := setRow_box (cs' := msgA { m with wr := ws } (.slice ao ws.length c)) hbx
      have hlt := H2.out.lt
      refine t_store (I := I10 w pr q r) (R := R10 q 5 W) hi rfl (y_storeMid (cs' := msgA { m with wr := ws } (.slice ao ws.length c)) _ _ _ s7 hv hbx rfl rfl infoWs rfl) ⟨fun h6 => (by rw [listed_at] at h6; cases h6), fun _ => ⟨.slice ao ws.length c, ws, hb.1, ⟨g1.keep hb.2 (fun g hg e => by have := g2 g hg; omega), g2, g3, g4⟩, h3.1.keep hb.2 (fun e => HNQ.out e.symm) (fun g hg e => HVQ.out (by rw [hg, e])), ?_⟩⟩ hb.2 trivial
      exact (h3.2.mono (fun k e => .inl e)).trans (hb.2.mono (S' := fun k => k = pr ∨ k = q) (fun k e => .inr e)) (fun _ _ e => e)
  · intro listed a w8 hall hS8 hsz hdf hold hnew
    have HR := hide (hS8.2 (hall 5 (by decide)))
    obtain ⟨tm, df⟩ := a
    have hdf : df = [] := hdf
    subst hdf
    clear hS8 hall hnew hold hsz H1 H2 HC
    go_wp2_with fail
    go_end0
    exact ⟨rfl, HR.out⟩
end
section
open Go.RowKit Classical

theorem en_m_fieldAt_parrel_api_Tx__1 : ∀ args w, (callFunc 129 args).run Tryz.prog w = .ok (.enter 129 args) w := enters_of Tryz.func129 (by kernel_rfl) rfl
theorem en_m_fieldAt_parrel_api_Tx__2 : ∀ args w, (callFunc 130 args).run Tryz.prog w = .ok (.enter 130 args) w := enters_of Tryz.func130 (by kernel_rfl) rfl
theorem en_m_fieldAt_parrel_api_Tx__3 : ∀ args w, (callFunc 131 args).run Tryz.prog w = .ok (.enter 131 args) w := enters_of Tryz.func131 (by kernel_rfl) rfl
theorem en_m_fieldAt_parrel_api_Tx__4 : ∀ args w, (callFunc 132 args).run Tryz.prog w = .ok (.enter 132 args) w := enters_of Tryz.func132 (by kernel_rfl) rfl
theorem en_m_fieldAt_uint32__1 : ∀ args w, (callFunc 136 args).run Tryz.prog w = .ok (.enter 136 args) w := enters_of Tryz.func136 (by kernel_rfl) rfl
theorem en_m_fieldAt_uint32__2 : ∀ args w, (callFunc 137 args).run Tryz.prog w = .ok (.enter 137 args) w := enters_of Tryz.func137 (by kernel_rfl) rfl
theorem en_m_fieldAt_uint32__3 : ∀ args w, (callFunc 138 args).run Tryz.prog w = .ok (.enter 138 args) w := enters_of Tryz.func138 (by kernel_rfl) rfl
theorem en_m_fieldAt_uint32__4 : ∀ args w, (callFunc 139 args).run Tryz.prog w = .ok (.enter 139 args) w := enters_of Tryz.func139 (by kernel_rfl) rfl
theorem en_m_fieldAt_parrel_api_Reg__1 : ∀ args w, (callFunc 140 args).run Tryz.prog w = .ok (.enter 140 args) w := enters_of Tryz.func140 (by kernel_rfl) rfl
theorem en_m_fieldAt_parrel_api_Reg__2 : ∀ args w, (callFunc 141 args).run Tryz.prog w = .ok (.enter 141 args) w := enters_of Tryz.func141 (by kernel_rfl) rfl
theorem en_m_fieldAt_parrel_api_Reg__3 : ∀ args w, (callFunc 142 args).run Tryz.prog w = .ok (.enter 142 args) w := enters_of Tryz.func142 (by kernel_rfl) rfl
theorem en_m_fieldAt_parrel_api_Reg__4 : ∀ args w, (callFunc 143 args).run Tryz.prog w = .ok (.enter 143 args) w := enters_of Tryz.func143 (by kernel_rfl) rfl
theorem en_m_fieldAt_parrel_api_Key__1 : ∀ args w, (callFunc 145 args).run Tryz.prog w = .ok (.enter 145 args) w := enters_of Tryz.func145 (by kernel_rfl) rfl
theorem en_m_fieldAt_parrel_api_Key__2 : ∀ args w, (callFunc 146 args).run Tryz.prog w = .ok (.enter 146 args) w := enters_of Tryz.func146 (by kernel_rfl) rfl
theorem en_m_fieldAt_parrel_api_Key__3 : ∀ args w, (callFunc 147 args).run Tryz.prog w = .ok (.enter 147 args) w := enters_of Tryz.func147 (by kernel_rfl) rfl
theorem en_m_fieldAt_parrel_api_Key__4 : ∀ args w, (callFunc 148 args).run Tryz.prog w = .ok (.enter 148 args) w := enters_of Tryz.func148 (by kernel_rfl) rfl
theorem en_m_fieldAt_uint8__1 : ∀ args w, (callFunc 149 args).run Tryz.prog w = .ok (.enter 149 args) w := enters_of Tryz.func149 (by kernel_rfl) rfl
theorem en_m_fieldAt_uint8__2 : ∀ args w, (callFunc 150 args).run Tryz.prog w = .ok (.enter 150 args) w := enters_of Tryz.func150 (by kernel_rfl) rfl
theorem en_m_fieldAt_uint8__3 : ∀ args w, (callFunc 151 args).run Tryz.prog w = .ok (.enter 151 args) w := enters_of Tryz.func151 (by kernel_rfl) rfl
theorem en_m_fieldAt_uint8__4 : ∀ args w, (callFunc 152 args).run Tryz.prog w = .ok (.enter 152 args) w := enters_of Tryz.func152 (by kernel_rfl) rfl
theorem en_m_fieldAt_parrel_api_Item__1 : ∀ args w, (callFunc 153 args).run Tryz.prog w = .ok (.enter 153 args) w := enters_of Tryz.func153 (by kernel_rfl) rfl
theorem en_m_fieldAt_parrel_api_Item__2 : ∀ args w, (callFunc 154 args).run Tryz.prog w = .ok (.enter 154 args) w := enters_of Tryz.func154 (by kernel_rfl) rfl
theorem en_m_fieldAt_parrel_api_Item__3 : ∀ args w, (callFunc 155 args).run Tryz.prog w = .ok (.enter 155 args) w := enters_of Tryz.func155 (by kernel_rfl) rfl
theorem en_m_fieldAt_parrel_api_Item__4 : ∀ args w, (callFunc 156 args).run Tryz.prog w = .ok (.enter 156 args) w := enters_of Tryz.func156 (by kernel_rfl) rfl
theorem en_i_TxMay : ∀ args w, (callFunc 92 args).run Tryz.prog w = .ok (.enter 92 args) w := enters_of Tryz.func92 (by kernel_rfl) rfl
theorem en_i_PutTx : ∀ args w, (callFunc 93 args).run Tryz.prog w = .ok (.enter 93 args) w := enters_of Tryz.func93 (by kernel_rfl) rfl
theorem en_i_GetTx : ∀ args w, (callFunc 94 args).run Tryz.prog w = .ok (.enter 94 args) w := enters_of Tryz.func94 (by kernel_rfl) rfl
theorem en_m_countMay : ∀ args w, (callFunc 47 args).run Tryz.prog w = .ok (.enter 47 args) w := enters_of Tryz.func47 (by kernel_rfl) rfl
theorem en_m_putCount : ∀ args w, (callFunc 69 args).run Tryz.prog w = .ok (.enter 69 args) w := enters_of Tryz.func69 (by kernel_rfl) rfl
theorem en_m_getCount : ∀ args w, (callFunc 77 args).run Tryz.prog w = .ok (.enter 77 args) w := enters_of Tryz.func77 (by kernel_rfl) rfl
theorem en_m_fieldsIn_1 : ∀ args w, (callFunc 84 args).run Tryz.prog w = .ok (.enter 84 args) w := enters_of Tryz.func84 (by kernel_rfl) rfl
theorem en_i_PutReg : ∀ args w, (callFunc 97 args).run Tryz.prog w = .ok (.enter 97 args) w := enters_of Tryz.func97 (by kernel_rfl) rfl
theorem en_i_GetReg : ∀ args w, (callFunc 98 args).run Tryz.prog w = .ok (.enter 98 args) w := enters_of Tryz.func98 (by kernel_rfl) rfl
theorem en_m_keyMay : ∀ args w, (callFunc 50 args).run Tryz.prog w = .ok (.enter 50 args) w := enters_of Tryz.func50 (by kernel_rfl) rfl
theorem en_cw_Key : ∀ args w, (callFunc 75 args).run Tryz.prog w = .ok (.enter 75 args) w := enters_of Tryz.func75 (by kernel_rfl) rfl
theorem en_cr_Key : ∀ args w, (callFunc 83 args).run Tryz.prog w = .ok (.enter 83 args) w := enters_of Tryz.func83 (by kernel_rfl) rfl
theorem en_m_fieldsIn_2 : ∀ args w, (callFunc 86 args).run Tryz.prog w = .ok (.enter 86 args) w := enters_of Tryz.func86 (by kernel_rfl) rfl
theorem en_cw_Byte : ∀ args w, (callFunc 55 args).run Tryz.prog w = .ok (.enter 55 args) w := enters_of Tryz.func55 (by kernel_rfl) rfl
theorem en_cr_Byte : ∀ args w, (callFunc 61 args).run Tryz.prog w = .ok (.enter 61 args) w := enters_of Tryz.func61 (by kernel_rfl) rfl
theorem en_m_fieldsIn_3 : ∀ args w, (callFunc 87 args).run Tryz.prog w = .ok (.enter 87 args) w := enters_of Tryz.func87 (by kernel_rfl) rfl
theorem en_m_fieldsIn_5 : ∀ args w, (callFunc 89 args).run Tryz.prog w = .ok (.enter 89 args) w := enters_of Tryz.func89 (by kernel_rfl) rfl
theorem en_m_fieldsIn_6 : ∀ args w, (callFunc 90 args).run Tryz.prog w = .ok (.enter 90 args) w := enters_of Tryz.func90 (by kernel_rfl) rfl
theorem en_m_fieldsIn_4 : ∀ args w, (callFunc 88 args).run Tryz.prog w = .ok (.enter 88 args) w := enters_of Tryz.func88 (by kernel_rfl) rfl
theorem en_m_ItemMay : ∀ args w, (callFunc 14 args).run Tryz.prog w = .ok (.enter 14 args) w := enters_of Tryz.func14 (by kernel_rfl) rfl
theorem en_m_PutItem : ∀ args w, (callFunc 26 args).run Tryz.prog w = .ok (.enter 26 args) w := enters_of Tryz.func26 (by kernel_rfl) rfl
theorem en_m_GetItem : ∀ args w, (callFunc 32 args).run Tryz.prog w = .ok (.enter 32 args) w := enters_of Tryz.func32 (by kernel_rfl) rfl
theorem en_m_fieldsIn_7 : ∀ args w, (callFunc 102 args).run Tryz.prog w = .ok (.enter 102 args) w := enters_of Tryz.func102 (by kernel_rfl) rfl
theorem en_m_fieldsIn_8 : ∀ args w, (callFunc 103 args).run Tryz.prog w = .ok (.enter 103 args) w := enters_of Tryz.func103 (by kernel_rfl) rfl
theorem en_m_fieldsIn_9 : ∀ args w, (callFunc 104 args).run Tryz.prog w = .ok (.enter 104 args) w := enters_of Tryz.func104 (by kernel_rfl) rfl
theorem en_m_fieldsIn_10 : ∀ args w, (callFunc 105 args).run Tryz.prog w = .ok (.enter 105 args) w := enters_of Tryz.func105 (by kernel_rfl) rfl
/-- The four functions of field number n of the message that lies in q. -/
def FV (n lo hi q : Nat) (w : World) (vs : List Value) : Prop := match n with
  | 0 => ∃ ba bm bp bg bz, FvA (lo + 2) hi q 1 (.func (.func 92) #[] #[]) (.func (.func 93) #[] #[]) (.func (.func 94) #[] #[]) 131 132 133 134 24 ((txE (0, 0, 0)).toArray) 129 130 131 132 ba bm bp bg bz w vs
  | 1 => ∃ ba bm bp bg bz, FvA (lo + 2) hi q 4 (.func (.func 47) #[] #[]) (.func (.func 69) #[] #[]) (.func (.func 77) #[] #[]) 136 100 115 122 22 (#[.int .u32 0]) 136 137 138 139 ba bm bp bg bz w vs
  | 2 => ∃ ba bm bp bg bz, FvA (lo + 2) hi q 5 (.func (.func 84) #[] #[.pointer (some ⟨lo, 0, none⟩)]) (.func (.func 97) #[] #[]) (.func (.func 98) #[] #[]) 138 126 139 140 26 ((rgE (0, 0)).toArray) 140 141 142 143 ba bm bp bg bz w vs
  | 3 => ∃ ba bm bp bg bz, FvA (lo + 2) hi q 7 (.func (.func 50) #[] #[]) (.func (.func 75) #[] #[]) (.func (.func 83) #[] #[]) 142 102 143 144 28 (eightA [0, 0, 0, 0, 0, 0, 0, 0]) 145 146 147 148 ba bm bp bg bz w vs
  | 4 => ∃ ba bm bp bg bz, FvA (lo + 2) hi q 15 (.func (.func 86) #[] #[]) (.func (.func 55) #[] #[]) (.func (.func 61) #[] #[]) 146 127 128 129 5 (#[.int .u8 0]) 149 150 151 152 ba bm bp bg bz w vs
  | 5 => ∃ ba bm bp bg bz, FvA (lo + 2) hi q 16 (.func (.func 47) #[] #[]) (.func (.func 69) #[] #[]) (.func (.func 77) #[] #[]) 136 100 115 122 22 (#[.int .u32 0]) 136 137 138 139 ba bm bp bg bz w vs
  | 6 => ∃ ba bm bp bg bz, FvA (lo + 2) hi q 17 (.func (.func 87) #[] #[]) (.func (.func 89) #[] #[]) (.func (.func 90) #[] #[]) 146 127 128 129 5 (#[.int .u8 0]) 149 150 151 152 ba bm bp bg bz w vs
  | 7 => ∃ ba bm bp bg bz, FvA (lo + 2) hi q 18 (.func (.func 88) #[] #[.pointer (some ⟨lo, 0, none⟩)]) (.func (.func 55) #[] #[]) (.func (.func 61) #[] #[]) 146 127 128 129 5 (#[.int .u8 0]) 149 150 151 152 ba bm bp bg bz w vs
  | 8 => ∃ ba bm bp bg bz, FvA (lo + 2) hi q 19 (.func (.func 14) #[] #[]) (.func (.func 26) #[] #[]) (.func (.func 32) #[] #[]) 148 41 64 75 32 (itA zeroIt) 153 154 155 156 ba bm bp bg bz w vs
  | _ => vs = [.func (.func 102) #[] #[.pointer (some ⟨lo, 0, none⟩)], .func (.func 103) #[] #[.pointer (some ⟨lo, 0, none⟩)], .func (.func 104) #[] #[.pointer (some ⟨lo, 0, none⟩)], .func (.func 105) #[] #[.pointer (some ⟨lo, 0, none⟩)]]
theorem FV.keep {n lo hi q : Nat} {w w' : World} {vs : List Value} {S : Nat → Prop} (h : FV n lo hi q w vs) (hk : KeepBut S w w') (hS : ∀ k, S k → k < lo + 2 ∨ hi ≤ k) : FV n lo hi q w' vs := by
  revert h
  unfold FV
  split <;> first | exact fun h => h | exact fun ⟨ba, bm, bp, bg, bz, h⟩ => ⟨ba, bm, bp, bg, bz, h.keep hk hS⟩
theorem FV.mono {n lo hi hi' q : Nat} {w : World} {vs : List Value} (h : FV n lo hi q w vs) (hh : hi ≤ hi') : FV n lo hi' q w vs := by
  revert h
  unfold FV
  split <;> first | exact fun h => h | exact fun ⟨ba, bm, bp, bg, bz, h⟩ => ⟨ba, bm, bp, bg, bz, h.mono hh (Nat.le_refl _)⟩
theorem FV.len {n lo hi q : Nat} {w : World} {vs : List Value} (h : FV n lo hi q w vs) : vs.length = 4 := by
  revert h
  unfold FV
  split <;> first | (intro h; rw [h]; rfl) | (rintro ⟨ba, bm, bp, bg, bz, h⟩; rw [h.eq]; rfl)
/-- All ten. -/
structure FA (lo hi q : Nat) (w : World) (F : Nat → List Value) : Prop where
  b : Box w lo #[.pointer (some ⟨q, 0, none⟩)] 95
  lt : lo + 2 ≤ hi
  f : ∀ n, n < 10 → FV n lo hi q w (F n)
theorem FA.keep {lo hi q : Nat} {w w' : World} {F : Nat → List Value} {S : Nat → Prop} (h : FA lo hi q w F) (hk : KeepBut S w w') (hS : ∀ k, S k → k < lo ∨ hi ≤ k) : FA lo hi q w' F :=
  ⟨h.b.keep hk (fun e => by have := hS _ e; have := h.lt; omega), h.lt, fun n hn => (h.f n hn).keep hk (fun k e => by have := hS k e; omega)⟩
theorem FA.below {lo hi q : Nat} {w w' : World} {F : Nat → List Value} (h : FA lo hi q w F) (hB : Below w.heap.size w w') : FA lo hi q w' F := h.keep (KeepBut.of_below (fun _ => False) hB) (fun _ e => e.elim)
theorem arr_app0 (a : Array Value) : a ++ #[] = a := Array.append_empty
theorem zero_dec (n : Nat) (hn : n < 10) (m : MsgP) : zeroB n m = decide (eqF n m (zeroM 0)) := by
  rw [Bool.eq_iff_iff, decide_eq_true_eq]
  exact zeroB_eq hn m 0
def FnOk (f : FuncId) : Prop := ∀ args w, (callFunc f args).run Tryz.prog w = .ok (.enter f args) w
theorem zeroIt_ok : ItOk zeroIt := ⟨by decide, (fun c hc => by cases hc), zeroC_ok⟩
set_option maxRecDepth 100000 in
theorem FA.none_any {lo hi q : Nat} {w : World} {F : Nat → List Value} {m : MsgP} {ao : Option Addr} {c n : Nat} (h : FA lo hi q w F) (hm : MsgOk m) (hb : Box w q (msgA m (.slice ao m.wr.length c)) 39) (hn : n < 10) :
    ∃ f cap, (F n)[0]? = some (.func (.func f) #[] cap) ∧ FnOk f ∧ Calls Tryz.prog f cap w fun e w' => e = .returned (.bool (zeroB n m)) ∧ Below w.heap.size w w' := by
  have hc : n = 0 ∨ n = 1 ∨ n = 2 ∨ n = 3 ∨ n = 4 ∨ n = 5 ∨ n = 6 ∨ n = 7 ∨ n = 8 ∨ n = 9 := by omega
  have hq := hb.lt
  have hF := h.f n hn
  rw [zero_dec n hn m]
  clear hn
  rcases hc with rfl | rfl | rfl | rfl | rfl | rfl | rfl | rfl | rfl | rfl
  · obtain ⟨ba, bm, bp, bg, bz, hf⟩ := hF
    rw [hf.eq]
    refine ⟨_, _, rfl, en_m_fieldAt_parrel_api_Tx__1, fa1_tx ba bz q 1 (txE m.tx) _ w (hf.a.cell 0 _ rfl) hf.z (msg_tx hb) rfl hf.a.lt hq (fun W => ?_)⟩
    exact (eql_tx10 m.tx (0, 0, 0) W).trans (congrArg (fun b => Result.ok (Value.bool b) W) (decide_eq_decide.2 Iff.rfl))
  · obtain ⟨ba, bm, bp, bg, bz, hf⟩ := hF
    rw [hf.eq]
    refine ⟨_, _, rfl, en_m_fieldAt_uint32__1, fa1_u32 ba bz q 4 (m.time : Int) _ w (hf.a.cell 0 _ rfl) hf.z (hb.cell 4 _ rfl) hf.a.lt hq (fun W => ?_)⟩
    exact (eql_u32_10 m.time 0 W).trans (congrArg (fun b => Result.ok (Value.bool b) W) (decide_eq_decide.2 Iff.rfl))
  · obtain ⟨ba, bm, bp, bg, bz, hf⟩ := hF
    rw [hf.eq]
    refine ⟨_, _, rfl, en_m_fieldAt_parrel_api_Reg__1, fa1_reg ba bz q 5 (rgE m.reg) _ w (hf.a.cell 0 _ rfl) hf.z (msg_reg hb) rfl hf.a.lt hq (fun W => ?_)⟩
    exact (eql_reg10 m.reg (0, 0) W).trans (congrArg (fun b => Result.ok (Value.bool b) W) (decide_eq_decide.2 Iff.rfl))
  · obtain ⟨ba, bm, bp, bg, bz, hf⟩ := hF
    rw [hf.eq]
    refine ⟨_, _, rfl, en_m_fieldAt_parrel_api_Key__1, fa1_key ba bz q 7 (eightE m.key) _ w (hf.a.cell 0 _ rfl) hf.z (msg_key hb) rfl hf.a.lt hq (fun W => ?_)⟩
    exact (eql_key10 (b := [0, 0, 0, 0, 0, 0, 0, 0]) hm.key.l rfl W).trans (congrArg (fun b => Result.ok (Value.bool b) W) (decide_eq_decide.2 Iff.rfl))
  · obtain ⟨ba, bm, bp, bg, bz, hf⟩ := hF
    rw [hf.eq]
    refine ⟨_, _, rfl, en_m_fieldAt_uint8__1, fa1_u8 ba bz q 15 (m.mode : Int) _ w (hf.a.cell 0 _ rfl) hf.z (hb.cell 15 _ rfl) hf.a.lt hq (fun W => ?_)⟩
    exact (eql_u8_10 m.mode 0 W).trans (congrArg (fun b => Result.ok (Value.bool b) W) (decide_eq_decide.2 Iff.rfl))
  · obtain ⟨ba, bm, bp, bg, bz, hf⟩ := hF
    rw [hf.eq]
    refine ⟨_, _, rfl, en_m_fieldAt_uint32__1, fa1_u32 ba bz q 16 (m.no : Int) _ w (hf.a.cell 0 _ rfl) hf.z (hb.cell 16 _ rfl) hf.a.lt hq (fun W => ?_)⟩
    exact (eql_u32_10 m.no 0 W).trans (congrArg (fun b => Result.ok (Value.bool b) W) (decide_eq_decide.2 Iff.rfl))
  · obtain ⟨ba, bm, bp, bg, bz, hf⟩ := hF
    rw [hf.eq]
    refine ⟨_, _, rfl, en_m_fieldAt_uint8__1, fa1_u8 ba bz q 17 (m.why : Int) _ w (hf.a.cell 0 _ rfl) hf.z (hb.cell 17 _ rfl) hf.a.lt hq (fun W => ?_)⟩
    exact (eql_u8_10 m.why 0 W).trans (congrArg (fun b => Result.ok (Value.bool b) W) (decide_eq_decide.2 Iff.rfl))
  · obtain ⟨ba, bm, bp, bg, bz, hf⟩ := hF
    rw [hf.eq]
    refine ⟨_, _, rfl, en_m_fieldAt_uint8__1, fa1_u8 ba bz q 18 (m.yes : Int) _ w (hf.a.cell 0 _ rfl) hf.z (hb.cell 18 _ rfl) hf.a.lt hq (fun W => ?_)⟩
    exact (eql_u8_10 m.yes 0 W).trans (congrArg (fun b => Result.ok (Value.bool b) W) (decide_eq_decide.2 Iff.rfl))
  · obtain ⟨ba, bm, bp, bg, bz, hf⟩ := hF
    rw [hf.eq]
    refine ⟨_, _, rfl, en_m_fieldAt_parrel_api_Item__1, fa1_item ba bz q 19 (itE m.item) _ w (hf.a.cell 0 _ rfl) hf.z (msg_item hb) rfl hf.a.lt hq (fun W => ?_)⟩
    exact (eql_it10 hm.item zeroIt_ok W).trans (congrArg (fun b => Result.ok (Value.bool b) W) (decide_eq_decide.2 Iff.rfl))
  · have hF : F 9 = _ := hF
    rw [hF]
    refine ⟨_, _, rfl, en_m_fieldsIn_7, (wn7_any lo q ao m.wr.length c w (h.b.cell 0 _ rfl) (hb.cell 32 _ rfl)).mono ?_⟩
    rintro e w' ⟨rfl, hB⟩
    refine ⟨?_, hB⟩
    have : decide (m.wr.length = 0) = decide (eqF 9 m (zeroM 0)) := by
      rw [Bool.eq_iff_iff, decide_eq_true_eq, decide_eq_true_eq]
      exact List.length_eq_zero_iff
    rw [this]
set_option maxRecDepth 100000 in
theorem FA.may_any {lo hi q : Nat} {w : World} {F : Nat → List Value} {m : MsgP} {ao : Option Addr} {c n : Nat} (h : FA lo hi q w F) (hm : MsgOk m) (hb : Box w q (msgA m (.slice ao m.wr.length c)) 39) (hs : RSrc wrE w (.slice ao m.wr.length c) m.wr) (hn : n < 10) :
    ∃ f cap, (F n)[1]? = some (.func (.func f) #[] cap) ∧ FnOk f ∧ Calls Tryz.prog f cap w fun e w' => e = .returned (.bool (mayF m n)) ∧ Below w.heap.size w w' := by
  have hc : n = 0 ∨ n = 1 ∨ n = 2 ∨ n = 3 ∨ n = 4 ∨ n = 5 ∨ n = 6 ∨ n = 7 ∨ n = 8 ∨ n = 9 := by omega
  have hq := hb.lt
  have hF := h.f n hn
  clear hn
  rcases hc with rfl | rfl | rfl | rfl | rfl | rfl | rfl | rfl | rfl | rfl
  · obtain ⟨ba, bm, bp, bg, bz, hf⟩ := hF
    rw [hf.eq]
    exact ⟨_, _, rfl, en_m_fieldAt_parrel_api_Tx__2, fa2_tx bm ba q 1 (txE m.tx) _ _ _ w (hf.m.cell 0 _ rfl) (hf.a.cell 0 _ rfl) (msg_tx hb) rfl hf.m.lt hf.a.lt hq en_i_TxMay (fun W hB => by rw [arr_app0]; exact txMay_any _ _ _ W)⟩
  · obtain ⟨ba, bm, bp, bg, bz, hf⟩ := hF
    rw [hf.eq]
    exact ⟨_, _, rfl, en_m_fieldAt_uint32__2, fa2_u32 bm ba q 4 (m.time : Int) _ _ _ w (hf.m.cell 0 _ rfl) (hf.a.cell 0 _ rfl) (hb.cell 4 _ rfl) hf.m.lt hf.a.lt hq en_m_countMay (fun W hB => by rw [arr_app0]; exact countMay_any m.time W)⟩
  · obtain ⟨ba, bm, bp, bg, bz, hf⟩ := hF
    rw [hf.eq]
    exact ⟨_, _, rfl, en_m_fieldAt_parrel_api_Reg__2, fa2_reg bm ba q 5 (rgE m.reg) _ _ _ w (hf.m.cell 0 _ rfl) (hf.a.cell 0 _ rfl) (msg_reg hb) rfl hf.m.lt hf.a.lt hq en_m_fieldsIn_1 (fun W hB => regMayC_any m.reg m.kind lo q W ((h.b.belowI hB).cell 0 _ rfl) ((hb.belowI hB).cell 0 _ rfl) (h.b.belowI hB).lt (hb.belowI hB).lt)⟩
  · obtain ⟨ba, bm, bp, bg, bz, hf⟩ := hF
    rw [hf.eq]
    exact ⟨_, _, rfl, en_m_fieldAt_parrel_api_Key__2, fa2_key bm ba q 7 (eightE m.key) _ _ _ w (hf.m.cell 0 _ rfl) (hf.a.cell 0 _ rfl) (msg_key hb) rfl hf.m.lt hf.a.lt hq en_m_keyMay (fun W hB => by rw [arr_app0]; exact keyMay_any m.key hm.key W)⟩
  · obtain ⟨ba, bm, bp, bg, bz, hf⟩ := hF
    rw [hf.eq]
    exact ⟨_, _, rfl, en_m_fieldAt_uint8__2, fa2_u8 bm ba q 15 (m.mode : Int) _ _ _ w (hf.m.cell 0 _ rfl) (hf.a.cell 0 _ rfl) (hb.cell 15 _ rfl) hf.m.lt hf.a.lt hq en_m_fieldsIn_2 (fun W hB => by rw [arr_app0]; exact modeMay_any m.mode W)⟩
  · obtain ⟨ba, bm, bp, bg, bz, hf⟩ := hF
    rw [hf.eq]
    exact ⟨_, _, rfl, en_m_fieldAt_uint32__2, fa2_u32 bm ba q 16 (m.no : Int) _ _ _ w (hf.m.cell 0 _ rfl) (hf.a.cell 0 _ rfl) (hb.cell 16 _ rfl) hf.m.lt hf.a.lt hq en_m_countMay (fun W hB => by rw [arr_app0]; exact countMay_any m.no W)⟩
  · obtain ⟨ba, bm, bp, bg, bz, hf⟩ := hF
    rw [hf.eq]
    exact ⟨_, _, rfl, en_m_fieldAt_uint8__2, fa2_u8 bm ba q 17 (m.why : Int) _ _ _ w (hf.m.cell 0 _ rfl) (hf.a.cell 0 _ rfl) (hb.cell 17 _ rfl) hf.m.lt hf.a.lt hq en_m_fieldsIn_3 (fun W hB => by rw [arr_app0]; exact whyMay_any m.why W)⟩
  · obtain ⟨ba, bm, bp, bg, bz, hf⟩ := hF
    rw [hf.eq]
    exact ⟨_, _, rfl, en_m_fieldAt_uint8__2, fa2_u8 bm ba q 18 (m.yes : Int) _ _ _ w (hf.m.cell 0 _ rfl) (hf.a.cell 0 _ rfl) (hb.cell 18 _ rfl) hf.m.lt hf.a.lt hq en_m_fieldsIn_4 (fun W hB => yesMay_any m.yes m.kind lo q W ((h.b.belowI hB).cell 0 _ rfl) ((hb.belowI hB).cell 0 _ rfl))⟩
  · obtain ⟨ba, bm, bp, bg, bz, hf⟩ := hF
    rw [hf.eq]
    exact ⟨_, _, rfl, en_m_fieldAt_parrel_api_Item__2, fa2_item bm ba q 19 (itE m.item) _ _ _ w (hf.m.cell 0 _ rfl) (hf.a.cell 0 _ rfl) (msg_item hb) rfl hf.m.lt hf.a.lt hq en_m_ItemMay (fun W hB => by rw [arr_app0]; exact itemMay_any m.item hm.item W)⟩
  · have hF : F 9 = _ := hF
    rw [hF]
    exact ⟨_, _, rfl, en_m_fieldsIn_8, wn8_any lo q ao m.wr.length c m.wr w (h.b.cell 0 _ rfl) (hb.cell 32 _ rfl) hs hm.wr⟩
set_option maxRecDepth 100000 in
theorem FA.put_any {lo hi q pw : Nat} {w w0 : World} {v : Value} {xs : List Int} {F : Nat → List Value} {m : MsgP} {ao : Option Addr} {c n : Nat} (h : FA lo hi q w F) (hm : MsgOk m) (hb : Box w q (msgA m (.slice ao m.wr.length c)) 39) (hs : RSrc wrE w0 (.slice ao m.wr.length c) m.wr) (hw : CBl w0 w pw v xs) (hl : xs.length ≤ 20000) (hn : n < 10) (hok : okF n m) :
    ∃ f cap, (F n)[2]? = some (.func (.func f) #[] cap) ∧ FnOk f ∧ Calls Tryz.prog f (#[.pointer (some ⟨pw, 0, none⟩)] ++ cap) w fun e w' => e = .returned (.tuple #[]) ∧ ∃ v', CWrote w w' pw v v' (xs ++ encF n m) := by
  have hc : n = 0 ∨ n = 1 ∨ n = 2 ∨ n = 3 ∨ n = 4 ∨ n = 5 ∨ n = 6 ∨ n = 7 ∨ n = 8 ∨ n = 9 := by omega
  have hq := hb.lt
  have hF := h.f n hn
  clear hn
  rcases hc with rfl | rfl | rfl | rfl | rfl | rfl | rfl | rfl | rfl | rfl
  · obtain ⟨ba, bm, bp, bg, bz, hf⟩ := hF
    rw [hf.eq]
    refine ⟨_, _, rfl, en_m_fieldAt_parrel_api_Tx__3, fa3_tx pw bp ba q 1 (txE m.tx) _ _ (fun w' => ∃ v', CWrote w w' pw v v' (xs ++ encF 0 m)) w (hf.p.cell 0 _ rfl) (hf.a.cell 0 _ rfl) (msg_tx hb) rfl hf.p.lt hf.a.lt hq en_i_PutTx (fun W hB => ?_)⟩
    rw [arr_app0]
    exact (puttx_any pw v xs (m.tx.1 : Int) m.tx.2.1 m.tx.2.2 W (hw.wr.below hB) (by omega) hm.tx.2.1 hm.tx.2.2).mono fun e w' ⟨e1, v', h'⟩ => ⟨e1, v', CWrote.before hB h'⟩
  · obtain ⟨ba, bm, bp, bg, bz, hf⟩ := hF
    rw [hf.eq]
    refine ⟨_, _, rfl, en_m_fieldAt_uint32__3, fa3_u32 pw bp ba q 4 (m.time : Int) _ _ (fun w' => ∃ v', CWrote w w' pw v v' (xs ++ encF 1 m)) w (hf.p.cell 0 _ rfl) (hf.a.cell 0 _ rfl) (hb.cell 4 _ rfl) hf.p.lt hf.a.lt hq en_m_putCount (fun W hB => ?_)⟩
    rw [arr_app0]
    exact (putCount_any pw v xs m.time W (hw.wr.below hB) (by unfold roomFor; omega) hm.time).mono fun e w' ⟨e1, v', h'⟩ => ⟨e1, v', CWrote.before hB h'⟩
  · obtain ⟨ba, bm, bp, bg, bz, hf⟩ := hF
    rw [hf.eq]
    refine ⟨_, _, rfl, en_m_fieldAt_parrel_api_Reg__3, fa3_reg pw bp ba q 5 (rgE m.reg) _ _ (fun w' => ∃ v', CWrote w w' pw v v' (xs ++ encF 2 m)) w (hf.p.cell 0 _ rfl) (hf.a.cell 0 _ rfl) (msg_reg hb) rfl hf.p.lt hf.a.lt hq en_i_PutReg (fun W hB => ?_)⟩
    rw [arr_app0]
    exact (putreg_any pw v xs m.reg.1 m.reg.2 W (hw.wr.below hB) (by omega) hm.reg.1 hm.reg.2).mono fun e w' ⟨e1, v', h'⟩ => ⟨e1, v', CWrote.before hB h'⟩
  · obtain ⟨ba, bm, bp, bg, bz, hf⟩ := hF
    rw [hf.eq]
    refine ⟨_, _, rfl, en_m_fieldAt_parrel_api_Key__3, fa3_key pw bp ba q 7 (eightE m.key) _ _ (fun w' => ∃ v', CWrote w w' pw v v' (xs ++ encF 3 m)) w (hf.p.cell 0 _ rfl) (hf.a.cell 0 _ rfl) (msg_key hb) rfl hf.p.lt hf.a.lt hq en_cw_Key (fun W hB => ?_)⟩
    rw [arr_app0]
    exact (ckeyI_any pw v xs m.key W hm.key.l (hw.wr.below hB) (by omega)).mono fun e w' ⟨e1, v', h'⟩ => ⟨e1, v', CWrote.before hB h'⟩
  · obtain ⟨ba, bm, bp, bg, bz, hf⟩ := hF
    rw [hf.eq]
    refine ⟨_, _, rfl, en_m_fieldAt_uint8__3, fa3_u8 pw bp ba q 15 (m.mode : Int) _ _ (fun w' => ∃ v', CWrote w w' pw v v' (xs ++ encF 4 m)) w (hf.p.cell 0 _ rfl) (hf.a.cell 0 _ rfl) (hb.cell 15 _ rfl) hf.p.lt hf.a.lt hq en_cw_Byte (fun W hB => ?_)⟩
    rw [arr_app0]
    exact (cwbyte_any pw v xs (m.mode : Int) W (hw.wr.below hB) (by unfold roomFor; omega)).mono fun e w' ⟨e1, v', h'⟩ => ⟨e1, v', CWrote.before hB h'⟩
  · obtain ⟨ba, bm, bp, bg, bz, hf⟩ := hF
    rw [hf.eq]
    refine ⟨_, _, rfl, en_m_fieldAt_uint32__3, fa3_u32 pw bp ba q 16 (m.no : Int) _ _ (fun w' => ∃ v', CWrote w w' pw v v' (xs ++ encF 5 m)) w (hf.p.cell 0 _ rfl) (hf.a.cell 0 _ rfl) (hb.cell 16 _ rfl) hf.p.lt hf.a.lt hq en_m_putCount (fun W hB => ?_)⟩
    rw [arr_app0]
    exact (putCount_any pw v xs m.no W (hw.wr.below hB) (by unfold roomFor; omega) hm.no).mono fun e w' ⟨e1, v', h'⟩ => ⟨e1, v', CWrote.before hB h'⟩
  · obtain ⟨ba, bm, bp, bg, bz, hf⟩ := hF
    rw [hf.eq]
    refine ⟨_, _, rfl, en_m_fieldAt_uint8__3, fa3_u8 pw bp ba q 17 (m.why : Int) _ _ (fun w' => ∃ v', CWrote w w' pw v v' (xs ++ encF 6 m)) w (hf.p.cell 0 _ rfl) (hf.a.cell 0 _ rfl) (hb.cell 17 _ rfl) hf.p.lt hf.a.lt hq en_m_fieldsIn_5 (fun W hB => ?_)⟩
    rw [arr_app0]
    exact (putWhy_any pw v xs m.why W (hw.wr.below hB) (by unfold roomFor; omega) hm.why).mono fun e w' ⟨e1, v', h'⟩ => ⟨e1, v', CWrote.before hB h'⟩
  · obtain ⟨ba, bm, bp, bg, bz, hf⟩ := hF
    rw [hf.eq]
    refine ⟨_, _, rfl, en_m_fieldAt_uint8__3, fa3_u8 pw bp ba q 18 (m.yes : Int) _ _ (fun w' => ∃ v', CWrote w w' pw v v' (xs ++ encF 7 m)) w (hf.p.cell 0 _ rfl) (hf.a.cell 0 _ rfl) (hb.cell 18 _ rfl) hf.p.lt hf.a.lt hq en_cw_Byte (fun W hB => ?_)⟩
    rw [arr_app0]
    exact (cwbyte_any pw v xs (m.yes : Int) W (hw.wr.below hB) (by unfold roomFor; omega)).mono fun e w' ⟨e1, v', h'⟩ => ⟨e1, v', CWrote.before hB h'⟩
  · obtain ⟨ba, bm, bp, bg, bz, hf⟩ := hF
    rw [hf.eq]
    refine ⟨_, _, rfl, en_m_fieldAt_parrel_api_Item__3, fa3_item pw bp ba q 19 (itE m.item) _ _ (fun w' => ∃ v', CWrote w w' pw v v' (xs ++ encF 8 m)) w (hf.p.cell 0 _ rfl) (hf.a.cell 0 _ rfl) (msg_item hb) rfl hf.p.lt hf.a.lt hq en_m_PutItem (fun W hB => ?_)⟩
    rw [arr_app0]
    exact (putItem_any pw v xs m.item W (hw.wr.below hB) (by omega) hm.item (by have : m.item.val.length ≤ 64 := hok.2.1; omega)).mono fun e w' ⟨e1, v', h'⟩ => ⟨e1, v', CWrote.before hB h'⟩
  · have hF : F 9 = _ := hF
    rw [hF]
    refine ⟨_, _, rfl, en_m_fieldsIn_9, wn9_any pw lo q ao m.wr.length c (fun w' => ∃ v', CWrote w w' pw v v' (xs ++ encF 9 m)) w (h.b.cell 0 _ rfl) (hb.cell 32 _ rfl) ?_⟩
    exact putWrites_any w0 pw v xs ao m.wr.length c m.wr w hw hs (by omega) hm.wr hok.2 hok.1
end
end Go.Proofs.YtoppdelljjapoaaGreat
