/-
  Rows of the reference's wires: a slice of one's own whose elements are three cells each; append to it, at a step of a region that draws too. Own work.
-/
import Derived.Test.YteehkjdolmmapaaNtKit
import Derived.Laws.AppendOwnNone
import Derived.Deep.DeepAppendWide
import Derived.Deep.RegionHeldLaw
namespace Go.Proofs.Yteehkjdolmmapaa
open Go.RowKit

theorem infoRW3 : (Try.prog.info? 39).map (fun i => (i.zero, i.size, i.bytes)) = some (some (.agg #[.int .u8 0, .int .u8 0, .slice none 0 0]), 3, 32) := by kernel_rfl
theorem info_parts3 {P : Program} {e : TypeId} {z : Value} {s b : Nat} (h : (P.info? e).map (fun i => (i.zero, i.size, i.bytes)) = some (some z, s, b)) : ∃ i, P.info? e = some i ∧ i.zero = some z ∧ i.size = s ∧ i.bytes = b := by
  cases hi : P.info? e with
  | none => rw [hi] at h; cases h
  | some i =>
    rw [hi] at h
    simp at h
    exact ⟨i, rfl, h.1, h.2.1, h.2.2⟩
/-- The cells of wires. -/
def wcl (ws : List (Wr × Value)) : List Value := ws.flatMap fun p => [.int .u8 (p.1.fr : Int), .int .u8 (p.1.to : Int), p.2]
theorem wcl_nil : wcl [] = [] := rfl
theorem wcl_cons (p : Wr × Value) (ws : List (Wr × Value)) : wcl (p :: ws) = .int .u8 (p.1.fr : Int) :: .int .u8 (p.1.to : Int) :: p.2 :: wcl ws := by simp [wcl]
theorem wcl_app (a b : List (Wr × Value)) : wcl (a ++ b) = wcl a ++ wcl b := by simp [wcl]
theorem wcl_len : ∀ ws : List (Wr × Value), (wcl ws).length = ws.length * 3
  | [] => rfl
  | p :: ws => by rw [wcl_cons]; simp [wcl_len ws]; omega
theorem wcl_take : ∀ (ws : List (Wr × Value)) (i : Nat), (wcl ws).take (i * 3) = wcl (ws.take i)
  | [], i => by simp [wcl]
  | p :: ws, 0 => by simp [wcl]
  | p :: ws, i + 1 => by
    rw [wcl_cons, show (i + 1) * 3 = i * 3 + 1 + 1 + 1 by omega]
    simp only [List.take_succ_cons]
    rw [wcl_take ws i, wcl_cons]
theorem wcl_drop : ∀ (ws : List (Wr × Value)) (i : Nat), (wcl ws).drop (i * 3) = wcl (ws.drop i)
  | [], i => by simp [wcl]
  | p :: ws, 0 => by simp
  | p :: ws, i + 1 => by
    rw [wcl_cons, show (i + 1) * 3 = i * 3 + 1 + 1 + 1 by omega]
    simp only [List.drop_succ_cons]
    rw [wcl_drop ws i]
theorem wcl_at {ws : List (Wr × Value)} {i : Nat} (h : i < ws.length) : (wcl ws)[i * 3]? = some (.int .u8 (ws[i].1.fr : Int)) ∧ (wcl ws)[i * 3 + 1]? = some (.int .u8 (ws[i].1.to : Int)) ∧ (wcl ws)[i * 3 + 2]? = some ws[i].2 := by
  have h1 : (wcl ws).drop (i * 3) = wcl (ws[i] :: ws.drop (i + 1)) := by rw [wcl_drop, List.drop_eq_getElem_cons h]
  rw [wcl_cons] at h1
  have g : ∀ j, (wcl ws)[i * 3 + j]? = ((wcl ws).drop (i * 3))[j]? := fun j => by rw [List.getElem?_drop]
  refine ⟨?_, ?_, ?_⟩
  · have := g 0; rw [h1] at this; simpa using this
  · have := g 1; rw [h1] at this; simpa using this
  · have := g 2; rw [h1] at this; simpa using this
/-- Each one's bytes are a slice. -/
def Sliced (ws : List (Wr × Value)) : Prop := ∀ p ∈ ws, ∃ ao l c, p.2 = .slice ao l c
theorem wcl_one {ws : List (Wr × Value)} (h : Sliced ws) : ∀ u ∈ wcl ws, u.oneCell' = true := by
  intro u hu
  unfold wcl at hu
  obtain ⟨p, hp, hu⟩ := List.mem_flatMap.1 hu
  obtain ⟨ao, l, c, e⟩ := h p hp
  simp at hu
  rcases hu with rfl | rfl | rfl
  · rfl
  · rfl
  · rw [e]; rfl
/-- A slice that reads as these wires, whatever its form. -/
def WSrc (w : World) (v : Value) (ws : List (Wr × Value)) : Prop :=
  Sliced ws ∧ ∃ (ao : Option Addr) (c : Nat), v = .slice ao ws.length c ∧ ws.length ≤ c ∧ (ao = none → ws = [] ∧ c = 0) ∧ ∀ ad, ao = some ad → ∀ j u, (wcl ws)[j]? = some u → w.cell? (ad.add j) = some u
/-- 'append(v, x...)' at a step of a region that draws. -/
theorem step_wires {ops : Array Oper} {o : Oper} {a : Act} {K : Act → World → Prop} {Q : Exit → Act → World → Prop} {E : Prop} (w : World) (hgd : o.guard = none) (s x : Operand)
    (ho : o.op = .call { callee := .builtin .append, args := #[s, x], argTypes := #[29, 29] })
    (base : Nat) (v vx : Value) (ys xs : List (Wr × Value)) (hs : a.eval s = v) (hown : w.ownsRow base 39 3 v ys.length (wcl ys)) (hx : a.eval x = vx) (hL : WSrc w vx xs)
    (hb : ys.length + xs.length ≤ 1000000) (hbase : base ≤ w.heap.size)
    (h : ∀ v' w', w'.ownsRow base 39 3 v' (ys.length + xs.length) (wcl (ys ++ xs)) → w.grownBy w' v.ownBlock → K (a.put o.dst v') w') :
    if Region.wanted o (yielded ops a.tmps) = true then Oper.wp Try.prog o a w K Q else E := by
  have hw : Region.wanted o (yielded ops a.tmps) = true := by simp [Region.wanted, hgd]
  rw [if_pos hw]
  obtain ⟨i0, hi, hz0, hz1, hz2⟩ := info_parts3 infoRW3
  obtain ⟨hsl, ao, c, rfl, _, hn, hc⟩ := hL
  cases ao with
  | none =>
    obtain ⟨rfl, rfl⟩ := hn rfl
    have hk := h v w (by simpa using hown) (World.grownBy.refl _ _)
    have hrun := run_append_owned_none (P := Try.prog) (w := w) base 29 o.type 39 i0 3 Try.underlying29 hi v ys.length _ hown
    unfold Oper.wp
    simp [execOp, ho, resolve, invoke, builtin, hs, hx, hrun, Result.andThen]
    exact hk
  | some ad =>
    exact wp_append_own_wide w s x 29 ho base 39 i0 _ 3 32 Try.underlying29 hi hz0 hz1 hz2 rfl (by decide) v ys.length _ hs hown ad xs.length c (wcl xs) hx (wcl_len xs) (hc ad rfl) (wcl_one hsl)
      (by unfold maxLen; omega) (by omega) hbase (fun v' w' h1 h2 _ => h v' w' (by rw [wcl_app]; exact h1) h2)
theorem owns_src {w : World} {base : Nat} {v : Value} {ws : List (Wr × Value)} (h : w.ownsRow base 39 3 v ws.length (wcl ws)) (hs : Sliced ws) : WSrc w v ws := by
  refine ⟨hs, ?_⟩
  have h0 := h
  obtain ⟨_, ⟨rfl, hn⟩ | ⟨g, cap, cur, rfl, hb, hh, hcap, r⟩⟩ := h
  · have : ws = [] := List.eq_nil_of_length_eq_zero hn
    subst this
    exact ⟨none, 0, rfl, Nat.le_refl _, fun _ => ⟨rfl, rfl⟩, fun ad e => (by cases e)⟩
  · exact ⟨_, cap, rfl, hcap, fun e => (by cases e), fun ad e j u hu => (by cases e; exact h0.cells rfl j u hu)⟩
theorem WSrc.keep {S : Nat → Prop} {w w' : World} {v : Value} {ws : List (Wr × Value)} (h : WSrc w v ws) (hk : KeepBut S w w') (hS : ∀ g, v.ownBlock = some g → g < w.heap.size ∧ ¬ S g) : WSrc w' v ws := by
  obtain ⟨h1, ao, c, rfl, hlc, h2, h3⟩ := h
  refine ⟨h1, ao, c, rfl, hlc, h2, fun ad e j u hu => ?_⟩
  subst e
  rw [← h3 ad rfl j u hu]
  have hg := hS ad.block rfl
  have hbl : (ad.add j).block = ad.block := by obtain ⟨b, o, sp⟩ := ad; unfold Addr.add; split <;> rfl
  exact World.cell?_of_block (by rw [hbl]; exact hk.block _ hg.1 hg.2)
/-- One wire in a new block. -/
theorem src_one (w : World) (x : Wr) (ao : Option Addr) (l c : Nat) (t : TypeId) : WSrc (w.alloc (.cells #[.int .u8 (x.fr : Int), .int .u8 (x.to : Int), .slice ao l c] t)) (.slice (some ⟨w.heap.size, 0, none⟩) 1 1) [(x, .slice ao l c)] := by
  refine ⟨fun p hp => ?_, _, 1, rfl, Nat.le_refl _, fun e => (by cases e), fun ad e j u hu => ?_⟩
  · simp at hp; subst hp; exact ⟨ao, l, c, rfl⟩
  · cases e
    rw [Addr.add_lit, Nat.zero_add]
    have hb := box_new w #[.int .u8 (x.fr : Int), .int .u8 (x.to : Int), .slice ao l c] t
    refine hb.cell j u ?_
    rw [wcl_cons, wcl_nil] at hu
    simpa using hu
/-- 'x[:n]', 'x[n:]' of wires. -/
theorem run_to8 (w : World) (ao : Option Addr) (m cap n : Nat) (hn : n ≤ cap) : (Instr.sliceAt 29 (.slice ao m cap) none (some (.int .i64 n)) none).run Try.prog w = .ok (.slice ao n cap) w := by
  have h2 : (if cap = 0 then ao else Option.map (fun x => x.add 0) ao) = ao := by
    split
    · rfl
    · cases ao with
      | none => rfl
      | some ad => simp [Addr.add]
  simp [Instr.sliceAt, Instr.slice, run_underlying Try.underlying29, Instr.sliceBounds, Instr.sliceBound, asIntOf, h2]
  omega
theorem sizeRW : (sizeOf 39).run Try.prog = fun w => .ok 3 w := by
  funext w
  obtain ⟨i0, hi, hz0, hz1, hz2⟩ := info_parts3 infoRW3
  simp [sizeOf, typeInfo, hi, hz1]
theorem run_from8 (w : World) (ao : Option Addr) (n cap s : Nat) (hs : s ≤ n) : (Instr.sliceAt 29 (.slice ao n cap) (some (.int .i64 s)) none none).run Try.prog w = .ok (.slice (if cap = s then ao else ao.map (·.add (s * 3))) (n - s) (cap - s)) w := by
  obtain ⟨i0, hi, hz0, hz1, hz2⟩ := info_parts3 infoRW3
  simp [Instr.sliceAt, Instr.slice, run_underlying Try.underlying29, Instr.sliceBounds, Instr.sliceBound, asIntOf, sizeOf, typeInfo, hi, hz1]
  omega
theorem src_take {w : World} {ao : Option Addr} {cap i : Nat} {ws : List (Wr × Value)} (h : WSrc w (.slice ao ws.length cap) ws) (hi : i ≤ ws.length) (hne : ws ≠ []) : WSrc w (.slice ao i cap) (ws.take i) := by
  obtain ⟨h1, ao', c, e, hlc, h2, h3⟩ := h
  cases e
  refine ⟨fun p hp => h1 p (List.mem_of_mem_take hp), ao, cap, by rw [List.length_take]; congr 1; omega, (by rw [List.length_take]; omega), fun e => absurd (h2 e).1 hne, fun ad e j u hu => h3 ad e j u ?_⟩
  rw [← wcl_take, List.getElem?_take] at hu
  split at hu
  · exact hu
  · cases hu
theorem src_drop {w : World} {ao : Option Addr} {cap i : Nat} {ws : List (Wr × Value)} (h : WSrc w (.slice ao ws.length cap) ws) (hi : i ≤ ws.length) (hne : ws ≠ []) : WSrc w (.slice (if cap = i then ao else ao.map (·.add (i * 3))) (ws.length - i) (cap - i)) (ws.drop i) := by
  obtain ⟨h1, ao', c, e, hlc, h2, h3⟩ := h
  cases e
  cases ao with
  | none => exact absurd (h2 rfl).1 hne
  | some ad =>
    refine ⟨fun p hp => h1 p (List.mem_of_mem_drop hp), (if cap = i then some ad else (some ad).map (·.add (i * 3))), cap - i, by rw [List.length_drop], (by rw [List.length_drop]; omega), fun e => (by split at e <;> cases e), fun ad' e j u hu => ?_⟩
    have hu2 : (wcl ws)[i * 3 + j]? = some u := by rw [← List.getElem?_drop, wcl_drop]; exact hu
    split at e
    · rename_i hc
      cases e
      exfalso
      have : (wcl (ws.drop i)).length = 0 := by rw [wcl_len, List.length_drop]; omega
      have h4 := (List.getElem?_eq_some_iff.1 hu).1
      omega
    · cases e
      rw [Addr.add_add]
      exact h3 ad rfl _ u hu2
end Go.Proofs.Yteehkjdolmmapaa
