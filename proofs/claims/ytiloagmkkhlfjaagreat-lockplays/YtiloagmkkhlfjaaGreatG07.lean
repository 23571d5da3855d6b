/-
  Own texts put together: GRng, TbMore, Recs, MgVals, TbDo, TbMap, IdVals, IdSetK, IdSet. Own work.
-/
import Derived.Test.YtiloagmkkhlfjaaGreatG06
import Derived.Test.YtiloagmkkhlfjaaGreatG05
import Derived.Test.YtiloagmkkhlfjaaGreatG01
import Derived.Test.YtiloagmkkhlfjaaGreatG04
import Derived.Maps.RangeWalk
import Derived.Laws.AppendOwnNone
import Derived.Maps.AppendAt
import Derived.Deep.RegionHeldLaw
import Derived.Laws.StructEq
import Derived.Laws.BytesArg
import Derived.Maps.OwnSet
import Derived.DeepKeys4
import Derived.OpenShut
import Derived.Deep.QuietTactic
import Derived.BigQuiet
import Derived.Carry
namespace Go.Proofs.YtiloagmkkhlfjaaGreat
section
open Go.RowKit Go.Maps Classical
structure jB {K E : Type} (kt : TypeId) (kL : K → Lit) (eV : E → Value) (w : World) (b r : Nat) (g0 g : K → Option E) (ks : List K) : Prop where
 own : ∃ (R : Value → Option (DataW E × List MemPlace)) (D : DataW E) (left : Lit → Bool) (cnt n : Nat), ElemG eV R ∧ w.ranges Tryz.prog kt R b r n D left cnt ∧ (∀ k, Maps.has D (kL k) = (g k).isSome) ∧ (∀ k e, g k = some e → ∀ z, D.atKey (kL k) z = .held e) ∧ ∀ k, left (kL k) = true ↔ (g k).isSome = true ∧ k ∉ ks
 nodup : ks.Nodup
 was : ∀ k ∈ ks, (g0 k).isSome = true
 now : ∀ k, k ∉ ks → g k = g0 k
structure GEnd {K E : Type} (g : K → Option E) (ks : List K) : Prop where
 all : ∀ k, k ∉ ks → g k = none
structure GStep {K E : Type} (kt : TypeId) (kV : K → Value) (kL : K → Lit) (eV : E → Value) (w : World) (b r : Nat) (g0 g : K → Option E) (ks : List K) where
 k : K
 e : E
 w' : World
 new : k ∉ ks
 is : g k = some e
 rng : jB kt kL eV w' b r g0 g (ks ++ [k])
 less : w'.rangeLeft b r < w.rangeLeft b r
 keep : aC (fun j => j = r) w w'
 size : w'.heap.size = w.heap.size
 ent : (Instr.entry (.pointer (some ⟨r, 0, none⟩))).run Tryz.prog w' = .ok (.tuple #[kV k, eV e]) w'
section
variable {K E : Type} {mt kt et : TypeId} {kV : K → Value} {kL : K → Lit} {eV : E → Value} {z : E} {w w' : World} {b r n : Nat} {g0 g : K → Option E} {ks : List K}
theorem jB.lt (h : jB kt kL eV w b r g0 g ks) : r < w.heap.size ∧ b < w.heap.size := by
 obtain ⟨_, _, _, _, _, _, hr, _⟩ := h.own
 exact ⟨hr.lt, hr.owns.lt⟩
theorem jB.ne (h : jB kt kL eV w b r g0 g ks) : r ≠ b := by
 obtain ⟨_, _, _, _, _, _, hr, _⟩ := h.own
 exact hr.ne
theorem ranges_keep {R : Value → Option (DataW E × List MemPlace)} {D : DataW E} {left : Lit → Bool} {cnt : Nat} {S : Nat → Prop} (h : w.ranges Tryz.prog kt R b r n D left cnt) (hk : aC S w w') (hb : ¬ S b) (hr : ¬ S r) : w'.ranges Tryz.prog kt R b r n D left cnt := by
 have h1 := h.owns.lt
 have h2 := h.lt
 obtain ⟨es, clock, since, seen, c0, hb0, F, hs, hD, hr0, rest⟩ := h
 exact ⟨es, clock, since, seen, c0, (hk.block b h1 hb).trans hb0, F, hs, hD, (hk.block r h2 hr).trans hr0, rest⟩
theorem jB.keep {S : Nat → Prop} (h : jB kt kL eV w b r g0 g ks) (hk : aC S w w') (hb : ¬ S b) (hr : ¬ S r) : jB kt kL eV w' b r g0 g ks ∧ w'.rangeLeft b r = w.rangeLeft b r := by
 obtain ⟨R, D, left, cnt, n, hR, ho, rest⟩ := h.own
 have h2 := ranges_keep ho hk hb hr
 exact ⟨⟨⟨R, D, left, cnt, n, hR, h2, rest⟩, h.nodup, h.was, h.now⟩, by rw [h2.left_eq, ho.left_eq]⟩
theorem jB.below (h : jB kt kL eV w b r g0 g ks) (hB : Below w.heap.size w w') : jB kt kL eV w' b r g0 g ks ∧ w'.rangeLeft b r = w.rangeLeft b r := h.keep (aC.of_below (fun _ => False) hB) (fun h => h) (fun h => h)
theorem keep_iter {w w' : World} {r : Nat} (h : w.grownBy w' (some r)) : aC (fun j => j = r) w w' := ⟨h.os, h.tape, h.output, h.size, fun k hk hn => h.block k hk (fun e => hn (Option.some.inj e))⟩
variable {ops : Array Oper} {rest : List Oper} {o : Oper} {a : Act} {Q : Exit → Act → World → Prop}
theorem kP (T : jN mt kt et kV kL eV z) (w : World) (hg : o.guard = none) (m : Operand) (hop : o.op = Op.range mt m) (hm : a.eval m = .map (some b)) (h : eT kt kL eV w b g n)
  (hK : ∀ w', jB kt kL eV w' b w.heap.size g g [] → Below w.heap.size w w' → w'.heap.size = w.heap.size + 1 → wpList Tryz.prog ops Q rest (a.put o.dst (.pointer (some ⟨w.heap.size, 0, none⟩))) w') : wpList Tryz.prog ops Q (o :: rest) a w := by
 obtain ⟨R, D, hR, ho, hs, hh, ha⟩ := h.own
 refine wpList_range_own w hg m mt hop kt et T.keyed T.und R b _ D hm ho (fun w' h1 h2 h3 => hK w' ⟨⟨R, D, Maps.has D, Maps.size D, _, hR, h1, hh, ha, fun k => by rw [hh k]; simp⟩, List.nodup_nil, (fun k hk => by cases hk), fun k _ => rfl⟩ ⟨h2.os, h2.tape, h2.output, h2.size, fun k hk => h2.block k hk (by simp)⟩ h3)
theorem gN (T : jN mt kt et kV kL eV z) (w : World) (hg : o.guard = none) (it : Operand) (hop : o.op = Op.next it false) (hit : a.eval it = .pointer (some ⟨r, 0, none⟩)) (h : jB kt kL eV w b r g0 g ks)
  (hDone : GEnd g ks → wpList Tryz.prog ops Q rest (a.put o.dst (.tuple #[.bool false])) w)
  (hMore : ∀ s : GStep kt kV kL eV w b r g0 g ks, wpList Tryz.prog ops Q rest (a.put o.dst (.tuple #[.bool true, kV s.k, eV s.e])) s.w') : wpList Tryz.prog ops Q (o :: rest) a w := by
 obtain ⟨R, D, left, cnt, n, hR, ho, hh, ha, hl⟩ := h.own
 refine wpList_next_ranges w hg it hop kt T.keyed R kV eV (fun key kl hk => by obtain ⟨x, hx, _⟩ := T.inv key kl hk; exact ⟨x, hx⟩) (fun v y hv => by obtain ⟨i, hi, _⟩ := hR.inv hv; exact ⟨i, hi⟩) b r n D left cnt hit ho (fun _ hl0 => hDone ⟨fun k hk => ?_⟩) (fun k e kl y w' cnt' hkey hlk hv hat ho' hlt hgr hsz hen => ?_)
 ·cases hgk : g k with
  | none => rfl
  | some e =>
   have := (hl k).2 ⟨by rw [hgk]; rfl, hk⟩
   rw [hl0] at this
   cases this
 ·have hkl : kl = kL k := by
   have := T.key k
   rw [hkey] at this
   exact Option.some.inj this
  subst hkl
  obtain ⟨hgs, hkn⟩ := (hl k).1 hlk
  obtain ⟨e2, he2⟩ := Option.isSome_iff_exists.1 hgs
  have hee : e2 = e := by
   obtain ⟨i, hi, hy⟩ := hR.inv hv
   have h1 := T.einj _ _ hi
   have h2 := hat (.held e2)
   rw [ha k e2 he2, hy] at h2
   cases h2
   exact h1.symm
  subst hee
  refine hMore ⟨k, e2, w', hkn, he2, ⟨⟨R, D, _, cnt', n, hR, ho', hh, ha, fun k' => ?_⟩, List.nodup_append.2 ⟨h.nodup, by simp, fun x hx y hy => ?_⟩, fun k' hk' => ?_, fun k' hk' => h.now k' (fun h2 => hk' (List.mem_append_left _ h2))⟩, ?_, keep_iter hgr, hsz, hen⟩
  ·by_cases e3 : k' = k
   ·subst e3
    rw [show (kL k').sameKey (kL k') = true from WideAt.sameKey_self (T.keyed.key (T.key k'))]
    simp
   ·rw [show (kL k').sameKey (kL k) = false from sameKey_ne (fun e4 => e3 (T.inj _ _ e4))]
    simp [hl k', e3]
  ·rw [List.mem_singleton] at hy
   subst hy
   exact fun e5 => hkn (e5 ▸ hx)
  ·rcases List.mem_append.1 hk' with h2 | h2
   ·exact h.was k' h2
   ·rw [List.mem_singleton] at h2
    subst h2
    rw [← h.now k' hkn, he2]
    rfl
  ·rw [ho'.left_eq, ho.left_eq]
   exact hlt
theorem wp_delete_g (T : jN mt kt et kV kL eV z) (w : World) (hg : o.guard = none) (m x : Operand) (hop : o.op = Op.call { callee := Callee.builtin Builtin.delete, args := #[m, x], argTypes := #[mt, kt] }) (k : K) (hm : a.eval m = .map (some b)) (hx : a.eval x = kV k) (h : jB kt kL eV w b r g0 g ks) (hk : k ∈ ks)
  (hK : ∀ w', jB kt kL eV w' b r g0 (fun k' => if k' = k then none else g k') ks → w'.rangeLeft b r ≤ w.rangeLeft b r → aC (fun j => j = b ∨ j = r) w w' → wpList Tryz.prog ops Q rest (a.put o.dst (.tuple #[])) w') : wpList Tryz.prog ops Q (o :: rest) a w := by
 obtain ⟨R, D, left, cnt, n, hR, ho, hh, ha, hl⟩ := h.own
 have hlt := ho.lt
 have hlb := ho.owns.lt
 refine wpList_delete_ranges w hg m x mt kt hop et T.keyed T.und R b r n D left cnt hm ho (kV k) (kL k) hx (T.key k) (fun w' cnt' ho' hle ht => hK w' ⟨⟨R, _, _, cnt', n, hR, ho', fun k' => ?_, fun k' j hj zz => ?_, fun k' => ?_⟩, h.nodup, h.was, fun k' hk' => ?_⟩ ?_ ?_)
 ·show _ = (if k' = k then none else g k').isSome
  by_cases e2 : k' = k
  ·subst e2
   rw [has_del_same, if_pos rfl]
   rfl
  ·rw [if_neg e2, has_del_other (fun e3 => e2 (T.inj _ _ e3)), hh k']
 ·replace hj : (if k' = k then none else g k') = some j := hj
  by_cases e2 : k' = k
  ·subst e2
   rw [if_pos rfl] at hj
   cases hj
  ·rw [if_neg e2] at hj
   rw [atKey_del_other (fun e3 => e2 (T.inj _ _ e3))]
   exact ha k' j hj zz
 ·show _ ↔ (if k' = k then none else g k').isSome = true ∧ k' ∉ ks
  by_cases e3 : k' = k
  ·subst e3
   rw [if_pos rfl, show (kL k').sameKey (kL k') = true from WideAt.sameKey_self (T.keyed.key (T.key k'))]
   simp
  ·rw [if_neg e3, show (kL k').sameKey (kL k) = false from sameKey_ne (fun e4 => e3 (T.inj _ _ e4))]
   simp [hl k']
 ·show (if k' = k then none else g k') = g0 k'
  rw [if_neg (fun e => hk' (by rw [e]; exact hk))]
  exact h.now k' hk'
 ·rw [ho'.left_eq, ho.left_eq]
  exact hle
 ·exact (keep_turned ht).mono (fun j e => .inl e)
theorem jB.map (h : jB kt kL eV w b r g0 g ks) : ∃ n, eT kt kL eV w b g n := by
 obtain ⟨R, D, left, cnt, n, hR, ho, hh, ha, hl⟩ := h.own
 exact ⟨Maps.size D, ⟨R, D, hR, tight_g ho.owns, rfl, hh, ha⟩⟩
end
end
section
open Go.RowKit
structure Rec {α : Type} (t e : TypeId) (K : Nat) (enc : α → List Value) : Prop where
 und : Tryz.prog.underlying t = some (.slice e)
 info : ∃ i z B, Tryz.prog.info? e = some i ∧ i.zero = some z ∧ i.size = K ∧ i.bytes = B ∧ z.cells.size = K ∧ B ≤ 4096
 pos : 0 < K
 len : ∀ x, (enc x).length = K
theorem jC {e : TypeId} {z : Value} {K B : Nat} (h : (Tryz.prog.info? e).map (fun i => (i.zero, i.size, i.bytes)) = some (some z, K, B)) (hz : z.cells.size = K) (hB : B ≤ 4096) : ∃ i z B, Tryz.prog.info? e = some i ∧ i.zero = some z ∧ i.size = K ∧ i.bytes = B ∧ z.cells.size = K ∧ B ≤ 4096 := by
 cases hi : Tryz.prog.info? e with
 | none => rw [hi] at h; cases h
 | some i =>
  rw [hi] at h
  simp at h
  exact ⟨i, z, B, rfl, h.1, h.2.1, h.2.2, hz, hB⟩
section
variable {α : Type} {t e : TypeId} {K : Nat} {enc : α → List Value}
def bR (enc : α → List Value) (xs : List α) : List Value := xs.flatMap enc
theorem kA (x : α) (xs : List α) : bR enc (x :: xs) = enc x ++ bR enc xs := by simp [bR]
theorem flat_app (a b : List α) : bR enc (a ++ b) = bR enc a ++ bR enc b := by simp [bR]
theorem flat_one (x : α) : bR enc [x] = enc x := by simp [bR]
theorem gY (h : ∀ x, (enc x).length = K) : ∀ xs : List α, (bR enc xs).length = xs.length * K
 | [] => by simp [bR]
 | x :: xs => by rw [kA, List.length_append, h, gY h xs, List.length_cons, Nat.add_mul]; omega
theorem flat_take (h : ∀ x, (enc x).length = K) : ∀ (xs : List α) (i : Nat), (bR enc xs).take (i * K) = bR enc (xs.take i)
 | [], i => by simp [bR]
 | x :: xs, 0 => by simp [bR]
 | x :: xs, i + 1 => by
  rw [kA, List.take_append, h, Nat.add_mul, Nat.one_mul, Nat.add_sub_cancel, flat_take h xs i, List.take_succ_cons, kA, List.take_of_length_le (by rw [h]; omega)]
theorem flat_drop (h : ∀ x, (enc x).length = K) : ∀ (xs : List α) (i : Nat), (bR enc xs).drop (i * K) = bR enc (xs.drop i)
 | [], i => by simp [bR]
 | x :: xs, 0 => by simp
 | x :: xs, i + 1 => by
  rw [kA, List.drop_append, h, Nat.add_mul, Nat.one_mul, Nat.add_sub_cancel, flat_drop h xs i, List.drop_succ_cons, List.drop_eq_nil_of_le (by rw [h]; omega), List.nil_append]
theorem jO (h : ∀ x, (enc x).length = K) {xs : List α} {i j : Nat} (hi : i < xs.length) (hj : j < K) : (bR enc xs)[i * K + j]? = (enc xs[i])[j]? := by
 have h1 : (bR enc xs)[i * K + j]? = ((bR enc xs).drop (i * K))[j]? := by rw [List.getElem?_drop]
 rw [h1, flat_drop h, List.drop_eq_getElem_cons hi, kA, List.getElem?_append_left (by rw [h]; exact hj)]
def bI (enc : α → List Value) (w : World) (v : Value) (xs : List α) : Prop :=
 ∃ (ao : Option Addr) (c : Nat), v = .slice ao xs.length c ∧ xs.length ≤ c ∧ c ≤ maxLen ∧ (ao = none → xs = [] ∧ c = 0) ∧ (xs ≠ [] → ∃ b off, ao = some ⟨b, off, none⟩ ∧ b < w.heap.size ∧ ∀ j u, (bR enc xs)[j]? = some u → w.cell? ⟨b, off + j, none⟩ = some u)
theorem bI.nil (w : World) : bI enc w (.slice none 0 0) [] := ⟨none, 0, rfl, Nat.le_refl _, Nat.zero_le _, fun _ => ⟨rfl, rfl⟩, fun h => absurd rfl h⟩
theorem bI.keep {S : Nat → Prop} {w w' : World} {v : Value} {xs : List α} (h : bI enc w v xs) (hk : aC S w w') (hS : ∀ g, v.ownBlock = some g → ¬ S g) : bI enc w' v xs := by
 obtain ⟨ao, c, rfl, h1, h2, h3, h4⟩ := h
 refine ⟨ao, c, rfl, h1, h2, h3, fun hne => ?_⟩
 obtain ⟨b, off, rfl, hb, hc⟩ := h4 hne
 refine ⟨b, off, rfl, Nat.lt_of_lt_of_le hb hk.size, fun j u hu => ?_⟩
 rw [← hc j u hu]
 exact World.cell?_of_block (hk.block b hb (hS b rfl))
theorem bI.below {w w' : World} {v : Value} {xs : List α} (h : bI enc w v xs) (hB : Below w.heap.size w w') : bI enc w' v xs := h.keep (aC.of_below (fun _ => False) hB) (fun _ _ h => h)
theorem bI.shape {w : World} {v : Value} {xs : List α} (h : bI enc w v xs) : ∃ (ao : Option Addr) (c : Nat), v = .slice ao xs.length c ∧ xs.length ≤ c ∧ c ≤ maxLen := by
 obtain ⟨ao, c, e, h1, h2, _⟩ := h
 exact ⟨ao, c, e, h1, h2⟩
theorem bI.block {w : World} {v : Value} {xs : List α} (h : bI enc w v xs) (hne : xs ≠ []) : ∃ b off c, v = .slice (some ⟨b, off, none⟩) xs.length c ∧ b < w.heap.size ∧ xs.length ≤ c := by
 obtain ⟨ao, c, rfl, h1, _, _, h4⟩ := h
 obtain ⟨b, off, rfl, hb, _⟩ := h4 hne
 exact ⟨b, off, c, rfl, hb, h1⟩
theorem bI.at (hl : ∀ x, (enc x).length = K) {w : World} {ao : Option Addr} {n c : Nat} {xs : List α} (h : bI enc w (.slice ao n c) xs) {i : Nat} (hi : i < xs.length) : n = xs.length ∧ ∃ b off, ao = some ⟨b, off, none⟩ ∧ b < w.heap.size ∧ ∀ j u, (enc xs[i])[j]? = some u → w.cell? ⟨b, off + i * K + j, none⟩ = some u := by
 obtain ⟨ao', c', e, h1, _, _, h4⟩ := h
 cases e
 obtain ⟨b, off, rfl, hb, hc⟩ := h4 (fun e => by rw [e] at hi; simp at hi)
 refine ⟨rfl, b, off, rfl, hb, fun j u hu => ?_⟩
 have hj : j < K := by have := (List.getElem?_eq_some_iff.1 hu).1; rw [hl] at this; exact this
 rw [Nat.add_assoc]
 exact hc _ _ (by rw [jO hl hi hj]; exact hu)
theorem bI.of_own {base : Nat} {w : World} {v : Value} {xs : List α} (h : w.ownsRow base e K v xs.length (bR enc xs)) : bI enc w v xs := by
 have h0 := h
 obtain ⟨_, ⟨rfl, hn⟩ | ⟨g, cap, cur, rfl, hb, hh, hcap, hm, r⟩⟩ := h
 ·obtain rfl : xs = [] := List.eq_nil_of_length_eq_zero hn
  exact bI.nil w
 ·refine ⟨_, cap, rfl, hcap, hm, fun e => (by cases e), fun _ => ⟨g, 0, rfl, (h0.lt g rfl).2, fun j u hu => ?_⟩⟩
  have := h0.cells rfl j u hu
  rw [Addr.add_lit] at this
  exact this
theorem aQ {base n : Nat} {w : World} {v : Value} {xs : List Value} (h : w.ownsRow base e K v n xs) : ∃ ao cap, v = .slice ao n cap ∧ n ≤ cap := by
 obtain ⟨_, ⟨rfl, rfl⟩ | ⟨g, cap, cur, rfl, _, _, hc, _⟩⟩ := h
 ·exact ⟨none, 0, rfl, Nat.le_refl _⟩
 ·exact ⟨_, cap, rfl, hc⟩
theorem dK (w : World) (x : α) (cs : Array Value) (h : cs.toList = enc x) (t' : TypeId) : bI enc (w.alloc (.cells cs t')) (.slice (some ⟨w.heap.size, 0, none⟩) 1 1) [x] := by
 refine ⟨_, 1, rfl, Nat.le_refl _, by decide, fun e => (by cases e), fun _ => ⟨w.heap.size, 0, rfl, by simp, fun j u hu => ?_⟩⟩
 rw [Nat.zero_add]
 refine (aN w cs t').cell j u ?_
 rw [flat_one, ← h] at hu
 simpa using hu
def appH (ats : Array TypeId) (ty : TypeId) (args : Array Value) : Sem Value := Builtin.append_ ats ty args
theorem iW (ats : Array TypeId) (ty : TypeId) (args : Array Value) : Builtin.append_ ats ty args = appH ats ty args := rfl
theorem run_recs (R : Rec t e K enc) (w : World) (base : Nat) (v vx : Value) (ys xs : List α) (hown : w.ownsRow base e K v ys.length (bR enc ys)) (hL : bI enc w vx xs) (h1 : ∀ x ∈ xs, ∀ u ∈ enc x, u.oneCell' = true) (hb : ys.length + xs.length ≤ 1000000) (hbase : base ≤ w.heap.size) :
  ∃ v' w', (∀ ty, (Builtin.append_ #[t, t] ty #[v, vx]).run Tryz.prog w = .ok v' w') ∧ w'.ownsRow base e K v' (ys ++ xs).length (bR enc (ys ++ xs)) ∧ w.grownBy w' v.ownBlock ∧ (v'.ownBlock = v.ownBlock ∨ v'.ownBlock = some w.heap.size) := by
 obtain ⟨i0, z, B, hi, hz0, hz1, hz2, hzs, hB⟩ := R.info
 obtain ⟨ao, c, rfl, hlc, _, hn, hc⟩ := hL
 cases ao with
 | none =>
  obtain ⟨rfl, rfl⟩ := hn rfl
  exact ⟨v, w, fun ty => run_append_owned_none (P := Tryz.prog) (w := w) base t ty e i0 K R.und hi v ys.length _ hown, by simpa using hown, World.grownBy.refl _ _, .inl rfl⟩
 | some ad =>
  have hnews : ∀ j u, (bR enc xs)[j]? = some u → w.cell? (ad.add j) = some u := fun j u hu => by
   by_cases hx : xs = []
   ·subst hx; simp [bR] at hu
   ·obtain ⟨b, off, e1, _, hcc⟩ := hc hx
    cases e1
    rw [Addr.add_lit]
    exact hcc j u hu
  have hBy : (ys.length + xs.length) * B ≤ 140737488355328 := Nat.le_trans (Nat.mul_le_mul hb hB) (by decide)
  have hone : ∀ u ∈ bR enc xs, u.oneCell' = true := fun u hu => by
   obtain ⟨x, hx, hu⟩ := List.mem_flatMap.1 hu
   exact h1 x hx u hu
  obtain ⟨v', w', hr, ho, hg, _, hob⟩ := run_append_own_at (P := Tryz.prog) w base t t e i0 z K B R.und hi hz0 hz1 hz2 hzs R.pos v ys.length _ hown ad xs.length c (bR enc xs) (gY R.len xs) hnews hone (by unfold maxLen; omega) hBy hbase
  exact ⟨v', w', fun ty => hr, by rw [List.length_append, flat_app]; exact ho, hg, hob⟩
theorem dV (R : Rec t e K enc) (w : World) (base : Nat) (v vx : Value) (ys xs : List α) (hown : w.ownsRow base e K v ys.length (bR enc ys)) (hL : bI enc w vx xs) (h1 : ∀ x ∈ xs, ∀ u ∈ enc x, u.oneCell' = true) (hb : ys.length + xs.length ≤ 1000000) (hbase : base ≤ w.heap.size) :
  ∃ v' w', (∀ ty, (appH #[t, t] ty #[v, vx]).run Tryz.prog w = .ok v' w') ∧ w'.ownsRow base e K v' (ys ++ xs).length (bR enc (ys ++ xs)) ∧ w.grownBy w' v.ownBlock ∧ (v'.ownBlock = v.ownBlock ∨ v'.ownBlock = some w.heap.size) :=
 run_recs R w base v vx ys xs hown hL h1 hb hbase
theorem dS (R : Rec t e K enc) {ops : Array Oper} {rest : List Oper} {o : Oper} {a : Act} {Q : Exit → Act → World → Prop} (w : World) (hgd : o.guard = none) (s x : Operand)
  (ho : o.op = .call { callee := .builtin .append, args := #[s, x], argTypes := #[t, t] })
  (base : Nat) (v vx : Value) (ys xs : List α) (hs : a.eval s = v) (hown : w.ownsRow base e K v ys.length (bR enc ys)) (hx : a.eval x = vx) (hL : bI enc w vx xs) (h1 : ∀ x ∈ xs, ∀ u ∈ enc x, u.oneCell' = true) (hb : ys.length + xs.length ≤ 1000000) (hbase : base ≤ w.heap.size)
  (h : ∀ v' w', w'.ownsRow base e K v' (ys ++ xs).length (bR enc (ys ++ xs)) → w.grownBy w' v.ownBlock → (v'.ownBlock = v.ownBlock ∨ v'.ownBlock = some w.heap.size) → wpList Tryz.prog ops Q rest (a.put o.dst v') w') :
  wpList Tryz.prog ops Q (o :: rest) a w := by
 obtain ⟨v', w', hr, h2, h3, h4⟩ := run_recs R w base v vx ys xs hown hL h1 hb hbase
 refine wpList_plain hgd fun K' hK => ?_
 unfold Oper.wp execOp
 simp only [ho, resolve, invoke, builtin, Sem.run_bind, Sem.run_pure, Result.andThen_ok, List.map_toArray, List.map_cons, List.map_nil, hs, hx, hr]
 exact hK _ _ (h v' w' h2 h3 h4)
theorem gD (R : Rec t e K enc) (w : World) (ao : Option Addr) (m cap n : Nat) (hn : n ≤ cap) : (Instr.sliceAt t (.slice ao m cap) none (some (.int .i64 n)) none).run Tryz.prog w = .ok (.slice ao n cap) w := by
 have h2 : (if cap = 0 then ao else Option.map (fun x => x.add 0) ao) = ao := by
  split
  ·rfl
  ·cases ao with
   | none => rfl
   | some ad => simp [Addr.add]
 obtain ⟨i0, z, B, hi, hz0, hz1, hz2, hzs, hB⟩ := R.info
 simp [Instr.sliceAt, Instr.slice, run_underlying R.und, Instr.sliceBounds, Instr.sliceBound, asIntOf, h2, sizeOf, typeInfo, hi]
 omega
theorem fK (R : Rec t e K enc) (w : World) (ao : Option Addr) (n cap s : Nat) (hs : s ≤ n) : (Instr.sliceAt t (.slice ao n cap) (some (.int .i64 s)) none none).run Tryz.prog w = .ok (.slice (if cap = s then ao else ao.map (·.add (s * K))) (n - s) (cap - s)) w := by
 obtain ⟨i0, z, B, hi, hz0, hz1, hz2, hzs, hB⟩ := R.info
 simp [Instr.sliceAt, Instr.slice, run_underlying R.und, Instr.sliceBounds, Instr.sliceBound, asIntOf, sizeOf, typeInfo, hi, hz1]
 omega
theorem fL {w : World} {ao : Option Addr} {cap i : Nat} {xs : List α} (h : bI enc w (.slice ao xs.length cap) xs) (hl : ∀ x, (enc x).length = K) (hi : i ≤ xs.length) : bI enc w (.slice ao i cap) (xs.take i) := by
 obtain ⟨ao', c, e, hlc, hm, h2, h3⟩ := h
 cases e
 refine ⟨ao, cap, by rw [List.length_take, Nat.min_eq_left hi], by rw [List.length_take]; omega, hm, fun e => ?_, fun hne => ?_⟩
 ·obtain ⟨rfl, rfl⟩ := h2 e
  exact ⟨by simp, rfl⟩
 ·have hx : xs ≠ [] := fun e => hne (by rw [e]; simp)
  obtain ⟨b, off, rfl, hb, hc⟩ := h3 hx
  refine ⟨b, off, rfl, hb, fun j u hu => hc j u ?_⟩
  rw [← flat_take hl, List.getElem?_take] at hu
  split at hu
  ·exact hu
  ·cases hu
theorem f7 {w : World} {ao : Option Addr} {cap i : Nat} {xs : List α} (h : bI enc w (.slice ao xs.length cap) xs) (hl : ∀ x, (enc x).length = K) (hi : i ≤ xs.length) : bI enc w (.slice (if cap = i then ao else ao.map (·.add (i * K))) (xs.length - i) (cap - i)) (xs.drop i) := by
 obtain ⟨ao', c, e, hlc, hm, h2, h3⟩ := h
 cases e
 refine ⟨_, cap - i, by rw [List.length_drop], by rw [List.length_drop]; omega, by omega, fun e => ?_, fun hne => ?_⟩
 ·have : ao = none := by
   split at e
   ·exact e
   ·simpa using e
  obtain ⟨rfl, rfl⟩ := h2 this
  exact ⟨by simp, by simp⟩
 ·have hlt : i < xs.length := by
   rcases Nat.lt_or_ge i xs.length with h | h
   ·exact h
   ·exact absurd (List.drop_eq_nil_of_le h) hne
  obtain ⟨b, off, rfl, hb, hc⟩ := h3 (fun e => by rw [e] at hlt; simp at hlt)
  refine ⟨b, off + i * K, by rw [if_neg (by omega)]; simp [Addr.add_lit], hb, fun j u hu => ?_⟩
  rw [Nat.add_assoc]
  refine hc _ _ ?_
  rw [← List.getElem?_drop, flat_drop hl]
  exact hu
end
end
section
open Go.RowKit Classical
def aZ (k : List Int) (i : Nat) : Int := k.getD i 0
def atN (k : List Nat) (i : Nat) : Int := ((k.getD i 0 : Nat) : Int)
abbrev bP (k : List Int) : List Value := [.int .u8 (aZ k 0), .int .u8 (aZ k 1), .int .u8 (aZ k 2), .int .u8 (aZ k 3), .int .u8 (aZ k 4), .int .u8 (aZ k 5), .int .u8 (aZ k 6), .int .u8 (aZ k 7)]
abbrev votE (k : List Nat) : List Value := [.int .u8 (atN k 0), .int .u8 (atN k 1), .int .u8 (atN k 2), .int .u8 (atN k 3), .int .u8 (atN k 4), .int .u8 (atN k 5), .int .u8 (atN k 6), .int .u8 (atN k 7)]
abbrev cfE (c : Cf) : List Value := .int .u32 (c.e : Int) :: .int .u8 (c.r : Int) :: .int .u8 (c.w : Int) :: votE c.vs
abbrev itE (i : ItP) : List Value := .int .u32 (i.ver : Int) :: .string (strOfNums i.val) :: cfE i.cf
abbrev wrE (x : WrP) : List Value := bP x.key ++ itE x.it
abbrev txE (t : TxN) : List Value := [.int .u8 (t.1 : Int), .int .u32 (t.2.1 : Int), .int .u32 (t.2.2 : Int)]
abbrev rgE (g : Nat × Nat) : List Value := [.int .u32 (g.1 : Int), .int .u32 (g.2 : Int)]
abbrev msgE (m : MsgP) (p : Value) : List Value := .int .u8 (m.kind : Int) :: (txE m.tx ++ .int .u32 (m.time : Int) :: (rgE m.reg ++ (bP m.key ++ .int .u8 (m.mode : Int) :: .int .u32 (m.no : Int) :: .int .u8 (m.why : Int) :: .int .u8 (m.yes : Int) :: (itE m.item ++ [p]))))
abbrev aK (k : List Int) : Array Value := (bP k).toArray
abbrev itA (i : ItP) : Array Value := (itE i).toArray
abbrev msgA (m : MsgP) (p : Value) : Array Value := (msgE m p).toArray
theorem fY {k : List Int} (h : k.length = 8) : bP k = k.map (Value.int .u8) := by
 match k, h with
 | [_, _, _, _, _, _, _, _], _ => rfl
set_option maxHeartbeats 800000 in
theorem eq8 (t : TypeId) (ht : Tryz.prog.underlying t = some (.array 8 5)) (d : Nat) (a0 a1 a2 a3 a4 a5 a6 a7 b0 b1 b2 b3 b4 b5 b6 b7 : Int) (w : World) :
  (Op.equalIn (d + 2) t (.agg #[.int .u8 a0, .int .u8 a1, .int .u8 a2, .int .u8 a3, .int .u8 a4, .int .u8 a5, .int .u8 a6, .int .u8 a7]) (.agg #[.int .u8 b0, .int .u8 b1, .int .u8 b2, .int .u8 b3, .int .u8 b4, .int .u8 b5, .int .u8 b6, .int .u8 b7])).run Tryz.prog w
   = .ok (a0 == b0 && a1 == b1 && a2 == b2 && a3 == b3 && a4 == b4 && a5 == b5 && a6 == b6 && a7 == b7) w := by
 rw [show d + 2 = (d + 1) + 1 from rfl, Op.equalIn]
 simp only [Sem.run_bind, run_underlying ht, Result.andThen_ok]
 simp only [Std.Legacy.Range.forIn_eq_forIn_range', Std.Legacy.Range.size, Nat.sub_zero, Nat.add_sub_cancel, Nat.div_one, List.range'_succ, List.range'_zero, List.forIn_cons, List.forIn_nil]
 go_simp
 by_cases h0 : a0 = b0
 ·by_cases h1 : a1 = b1
  ·by_cases h2 : a2 = b2
   ·by_cases h3 : a3 = b3
    ·by_cases h4 : a4 = b4
     ·by_cases h5 : a5 = b5
      ·by_cases h6 : a6 = b6
       ·by_cases h7 : a7 = b7 <;> simp [h0, h1, h2, h3, h4, h5, h6, h7]
       ·simp [h0, h1, h2, h3, h4, h5, h6]
      ·simp [h0, h1, h2, h3, h4, h5]
     ·simp [h0, h1, h2, h3, h4]
    ·simp [h0, h1, h2, h3]
   ·simp [h0, h1, h2]
  ·simp [h0, h1]
 ·simp [h0]
theorem eight_dec {a b : List Int} (ha : a.length = 8) (hb : b.length = 8) : (aZ a 0 == aZ b 0 && aZ a 1 == aZ b 1 && aZ a 2 == aZ b 2 && aZ a 3 == aZ b 3 && aZ a 4 == aZ b 4 && aZ a 5 == aZ b 5 && aZ a 6 == aZ b 6 && aZ a 7 == aZ b 7) = decide (a = b) := by
 match a, ha, b, hb with
 | [_, _, _, _, _, _, _, _], _, [_, _, _, _, _, _, _, _], _ =>
  rw [Bool.eq_iff_iff]
  simp [and_assoc, aZ]
end
section
open Go.RowKit
def TDid (D : World → Nat → (Nat → Prop) → List WrP → Prop) (w w' : World) (q : Nat) (F : Nat → Prop) (t' : List WrP) : Prop :=
 ∃ F', D w' q F' t' ∧ aC F w w' ∧ ∀ k, F' k → F k ∨ w.heap.size ≤ k
section
variable {D : World → Nat → (Nat → Prop) → List WrP → Prop}
theorem TDid.before {w w1 w2 : World} {q : Nat} {F : Nat → Prop} {t' : List WrP} (hB : Below w.heap.size w w1) (h : TDid D w1 w2 q F t') : TDid D w w2 q F t' := by
 obtain ⟨F', h1, hk, hF⟩ := h
 refine ⟨F', h1, (aC.of_below F hB).trans hk (fun _ _ h => h), fun k hk => ?_⟩
 rcases hF k hk with h | h
 ·exact .inl h
 ·exact .inr (Nat.le_trans hB.size h)
def Since13 (D : World → Nat → (Nat → Prop) → List WrP → Prop) (w : World) (q : Nat) (t : List WrP) (W : World) : Prop := ∃ F, D W q F t ∧ (∀ k, F k → w.heap.size ≤ k) ∧ Below w.heap.size w W
theorem Since13.did {w w1 w2 : World} {q : Nat} {F : Nat → Prop} {t' : List WrP} (hB : Below w.heap.size w w1) (hF : ∀ k, F k → w.heap.size ≤ k) (h : TDid D w1 w2 q F t') : Since13 D w q t' w2 := by
 obtain ⟨F', h1, hk, h2⟩ := h
 refine ⟨F', h1, fun k hk' => ?_, hB.trans (hk.below hB.size hF)⟩
 rcases h2 k hk' with h | h
 ·exact hF k h
 ·exact Nat.le_trans hB.size h
end
end
section
open Go.RowKit Go.Maps Classical
abbrev KeyT : Type := {k : List Int // gX k}
abbrev kyV (k : List Int) : Value := .agg (aK k)
abbrev kyL (k : List Int) : List Lit := [.int .u8 (aZ k 0), .int .u8 (aZ k 1), .int .u8 (aZ k 2), .int .u8 (aZ k 3), .int .u8 (aZ k 4), .int .u8 (aZ k 5), .int .u8 (aZ k 6), .int .u8 (aZ k 7)]
def eD (k : List Int) : Lit := .string (keyBytes (kyL k))
theorem kyLaid : laidOutB Tryz.prog = true := by kernel_rfl
theorem kyRow : (38 : TypeId) < Tryz.prog.types.size := of_decide_eq_true (by kernel_rfl)
theorem kyKeyed : Keyed Tryz.prog 38 := Keyed.of_law (deep_law_laid kyLaid (m := 2) (by omega) kyRow (by kernel_rfl) (by kernel_rfl))
theorem kyIsKey : Tryz.prog.keyType 38 = true := by kernel_rfl
theorem kyCells : Tryz.prog.cellsOf 38 = 8 := by kernel_rfl
theorem kyu8Cells : Tryz.prog.cellsOf 5 = 1 := by kernel_rfl
theorem kyTypes : ∃ k, Tryz.prog.types.size = k + 1 := ⟨Tryz.prog.types.size - 1, by
 have : 0 < Tryz.prog.types.size := of_decide_eq_true (by kernel_rfl)
 omega⟩
theorem kwf_u8 {n : Int} (h0 : 0 ≤ n) (h1 : n < 256) : (Lit.int .u8 n).wf = true := by
 simp [Lit.wf, IntKind.min, IntKind.max, IntKind.signed, IntKind.bits]; omega
theorem at8_rng {k : List Int} (h : gX k) (i : Nat) : 0 ≤ aZ k i ∧ aZ k i < 256 := by
 unfold aZ
 by_cases hi : i < k.length
 ·have : k.getD i 0 = k[i] := by simp [List.getD, hi]
  rw [this]
  exact h.b _ (List.getElem_mem hi)
 ·have : k.getD i 0 = 0 := by simp [List.getD, List.getElem?_eq_none (Nat.not_lt.1 hi)]
  rw [this]
  omega
theorem lits_ky (k : List Int) (h : gX k) : Tryz.prog.keyLits (Tryz.prog.types.size + 1) 38 (bP k) = some (kyL k) := by
 obtain ⟨n, hn⟩ := kyTypes
 have w := fun i => kwf_u8 (at8_rng h i).1 (at8_rng h i).2
 rw [hn]
 unfold Program.keyLits
 rw [Tryz.underlying38]
 simp [kyCells, kyu8Cells, Program.keyLits, Tryz.underlying5, w, List.range_succ]
theorem keyOf_ky (k : List Int) (h : gX k) : keyOf Tryz.prog 38 (kyV k) = some (eD k) := by
 have hl := lits_ky k h
 unfold keyOf
 rw [Tryz.underlying38]
 simp only [kyIsKey, Bool.true_and]
 have hf : (kyV k).formed Tryz.prog 38 = true := by
  simp [Value.formed, Tryz.underlying38, kyCells]
 rw [if_pos hf]
 have hc : (kyV k).cells.toList = bP k := rfl
 rw [hc, hl]
 rfl
theorem eight_cellsK (cs : Array Value) (h : cs.size = 8) : ∃ a b c d e f g i, cs = #[a, b, c, d, e, f, g, i] := by
 obtain ⟨l⟩ := cs
 match l, h with
 | [a, b, c, d, e, f, g, i], _ => exact ⟨a, b, c, d, e, f, g, i, rfl⟩
theorem klits_open (k : Nat) (c0 c1 c2 c3 c4 c5 c6 c7 : Value) (ls : List Lit) : Tryz.prog.keyLits (k + 1 + 1) 38 [c0, c1, c2, c3, c4, c5, c6, c7] = some ls →
  ∃ a0 a1 a2 a3 a4 a5 a6 a7, Tryz.prog.keyLits (k + 1) 5 [c0] = some a0 ∧ Tryz.prog.keyLits (k + 1) 5 [c1] = some a1 ∧ Tryz.prog.keyLits (k + 1) 5 [c2] = some a2 ∧ Tryz.prog.keyLits (k + 1) 5 [c3] = some a3 ∧ Tryz.prog.keyLits (k + 1) 5 [c4] = some a4 ∧ Tryz.prog.keyLits (k + 1) 5 [c5] = some a5 ∧ Tryz.prog.keyLits (k + 1) 5 [c6] = some a6 ∧ Tryz.prog.keyLits (k + 1) 5 [c7] = some a7 := by
 rw [Program.keyLits.eq_def]
 simp only [Tryz.underlying38]
 simp [kyCells, kyu8Cells, List.range_succ]
 intro h
 cases h0 : Tryz.prog.keyLits (k + 1) 5 [c0] with
 | none => rw [h0] at h; simp at h
 | some a0 =>
 cases h1 : Tryz.prog.keyLits (k + 1) 5 [c1] with
 | none => rw [h0, h1] at h; simp at h
 | some a1 =>
 cases h2 : Tryz.prog.keyLits (k + 1) 5 [c2] with
 | none => rw [h0, h1, h2] at h; simp at h
 | some a2 =>
 cases h3 : Tryz.prog.keyLits (k + 1) 5 [c3] with
 | none => rw [h0, h1, h2, h3] at h; simp at h
 | some a3 =>
 cases h4 : Tryz.prog.keyLits (k + 1) 5 [c4] with
 | none => rw [h0, h1, h2, h3, h4] at h; simp at h
 | some a4 =>
 cases h5 : Tryz.prog.keyLits (k + 1) 5 [c5] with
 | none => rw [h0, h1, h2, h3, h4, h5] at h; simp at h
 | some a5 =>
 cases h6 : Tryz.prog.keyLits (k + 1) 5 [c6] with
 | none => rw [h0, h1, h2, h3, h4, h5, h6] at h; simp at h
 | some a6 =>
 cases h7 : Tryz.prog.keyLits (k + 1) 5 [c7] with
 | none => rw [h0, h1, h2, h3, h4, h5, h6, h7] at h; simp at h
 | some a7 => simp
theorem ky_int {n : Nat} {c : Value} {a : List Lit} (h : Tryz.prog.keyLits n 5 [c] = some a) : ∃ x : Int, c = .int .u8 x ∧ 0 ≤ x ∧ x < 256 := by
 obtain ⟨x, e1, e2⟩ := keyLits_int' Tryz.underlying5 h
 simp at e1
 subst e1
 subst e2
 have w1 := bounds_u8 (keyLits_wf h _ (List.mem_singleton.2 rfl))
 exact ⟨x, rfl, by omega, by omega⟩
theorem keyOf_ky_inv {v : Value} {kl : Lit} (h : keyOf Tryz.prog 38 v = some kl) : ∃ k : KeyT, v = kyV k.1 ∧ kl = eD k.1 := by
 have hkeep := h
 obtain ⟨n, hn⟩ := kyTypes
 simp only [keyOf, Tryz.underlying38, kyIsKey, Bool.true_and] at h
 split at h
 ·rename_i hf
  cases v <;> simp [Value.formed, Tryz.underlying38] at hf
  rename_i cs
  rw [kyCells] at hf
  obtain ⟨c0, c1, c2, c3, c4, c5, c6, c7, rfl⟩ := eight_cellsK cs hf
  rw [hn] at h
  have hc : (Value.agg #[c0, c1, c2, c3, c4, c5, c6, c7]).cells.toList = [c0, c1, c2, c3, c4, c5, c6, c7] := rfl
  rw [hc] at h
  obtain ⟨ls, h1, _⟩ := Option.map_eq_some_iff.1 h
  obtain ⟨a0, a1, a2, a3, a4, a5, a6, a7, g0, g1, g2, g3, g4, g5, g6, g7⟩ := klits_open n c0 c1 c2 c3 c4 c5 c6 c7 ls h1
  obtain ⟨x0, rfl, p0, q0⟩ := ky_int g0
  obtain ⟨x1, rfl, p1, q1⟩ := ky_int g1
  obtain ⟨x2, rfl, p2, q2⟩ := ky_int g2
  obtain ⟨x3, rfl, p3, q3⟩ := ky_int g3
  obtain ⟨x4, rfl, p4, q4⟩ := ky_int g4
  obtain ⟨x5, rfl, p5, q5⟩ := ky_int g5
  obtain ⟨x6, rfl, p6, q6⟩ := ky_int g6
  obtain ⟨x7, rfl, p7, q7⟩ := ky_int g7
  have hk : gX [x0, x1, x2, x3, x4, x5, x6, x7] := ⟨rfl, fun c hc => by
   simp at hc
   rcases hc with rfl | rfl | rfl | rfl | rfl | rfl | rfl | rfl <;> exact ⟨by assumption, by assumption⟩⟩
  refine ⟨⟨_, hk⟩, rfl, ?_⟩
  have h2 := keyOf_ky _ hk
  exact Option.some.inj (hkeep.symm.trans h2)
 ·simp at h
theorem eight_eq {k l : List Int} (hk : k.length = 8) (hl : l.length = 8) (h : bP k = bP l) : k = l := by
 rw [fY hk, fY hl] at h
 exact List.map_inj_right (fun a b e => by cases e; rfl) |>.1 h
theorem kyKey_inj {k l : List Int} (hk : gX k) (hl : gX l) (h : eD k = eD l) : k = l := by
 have := kyKeyed.inj (keyOf_ky k hk) (by rw [keyOf_ky l hl, h])
 have h2 : aK k = aK l := Value.agg.inj this
 exact eight_eq hk.l hl.l (List.toArray_inj h2)
structure ElemI (R : Value → Option (DataW ItP × List MemPlace)) : Prop where
 reads : ∀ {i : ItP}, ItOk i → R (.agg (itA i)) = some (.held i, [])
 inv : ∀ {v : Value} {z : DataW ItP × List MemPlace}, R v = some z → ∃ i, ItOk i ∧ v = .agg (itA i) ∧ z = (.held i, [])
structure MapI (w : World) (b : Nat) (t : List WrP) : Prop where
 own : ∃ (R : Value → Option (DataW ItP × List MemPlace)) (D : DataW ItP), ElemI R ∧ w.ownsMap Tryz.prog 38 R b (Maps.size D) D ∧ Maps.size D = t.length ∧ (∀ k, gX k → Maps.has D (eD k) = (getT t k).isSome) ∧ ∀ k i, gX k → getT t k = some i → ∀ z, D.atKey (eD k) z = .held i
 ok : TbOk t
 oks : ∀ x ∈ t, gX x.key ∧ ItOk x.it
section
variable {w w' : World} {b : Nat} {t : List WrP}
theorem MapI.lt (h : MapI w b t) : b < w.heap.size := by obtain ⟨_, _, _, h, _⟩ := h.own; exact h.lt
theorem MapI.isMap (h : MapI w b t) : ∃ es c, w.heap[b]? = some (.map es c) := by
 obtain ⟨_, _, _, ⟨es, c, hb, _⟩, _⟩ := h.own
 exact ⟨es, c, hb⟩
theorem MapI.keep {S : Nat → Prop} (h : MapI w b t) (hk : aC S w w') (hS : ¬ S b) : MapI w' b t := by
 obtain ⟨⟨R, D, hR, ho, r⟩, h2, h3⟩ := h
 have hlt := ho.lt
 obtain ⟨es, clock, hb, F, hs, hD⟩ := ho
 exact ⟨⟨R, D, hR, ⟨es, clock, (hk.block b hlt hS).trans hb, F, hs, hD⟩, r⟩, h2, h3⟩
theorem MapI.below (h : MapI w b t) (hB : Below w.heap.size w w') : MapI w' b t := h.keep (aC.of_below (fun _ => False) hB) (fun h => h)
end
end
section
open Go.RowKit
theorem eq_tx (a b c d e f : Int) (w : World) : (Op.equalIn 10000 34 (.agg #[.int .u8 a, .int .u32 b, .int .u32 c]) (.agg #[.int .u8 d, .int .u32 e, .int .u32 f])).run Tryz.prog w = .ok (a == d && b == e && c == f) w := by
 have hS : Tryz.prog.underlying 34 = some (.struct (Tryz.prog.fieldsOf 34)) := by kernel_rfl
 rw [show (10000 : Nat) = 9999 + 1 from rfl, run_equalIn_agg w 9999 34 _ _ hS (by kernel_rfl)]
 simp only [Program.fieldsOf, Tryz.underlying34]
 go_simp
 by_cases h1 : a = d <;> by_cases h2 : b = e <;> by_cases h3 : c = f <;> simp [h1, h2, h3]
theorem eql_tx (a b c d e f : Int) (w : World) : (binOp .eql 34 (.agg #[.int .u8 a, .int .u32 b, .int .u32 c]) (.agg #[.int .u8 d, .int .u32 e, .int .u32 f])).run Tryz.prog w = .ok (.bool (a == d && b == e && c == f)) w := by
 rw [run_eql_struct, eq_tx]; rfl
theorem neq_tx (a b c d e f : Int) (w : World) : (binOp .neq 34 (.agg #[.int .u8 a, .int .u32 b, .int .u32 c]) (.agg #[.int .u8 d, .int .u32 e, .int .u32 f])).run Tryz.prog w = .ok (.bool (!(a == d && b == e && c == f))) w := by
 rw [run_neq_struct, eq_tx]; rfl
theorem eq_tx9 (a b c d e f : Int) (w : World) : (Op.equalIn 9999 34 (.agg #[.int .u8 a, .int .u32 b, .int .u32 c]) (.agg #[.int .u8 d, .int .u32 e, .int .u32 f])).run Tryz.prog w = .ok (a == d && b == e && c == f) w := by
 have hS : Tryz.prog.underlying 34 = some (.struct (Tryz.prog.fieldsOf 34)) := by kernel_rfl
 rw [show (9999 : Nat) = 9998 + 1 from rfl, run_equalIn_agg w 9998 34 _ _ hS (by kernel_rfl)]
 simp only [Program.fieldsOf, Tryz.underlying34]
 go_simp
 by_cases h1 : a = d <;> by_cases h2 : b = e <;> by_cases h3 : c = f <;> simp [h1, h2, h3]
theorem eqi_key (a0 a1 a2 a3 a4 a5 a6 a7 b0 b1 b2 b3 b4 b5 b6 b7 : Int) (w : World) :
  (Op.equalIn 10000 38 (.agg #[.int .u8 a0, .int .u8 a1, .int .u8 a2, .int .u8 a3, .int .u8 a4, .int .u8 a5, .int .u8 a6, .int .u8 a7]) (.agg #[.int .u8 b0, .int .u8 b1, .int .u8 b2, .int .u8 b3, .int .u8 b4, .int .u8 b5, .int .u8 b6, .int .u8 b7])).run Tryz.prog w
   = .ok (decide ([a0, a1, a2, a3, a4, a5, a6, a7] = [b0, b1, b2, b3, b4, b5, b6, b7])) w := by
 rw [show (10000 : Nat) = 9999 + 1 from rfl, Op.equalIn]
 simp only [Sem.run_bind, run_underlying Tryz.underlying38, Result.andThen_ok]
 simp only [Std.Legacy.Range.forIn_eq_forIn_range', Std.Legacy.Range.size, Nat.sub_zero, Nat.add_sub_cancel, Nat.div_one, List.range'_succ, List.range'_zero, List.forIn_cons, List.forIn_nil]
 go_simp
 by_cases h0 : a0 = b0
 ·by_cases h1 : a1 = b1
  ·by_cases h2 : a2 = b2
   ·by_cases h3 : a3 = b3
    ·by_cases h4 : a4 = b4
     ·by_cases h5 : a5 = b5
      ·by_cases h6 : a6 = b6
       ·by_cases h7 : a7 = b7 <;> simp [h0, h1, h2, h3, h4, h5, h6, h7]
       ·simp [h0, h1, h2, h3, h4, h5, h6]
      ·simp [h0, h1, h2, h3, h4, h5]
     ·simp [h0, h1, h2, h3, h4]
    ·simp [h0, h1, h2, h3]
   ·simp [h0, h1, h2]
  ·simp [h0, h1]
 ·simp [h0]
theorem eqli_key (a0 a1 a2 a3 a4 a5 a6 a7 b0 b1 b2 b3 b4 b5 b6 b7 : Int) (w : World) :
  (binOp .eql 38 (.agg #[.int .u8 a0, .int .u8 a1, .int .u8 a2, .int .u8 a3, .int .u8 a4, .int .u8 a5, .int .u8 a6, .int .u8 a7]) (.agg #[.int .u8 b0, .int .u8 b1, .int .u8 b2, .int .u8 b3, .int .u8 b4, .int .u8 b5, .int .u8 b6, .int .u8 b7])).run Tryz.prog w
   = .ok (.bool (decide ([a0, a1, a2, a3, a4, a5, a6, a7] = [b0, b1, b2, b3, b4, b5, b6, b7]))) w := by
 rw [run_eql_struct, eqi_key]; rfl
theorem neqi_key (a0 a1 a2 a3 a4 a5 a6 a7 b0 b1 b2 b3 b4 b5 b6 b7 : Int) (w : World) :
  (binOp .neq 38 (.agg #[.int .u8 a0, .int .u8 a1, .int .u8 a2, .int .u8 a3, .int .u8 a4, .int .u8 a5, .int .u8 a6, .int .u8 a7]) (.agg #[.int .u8 b0, .int .u8 b1, .int .u8 b2, .int .u8 b3, .int .u8 b4, .int .u8 b5, .int .u8 b6, .int .u8 b7])).run Tryz.prog w
   = .ok (.bool (!decide ([a0, a1, a2, a3, a4, a5, a6, a7] = [b0, b1, b2, b3, b4, b5, b6, b7]))) w := by
 rw [run_neq_struct, eqi_key]; rfl
end
section
open Go.RowKit Go.Maps
abbrev txV (t : TxP) : Value := .agg #[.int .u8 t.1, .int .u32 t.2.1, .int .u32 t.2.2]
def cV (t : TxP) : Lit := .string (keyBytes [.int .u8 t.1, .int .u32 t.2.1, .int .u32 t.2.2])
theorem idLaid : laidOutB Tryz.prog = true := by kernel_rfl
theorem txRow : (34 : TypeId) < Tryz.prog.types.size := of_decide_eq_true (by kernel_rfl)
theorem txKeyed : Keyed Tryz.prog 34 := Keyed.of_law (deep_law_laid idLaid (m := 2) (by omega) txRow (by kernel_rfl) (by kernel_rfl))
theorem txIsKey : Tryz.prog.keyType 34 = true := by kernel_rfl
theorem txCells : Tryz.prog.cellsOf 34 = 3 := by kernel_rfl
theorem u8Cells : Tryz.prog.cellsOf 5 = 1 := by kernel_rfl
theorem u32Cells : Tryz.prog.cellsOf 32 = 1 := by kernel_rfl
theorem typesPos : ∃ k, Tryz.prog.types.size = k + 1 := ⟨Tryz.prog.types.size - 1, by
 have : 0 < Tryz.prog.types.size := of_decide_eq_true (by kernel_rfl)
 omega⟩
theorem wf_u8 {n : Int} (h0 : 0 ≤ n) (h1 : n < 256) : (Lit.int .u8 n).wf = true := by
 simp [Lit.wf, IntKind.min, IntKind.max, IntKind.signed, IntKind.bits]; omega
theorem wf_u32 {n : Int} (h0 : 0 ≤ n) (h1 : n < 4294967296) : (Lit.int .u32 n).wf = true := by
 simp [Lit.wf, IntKind.min, IntKind.max, IntKind.signed, IntKind.bits]; omega
theorem lits_tx (t : TxP) (h : jY t) : Tryz.prog.keyLits (Tryz.prog.types.size + 1) 34 [.int .u8 t.1, .int .u32 t.2.1, .int .u32 t.2.2] = some [.int .u8 t.1, .int .u32 t.2.1, .int .u32 t.2.2] := by
 obtain ⟨k, hk⟩ := typesPos
 obtain ⟨⟨a0, a1⟩, ⟨b0, b1⟩, ⟨c0, c1⟩⟩ := h
 have w1 := wf_u8 a0 a1
 have w2 := wf_u32 b0 b1
 have w3 := wf_u32 c0 c1
 rw [hk]
 unfold Program.keyLits
 rw [Tryz.underlying34]
 simp [txCells, u8Cells, u32Cells, Program.keyLits, Tryz.underlying5, Tryz.underlying32, w1, w2, w3]
theorem keyOf_tx (t : TxP) (h : jY t) : keyOf Tryz.prog 34 (txV t) = some (cV t) := by
 have hl := lits_tx t h
 unfold keyOf
 rw [Tryz.underlying34]
 simp only [txIsKey, Bool.true_and]
 have hf : (txV t).formed Tryz.prog 34 = true := by
  simp [Value.formed, Tryz.underlying34, txCells]
 rw [if_pos hf]
 have hc : (txV t).cells.toList = [.int .u8 t.1, .int .u32 t.2.1, .int .u32 t.2.2] := rfl
 rw [hc, hl]
 rfl
theorem three_cells (cs : Array Value) (h : cs.size = 3) : ∃ a b c, cs = #[a, b, c] := by
 obtain ⟨l⟩ := cs
 match l, h with
 | [a, b, c], _ => exact ⟨a, b, c, rfl⟩
theorem lits_open (k : Nat) (c0 c1 c2 : Value) (ls : List Lit) : Tryz.prog.keyLits (k + 1 + 1) 34 [c0, c1, c2] = some ls →
  ∃ a b c, Tryz.prog.keyLits (k + 1) 5 [c0] = some a ∧ Tryz.prog.keyLits (k + 1) 32 [c1] = some b ∧ Tryz.prog.keyLits (k + 1) 32 [c2] = some c ∧ ls = a ++ b ++ c := by
 rw [Program.keyLits.eq_def]
 simp only [Tryz.underlying34]
 simp [txCells, u8Cells, u32Cells]
 intro h
 cases ha : Tryz.prog.keyLits (k + 1) 5 [c0] with
 | none => rw [ha] at h; simp at h
 | some a =>
  cases hb : Tryz.prog.keyLits (k + 1) 32 [c1] with
  | none => rw [ha, hb] at h; simp at h
  | some b =>
   cases hc : Tryz.prog.keyLits (k + 1) 32 [c2] with
   | none => rw [ha, hb, hc] at h; simp at h
   | some c =>
    rw [ha, hb, hc] at h
    simp at h
    exact ⟨a, rfl, b, rfl, c, rfl, h.symm⟩
theorem kQ {v : Value} {kl : Lit} (h : keyOf Tryz.prog 34 v = some kl) : ∃ t, jY t ∧ v = txV t ∧ kl = cV t := by
 obtain ⟨k, hk⟩ := typesPos
 simp only [keyOf, Tryz.underlying34, txIsKey, Bool.true_and] at h
 split at h
 ·rename_i hf
  cases v <;> simp [Value.formed, Tryz.underlying34] at hf
  rename_i cs
  rw [txCells] at hf
  obtain ⟨c0, c1, c2, rfl⟩ := three_cells cs hf
  rw [hk] at h
  have hc : (Value.agg #[c0, c1, c2]).cells.toList = [c0, c1, c2] := rfl
  rw [hc] at h
  obtain ⟨ls, h1, rfl⟩ := Option.map_eq_some_iff.1 h
  obtain ⟨a, b, c, ha, hb, hcc, rfl⟩ := lits_open k c0 c1 c2 ls h1
  obtain ⟨x, e1, e2⟩ := keyLits_int' Tryz.underlying5 ha
  obtain ⟨y, f1, f2⟩ := keyLits_int' Tryz.underlying32 hb
  obtain ⟨z, g1, g2⟩ := keyLits_int' Tryz.underlying32 hcc
  simp at e1 f1 g1
  subst e1; subst f1; subst g1; subst e2; subst f2; subst g2
  have w1 := bounds_u8 (keyLits_wf ha _ (List.mem_singleton.2 rfl))
  have w2 := bounds_u32 (keyLits_wf hb _ (List.mem_singleton.2 rfl))
  have w3 := bounds_u32 (keyLits_wf hcc _ (List.mem_singleton.2 rfl))
  refine ⟨(x, y, z), ?_, rfl, rfl⟩
  unfold jY
  simp only
  omega
 ·simp at h
theorem txKey_inj {t u : TxP} (ht : jY t) (hu : jY u) (h : cV t = cV u) : t = u := by
 have := txKeyed.inj (keyOf_tx t ht) (by rw [keyOf_tx u hu, h])
 obtain ⟨a, b, c⟩ := t
 obtain ⟨d, e, f⟩ := u
 simp [txV] at this
 obtain ⟨rfl, rfl, rfl⟩ := this
 rfl
end
end Go.Proofs.YtiloagmkkhlfjaaGreat
