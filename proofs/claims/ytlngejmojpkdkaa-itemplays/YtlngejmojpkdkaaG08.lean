/-
  Own texts put together: TbPlain, TbMore, Recs, MgVals, TbDo. Own work.
-/
import Derived.Test.YtlngejmojpkdkaaG07
import Derived.Test.YtlngejmojpkdkaaG01
import Derived.Laws.AppendOwnNone
import Derived.Maps.AppendAt
import Derived.Deep.RegionHeldLaw
import Derived.Laws.StructEq
import Derived.Laws.BytesArg
namespace Go.Proofs.Ytlngejmojpkdkaa
section
open Go

/-- Those ahead of a key, and the others. -/
def upT (t : List WrP) (k : List Int) : List WrP := t.takeWhile fun x => decide (lexF x.key k < 0)
def dnT (t : List WrP) (k : List Int) : List WrP := t.dropWhile fun x => decide (lexF x.key k < 0)
theorem up_dn (t : List WrP) (k : List Int) : upT t k ++ dnT t k = t := List.takeWhile_append_dropWhile
def getT (t : List WrP) (k : List Int) : Option ItP := match dnT t k with
  | [] => none
  | x :: _ => if x.key = k then some x.it else none
/-- The others but the key's own. -/
def reT (t : List WrP) (k : List Int) : List WrP := match dnT t k with
  | [] => []
  | x :: l => if x.key = k then l else x :: l
def putT (t : List WrP) (k : List Int) (i : ItP) : List WrP := upT t k ++ ⟨k, i⟩ :: reT t k
/-- Are two items the same? -/
def itEqB (a b : ItP) : Bool := decide (a.ver = b.ver) && (decide (a.val = b.val) && (decide (a.cf.e = b.cf.e) && (decide (a.cf.r = b.cf.r) && (decide (a.cf.w = b.cf.w) && decide (a.cf.vs = b.cf.vs)))))
theorem itEqB_iff (a b : ItP) : itEqB a b = true ↔ a = b := by
  obtain ⟨v, s, e, r, w, vs⟩ := a
  obtain ⟨v', s', e', r', w', vs'⟩ := b
  unfold itEqB
  simp
/-- Install: its error, and what it leaves. -/
def insA (t : List WrP) (k : List Int) (i : ItP) : Int :=
  if ((nameF k).2 && itMayB i) = false then 1 else match getT t k with
  | none => if 64 ≤ t.length then 5 else 0
  | some o => if i.ver < o.ver then 13 else if o.ver = i.ver ∧ itEqB o i = false then 7 else 0
def insD (t : List WrP) (k : List Int) (i : ItP) : List WrP := if insA t k i = 0 then putT t k i else t
/-- It rises, its keys are keys, and there are not too many. -/
structure TbOk (t : List WrP) : Prop where
  rise : t.Pairwise fun a b => lexF a.key b.key < 0
  key : ∀ x ∈ t, x.key.length = 8
  few : t.length ≤ 64
theorem tb_nil : TbOk [] := ⟨List.Pairwise.nil, (fun _ h => by cases h), by decide⟩
theorem lex_trans {a b c : List Int} (ha : a.length = b.length) (hb : b.length = c.length) (h1 : lexF a b < 0) (h2 : lexF b c < 0) : lexF a c < 0 := by
  have h := lexF_trans a b c ha hb (by omega) (by omega)
  rcases Int.lt_or_eq_of_le h with h | h
  · exact h
  · have e := (lexF_zero a c (by omega)).1 h
    subst e
    rw [lexF_neg] at h2
    omega
theorem up_lt {t : List WrP} {k : List Int} : ∀ x ∈ upT t k, lexF x.key k < 0 := fun x hx => by
  have := List.all_eq_true.1 (List.all_takeWhile (p := fun x : WrP => decide (lexF x.key k < 0)) (l := t)) x hx
  simpa using this
theorem dn_head {t : List WrP} {k : List Int} {x : WrP} {l : List WrP} (h : dnT t k = x :: l) : ¬ lexF x.key k < 0 := by
  have := List.head_dropWhile_not (p := fun x : WrP => decide (lexF x.key k < 0)) (l := t) (by rw [show t.dropWhile _ = dnT t k from rfl, h]; simp)
  have e : (t.dropWhile fun x => decide (lexF x.key k < 0)).head (by rw [show t.dropWhile _ = dnT t k from rfl, h]; simp) = x := by
    have : ∀ (l1 : List WrP) (h1 : l1 ≠ []), l1 = x :: l → l1.head h1 = x := fun l1 h1 e => by subst e; rfl
    exact this _ _ h
  rw [e] at this
  simpa using this
theorem re_mem {t : List WrP} {k : List Int} : ∀ x ∈ reT t k, x ∈ dnT t k := fun x hx => by
  unfold reT at hx
  split at hx
  · cases hx
  · rename_i y l e
    rw [e]
    split at hx
    · exact List.mem_cons_of_mem _ hx
    · exact hx
/-- What stands behind a key is greater. -/
theorem re_gt {t : List WrP} (h : TbOk t) {k : List Int} (hk : k.length = 8) : ∀ x ∈ reT t k, lexF k x.key < 0 := fun x hx => by
  have hp : (upT t k ++ dnT t k).Pairwise fun a b => lexF a.key b.key < 0 := by rw [up_dn]; exact h.rise
  have hd := (List.pairwise_append.1 hp).2.1
  have hkey : ∀ y ∈ dnT t k, y.key.length = 8 := fun y hy => h.key y (by rw [← up_dn t k]; exact List.mem_append.2 (.inr hy))
  cases e : dnT t k with
  | nil =>
    unfold reT at hx
    rw [e] at hx
    cases hx
  | cons y l =>
    have hy := dn_head e
    rw [e] at hd hkey
    have hyl := hkey y List.mem_cons_self
    have hlt : ∀ z ∈ l, lexF y.key z.key < 0 := (List.pairwise_cons.1 hd).1
    unfold reT at hx
    rw [e] at hx
    dsimp only at hx
    by_cases he : y.key = k
    · rw [if_pos he] at hx
      rw [← he]
      exact hlt x hx
    · rw [if_neg he] at hx
      have hky : lexF k y.key < 0 := by
        have h1 := lexF_neg y.key k
        have h2 : lexF y.key k ≠ 0 := fun e0 => he ((lexF_zero _ _ (by omega)).1 e0)
        omega
      rcases List.mem_cons.1 hx with rfl | hx
      · exact hky
      · exact lex_trans (by omega) (by rw [hyl, hkey x (List.mem_cons_of_mem _ hx)]) hky (hlt x hx)
theorem re_rise {t : List WrP} (h : TbOk t) (k : List Int) : (reT t k).Pairwise fun a b => lexF a.key b.key < 0 := by
  have hp : (upT t k ++ dnT t k).Pairwise fun a b => lexF a.key b.key < 0 := by rw [up_dn]; exact h.rise
  have hd := (List.pairwise_append.1 hp).2.1
  unfold reT
  split
  · exact List.Pairwise.nil
  · rename_i y l e
    rw [e] at hd
    split
    · exact (List.pairwise_cons.1 hd).2
    · exact hd
theorem put_rise {t : List WrP} (h : TbOk t) {k : List Int} (hk : k.length = 8) (i : ItP) : (putT t k i).Pairwise fun a b => lexF a.key b.key < 0 := by
  have hp : (upT t k ++ dnT t k).Pairwise fun a b => lexF a.key b.key < 0 := by rw [up_dn]; exact h.rise
  obtain ⟨h1, _, h3⟩ := List.pairwise_append.1 hp
  unfold putT
  rw [List.pairwise_append]
  refine ⟨h1, List.pairwise_cons.2 ⟨fun x hx => re_gt h hk x hx, re_rise h k⟩, fun a ha b hb => ?_⟩
  rcases List.mem_cons.1 hb with rfl | hb
  · exact up_lt a ha
  · exact h3 a ha b (re_mem b hb)
theorem put_key {t : List WrP} (h : TbOk t) {k : List Int} (hk : k.length = 8) (i : ItP) : ∀ x ∈ putT t k i, x.key.length = 8 := fun x hx => by
  unfold putT at hx
  rcases List.mem_append.1 hx with hx | hx
  · exact h.key x (by rw [← up_dn t k]; exact List.mem_append.2 (.inl hx))
  · rcases List.mem_cons.1 hx with rfl | hx
    · exact hk
    · exact h.key x (by rw [← up_dn t k]; exact List.mem_append.2 (.inr (re_mem x hx)))
theorem put_len (t : List WrP) (k : List Int) (i : ItP) : (putT t k i).length = if (getT t k).isSome then t.length else t.length + 1 := by
  have e := congrArg List.length (up_dn t k)
  rw [List.length_append] at e
  unfold putT
  rw [List.length_append, List.length_cons]
  unfold reT getT
  cases h : dnT t k with
  | nil => rw [h] at e; simp at e ⊢; omega
  | cons y l =>
    rw [h] at e
    rw [List.length_cons] at e
    dsimp only
    by_cases he : y.key = k
    · simp [he]
      omega
    · simp [he]
      omega
theorem insD_ok {t : List WrP} (h : TbOk t) {k : List Int} (hk : k.length = 8) (i : ItP) : TbOk (insD t k i) := by
  unfold insD
  split
  · rename_i hA
    refine ⟨put_rise h hk i, put_key h hk i, ?_⟩
    rw [put_len]
    have := h.few
    unfold insA at hA
    split at hA
    · cases hA
    · cases hg : getT t k with
      | none =>
        rw [hg] at hA
        dsimp only at hA
        split at hA
        · cases hA
        · simp; omega
      | some o => simpa using this
  · exact h
/-- Which item a key has. -/
theorem get_iff {t : List WrP} (h : TbOk t) (k : List Int) (i : ItP) : getT t k = some i ↔ (⟨k, i⟩ : WrP) ∈ t := by
  have hp : (upT t k ++ dnT t k).Pairwise fun a b => lexF a.key b.key < 0 := by rw [up_dn]; exact h.rise
  have hd := (List.pairwise_append.1 hp).2.1
  have hself : ∀ a : List Int, ¬ lexF a a < 0 := fun a ha => by have := (lexF_zero a a rfl).2 rfl; omega
  constructor
  · intro hg
    unfold getT at hg
    split at hg
    · cases hg
    · rename_i x l e
      split at hg
      · rename_i he
        cases hg
        have hx : x ∈ dnT t k := by rw [e]; exact List.mem_cons_self
        have : (⟨k, x.it⟩ : WrP) = x := by cases x; simp_all
        rw [this, ← up_dn t k]
        exact List.mem_append.2 (.inr hx)
      · cases hg
  · intro hm
    rw [← up_dn t k] at hm
    rcases List.mem_append.1 hm with hm | hm
    · exact absurd (up_lt _ hm) (hself k)
    · unfold getT
      cases e : dnT t k with
      | nil => rw [e] at hm; cases hm
      | cons x l =>
        rw [e] at hm hd
        dsimp only
        rcases List.mem_cons.1 hm with hx | hm
        · rw [← hx]; simp
        · exfalso
          have h1 := (List.pairwise_cons.1 hd).1 _ hm
          exact dn_head e h1
end
section
open Go

theorem put_mem {t : List WrP} (h : TbOk t) {k : List Int} (hk : k.length = 8) (i : ItP) (x : WrP) : x ∈ putT t k i ↔ x = ⟨k, i⟩ ∨ (x.key ≠ k ∧ x ∈ t) := by
  have hself : ∀ a : List Int, ¬ lexF a a < 0 := fun a ha => by have := (lexF_zero a a rfl).2 rfl; omega
  unfold putT
  rw [List.mem_append, List.mem_cons]
  constructor
  · rintro (hx | hx | hx)
    · refine .inr ⟨fun e => ?_, by rw [← up_dn t k]; exact List.mem_append.2 (.inl hx)⟩
      have := up_lt x hx
      rw [e] at this
      exact hself k this
    · exact .inl hx
    · refine .inr ⟨fun e => ?_, by rw [← up_dn t k]; exact List.mem_append.2 (.inr (re_mem x hx))⟩
      have := re_gt h hk x hx
      rw [e] at this
      exact hself k this
  · rintro (hx | ⟨hne, hx⟩)
    · exact .inr (.inl hx)
    · rw [← up_dn t k] at hx
      rcases List.mem_append.1 hx with hx | hx
      · exact .inl hx
      · refine .inr (.inr ?_)
        unfold reT
        cases e : dnT t k with
        | nil => rw [e] at hx; cases hx
        | cons y l =>
          rw [e] at hx
          dsimp only
          by_cases he : y.key = k
          · rw [if_pos he]
            rcases List.mem_cons.1 hx with rfl | hx
            · exact absurd he hne
            · exact hx
          · rw [if_neg he]
            exact hx
theorem put_ok {t : List WrP} (h : TbOk t) {k : List Int} (hk : k.length = 8) (i : ItP) (hA : insA t k i = 0) : TbOk (putT t k i) := by
  have := insD_ok h hk i
  unfold insD at this
  rwa [if_pos hA] at this
/-- What a key has behind it. -/
theorem get_put {t : List WrP} (h : TbOk t) {k : List Int} (hk : k.length = 8) {i : ItP} (hA : insA t k i = 0) (k' : List Int) : getT (putT t k i) k' = if k' = k then some i else getT t k' := by
  have hp := put_ok h hk i hA
  have hiff : ∀ j, getT (putT t k i) k' = some j ↔ (if k' = k then some i else getT t k') = some j := fun j => by
    rw [get_iff hp, put_mem h hk]
    by_cases he : k' = k
    · rw [if_pos he]
      constructor
      · rintro (hx | ⟨hne, _⟩)
        · cases hx; rfl
        · exact absurd he hne
      · intro hj
        cases hj
        exact .inl (by rw [he])
    · rw [if_neg he, get_iff h]
      constructor
      · rintro (hx | ⟨_, hx⟩)
        · cases hx; exact absurd rfl he
        · exact hx
      · exact fun hx => .inr ⟨he, hx⟩
  cases h1 : getT (putT t k i) k' with
  | none =>
    cases h2 : (if k' = k then some i else getT t k') with
    | none => rfl
    | some j => exact absurd ((hiff j).2 h2) (by rw [h1]; simp)
  | some j => exact ((hiff j).1 h1).symm
/-- Versions rise. -/
theorem insA_rise {t : List WrP} {k : List Int} {i o : ItP} (h : insA t k i = 0) (hg : getT t k = some o) : o.ver ≤ i.ver ∧ (o.ver = i.ver → o = i) := by
  unfold insA at h
  split at h
  · cases h
  · rw [hg] at h
    dsimp only at h
    split at h
    · cases h
    · rename_i h1
      refine ⟨by omega, fun e => ?_⟩
      split at h
      · cases h
      · rename_i h2
        exact (itEqB_iff o i).1 (Classical.byContradiction fun hn => h2 ⟨e, by simpa using hn⟩)
/-- Merge: the error, and what it leaves. -/
def merT : List WrP → List WrP → Int × List WrP
  | t, [] => (0, t)
  | t, x :: l => if insA t x.key x.it ≠ 0 ∧ insA t x.key x.it ≠ 13 then (insA t x.key x.it, t) else merT (insD t x.key x.it) l
/-- The newest of items. -/
def newT : List ItP → ItP → ItP
  | [], b => b
  | x :: l, b => newT l (if b.ver < x.ver then x else b)
theorem newT_app (l : List ItP) (x b : ItP) : newT (l ++ [x]) b = if (newT l b).ver < x.ver then x else newT l b := by
  induction l generalizing b with
  | nil => rfl
  | cons y l ih => exact ih _
end
section
open Go.RowKit

/-- What is asked of a slice type t of elements e, of K cells each, that are written as enc says. -/
structure Rec {α : Type} (t e : TypeId) (K : Nat) (enc : α → List Value) : Prop where
  und : Try.prog.underlying t = some (.slice e)
  info : ∃ i z B, Try.prog.info? e = some i ∧ i.zero = some z ∧ i.size = K ∧ i.bytes = B ∧ z.cells.size = K ∧ B ≤ 4096
  pos : 0 < K
  len : ∀ x, (enc x).length = K
theorem rec_info {e : TypeId} {z : Value} {K B : Nat} (h : (Try.prog.info? e).map (fun i => (i.zero, i.size, i.bytes)) = some (some z, K, B)) (hz : z.cells.size = K) (hB : B ≤ 4096) : ∃ i z B, Try.prog.info? e = some i ∧ i.zero = some z ∧ i.size = K ∧ i.bytes = B ∧ z.cells.size = K ∧ B ≤ 4096 := by
  cases hi : Try.prog.info? e with
  | none => rw [hi] at h; cases h
  | some i =>
    rw [hi] at h
    simp at h
    exact ⟨i, z, B, rfl, h.1, h.2.1, h.2.2, hz, hB⟩
section
variable {α : Type} {t e : TypeId} {K : Nat} {enc : α → List Value}
/-- The cells of records. -/
def flat (enc : α → List Value) (xs : List α) : List Value := xs.flatMap enc
theorem flat_cons (x : α) (xs : List α) : flat enc (x :: xs) = enc x ++ flat enc xs := by simp [flat]
theorem flat_app (a b : List α) : flat enc (a ++ b) = flat enc a ++ flat enc b := by simp [flat]
theorem flat_one (x : α) : flat enc [x] = enc x := by simp [flat]
theorem flat_len (h : ∀ x, (enc x).length = K) : ∀ xs : List α, (flat enc xs).length = xs.length * K
  | [] => by simp [flat]
  | x :: xs => by rw [flat_cons, List.length_append, h, flat_len h xs, List.length_cons, Nat.add_mul]; omega
theorem flat_take (h : ∀ x, (enc x).length = K) : ∀ (xs : List α) (i : Nat), (flat enc xs).take (i * K) = flat enc (xs.take i)
  | [], i => by simp [flat]
  | x :: xs, 0 => by simp [flat]
  | x :: xs, i + 1 => by
    rw [flat_cons, List.take_append, h, Nat.add_mul, Nat.one_mul, Nat.add_sub_cancel, flat_take h xs i, List.take_succ_cons, flat_cons, List.take_of_length_le (by rw [h]; omega)]
theorem flat_drop (h : ∀ x, (enc x).length = K) : ∀ (xs : List α) (i : Nat), (flat enc xs).drop (i * K) = flat enc (xs.drop i)
  | [], i => by simp [flat]
  | x :: xs, 0 => by simp
  | x :: xs, i + 1 => by
    rw [flat_cons, List.drop_append, h, Nat.add_mul, Nat.one_mul, Nat.add_sub_cancel, flat_drop h xs i, List.drop_succ_cons, List.drop_eq_nil_of_le (by rw [h]; omega), List.nil_append]
theorem flat_at (h : ∀ x, (enc x).length = K) {xs : List α} {i j : Nat} (hi : i < xs.length) (hj : j < K) : (flat enc xs)[i * K + j]? = (enc xs[i])[j]? := by
  have h1 : (flat enc xs)[i * K + j]? = ((flat enc xs).drop (i * K))[j]? := by rw [List.getElem?_drop]
  rw [h1, flat_drop h, List.drop_eq_getElem_cons hi, flat_cons, List.getElem?_append_left (by rw [h]; exact hj)]
/-- A slice that reads as these records, whatever its form. -/
def RSrc (enc : α → List Value) (w : World) (v : Value) (xs : List α) : Prop :=
  ∃ (ao : Option Addr) (c : Nat), v = .slice ao xs.length c ∧ xs.length ≤ c ∧ c ≤ maxLen ∧ (ao = none → xs = [] ∧ c = 0) ∧ (xs ≠ [] → ∃ b off, ao = some ⟨b, off, none⟩ ∧ b < w.heap.size ∧ ∀ j u, (flat enc xs)[j]? = some u → w.cell? ⟨b, off + j, none⟩ = some u)
theorem RSrc.nil (w : World) : RSrc enc w (.slice none 0 0) [] := ⟨none, 0, rfl, Nat.le_refl _, Nat.zero_le _, fun _ => ⟨rfl, rfl⟩, fun h => absurd rfl h⟩
theorem RSrc.keep {S : Nat → Prop} {w w' : World} {v : Value} {xs : List α} (h : RSrc enc w v xs) (hk : KeepBut S w w') (hS : ∀ g, v.ownBlock = some g → ¬ S g) : RSrc enc w' v xs := by
  obtain ⟨ao, c, rfl, h1, h2, h3, h4⟩ := h
  refine ⟨ao, c, rfl, h1, h2, h3, fun hne => ?_⟩
  obtain ⟨b, off, rfl, hb, hc⟩ := h4 hne
  refine ⟨b, off, rfl, Nat.lt_of_lt_of_le hb hk.size, fun j u hu => ?_⟩
  rw [← hc j u hu]
  exact World.cell?_of_block (hk.block b hb (hS b rfl))
theorem RSrc.below {w w' : World} {v : Value} {xs : List α} (h : RSrc enc w v xs) (hB : Below w.heap.size w w') : RSrc enc w' v xs := h.keep (KeepBut.of_below (fun _ => False) hB) (fun _ _ h => h)
theorem RSrc.shape {w : World} {v : Value} {xs : List α} (h : RSrc enc w v xs) : ∃ (ao : Option Addr) (c : Nat), v = .slice ao xs.length c ∧ xs.length ≤ c ∧ c ≤ maxLen := by
  obtain ⟨ao, c, e, h1, h2, _⟩ := h
  exact ⟨ao, c, e, h1, h2⟩
theorem RSrc.block {w : World} {v : Value} {xs : List α} (h : RSrc enc w v xs) (hne : xs ≠ []) : ∃ b off c, v = .slice (some ⟨b, off, none⟩) xs.length c ∧ b < w.heap.size ∧ xs.length ≤ c := by
  obtain ⟨ao, c, rfl, h1, _, _, h4⟩ := h
  obtain ⟨b, off, rfl, hb, _⟩ := h4 hne
  exact ⟨b, off, c, rfl, hb, h1⟩
/-- The cells of one of them. -/
theorem RSrc.at (hl : ∀ x, (enc x).length = K) {w : World} {ao : Option Addr} {n c : Nat} {xs : List α} (h : RSrc enc w (.slice ao n c) xs) {i : Nat} (hi : i < xs.length) : n = xs.length ∧ ∃ b off, ao = some ⟨b, off, none⟩ ∧ b < w.heap.size ∧ ∀ j u, (enc xs[i])[j]? = some u → w.cell? ⟨b, off + i * K + j, none⟩ = some u := by
  obtain ⟨ao', c', e, h1, _, _, h4⟩ := h
  cases e
  obtain ⟨b, off, rfl, hb, hc⟩ := h4 (fun e => by rw [e] at hi; simp at hi)
  refine ⟨rfl, b, off, rfl, hb, fun j u hu => ?_⟩
  have hj : j < K := by have := (List.getElem?_eq_some_iff.1 hu).1; rw [hl] at this; exact this
  rw [Nat.add_assoc]
  exact hc _ _ (by rw [flat_at hl hi hj]; exact hu)
/-- A row of one's own. -/
theorem RSrc.of_own {base : Nat} {w : World} {v : Value} {xs : List α} (h : w.ownsRow base e K v xs.length (flat enc xs)) : RSrc enc w v xs := by
  have h0 := h
  obtain ⟨_, ⟨rfl, hn⟩ | ⟨g, cap, cur, rfl, hb, hh, hcap, hm, r⟩⟩ := h
  · obtain rfl : xs = [] := List.eq_nil_of_length_eq_zero hn
    exact RSrc.nil w
  · refine ⟨_, cap, rfl, hcap, hm, fun e => (by cases e), fun _ => ⟨g, 0, rfl, (h0.lt g rfl).2, fun j u hu => ?_⟩⟩
    have := h0.cells rfl j u hu
    rw [Addr.add_lit] at this
    exact this
theorem owns_shapeR {base n : Nat} {w : World} {v : Value} {xs : List Value} (h : w.ownsRow base e K v n xs) : ∃ ao cap, v = .slice ao n cap ∧ n ≤ cap := by
  obtain ⟨_, ⟨rfl, rfl⟩ | ⟨g, cap, cur, rfl, _, _, hc, _⟩⟩ := h
  · exact ⟨none, 0, rfl, Nat.le_refl _⟩
  · exact ⟨_, cap, rfl, hc⟩
/-- One record in a new block. -/
theorem src_new (w : World) (x : α) (cs : Array Value) (h : cs.toList = enc x) (t' : TypeId) : RSrc enc (w.alloc (.cells cs t')) (.slice (some ⟨w.heap.size, 0, none⟩) 1 1) [x] := by
  refine ⟨_, 1, rfl, Nat.le_refl _, by decide, fun e => (by cases e), fun _ => ⟨w.heap.size, 0, rfl, by simp, fun j u hu => ?_⟩⟩
  rw [Nat.zero_add]
  refine (box_new w cs t').cell j u ?_
  rw [flat_one, ← h] at hu
  simpa using hu
/-- 'append', under a name that the walk leaves alone. -/
def appH (ats : Array TypeId) (ty : TypeId) (args : Array Value) : Sem Value := Builtin.append_ ats ty args
theorem app_hideH (ats : Array TypeId) (ty : TypeId) (args : Array Value) : Builtin.append_ ats ty args = appH ats ty args := rfl
/-- 'append(v, x...)' of records onto a row of one's own, as a run. -/
theorem run_recs (R : Rec t e K enc) (w : World) (base : Nat) (v vx : Value) (ys xs : List α) (hown : w.ownsRow base e K v ys.length (flat enc ys)) (hL : RSrc enc w vx xs) (h1 : ∀ x ∈ xs, ∀ u ∈ enc x, u.oneCell' = true) (hb : ys.length + xs.length ≤ 1000000) (hbase : base ≤ w.heap.size) :
    ∃ v' w', (∀ ty, (Builtin.append_ #[t, t] ty #[v, vx]).run Try.prog w = .ok v' w') ∧ w'.ownsRow base e K v' (ys ++ xs).length (flat enc (ys ++ xs)) ∧ w.grownBy w' v.ownBlock ∧ (v'.ownBlock = v.ownBlock ∨ v'.ownBlock = some w.heap.size) := by
  obtain ⟨i0, z, B, hi, hz0, hz1, hz2, hzs, hB⟩ := R.info
  obtain ⟨ao, c, rfl, hlc, _, hn, hc⟩ := hL
  cases ao with
  | none =>
    obtain ⟨rfl, rfl⟩ := hn rfl
    exact ⟨v, w, fun ty => run_append_owned_none (P := Try.prog) (w := w) base t ty e i0 K R.und hi v ys.length _ hown, by simpa using hown, World.grownBy.refl _ _, .inl rfl⟩
  | some ad =>
    have hnews : ∀ j u, (flat enc xs)[j]? = some u → w.cell? (ad.add j) = some u := fun j u hu => by
      by_cases hx : xs = []
      · subst hx; simp [flat] at hu
      · obtain ⟨b, off, e1, _, hcc⟩ := hc hx
        cases e1
        rw [Addr.add_lit]
        exact hcc j u hu
    have hBy : (ys.length + xs.length) * B ≤ 140737488355328 := Nat.le_trans (Nat.mul_le_mul hb hB) (by decide)
    have hone : ∀ u ∈ flat enc xs, u.oneCell' = true := fun u hu => by
      obtain ⟨x, hx, hu⟩ := List.mem_flatMap.1 hu
      exact h1 x hx u hu
    obtain ⟨v', w', hr, ho, hg, _, hob⟩ := run_append_own_at (P := Try.prog) w base t t e i0 z K B R.und hi hz0 hz1 hz2 hzs R.pos v ys.length _ hown ad xs.length c (flat enc xs) (flat_len R.len xs) hnews hone (by unfold maxLen; omega) hBy hbase
    exact ⟨v', w', fun ty => hr, by rw [List.length_append, flat_app]; exact ho, hg, hob⟩
theorem run_recsH (R : Rec t e K enc) (w : World) (base : Nat) (v vx : Value) (ys xs : List α) (hown : w.ownsRow base e K v ys.length (flat enc ys)) (hL : RSrc enc w vx xs) (h1 : ∀ x ∈ xs, ∀ u ∈ enc x, u.oneCell' = true) (hb : ys.length + xs.length ≤ 1000000) (hbase : base ≤ w.heap.size) :
    ∃ v' w', (∀ ty, (appH #[t, t] ty #[v, vx]).run Try.prog w = .ok v' w') ∧ w'.ownsRow base e K v' (ys ++ xs).length (flat enc (ys ++ xs)) ∧ w.grownBy w' v.ownBlock ∧ (v'.ownBlock = v.ownBlock ∨ v'.ownBlock = some w.heap.size) :=
  run_recs R w base v vx ys xs hown hL h1 hb hbase
/-- .. as an arm. -/
theorem wp_recs (R : Rec t e K enc) {ops : Array Oper} {rest : List Oper} {o : Oper} {a : Act} {Q : Exit → Act → World → Prop} (w : World) (hgd : o.guard = none) (s x : Operand)
    (ho : o.op = .call { callee := .builtin .append, args := #[s, x], argTypes := #[t, t] })
    (base : Nat) (v vx : Value) (ys xs : List α) (hs : a.eval s = v) (hown : w.ownsRow base e K v ys.length (flat enc ys)) (hx : a.eval x = vx) (hL : RSrc enc w vx xs) (h1 : ∀ x ∈ xs, ∀ u ∈ enc x, u.oneCell' = true) (hb : ys.length + xs.length ≤ 1000000) (hbase : base ≤ w.heap.size)
    (h : ∀ v' w', w'.ownsRow base e K v' (ys ++ xs).length (flat enc (ys ++ xs)) → w.grownBy w' v.ownBlock → (v'.ownBlock = v.ownBlock ∨ v'.ownBlock = some w.heap.size) → wpList Try.prog ops Q rest (a.put o.dst v') w') :
    wpList Try.prog ops Q (o :: rest) a w := by
  obtain ⟨v', w', hr, h2, h3, h4⟩ := run_recs R w base v vx ys xs hown hL h1 hb hbase
  refine wpList_plain hgd fun K' hK => ?_
  unfold Oper.wp execOp
  simp only [ho, resolve, invoke, builtin, Sem.run_bind, Sem.run_pure, Result.andThen_ok, List.map_toArray, List.map_cons, List.map_nil, hs, hx, hr]
  exact hK _ _ (h v' w' h2 h3 h4)
/-- 'x[:n]', 'x[s:]', 'x[s:n]'. -/
theorem run_toR (R : Rec t e K enc) (w : World) (ao : Option Addr) (m cap n : Nat) (hn : n ≤ cap) : (Instr.sliceAt t (.slice ao m cap) none (some (.int .i64 n)) none).run Try.prog w = .ok (.slice ao n cap) w := by
  have h2 : (if cap = 0 then ao else Option.map (fun x => x.add 0) ao) = ao := by
    split
    · rfl
    · cases ao with
      | none => rfl
      | some ad => simp [Addr.add]
  obtain ⟨i0, z, B, hi, hz0, hz1, hz2, hzs, hB⟩ := R.info
  simp [Instr.sliceAt, Instr.slice, run_underlying R.und, Instr.sliceBounds, Instr.sliceBound, asIntOf, h2, sizeOf, typeInfo, hi]
  omega
theorem run_fromR (R : Rec t e K enc) (w : World) (ao : Option Addr) (n cap s : Nat) (hs : s ≤ n) : (Instr.sliceAt t (.slice ao n cap) (some (.int .i64 s)) none none).run Try.prog w = .ok (.slice (if cap = s then ao else ao.map (·.add (s * K))) (n - s) (cap - s)) w := by
  obtain ⟨i0, z, B, hi, hz0, hz1, hz2, hzs, hB⟩ := R.info
  simp [Instr.sliceAt, Instr.slice, run_underlying R.und, Instr.sliceBounds, Instr.sliceBound, asIntOf, sizeOf, typeInfo, hi, hz1]
  omega
theorem src_takeR {w : World} {ao : Option Addr} {cap i : Nat} {xs : List α} (h : RSrc enc w (.slice ao xs.length cap) xs) (hl : ∀ x, (enc x).length = K) (hi : i ≤ xs.length) : RSrc enc w (.slice ao i cap) (xs.take i) := by
  obtain ⟨ao', c, e, hlc, hm, h2, h3⟩ := h
  cases e
  refine ⟨ao, cap, by rw [List.length_take, Nat.min_eq_left hi], by rw [List.length_take]; omega, hm, fun e => ?_, fun hne => ?_⟩
  · obtain ⟨rfl, rfl⟩ := h2 e
    exact ⟨by simp, rfl⟩
  · have hx : xs ≠ [] := fun e => hne (by rw [e]; simp)
    obtain ⟨b, off, rfl, hb, hc⟩ := h3 hx
    refine ⟨b, off, rfl, hb, fun j u hu => hc j u ?_⟩
    rw [← flat_take hl, List.getElem?_take] at hu
    split at hu
    · exact hu
    · cases hu
theorem src_dropR {w : World} {ao : Option Addr} {cap i : Nat} {xs : List α} (h : RSrc enc w (.slice ao xs.length cap) xs) (hl : ∀ x, (enc x).length = K) (hi : i ≤ xs.length) : RSrc enc w (.slice (if cap = i then ao else ao.map (·.add (i * K))) (xs.length - i) (cap - i)) (xs.drop i) := by
  obtain ⟨ao', c, e, hlc, hm, h2, h3⟩ := h
  cases e
  refine ⟨_, cap - i, by rw [List.length_drop], by rw [List.length_drop]; omega, by omega, fun e => ?_, fun hne => ?_⟩
  · have : ao = none := by
      split at e
      · exact e
      · simpa using e
    obtain ⟨rfl, rfl⟩ := h2 this
    exact ⟨by simp, by simp⟩
  · have hlt : i < xs.length := by
      rcases Nat.lt_or_ge i xs.length with h | h
      · exact h
      · exact absurd (List.drop_eq_nil_of_le h) hne
    obtain ⟨b, off, rfl, hb, hc⟩ := h3 (fun e => by rw [e] at hlt; simp at hlt)
    refine ⟨b, off + i * K, by rw [if_neg (by omega)]; simp [Addr.add_lit], hb, fun j u hu => ?_⟩
    rw [Nat.add_assoc]
    refine hc _ _ ?_
    rw [← List.getElem?_drop, flat_drop hl]
    exact hu
end
end
section
open Go.RowKit Classical

/-- One of eight, under a name that simp leaves alone. -/
def at8 (k : List Int) (i : Nat) : Int := k.getD i 0
def atN (k : List Nat) (i : Nat) : Int := ((k.getD i 0 : Nat) : Int)
/-- The cells of eight bytes, of a configuration, an item, a write, a message whose writes lie at p. -/
abbrev eightE (k : List Int) : List Value := [.int .u8 (at8 k 0), .int .u8 (at8 k 1), .int .u8 (at8 k 2), .int .u8 (at8 k 3), .int .u8 (at8 k 4), .int .u8 (at8 k 5), .int .u8 (at8 k 6), .int .u8 (at8 k 7)]
abbrev votE (k : List Nat) : List Value := [.int .u8 (atN k 0), .int .u8 (atN k 1), .int .u8 (atN k 2), .int .u8 (atN k 3), .int .u8 (atN k 4), .int .u8 (atN k 5), .int .u8 (atN k 6), .int .u8 (atN k 7)]
abbrev cfE (c : Cf) : List Value := .int .u32 (c.e : Int) :: .int .u8 (c.r : Int) :: .int .u8 (c.w : Int) :: votE c.vs
abbrev itE (i : ItP) : List Value := .int .u32 (i.ver : Int) :: .string (strOfNums i.val) :: cfE i.cf
abbrev wrE (x : WrP) : List Value := eightE x.key ++ itE x.it
abbrev txE (t : TxN) : List Value := [.int .u8 (t.1 : Int), .int .u32 (t.2.1 : Int), .int .u32 (t.2.2 : Int)]
abbrev rgE (g : Nat × Nat) : List Value := [.int .u32 (g.1 : Int), .int .u32 (g.2 : Int)]
abbrev msgE (m : MsgP) (p : Value) : List Value := .int .u8 (m.kind : Int) :: (txE m.tx ++ .int .u32 (m.time : Int) :: (rgE m.reg ++ (eightE m.key ++ .int .u8 (m.mode : Int) :: .int .u32 (m.no : Int) :: .int .u8 (m.why : Int) :: .int .u8 (m.yes : Int) :: (itE m.item ++ [p]))))
abbrev eightA (k : List Int) : Array Value := (eightE k).toArray
abbrev itA (i : ItP) : Array Value := (itE i).toArray
abbrev wrA (x : WrP) : Array Value := (wrE x).toArray
abbrev msgA (m : MsgP) (p : Value) : Array Value := (msgE m p).toArray
theorem eightE_map {k : List Int} (h : k.length = 8) : eightE k = k.map (Value.int .u8) := by
  match k, h with
  | [_, _, _, _, _, _, _, _], _ => rfl
theorem votE_map {k : List Nat} (h : k.length = 8) : votE k = votL k := by
  match k, h with
  | [_, _, _, _, _, _, _, _], _ => rfl
theorem cfE_cells {c : Cf} (h : c.Ok) : cfE c = c.cells := by
  show Value.int .u32 (c.e : Int) :: .int .u8 (c.r : Int) :: .int .u8 (c.w : Int) :: votE c.vs = _
  rw [votE_map h.l]
  rfl
theorem wrE_len (x : WrP) : (wrE x).length = 21 := rfl
theorem wr_one (x : WrP) : ∀ u ∈ wrE x, u.oneCell' = true := by
  intro u hu
  simp at hu
  rcases hu with rfl | rfl | rfl | rfl | rfl | rfl | rfl | rfl | rfl | rfl | rfl | rfl | rfl | rfl | rfl | rfl | rfl | rfl | rfl | rfl | rfl <;> rfl
def zeroWr : WrP := ⟨[0, 0, 0, 0, 0, 0, 0, 0], zeroIt⟩
theorem recWR : Rec 22 38 21 wrE := ⟨Try.underlying22, rec_info (z := .agg (wrA zeroWr)) (K := 21) (B := 48) (by kernel_rfl) rfl (by decide), by decide, fun _ => rfl⟩
theorem infoWrite : (Try.prog.info? 38).map (·.size) = some 21 := by kernel_rfl
/-- Texts are the same where their bytes are. -/
theorem str_same {a b : List Int} (ha : ∀ c ∈ a, 0 ≤ c ∧ c < 256) (hb : ∀ c ∈ b, 0 ≤ c ∧ c < 256) : ((strOfNums a).toList == (strOfNums b).toList) = decide (a = b) := by
  rw [Bool.eq_iff_iff, beq_iff_eq, decide_eq_true_eq, ByteArray.toList_eq, ByteArray.toList_eq]
  unfold strOfNums
  simp only
  refine ⟨fun h => ?_, fun h => by rw [h]⟩
  have back : ∀ l : List Int, (∀ c ∈ l, 0 ≤ c ∧ c < 256) → (l.map fun n => UInt8.ofNat n.toNat).map (fun u => ((u.toNat : Nat) : Int)) = l := fun l hl => by
    rw [List.map_map]
    conv => rhs; rw [← List.map_id l]
    refine List.map_congr_left fun c hc => ?_
    have := hl c hc
    simp only [Function.comp, id, UInt8.toNat_ofNat']
    omega
  rw [← back a ha, ← back b hb, h]
set_option maxHeartbeats 800000 in
theorem eq8 (t : TypeId) (ht : Try.prog.underlying t = some (.array 8 5)) (d : Nat) (a0 a1 a2 a3 a4 a5 a6 a7 b0 b1 b2 b3 b4 b5 b6 b7 : Int) (w : World) :
    (Op.equalIn (d + 2) t (.agg #[.int .u8 a0, .int .u8 a1, .int .u8 a2, .int .u8 a3, .int .u8 a4, .int .u8 a5, .int .u8 a6, .int .u8 a7]) (.agg #[.int .u8 b0, .int .u8 b1, .int .u8 b2, .int .u8 b3, .int .u8 b4, .int .u8 b5, .int .u8 b6, .int .u8 b7])).run Try.prog w
      = .ok (a0 == b0 && a1 == b1 && a2 == b2 && a3 == b3 && a4 == b4 && a5 == b5 && a6 == b6 && a7 == b7) w := by
  rw [show d + 2 = (d + 1) + 1 from rfl, Op.equalIn]
  simp only [Sem.run_bind, run_underlying ht, Result.andThen_ok]
  simp only [Std.Legacy.Range.forIn_eq_forIn_range', Std.Legacy.Range.size, Nat.sub_zero, Nat.add_sub_cancel, Nat.div_one, List.range'_succ, List.range'_zero, List.forIn_cons, List.forIn_nil]
  go_simp
  by_cases h0 : a0 = b0
  · by_cases h1 : a1 = b1
    · by_cases h2 : a2 = b2
      · by_cases h3 : a3 = b3
        · by_cases h4 : a4 = b4
          · by_cases h5 : a5 = b5
            · by_cases h6 : a6 = b6
              · by_cases h7 : a7 = b7 <;> simp [h0, h1, h2, h3, h4, h5, h6, h7]
              · simp [h0, h1, h2, h3, h4, h5, h6]
            · simp [h0, h1, h2, h3, h4, h5]
          · simp [h0, h1, h2, h3, h4]
        · simp [h0, h1, h2, h3]
      · simp [h0, h1, h2]
    · simp [h0, h1]
  · simp [h0]
theorem eight_dec {a b : List Int} (ha : a.length = 8) (hb : b.length = 8) : (at8 a 0 == at8 b 0 && at8 a 1 == at8 b 1 && at8 a 2 == at8 b 2 && at8 a 3 == at8 b 3 && at8 a 4 == at8 b 4 && at8 a 5 == at8 b 5 && at8 a 6 == at8 b 6 && at8 a 7 == at8 b 7) = decide (a = b) := by
  match a, ha, b, hb with
  | [_, _, _, _, _, _, _, _], _, [_, _, _, _, _, _, _, _], _ =>
    rw [Bool.eq_iff_iff]
    simp [and_assoc, at8]
theorem vot_dec {a b : List Nat} (ha : a.length = 8) (hb : b.length = 8) : ((atN a 0) == (atN b 0) && (atN a 1) == (atN b 1) && (atN a 2) == (atN b 2) && (atN a 3) == (atN b 3) && (atN a 4) == (atN b 4) && (atN a 5) == (atN b 5) && (atN a 6) == (atN b 6) && (atN a 7) == (atN b 7)) = decide (a = b) := by
  match a, ha, b, hb with
  | [_, _, _, _, _, _, _, _], _, [_, _, _, _, _, _, _, _], _ =>
    rw [Bool.eq_iff_iff]
    simp [and_assoc, atN, Int.ofNat_inj]
set_option maxHeartbeats 800000 in
theorem eq_cf (d : Nat) {a b : Cf} (ha : a.Ok) (hb : b.Ok) (w : World) : (Op.equalIn (d + 3) 34 (.agg (cfE a).toArray) (.agg (cfE b).toArray)).run Try.prog w = .ok (decide (a = b)) w := by
  have hS : Try.prog.underlying 34 = some (.struct (Try.prog.fieldsOf 34)) := by kernel_rfl
  have hin := fun w => eq8 30 Try.underlying30 d (atN a.vs 0) (atN a.vs 1) (atN a.vs 2) (atN a.vs 3) (atN a.vs 4) (atN a.vs 5) (atN a.vs 6) (atN a.vs 7) (atN b.vs 0) (atN b.vs 1) (atN b.vs 2) (atN b.vs 3) (atN b.vs 4) (atN b.vs 5) (atN b.vs 6) (atN b.vs 7) w
  rw [vot_dec ha.l hb.l] at hin
  have hu : ∀ (x y : Int) w, (Op.equalIn (d + 2) 32 (.int .u32 x) (.int .u32 y)).run Try.prog w = .ok (x == y) w := fun x y w => by
    rw [show d + 2 = (d + 1) + 1 from rfl]
    go_simp
  have hv : ∀ (x y : Int) w, (Op.equalIn (d + 2) 5 (.int .u8 x) (.int .u8 y)).run Try.prog w = .ok (x == y) w := fun x y w => by
    rw [show d + 2 = (d + 1) + 1 from rfl]
    go_simp
  have hE : decide (a = b) = (((a.e : Int) == (b.e : Int)) && ((a.r : Int) == (b.r : Int)) && ((a.w : Int) == (b.w : Int)) && decide (a.vs = b.vs)) := by
    obtain ⟨a1, a2, a3, a4⟩ := a
    obtain ⟨b1, b2, b3, b4⟩ := b
    rw [Bool.eq_iff_iff]
    simp [and_assoc, Int.ofNat_inj]
  rw [hE, show d + 3 = (d + 2) + 1 from rfl, run_equalIn_agg w (d + 2) 34 _ _ hS (by kernel_rfl)]
  simp only [Program.fieldsOf, Try.underlying34]
  generalize decide (a.vs = b.vs) = q at *
  generalize d + 2 = d0 at *
  clear hE
  go_simp
  cases q <;> by_cases h1 : (a.e : Int) = (b.e : Int) <;> by_cases h2 : (a.r : Int) = (b.r : Int) <;> by_cases h3 : (a.w : Int) = (b.w : Int) <;> simp [h1, h2, h3]
set_option maxHeartbeats 800000 in
theorem eq_it (d : Nat) {a b : ItP} (ha : ItOk a) (hb : ItOk b) (w : World) : (Op.equalIn (d + 4) 36 (.agg (itA a)) (.agg (itA b))).run Try.prog w = .ok (decide (a = b)) w := by
  have hS : Try.prog.underlying 36 = some (.struct (Try.prog.fieldsOf 36)) := by kernel_rfl
  have hin := fun w => eq_cf d ha.c hb.c w
  have hu : ∀ (x y : Int) w, (Op.equalIn (d + 3) 32 (.int .u32 x) (.int .u32 y)).run Try.prog w = .ok (x == y) w := fun x y w => by
    rw [show d + 3 = (d + 2) + 1 from rfl]
    go_simp
  have hv : ∀ w, (Op.equalIn (d + 3) 9 (.string (strOfNums a.val)) (.string (strOfNums b.val))).run Try.prog w = .ok (decide (a.val = b.val)) w := fun w => by
    rw [show d + 3 = (d + 2) + 1 from rfl, run_equalIn_string w (d + 2) 9 _ _ Try.underlying9, str_same ha.s hb.s]
  have hE : decide (a = b) = (((a.ver : Int) == (b.ver : Int)) && decide (a.val = b.val) && decide (a.cf = b.cf)) := by
    obtain ⟨a1, a2, a3⟩ := a
    obtain ⟨b1, b2, b3⟩ := b
    rw [Bool.eq_iff_iff]
    simp [and_assoc, Int.ofNat_inj]
  rw [hE, show d + 4 = (d + 3) + 1 from rfl, run_equalIn_agg w (d + 3) 36 _ _ hS (by kernel_rfl)]
  simp only [Program.fieldsOf, Try.underlying36]
  generalize decide (a.val = b.val) = q at *
  generalize decide (a.cf = b.cf) = r at *
  generalize d + 3 = d0 at *
  clear hE
  go_simp
  cases q <;> cases r <;> by_cases h1 : (a.ver : Int) = (b.ver : Int) <;> simp [h1]
set_option maxHeartbeats 800000 in
theorem eq_wr (d : Nat) {a b : WrP} (ha : KeyOk a.key ∧ ItOk a.it) (hb : KeyOk b.key ∧ ItOk b.it) (w : World) : (Op.equalIn (d + 5) 38 (.agg (wrA a)) (.agg (wrA b))).run Try.prog w = .ok (decide (a = b)) w := by
  have hS : Try.prog.underlying 38 = some (.struct (Try.prog.fieldsOf 38)) := by kernel_rfl
  have hin := fun w => eq_it d ha.2 hb.2 w
  have hk := fun w => eq8 31 Try.underlying31 (d + 2) (at8 a.key 0) (at8 a.key 1) (at8 a.key 2) (at8 a.key 3) (at8 a.key 4) (at8 a.key 5) (at8 a.key 6) (at8 a.key 7) (at8 b.key 0) (at8 b.key 1) (at8 b.key 2) (at8 b.key 3) (at8 b.key 4) (at8 b.key 5) (at8 b.key 6) (at8 b.key 7) w
  rw [eight_dec ha.1.l hb.1.l] at hk
  have hE : decide (a = b) = (decide (a.key = b.key) && decide (a.it = b.it)) := by
    obtain ⟨a1, a2⟩ := a
    obtain ⟨b1, b2⟩ := b
    rw [Bool.eq_iff_iff]
    simp
  rw [show d + 2 + 2 = d + 4 from rfl] at hk
  rw [hE, show d + 5 = (d + 4) + 1 from rfl, run_equalIn_agg w (d + 4) 38 _ _ hS (by kernel_rfl)]
  simp only [Program.fieldsOf, Try.underlying38]
  generalize decide (a.key = b.key) = q at *
  generalize decide (a.it = b.it) = r at *
  generalize d + 4 = d0 at *
  go_simp
  cases q <;> cases r <;> simp
end
section
open Go.RowKit

/-- What a call leaves of a table. -/
def TDid (D : World → Nat → (Nat → Prop) → List WrP → Prop) (w w' : World) (q : Nat) (F : Nat → Prop) (t' : List WrP) : Prop :=
  ∃ F', D w' q F' t' ∧ KeepBut F w w' ∧ ∀ k, F' k → F k ∨ w.heap.size ≤ k
/-- What a program's table must do. -/
structure TableDo (D : World → Nat → (Nat → Prop) → List WrP → Prop) : Prop where
  keep : ∀ {w w' : World} {q : Nat} {F S : Nat → Prop} {t : List WrP}, D w q F t → KeepBut S w w' → (∀ k, F k → ¬ S k) → D w' q F t
  lt : ∀ {w : World} {q : Nat} {F : Nat → Prop} {t : List WrP}, D w q F t → ∀ k, F k → k < w.heap.size
  ok : ∀ {w : World} {q : Nat} {F : Nat → Prop} {t : List WrP}, D w q F t → TbOk t ∧ ∀ x ∈ t, KeyOk x.key ∧ ItOk x.it
  new : ∀ (w : World), Calls Try.prog 8 #[] w fun e w' => ∃ q F, e = .returned (.pointer (some ⟨q, 0, none⟩)) ∧ D w' q F [] ∧ (∀ k, F k → w.heap.size ≤ k) ∧ Below w.heap.size w w'
  ins : ∀ {w : World} {q : Nat} {F : Nat → Prop} {t : List WrP} (k : List Int) (i : ItP), D w q F t → KeyOk k → ItOk i → i.val.length ≤ 9223372036854775807 →
    Calls Try.prog 12 #[.pointer (some ⟨q, 0, none⟩), .agg (eightA k), .agg (itA i)] w fun e w' => e = .returned (.int .i64 (insA t k i)) ∧ TDid D w w' q F (insD t k i)
  get : ∀ {w : World} {q : Nat} {F : Nat → Prop} {t : List WrP} (k : List Int), D w q F t → KeyOk k →
    Calls Try.prog 17 #[.pointer (some ⟨q, 0, none⟩), .agg (eightA k)] w fun e w' => e = .returned (.tuple #[.agg (itA ((getT t k).getD zeroIt)), .bool (getT t k).isSome]) ∧ Below w.heap.size w w'
  all : ∀ {w : World} {q : Nat} {F : Nat → Prop} {t : List WrP}, D w q F t → Calls Try.prog 15 #[.pointer (some ⟨q, 0, none⟩)] w fun e w' => ∃ v, e = .returned v ∧ w'.ownsRow w.heap.size 38 21 v t.length (flat wrE t) ∧ Below w.heap.size w w'
  len : ∀ {w : World} {q : Nat} {F : Nat → Prop} {t : List WrP}, D w q F t → Calls Try.prog 16 #[.pointer (some ⟨q, 0, none⟩)] w fun e w' => e = .returned (.int .i64 (t.length : Int)) ∧ Below w.heap.size w w'
section
variable {D : World → Nat → (Nat → Prop) → List WrP → Prop}
theorem TableDo.below (H : TableDo D) {w w' : World} {q : Nat} {F : Nat → Prop} {t : List WrP} (h : D w q F t) (hB : Below w.heap.size w w') : D w' q F t := H.keep h (KeepBut.of_below (fun _ => False) hB) (fun _ _ h => h)
theorem TDid.before {w w1 w2 : World} {q : Nat} {F : Nat → Prop} {t' : List WrP} (hB : Below w.heap.size w w1) (h : TDid D w1 w2 q F t') : TDid D w w2 q F t' := by
  obtain ⟨F', h1, hk, hF⟩ := h
  refine ⟨F', h1, (KeepBut.of_below F hB).trans hk (fun _ _ h => h), fun k hk => ?_⟩
  rcases hF k hk with h | h
  · exact .inl h
  · exact .inr (Nat.le_trans hB.size h)
/-- A table, and nothing below w turned since. -/
def Since13 (D : World → Nat → (Nat → Prop) → List WrP → Prop) (w : World) (q : Nat) (t : List WrP) (W : World) : Prop := ∃ F, D W q F t ∧ (∀ k, F k → w.heap.size ≤ k) ∧ Below w.heap.size w W
theorem Since13.did {w w1 w2 : World} {q : Nat} {F : Nat → Prop} {t' : List WrP} (hB : Below w.heap.size w w1) (hF : ∀ k, F k → w.heap.size ≤ k) (h : TDid D w1 w2 q F t') : Since13 D w q t' w2 := by
  obtain ⟨F', h1, hk, h2⟩ := h
  refine ⟨F', h1, fun k hk' => ?_, hB.trans (hk.below hB.size hF)⟩
  rcases h2 k hk' with h | h
  · exact hF k h
  · exact Nat.le_trans hB.size h
theorem Since13.below (H : TableDo D) {w W W' : World} {q : Nat} {t : List WrP} (h : Since13 D w q t W) (hB : Below W.heap.size W W') : Since13 D w q t W' := by
  obtain ⟨F, h1, h2, h3⟩ := h
  exact ⟨F, H.below h1 hB, h2, h3.trans (hB.mono h3.size)⟩
end
end
end Go.Proofs.Ytlngejmojpkdkaa
