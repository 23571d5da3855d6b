/-
  Own texts put together: TbPlain, SgPlain, SgMore, SgPlay, SgOpen. Own work.
-/
import Derived.Test.YtodomdmmffooaaaG07
import Derived.Test.YtodomdmmffooaaaG08
namespace Go.Proofs.Ytodomdmmffooaaa
section
open Go

def dnT (t : List WrP) (k : List Int) : List WrP := t.dropWhile fun x => decide (lexF x.key k < 0)
def getT (t : List WrP) (k : List Int) : Option ItP := match dnT t k with
  | [] => none
  | x :: _ => if x.key = k then some x.it else none
/-- Are two items the same? -/
def itEqB (a b : ItP) : Bool := decide (a.ver = b.ver) && (decide (a.val = b.val) && (decide (a.cf.e = b.cf.e) && (decide (a.cf.r = b.cf.r) && (decide (a.cf.w = b.cf.w) && decide (a.cf.vs = b.cf.vs)))))
theorem itEqB_iff (a b : ItP) : itEqB a b = true ↔ a = b := by
  obtain ⟨v, s, e, r, w, vs⟩ := a
  obtain ⟨v', s', e', r', w', vs'⟩ := b
  unfold itEqB
  simp
/-- It rises, its keys are keys, and there are not too many. -/
structure TbOk (t : List WrP) : Prop where
  rise : t.Pairwise fun a b => lexF a.key b.key < 0
  key : ∀ x ∈ t, x.key.length = 8
  few : t.length ≤ 64
end
section
open Go

/-- A prepared one. -/
structure OnP where
  tx : TxN
  rg : Nat × Nat
  wr : List WrP
/-- The order of names. -/
def txO (a b : TxN) : Int := lexF [(a.1 : Int), (a.2.1 : Int), (a.2.2 : Int)] [(b.1 : Int), (b.2.1 : Int), (b.2.2 : Int)]
theorem txO_neg (a b : TxN) : txO b a = - txO a b := lexF_neg _ _
theorem txO_zero (a b : TxN) : txO a b = 0 ↔ a = b := by
  constructor
  · intro h
    have h2 := (lexF_zero [(a.1 : Int), (a.2.1 : Int), (a.2.2 : Int)] [(b.1 : Int), (b.2.1 : Int), (b.2.2 : Int)] rfl).1 h
    simp only [List.cons.injEq, and_true] at h2
    obtain ⟨a1, a2, a3⟩ := a
    obtain ⟨b1, b2, b3⟩ := b
    simp only at h2
    have e1 : a1 = b1 := by omega
    have e2 : a2 = b2 := by omega
    have e3 : a3 = b3 := by omega
    rw [e1, e2, e3]
  · intro h
    subst h
    exact (lexF_zero _ _ rfl).2 rfl
theorem txO_trans {a b c : TxN} (h1 : txO a b < 0) (h2 : txO b c < 0) : txO a c < 0 := by
  have h := lexF_trans [(a.1 : Int), (a.2.1 : Int), (a.2.2 : Int)] [(b.1 : Int), (b.2.1 : Int), (b.2.2 : Int)] [(c.1 : Int), (c.2.1 : Int), (c.2.2 : Int)] rfl rfl (Int.le_of_lt h1) (Int.le_of_lt h2)
  rcases Int.lt_or_eq_of_le h with h | h
  · exact h
  · have e := (txO_zero a c).1 h
    subst e
    have := txO_neg a b
    omega
/-- Who is there. -/
def onS (l : List OnP) (t : TxN) : Option OnP := l.find? fun x => decide (x.tx = t)
/-- Does one write a key? -/
def hasK (x : OnP) (k : List Int) : Bool := x.wr.any fun y => decide (y.key = k)
def ownS (l : List OnP) (k : List Int) : Option TxN := (l.find? fun x => hasK x k).map (·.tx)
/-- A new one in its place. -/
def insS (l : List OnP) (x : OnP) : List OnP := l.takeWhile (fun y => decide (txO y.tx x.tx < 0)) ++ x :: l.dropWhile (fun y => decide (txO y.tx x.tx < 0))
def dropS (l : List OnP) (t : TxN) : List OnP := l.filter fun x => decide (x.tx ≠ t)
/-- Are two rows of writes the same? -/
def wsEqB : List WrP → List WrP → Bool
  | [], [] => true
  | a :: l, b :: m => decide (a.key = b.key) && itEqB a.it b.it && wsEqB l m
  | _, _ => false
theorem wsEqB_iff : ∀ a b : List WrP, wsEqB a b = true ↔ a = b
  | [], [] => by simp [wsEqB]
  | [], _ :: _ => by simp [wsEqB]
  | _ :: _, [] => by simp [wsEqB]
  | ⟨k, i⟩ :: l, ⟨k2, i2⟩ :: m => by
    unfold wsEqB
    rw [Bool.and_eq_true, Bool.and_eq_true, wsEqB_iff l m, itEqB_iff, decide_eq_true_eq]
    simp
/-- Put, where what is asked may be: its error, and what it leaves. -/
def putA (l : List OnP) (x : OnP) : Int := match onS l x.tx with
  | some y => if (decide (y.rg = x.rg) && wsEqB y.wr x.wr) = true then 0 else 7
  | none => if (x.wr.any fun y => (ownS l y.key).isSome) = true then 11 else if 64 ≤ l.length then 5 else 0
def putS (l : List OnP) (x : OnP) : List OnP := if (decide (putA l x = 0) && (onS l x.tx).isNone) = true then insS l x else l
/-- It rises, there are not too many, each writes something, no key has two owners. -/
structure SgOk (l : List OnP) : Prop where
  rise : l.Pairwise fun a b => txO a.tx b.tx < 0
  few : l.length ≤ 64
  some : ∀ x ∈ l, x.wr ≠ []
  one : l.Pairwise fun a b => ∀ y ∈ a.wr, ∀ z ∈ b.wr, y.key ≠ z.key
theorem sg_nil : SgOk [] := ⟨List.Pairwise.nil, by decide, (fun _ h => by cases h), List.Pairwise.nil⟩
theorem onS_none {l : List OnP} {t : TxN} : onS l t = none ↔ ∀ x ∈ l, x.tx ≠ t := by
  unfold onS
  rw [List.find?_eq_none]
  simp
theorem onS_some {l : List OnP} (h : SgOk l) {t : TxN} {x : OnP} : onS l t = Option.some x ↔ x ∈ l ∧ x.tx = t := by
  constructor
  · intro hf
    have h1 := List.find?_some hf
    exact ⟨List.mem_of_find?_eq_some hf, by simpa using h1⟩
  · rintro ⟨hx, rfl⟩
    cases hf : onS l x.tx with
    | none => exact absurd rfl (onS_none.1 hf x hx)
    | some y =>
      have h1 : y.tx = x.tx := by have := List.find?_some hf; simpa using this
      have h2 := List.mem_of_find?_eq_some hf
      have key : y = x := by
        have hp := h.rise
        clear hf
        induction l with
        | nil => cases hx
        | cons z l ih =>
          have hz := (List.pairwise_cons.1 hp).1
          rcases List.mem_cons.1 hx with e1 | hx'
          · rcases List.mem_cons.1 h2 with e2 | h2'
            · rw [e1, e2]
            · have := hz y h2'
              rw [h1, e1, (txO_zero _ _).2 rfl] at this
              omega
          · rcases List.mem_cons.1 h2 with e2 | h2'
            · have := hz x hx'
              rw [← h1, e2, (txO_zero _ _).2 rfl] at this
              omega
            · exact ih ⟨(List.pairwise_cons.1 hp).2, by have := h.few; simp at this; omega, fun x hx => h.some x (List.mem_cons_of_mem _ hx), (List.pairwise_cons.1 h.one).2⟩ hx' h2' (List.pairwise_cons.1 hp).2
      rw [key]
theorem insS_mem (l : List OnP) (x y : OnP) : y ∈ insS l x ↔ y = x ∨ y ∈ l := by
  unfold insS
  have e : y ∈ l ↔ y ∈ l.takeWhile (fun y => decide (txO y.tx x.tx < 0)) ∨ y ∈ l.dropWhile (fun y => decide (txO y.tx x.tx < 0)) := by rw [← List.mem_append, List.takeWhile_append_dropWhile]
  rw [e, List.mem_append, List.mem_cons]
  constructor
  · rintro (h | h | h)
    · exact .inr (.inl h)
    · exact .inl h
    · exact .inr (.inr h)
  · rintro (h | h | h)
    · exact .inr (.inl h)
    · exact .inl h
    · exact .inr (.inr h)
theorem insS_perm (l : List OnP) (x : OnP) : (insS l x).Perm (x :: l) := by
  unfold insS
  refine (List.perm_middle).trans (List.Perm.cons x ?_)
  rw [List.takeWhile_append_dropWhile]
end
section
open Go

theorem insS_rise {l : List OnP} (h : SgOk l) {x : OnP} (hn : onS l x.tx = none) : (insS l x).Pairwise fun a b => txO a.tx b.tx < 0 := by
  have hne := onS_none.1 hn
  have hp : (l.takeWhile (fun y => decide (txO y.tx x.tx < 0)) ++ l.dropWhile (fun y => decide (txO y.tx x.tx < 0))).Pairwise fun a b => txO a.tx b.tx < 0 := by rw [List.takeWhile_append_dropWhile]; exact h.rise
  obtain ⟨h1, h2, h3⟩ := List.pairwise_append.1 hp
  have hup : ∀ y ∈ l.takeWhile (fun y => decide (txO y.tx x.tx < 0)), txO y.tx x.tx < 0 := fun y hy => by
    have := List.all_eq_true.1 (List.all_takeWhile (p := fun y : OnP => decide (txO y.tx x.tx < 0)) (l := l)) y hy
    simpa using this
  have hdn : ∀ y ∈ l.dropWhile (fun y => decide (txO y.tx x.tx < 0)), txO x.tx y.tx < 0 := by
    have hmem : ∀ y ∈ l.dropWhile (fun y => decide (txO y.tx x.tx < 0)), y.tx ≠ x.tx := fun y hy => hne y ((List.dropWhile_sublist _).subset hy)
    cases e : l.dropWhile (fun y => decide (txO y.tx x.tx < 0)) with
    | nil => intro y hy; cases hy
    | cons z m =>
      have hz : ¬ txO z.tx x.tx < 0 := by
        have := List.head_dropWhile_not (l := l) (fun y => decide (txO y.tx x.tx < 0)) (by rw [e]; simp)
        simp only [e, List.head_cons] at this
        simpa using this
      rw [e] at h2 hmem
      have hzx : txO x.tx z.tx < 0 := by
        have h4 := txO_neg z.tx x.tx
        have h5 : txO z.tx x.tx ≠ 0 := fun e0 => hmem z List.mem_cons_self ((txO_zero _ _).1 e0)
        omega
      intro y hy
      rcases List.mem_cons.1 hy with e1 | hy
      · rw [e1]; exact hzx
      · exact txO_trans hzx ((List.pairwise_cons.1 h2).1 y hy)
  unfold insS
  rw [List.pairwise_append]
  refine ⟨h1, List.pairwise_cons.2 ⟨hdn, h2⟩, fun a ha b hb => ?_⟩
  rcases List.mem_cons.1 hb with e1 | hb
  · rw [e1]; exact hup a ha
  · exact h3 a ha b hb
theorem hasK_iff (x : OnP) (k : List Int) : hasK x k = true ↔ ∃ y ∈ x.wr, y.key = k := by
  unfold hasK
  rw [List.any_eq_true]
  simp
theorem ownS_none {l : List OnP} {k : List Int} : ownS l k = none ↔ ∀ x ∈ l, hasK x k = false := by
  unfold ownS
  rw [Option.map_eq_none_iff, List.find?_eq_none]
  simp
/-- A key has one owner. -/
theorem own_one {l : List OnP} (h : SgOk l) {x y : OnP} (hx : x ∈ l) (hy : y ∈ l) {k : List Int} (h1 : hasK x k = true) (h2 : hasK y k = true) : x = y := by
  obtain ⟨a, ha, ea⟩ := (hasK_iff x k).1 h1
  obtain ⟨b, hb, eb⟩ := (hasK_iff y k).1 h2
  have hp := h.one
  clear h h1 h2
  induction l with
  | nil => cases hx
  | cons z l ih =>
    have hz := (List.pairwise_cons.1 hp).1
    rcases List.mem_cons.1 hx with e1 | hx'
    · rcases List.mem_cons.1 hy with e2 | hy'
      · rw [e1, e2]
      · exact absurd (ea.trans eb.symm) (hz y hy' a (by rw [← e1]; exact ha) b hb)
    · rcases List.mem_cons.1 hy with e2 | hy'
      · exact absurd (eb.trans ea.symm) (hz x hx' b (by rw [← e2]; exact hb) a ha)
      · exact ih hx' hy' (List.pairwise_cons.1 hp).2
theorem ownS_some {l : List OnP} (h : SgOk l) {k : List Int} {t : TxN} : ownS l k = Option.some t ↔ ∃ x ∈ l, x.tx = t ∧ hasK x k = true := by
  unfold ownS
  constructor
  · intro hf
    obtain ⟨x, hx, e⟩ := Option.map_eq_some_iff.1 hf
    exact ⟨x, List.mem_of_find?_eq_some hx, e, List.find?_some (p := fun x : OnP => hasK x k) hx⟩
  · rintro ⟨x, hx, e, hk⟩
    cases hf : l.find? (fun x => hasK x k) with
    | none => exact absurd hk (by rw [List.find?_eq_none] at hf; exact hf x hx)
    | some y =>
      have h1 : hasK y k = true := List.find?_some (p := fun x : OnP => hasK x k) hf
      have := own_one h (List.mem_of_find?_eq_some hf) hx h1 hk
      rw [this]
      simp [e]
/-- Put where it is free. -/
theorem insS_ok {l : List OnP} (h : SgOk l) {x : OnP} (hn : onS l x.tx = none) (hf : l.length < 64) (hw : x.wr ≠ []) (ho : ∀ y ∈ x.wr, ownS l y.key = none) : SgOk (insS l x) := by
  refine ⟨insS_rise h hn, ?_, fun y hy => ?_, ?_⟩
  · rw [(insS_perm l x).length_eq, List.length_cons]; omega
  · rcases (insS_mem l x y).1 hy with rfl | hy
    · exact hw
    · exact h.some y hy
  · refine ((insS_perm l x).pairwise_iff (fun {a b} hab => ?_)).2 (List.pairwise_cons.2 ⟨fun y hy a ha b hb e => ?_, h.one⟩)
    · exact fun y hy z hz e => hab z hz y hy e.symm
    · have h1 := ownS_none.1 (ho a ha) y hy
      rw [Bool.eq_false_iff] at h1
      exact h1 ((hasK_iff y a.key).2 ⟨b, hb, e.symm⟩)
theorem dropS_ok {l : List OnP} (h : SgOk l) (t : TxN) : SgOk (dropS l t) := by
  have hs : (dropS l t).Sublist l := List.filter_sublist
  exact ⟨h.rise.sublist hs, Nat.le_trans hs.length_le h.few, fun x hx => h.some x (hs.subset hx), h.one.sublist hs⟩
theorem onS_ins {l : List OnP} (h : SgOk l) {x : OnP} (hx : SgOk (insS l x)) (t : TxN) : onS (insS l x) t = if t = x.tx then Option.some x else onS l t := by
  by_cases e : t = x.tx
  · rw [if_pos e]
    exact (onS_some hx).2 ⟨(insS_mem l x x).2 (.inl rfl), e.symm⟩
  · rw [if_neg e]
    cases hf : onS l t with
    | none =>
      rw [onS_none]
      intro y hy
      rcases (insS_mem l x y).1 hy with rfl | hy
      · exact fun e2 => e e2.symm
      · exact onS_none.1 hf y hy
    | some y =>
      have := (onS_some h).1 hf
      exact (onS_some hx).2 ⟨(insS_mem l x y).2 (.inr this.1), this.2⟩
theorem ownS_ins {l : List OnP} (h : SgOk l) {x : OnP} (hx : SgOk (insS l x)) (k : List Int) : ownS (insS l x) k = if hasK x k = true then Option.some x.tx else ownS l k := by
  by_cases e : hasK x k = true
  · rw [if_pos e]
    exact (ownS_some hx).2 ⟨x, (insS_mem l x x).2 (.inl rfl), rfl, e⟩
  · rw [if_neg e]
    cases hf : ownS l k with
    | none =>
      rw [ownS_none]
      intro y hy
      rcases (insS_mem l x y).1 hy with rfl | hy
      · simpa using e
      · exact ownS_none.1 hf y hy
    | some t =>
      obtain ⟨y, hy, e1, e2⟩ := (ownS_some h).1 hf
      exact (ownS_some hx).2 ⟨y, (insS_mem l x y).2 (.inr hy), e1, e2⟩
theorem dropS_mem (l : List OnP) (t : TxN) (y : OnP) : y ∈ dropS l t ↔ y ∈ l ∧ y.tx ≠ t := by
  unfold dropS
  rw [List.mem_filter]
  simp
theorem onS_drop {l : List OnP} (h : SgOk l) (t u : TxN) : onS (dropS l t) u = if u = t then none else onS l u := by
  by_cases e : u = t
  · rw [if_pos e, onS_none]
    intro y hy e2
    exact ((dropS_mem l t y).1 hy).2 (e2.trans e)
  · rw [if_neg e]
    cases hf : onS l u with
    | none =>
      rw [onS_none]
      exact fun y hy => onS_none.1 hf y ((dropS_mem l t y).1 hy).1
    | some y =>
      have := (onS_some h).1 hf
      exact (onS_some (dropS_ok h t)).2 ⟨(dropS_mem l t y).2 ⟨this.1, fun e2 => e (this.2.symm.trans e2)⟩, this.2⟩
theorem ownS_drop {l : List OnP} (h : SgOk l) (t : TxN) (k : List Int) : ownS (dropS l t) k = if ownS l k = Option.some t then none else ownS l k := by
  by_cases e : ownS l k = Option.some t
  · rw [if_pos e, ownS_none]
    intro y hy
    obtain ⟨x, hx, e1, e2⟩ := (ownS_some h).1 e
    obtain ⟨hy1, hy2⟩ := (dropS_mem l t y).1 hy
    cases hk : hasK y k with
    | false => rfl
    | true => exact absurd ((congrArg OnP.tx (own_one h hy1 hx hk e2)).trans e1) hy2
  · rw [if_neg e]
    cases hf : ownS l k with
    | none =>
      rw [ownS_none]
      exact fun y hy => ownS_none.1 hf y ((dropS_mem l t y).1 hy).1
    | some u =>
      obtain ⟨x, hx, e1, e2⟩ := (ownS_some h).1 hf
      refine (ownS_some (dropS_ok h t)).2 ⟨x, (dropS_mem l t x).2 ⟨hx, fun e3 => ?_⟩, e1, e2⟩
      rw [hf, ← e1, e3] at e
      exact e rfl
end
section
open Go

/-- One call of a script. -/
structure SAct where
  take : Bool
  on : OnP
/-- May this be put? -/
def mayO (x : OnP) : Bool := txMayB (txI x.tx) && regMayB ((x.rg.1 : Int), (x.rg.2 : Int)) && !x.wr.isEmpty && wsMayB x.wr
def pA (l : List OnP) (x : OnP) : Int := if mayO x = true then putA l x else 1
def pS (l : List OnP) (x : OnP) : List OnP := if mayO x = true then putS l x else l
def tA (l : List OnP) (t : TxN) : Int := if (onS l t).isSome = true then 0 else 6
def tW (l : List OnP) (t : TxN) : List WrP := match onS l t with
  | some x => x.wr
  | none => []
/-- Each of it may be. -/
structure SgAll (l : List OnP) : Prop where
  ok : SgOk l
  may : ∀ x ∈ l, mayO x = true ∧ ∀ y ∈ x.wr, y.key.length = 8
theorem sgall_nil : SgAll [] := ⟨sg_nil, fun _ h => by cases h⟩
theorem may_some {x : OnP} (h : mayO x = true) : x.wr ≠ [] := by
  intro e
  unfold mayO at h
  rw [e] at h
  simp at h
/-- A Put: refused or said again, it turns nothing; else it is new. -/
theorem pS_ways {l : List OnP} (h : SgOk l) (x : OnP) :
    (pS l x = l ∧ (pA l x = 0 → onS l x.tx = some x ∧ mayO x = true)) ∨ (mayO x = true ∧ pA l x = 0 ∧ onS l x.tx = none ∧ pS l x = insS l x ∧ SgOk (insS l x)) := by
  unfold pS pA
  by_cases hm : mayO x = true
  · rw [if_pos hm, if_pos hm]
    cases hf : onS l x.tx with
    | some y =>
      left
      refine ⟨?_, fun h0 => ?_⟩
      · unfold putS
        rw [hf]
        simp
      · unfold putA at h0
        rw [hf] at h0
        simp only at h0
        by_cases he : (decide (y.rg = x.rg) && wsEqB y.wr x.wr) = true
        · rw [Bool.and_eq_true, decide_eq_true_eq, wsEqB_iff] at he
          have e1 := ((onS_some h).1 hf).2
          obtain ⟨t, g, w⟩ := x
          obtain ⟨t2, g2, w2⟩ := y
          simp only at he e1
          rw [he.1, he.2, e1]
          exact ⟨rfl, hm⟩
        · rw [if_neg he] at h0
          exact absurd h0 (by decide)
    | none =>
      by_cases h0 : putA l x = 0
      · right
        have h1 := h0
        unfold putA at h1
        rw [hf] at h1
        simp only at h1
        by_cases ha : (x.wr.any fun y => (ownS l y.key).isSome) = true
        · rw [if_pos ha] at h1
          exact absurd h1 (by decide)
        · rw [if_neg ha] at h1
          by_cases hl : 64 ≤ l.length
          · rw [if_pos hl] at h1
            exact absurd h1 (by decide)
          · refine ⟨hm, h0, rfl, ?_, ?_⟩
            · unfold putS
              rw [hf, h0]
              simp
            · refine insS_ok h hf (by omega) (may_some hm) fun y hy => ?_
              cases ho : ownS l y.key with
              | none => rfl
              | some u => exact absurd (List.any_eq_true.2 ⟨y, hy, by rw [ho]; rfl⟩) ha
      · left
        refine ⟨?_, fun e => absurd e h0⟩
        unfold putS
        simp [h0]
  · rw [if_neg hm, if_neg hm]
    exact .inl ⟨rfl, fun e => absurd e (by decide)⟩
theorem drop_all {l : List OnP} (h : SgAll l) (t : TxN) : SgAll (dropS l t) := ⟨dropS_ok h.ok t, fun x hx => h.may x ((dropS_mem l t x).1 hx).1⟩
theorem put_refused {l : List OnP} (h : SgOk l) {x : OnP} (h0 : pA l x ≠ 0) : pS l x = l := by
  rcases pS_ways h x with ⟨e, _⟩ | ⟨_, h1, _⟩
  · exact e
  · exact absurd h1 h0
/-- The owners: each write's key is its own one's. -/
theorem own_of {l : List OnP} (h : SgOk l) {x : OnP} (hx : x ∈ l) {y : WrP} (hy : y ∈ x.wr) : ownS l y.key = some x.tx := (ownS_some h).2 ⟨x, hx, rfl, (hasK_iff x _).2 ⟨y, hy, rfl⟩⟩
theorem on_of {l : List OnP} (h : SgOk l) {x : OnP} (hx : x ∈ l) : onS l x.tx = some x := (onS_some h).2 ⟨hx, rfl⟩
def keysS (l : List OnP) : List (List Int) := l.flatMap fun x => x.wr.map WrP.key
theorem own_keys {l : List OnP} (h : SgOk l) (k : List Int) : (ownS l k).isSome = decide (k ∈ keysS l) := by
  rw [Bool.eq_iff_iff, decide_eq_true_eq, Option.isSome_iff_exists]
  unfold keysS
  rw [List.mem_flatMap]
  constructor
  · rintro ⟨t, ht⟩
    obtain ⟨x, hx, _, hk⟩ := (ownS_some h).1 ht
    obtain ⟨y, hy, e⟩ := (hasK_iff x k).1 hk
    exact ⟨x, hx, List.mem_map.2 ⟨y, hy, e⟩⟩
  · rintro ⟨x, hx, hk⟩
    obtain ⟨y, hy, e⟩ := List.mem_map.1 hk
    exact ⟨x.tx, (ownS_some h).2 ⟨x, hx, rfl, (hasK_iff x k).2 ⟨y, hy, e⟩⟩⟩
end
section
open Go.ChangeShapes Go.WideShapes Go.ChangeAt Go.RowKit Go.Deep

theorem mBool14 : Try.prog.cellsOf 4 = 1 := by kernel_rfl
theorem mTx14 : Try.prog.cellsOf 33 = 3 := by kernel_rfl
theorem mReg14 : Try.prog.cellsOf 35 = 2 := by kernel_rfl
theorem mWrites14 : Try.prog.cellsOf 36 = 1 := by kernel_rfl
theorem mSAct : Try.prog.cellsOf 38 = 7 := by kernel_rfl
/-- An act as it lies in a row: with its slice's value. -/
structure SActV where
  a : SAct
  p : Value
abbrev sactE (x : SActV) : List Value := .bool x.a.take :: (txE x.a.on.tx ++ rgE x.a.on.rg ++ [x.p])
abbrev sactA (x : SActV) : Array Value := #[.bool x.a.take, .int .u8 (x.a.on.tx.1 : Int), .int .u32 (x.a.on.tx.2.1 : Int), .int .u32 (x.a.on.tx.2.2 : Int), .int .u32 (x.a.on.rg.1 : Int), .int .u32 (x.a.on.rg.2 : Int), x.p]
structure SvOk (W : World) (x : SActV) : Prop where
  tx : x.a.on.tx.1 < 256 ∧ x.a.on.tx.2.1 < 4294967296 ∧ x.a.on.tx.2.2 < 4294967296
  rg : x.a.on.rg.1 < 4294967296 ∧ x.a.on.rg.2 < 4294967296
  src : RSrc wrE W x.p x.a.on.wr
  wr : ∀ y ∈ x.a.on.wr, KeyOk y.key ∧ ItOk y.it ∧ y.it.val.length ≤ 9223372036854775807
def zeroSV : SActV := ⟨⟨false, ⟨(0, 0, 0), (0, 0), []⟩⟩, .slice none 0 0⟩
theorem recSA : Rec 22 38 7 sactE := ⟨Try.underlying22, rec_info (z := .agg (sactA zeroSV)) (K := 7) (B := 48) (by kernel_rfl) rfl (by decide), by decide, fun _ => rfl⟩
section
variable {H : Type} {enc : TypeId × Value → H} {W : World} {fuel : Nat}
theorem awrites_cell {cs : List Value} {x : DataW H × List MemPlace} (h : DataW.trod enc Try.prog W 0 (fun _ => true) true fuel 36 cs = some x) : ∃ p l, cs = [p] ∧ RSrc wrE W p l ∧ ∀ a ∈ l, KeyOk a.key ∧ ItOk a.it ∧ a.it.val.length ≤ 9223372036854775807 := by
  have hs : ∃ a l c, cs = [.slice a l c] := by
    rcases open_slice Try.underlying36 h with ⟨e, _⟩ | ⟨a, l, c, m, n, D, Pl, e, _⟩
    · exact ⟨_, _, _, e⟩
    · exact ⟨_, _, _, e⟩
  obtain ⟨a, l, c, rfl⟩ := hs
  haveI : Inhabited WrP := ⟨zeroWr⟩
  obtain ⟨ws, h1, h2⟩ := recs_of_trod (a0 := a) (len := l) (cap := c) (d := x.1) (p := x.2) recWR mWrite (fun _ _ _ h => write_cells h) ⟨fuel, h⟩
  exact ⟨_, ws, rfl, h1, h2⟩
set_option maxRecDepth 100000 in
theorem sact_cells {cs : List Value} {x : DataW H × List MemPlace} (h : DataW.trod enc Try.prog W 0 (fun _ => true) true fuel 38 cs = some x) : ∃ a : SActV, cs = sactE a ∧ SvOk W a := by
  obtain ⟨xs, n, _, rfl, hl, hlen, hf⟩ := DataW.trod_struct Try.underlying38 h
  rw [mSAct] at hl
  match cs, hl, xs, hlen with
  | [c0, c1, c2, c3, c4, c5, c6], _, [y0, y1, y2, y3], _ =>
    have h0 : DataW.trod enc Try.prog W 0 (fun _ => true) true n 4 (([c0, c1, c2, c3, c4, c5, c6].drop 0).take (Try.prog.cellsOf 4)) = some y0 := hf 0 _ rfl
    have h1 : DataW.trod enc Try.prog W 0 (fun _ => true) true n 33 (([c0, c1, c2, c3, c4, c5, c6].drop 1).take (Try.prog.cellsOf 33)) = some y1 := hf 1 _ rfl
    have h2 : DataW.trod enc Try.prog W 0 (fun _ => true) true n 35 (([c0, c1, c2, c3, c4, c5, c6].drop 4).take (Try.prog.cellsOf 35)) = some y2 := hf 2 _ rfl
    have h3 : DataW.trod enc Try.prog W 0 (fun _ => true) true n 36 (([c0, c1, c2, c3, c4, c5, c6].drop 6).take (Try.prog.cellsOf 36)) = some y3 := hf 3 _ rfl
    rw [mBool14] at h0
    rw [mTx14] at h1
    rw [mReg14] at h2
    rw [mWrites14] at h3
    obtain ⟨a0, e0, _⟩ := DataW.trod_bool Try.underlying4 h0
    obtain ⟨a1, e1, o1⟩ := tx_cells10 h1
    obtain ⟨a2, e2, o2⟩ := reg_cells10 h2
    obtain ⟨p3, l3, e3, s3, o3⟩ := awrites_cell h3
    simp at e0 e1 e2 e3
    obtain ⟨e11, e12, e13⟩ := e1
    obtain ⟨e21, e22⟩ := e2
    subst e0; subst e11; subst e12; subst e13; subst e21; subst e22; subst e3
    exact ⟨⟨⟨a0, ⟨a1, a2, l3⟩⟩, c6⟩, rfl, ⟨o1, o2, s3, o3⟩⟩
theorem sacts_of_trod {a0 : Option Addr} {len cap : Nat} {d : DataW H} {p : List MemPlace}
    (h : DataW.Trod enc Try.prog W 0 (fun _ => true) true 22 (.slice a0 len cap) d p) : ∃ fs, RSrc sactE W (.slice a0 len cap) fs ∧ ∀ f ∈ fs, SvOk W f :=
  haveI : Inhabited SActV := ⟨zeroSV⟩
  recs_of_trod (ok := SvOk W) recSA mSAct (fun _ _ _ h => sact_cells h) h
end
end
end Go.Proofs.Ytodomdmmffooaaa
