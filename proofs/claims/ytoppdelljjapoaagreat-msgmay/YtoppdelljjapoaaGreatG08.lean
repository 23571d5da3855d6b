/-
  Own texts put together: IdPlain, IdKeyP, MgPlain. Own work.
-/
import Derived.Test.YtoppdelljjapoaaGreatG05
import Derived.Test.YtoppdelljjapoaaGreatG07
import Derived.WalkKit
import Derived.Lib.Bytealg
import Derived.Lib.Bytes
namespace Go.Proofs.YtoppdelljjapoaaGreat
section
/-- A name: node, boot, number. -/
abbrev TxP := Int × Int × Int
/-- A stamp: time, name. -/
abbrev StP := Int × TxP
/-- A name whose numbers fit their types. -/
def txOk (t : TxP) : Prop := (0 ≤ t.1 ∧ t.1 < 256) ∧ (0 ≤ t.2.1 ∧ t.2.1 < 4294967296) ∧ (0 ≤ t.2.2 ∧ t.2.2 < 4294967296)
def stOk (s : StP) : Prop := (0 ≤ s.1 ∧ s.1 < 4294967296) ∧ txOk s.2
def regOk (g : Int × Int) : Prop := (0 ≤ g.1 ∧ g.1 < 4294967296) ∧ (0 ≤ g.2 ∧ g.2 < 4294967296)
/-- May a number from 1 on be? -/
def countB (n : Int) : Bool := decide (1 ≤ n) && decide (n ≤ 2147483647)
def txMayB (t : TxP) : Bool := decide (t.1 < 8) && (countB t.2.1 && countB t.2.2)
def stMayB (s : StP) : Bool := decide (s.1 ≤ 2147483647) && txMayB s.2
def regMayB (g : Int × Int) : Bool := countB g.1 && countB g.2

/-- The order of two numbers. -/
def cmpF (a b : Int) : Int := if a < b then -1 else if b < a then 1 else 0
/-- The first that is not 0. -/
def orF (a b : Int) : Int := if a = 0 then b else a
/-- The order of lists of numbers: the first unlike ones count. -/
def lexF : List Int → List Int → Int
  | x :: xs, y :: ys => orF (cmpF x y) (lexF xs ys)
  | _, _ => 0
def txL (t : TxP) : List Int := [t.1, t.2.1, t.2.2]
def stL (s : StP) : List Int := s.1 :: txL s.2
def txsF (a b : TxP) : Int := lexF (txL a) (txL b)
def stsF (a b : StP) : Int := lexF (stL a) (stL b)

theorem cmpF_neg (a b : Int) : cmpF b a = - cmpF a b := by unfold cmpF; split <;> split <;> omega
theorem cmpF_zero (a b : Int) : cmpF a b = 0 ↔ a = b := by unfold cmpF; split <;> (try split) <;> omega
theorem cmpF_rng (a b : Int) : cmpF a b = -1 ∧ a < b ∨ cmpF a b = 0 ∧ a = b ∨ cmpF a b = 1 ∧ b < a := by unfold cmpF; split <;> (try split) <;> omega
theorem lexF_rng : ∀ a b : List Int, -1 ≤ lexF a b ∧ lexF a b ≤ 1
  | [], _ => by simp [lexF]
  | _ :: _, [] => by simp [lexF]
  | x :: xs, y :: ys => by
    have h := lexF_rng xs ys
    have h2 := cmpF_rng x y
    unfold lexF orF
    split <;> omega
theorem lexF_neg : ∀ a b : List Int, lexF b a = - lexF a b
  | [], [] => by simp [lexF]
  | [], _ :: _ => by simp [lexF]
  | _ :: _, [] => by simp [lexF]
  | x :: xs, y :: ys => by
    have h := lexF_neg xs ys
    have h2 := cmpF_neg x y
    unfold lexF orF
    split <;> split <;> omega
theorem lexF_zero : ∀ a b : List Int, a.length = b.length → (lexF a b = 0 ↔ a = b)
  | [], [], _ => by simp [lexF]
  | [], _ :: _, h => by simp at h
  | _ :: _, [], h => by simp at h
  | x :: xs, y :: ys, h => by
    have h1 := lexF_zero xs ys (by simpa using h)
    have h2 := cmpF_zero x y
    unfold lexF orF
    split
    · rw [h1]; simp; intro _; omega
    · simp; constructor
      · intro h3; omega
      · intro h3; omega
theorem lexF_trans : ∀ a b c : List Int, a.length = b.length → b.length = c.length → lexF a b ≤ 0 → lexF b c ≤ 0 → lexF a c ≤ 0
  | [], _, _, _, _, _, _ => by simp [lexF]
  | _ :: _, [], _, h, _, _, _ => by simp at h
  | _ :: _, _ :: _, [], _, h, _, _ => by simp at h
  | x :: xs, y :: ys, z :: zs, h1, h2, h3, h4 => by
    have h := lexF_trans xs ys zs (by simpa using h1) (by simpa using h2)
    have a := cmpF_rng x y
    have b := cmpF_rng y z
    have c := cmpF_rng x z
    unfold lexF orF at h3 h4 ⊢
    split at h3 <;> split at h4 <;> split <;> first | omega | (apply h <;> omega)
theorem txL_inj {a b : TxP} (h : txL a = txL b) : a = b := by
  obtain ⟨a1, a2, a3⟩ := a
  obtain ⟨b1, b2, b3⟩ := b
  simp [txL] at h
  obtain ⟨rfl, rfl, rfl⟩ := h
  rfl
theorem stL_inj {a b : StP} (h : stL a = stL b) : a = b := by
  obtain ⟨a0, a⟩ := a
  obtain ⟨b0, b⟩ := b
  simp only [stL, List.cons.injEq] at h
  rw [h.1, txL_inj h.2]
theorem txsF_zero (a b : TxP) : txsF a b = 0 ↔ a = b := by
  unfold txsF
  rw [lexF_zero (txL a) (txL b) rfl]
  exact ⟨txL_inj, fun h => by rw [h]⟩
theorem stsF_zero (a b : StP) : stsF a b = 0 ↔ a = b := by
  unfold stsF
  rw [lexF_zero (stL a) (stL b) rfl]
  exact ⟨stL_inj, fun h => by rw [h]⟩
/-- What 'three' of the law asks of an order. -/
def threeB (x y z back : Int) (same : Bool) : Bool := decide (x = -back) && ((decide (x = 0) == same) && ((decide (0 < x) || (decide (0 < y) || decide (z ≤ 0))) && (decide (x < 0) || (decide (y < 0) || decide (0 ≤ z)))))
theorem three_lex (a b c : List Int) (h1 : a.length = b.length) (h2 : b.length = c.length) : threeB (lexF a b) (lexF b c) (lexF a c) (lexF b a) (decide (a = b)) = true := by
  have n1 := lexF_neg a b
  have n2 := lexF_neg b c
  have n3 := lexF_neg a c
  have z := lexF_zero a b h1
  have t1 := lexF_trans a b c h1 h2
  have t2 := lexF_trans c b a h2.symm h1.symm
  unfold threeB
  simp only [Bool.and_eq_true, Bool.or_eq_true, decide_eq_true_eq, beq_iff_eq]
  refine ⟨by omega, ?_, ?_, ?_⟩
  · rw [decide_eq_decide]; exact z
  · by_cases h3 : 0 < lexF a b
    · exact .inl h3
    · by_cases h4 : 0 < lexF b c
      · exact .inr (.inl h4)
      · exact .inr (.inr (t1 (by omega) (by omega)))
  · by_cases h3 : lexF a b < 0
    · exact .inl h3
    · by_cases h4 : lexF b c < 0
      · exact .inr (.inl h4)
      · exact .inr (.inr (by have := t2 (by omega) (by omega); omega))
end
section
def zero8i : List Int := [0, 0, 0, 0, 0, 0, 0, 0]
/-- The bytes ahead of the first 0. -/
def aheadF : List Int → List Int
  | [] => []
  | x :: r => if x = 0 then [] else x :: aheadF r
/-- KeyOf. -/
def keyOfF (xs : List Int) : List Int × Int := if xs.length = 0 ∨ 8 < xs.length ∨ 0 ∈ xs then (zero8i, 1) else (xs ++ List.replicate (8 - xs.length) 0, 0)
/-- Name. -/
def nameF (k : List Int) : List Int × Bool := if aheadF k = [] ∨ k ≠ aheadF k ++ List.replicate (8 - (aheadF k).length) 0 then ([], false) else (aheadF k, true)

theorem aheadF_le : ∀ k : List Int, (aheadF k).length ≤ k.length
  | [] => by simp [aheadF]
  | x :: r => by
    have := aheadF_le r
    unfold aheadF
    split <;> simp; omega
theorem aheadF_no : ∀ k : List Int, 0 ∉ aheadF k
  | [] => by simp [aheadF]
  | x :: r => by
    have := aheadF_no r
    unfold aheadF
    split
    · simp
    · simp only [List.mem_cons, not_or]
      exact ⟨fun h => by omega, this⟩
theorem aheadF_app : ∀ (xs : List Int) (n : Nat), 0 ∉ xs → aheadF (xs ++ List.replicate n 0) = xs
  | [], 0, _ => by simp [aheadF]
  | [], n + 1, _ => by simp [aheadF, List.replicate_succ]
  | x :: r, n, h => by
    simp only [List.mem_cons, not_or] at h
    rw [List.cons_append]
    unfold aheadF
    rw [if_neg (fun e => h.1 e.symm), aheadF_app r n h.2]
theorem aheadF_take : ∀ k : List Int, aheadF k = k.take (aheadF k).length
  | [] => by simp [aheadF]
  | x :: r => by
    have := aheadF_take r
    unfold aheadF
    split
    · simp
    · simp only [List.length_cons, List.take_succ_cons]
      rw [← this]
theorem aheadF_sub (k : List Int) : ∀ c ∈ aheadF k, c ∈ k := by
  intro c hc
  rw [aheadF_take k] at hc
  exact List.mem_of_mem_take hc
/-- No 0 stands there: all are ahead. -/
theorem aheadF_all : ∀ k : List Int, 0 ∉ k → aheadF k = k
  | [], _ => by simp [aheadF]
  | x :: r, h => by
    simp only [List.mem_cons, not_or] at h
    unfold aheadF
    rw [if_neg (fun e => h.1 e.symm), aheadF_all r h.2]
theorem keyOfF_fst (xs : List Int) : (keyOfF xs).1.length = 8 := by
  unfold keyOfF
  split
  · rfl
  · simp; omega
theorem keyOfF_byte (xs : List Int) (h : ∀ c ∈ xs, 0 ≤ c ∧ c < 256) : ∀ c ∈ (keyOfF xs).1, 0 ≤ c ∧ c < 256 := by
  unfold keyOfF
  split
  · intro c hc
    simp [zero8i] at hc
    omega
  · intro c hc
    simp only [List.mem_append, List.mem_replicate] at hc
    rcases hc with hc | hc
    · exact h c hc
    · omega
/-- A text is its key's name. -/
theorem name_of_key (xs : List Int) (h : (keyOfF xs).2 = 0) : nameF (keyOfF xs).1 = (xs, true) := by
  unfold keyOfF at h ⊢
  split at h
  · simp at h
  · rename_i hc
    rw [if_neg hc]
    simp only [not_or] at hc
    unfold nameF
    rw [aheadF_app xs _ hc.2.2, if_neg]
    simp only [not_or]
    refine ⟨fun e => hc.1 (by rw [e]; rfl), fun h2 => h2 rfl⟩
theorem key_refused (xs : List Int) (h : (keyOfF xs).2 ≠ 0) : (keyOfF xs).1 = zero8i := by
  unfold keyOfF at h ⊢
  split at h
  · rename_i hc
    rw [if_pos hc]
  · simp at h
/-- A key that may be is its name's. -/
theorem key_of_name (k : List Int) (hl : k.length = 8) (h : (nameF k).2 = true) : keyOfF (nameF k).1 = (k, 0) ∧ 1 ≤ (nameF k).1.length := by
  unfold nameF at h ⊢
  split at h
  · simp at h
  · rename_i hc
    rw [if_neg hc]
    simp only [not_or, Classical.not_not] at hc
    have h1 : (aheadF k).length ≠ 0 := fun e => hc.1 (List.eq_nil_of_length_eq_zero e)
    have h2 := aheadF_le k
    refine ⟨?_, Nat.pos_of_ne_zero h1⟩
    unfold keyOfF
    rw [if_neg]
    · rw [← hc.2]
    · simp only [not_or]
      exact ⟨h1, by omega, aheadF_no k⟩
theorem name_refused (k : List Int) (h : (nameF k).2 = false) : (nameF k).1 = [] := by
  unfold nameF at h ⊢
  split at h
  · rename_i hc; rw [if_pos hc]
  · simp at h
/-- The program's way to Name: by the key of the bytes ahead. -/
theorem nameF_by_key (k : List Int) (hl : k.length = 8) : nameF k = if (keyOfF (aheadF k)).2 ≠ 0 ∨ (keyOfF (aheadF k)).1 ≠ k then ([], false) else (aheadF k, true) := by
  have h2 := aheadF_le k
  have h3 := aheadF_no k
  unfold nameF keyOfF
  by_cases h : aheadF k = []
  · simp [h]
  · have h1 : (aheadF k).length ≠ 0 := fun e => h (List.eq_nil_of_length_eq_zero e)
    have hn : ¬ ((aheadF k).length = 0 ∨ 8 < (aheadF k).length ∨ 0 ∈ aheadF k) := by
      simp only [not_or]; exact ⟨h1, by omega, h3⟩
    rw [if_neg hn]
    by_cases h4 : k = aheadF k ++ List.replicate (8 - (aheadF k).length) 0
    · rw [if_neg (by simp only [not_or, Classical.not_not]; exact ⟨h, h4⟩), if_neg (by simp only [not_or, Classical.not_not]; exact ⟨by trivial, h4.symm⟩)]
    · rw [if_pos (.inr h4), if_pos (.inr (fun e => h4 e.symm))]

/-- What a search of the byte 0 gives. -/
theorem index_zero : ∀ xs : List Int, (∀ c ∈ xs, 0 ≤ c ∧ c < 256) → Lib.indexByte (Lib.bytesOf xs) 0 = if 0 ∈ xs then ((aheadF xs).length : Int) else -1
  | [], _ => by simp [Lib.bytesOf, Lib.indexByte]
  | x :: r, h => by
    have ih := index_zero r (fun c hc => h c (List.mem_cons_of_mem _ hc))
    have hx := h x (List.mem_cons_self ..)
    have e : Lib.bytesOf (x :: r) = UInt8.ofNat x.toNat :: Lib.bytesOf r := rfl
    rw [e]
    unfold Lib.indexByte aheadF
    by_cases h0 : x = 0
    · subst h0; simp
    · have hne : (UInt8.ofNat x.toNat == 0) = false := by
        rw [beq_eq_false_iff_ne]
        intro e2
        have := congrArg UInt8.toNat e2
        rw [UInt8.toNat_ofNat'] at this
        simp at this
        omega
      rw [hne, ih]
      have h0' : ¬ (0 : Int) = x := fun e => h0 e.symm
      by_cases hm : (0 : Int) ∈ r
      · have : ((((aheadF r).length : Int)) == -1) = false := by rw [beq_eq_false_iff_ne]; omega
        simp [hm, h0, this]
      · simp [hm, h0']
/-- What comparing bytes gives. -/
theorem compare_lex : ∀ a b : List Int, a.length = b.length → (∀ c ∈ a, 0 ≤ c ∧ c < 256) → (∀ c ∈ b, 0 ≤ c ∧ c < 256) → Lib.compareBytes (Lib.bytesOf a) (Lib.bytesOf b) = lexF a b
  | [], [], _, _, _ => by simp [Lib.bytesOf, Lib.compareBytes, lexF]
  | [], _ :: _, h, _, _ => by simp at h
  | _ :: _, [], h, _, _ => by simp at h
  | x :: xs, y :: ys, h, ha, hb => by
    have ih := compare_lex xs ys (by simpa using h) (fun c hc => ha c (List.mem_cons_of_mem _ hc)) (fun c hc => hb c (List.mem_cons_of_mem _ hc))
    have hx := ha x (List.mem_cons_self ..)
    have hy := hb y (List.mem_cons_self ..)
    have e1 : Lib.bytesOf (x :: xs) = UInt8.ofNat x.toNat :: Lib.bytesOf xs := rfl
    have e2 : Lib.bytesOf (y :: ys) = UInt8.ofNat y.toNat :: Lib.bytesOf ys := rfl
    have hlt : ∀ p q : Int, 0 ≤ p → p < 256 → 0 ≤ q → q < 256 → (UInt8.ofNat p.toNat < UInt8.ofNat q.toNat ↔ p < q) := by
      intro p q p0 p1 q0 q1
      rw [UInt8.lt_iff_toNat_lt, UInt8.toNat_ofNat', UInt8.toNat_ofNat']
      omega
    have c := cmpF_rng x y
    rw [e1, e2]
    unfold Lib.compareBytes lexF orF
    rw [ih]
    have l1 := hlt x y hx.1 hx.2 hy.1 hy.2
    have l2 := hlt y x hy.1 hy.2 hx.1 hx.2
    rcases c with ⟨c1, c2⟩ | ⟨c1, c2⟩ | ⟨c1, c2⟩
    · simp [l1, c1, c2]
    · subst c2; simp [c1]
    · have c3 : ¬ x < y := by omega
      simp [l1, l2, c1, c2, c3]
end
section
open Go

abbrev mxN : Nat := 2147483647
/-- A byte as a number. -/
def byteN : Codec Nat := ⟨fun n => [(n : Int)], fun r => ((byteS r).1.toNat, (byteS r).2)⟩
theorem byteN_good : byteN.Good (fun _ => True) (fun n => n < 256) where
  stays := fun r h => byteC_good.stays r h
  back := fun n _ ys w f => by
    show (((byteS ⟨[(n : Int)] ++ ys, w, 0, f⟩).1.toNat, (byteS ⟨[(n : Int)] ++ ys, w, 0, f⟩).2) : Nat × RS) = _
    rw [byte_back]
    rfl
  one := fun r h hx => by
    obtain ⟨r1, g1⟩ := byteC_good.one r h hx
    by_cases hw : (byteS r).2.why = 0
    · have hb := g1 hw
      have hb1 : 0 ≤ (byteS r).1 := hb.1
      have hb2 : (byteS r).1 < 256 := hb.2
      refine ⟨?_, fun _ => ?_⟩
      · show ReadsTo r (byteS r).2 [((byteS r).1.toNat : Int)]
        rw [show (((byteS r).1.toNat : Nat) : Int) = (byteS r).1 by omega]
        exact r1
      · show (byteS r).1.toNat < 256
        omega
    · exact ⟨r1.stuck hw, fun hz => absurd hz hw⟩
/-- An item, a write, a message. -/
structure ItP where
  ver : Nat
  val : List Int
  cf : Cf
structure WrP where
  key : List Int
  it : ItP
abbrev TxN := Nat × Nat × Nat
structure MsgP where
  kind : Nat
  tx : TxN
  time : Nat
  reg : Nat × Nat
  key : List Int
  mode : Nat
  no : Nat
  why : Nat
  yes : Nat
  item : ItP
  wr : List WrP
def zeroCf : Cf := ⟨0, 0, 0, [0, 0, 0, 0, 0, 0, 0, 0]⟩
def zeroIt : ItP := ⟨0, [], zeroCf⟩
def zeroM (kind : Nat) : MsgP := ⟨kind, (0, 0, 0), 0, (0, 0), [0, 0, 0, 0, 0, 0, 0, 0], 0, 0, 0, 0, zeroIt, []⟩
def txC : Codec TxN := pairC byteN (pairC (numC mxN) (numC mxN))
def regC : Codec (Nat × Nat) := pairC (numC mxN) (numC mxN)
def cfC : Codec Cf := isoC (pairC (numC mxN) (pairC (numC 255) (pairC (numC 255) (repC byteN 8)))) (fun x => ⟨x.1, x.2.1, x.2.2.1, x.2.2.2⟩) (fun c => (c.e, c.r, c.w, c.vs))
def itC : Codec ItP := isoC (pairC (numC mxN) (pairC (textC 64) cfC)) (fun x => ⟨x.1, x.2.1, x.2.2⟩) (fun i => (i.ver, i.val, i.cf))
def wrC : Codec WrP := isoC (pairC keyC itC) (fun x => ⟨x.1, x.2⟩) (fun w => (w.key, w.it))
def wsC : Codec (List WrP) := listC wrC 16
theorem txC_good : txC.Good (fun t => True ∧ t.2.1 ≤ mxN ∧ t.2.2 ≤ mxN) (fun t => t.1 < 256 ∧ t.2.1 ≤ mxN ∧ t.2.2 ≤ mxN) := pairC_good byteN_good (pairC_good (numC_good _ (by decide)) (numC_good _ (by decide)))
theorem regC_good : regC.Good (fun g => g.1 ≤ mxN ∧ g.2 ≤ mxN) (fun g => g.1 ≤ mxN ∧ g.2 ≤ mxN) := pairC_good (numC_good _ (by decide)) (numC_good _ (by decide))
def cfOk (c : Cf) : Prop := c.e ≤ mxN ∧ c.r ≤ 255 ∧ c.w ≤ 255 ∧ c.vs.length = 8 ∧ ∀ x ∈ c.vs, True
def cfRng (c : Cf) : Prop := c.e ≤ mxN ∧ c.r ≤ 255 ∧ c.w ≤ 255 ∧ c.vs.length = 8 ∧ ∀ x ∈ c.vs, x < 256
theorem cfC_good : cfC.Good cfOk cfRng := isoC_good (pairC_good (numC_good _ (by decide)) (pairC_good (numC_good _ (by decide)) (pairC_good (numC_good _ (by decide)) (repC_good byteN_good 8)))) (fun _ => rfl) (fun _ => rfl)
def itOk (i : ItP) : Prop := i.ver ≤ mxN ∧ i.val.length ≤ 64 ∧ cfOk i.cf
def itRng (i : ItP) : Prop := i.ver ≤ mxN ∧ (i.val.length ≤ 64 ∧ ∀ c ∈ i.val, 0 ≤ c ∧ c < 256) ∧ cfRng i.cf
theorem itC_good : itC.Good itOk itRng := isoC_good (pairC_good (numC_good _ (by decide)) (pairC_good (textC_good _ (by decide)) cfC_good)) (fun _ => rfl) (fun _ => rfl)
def wrOk (w : WrP) : Prop := w.key.length = 8 ∧ itOk w.it
def wrRng (w : WrP) : Prop := (w.key.length = 8 ∧ ∀ c ∈ w.key, 0 ≤ c ∧ c < 256) ∧ itRng w.it
theorem wrC_good : wrC.Good wrOk wrRng := isoC_good (pairC_good keyC_good itC_good) (fun _ => rfl) (fun _ => rfl)
theorem wsC_good : wsC.Good (fun l => l.length ≤ 16 ∧ ∀ x ∈ l, wrOk x) (fun l => l.length ≤ 16 ∧ ∀ x ∈ l, wrRng x) := listC_good wrC_good 16 (by decide)
/-- The fields by numbers: 0 Tx, 1 Time, 2 Reg, 3 Key, 4 Mode, 5 No, 6 Why, 7 Yes, 8 Item, 9 Writes. -/
def fieldsN (kind : Nat) : List Nat :=
  if kind = 1 then [0, 1, 2, 3, 4, 5] else if kind = 2 then [0, 2, 3, 4, 5, 8] else if kind = 3 then [0, 5, 6] else if kind = 4 then [0, 2] else if kind = 5 then [0, 2, 9] else if kind = 6 then [0, 2, 7] else if kind = 7 then [0, 7] else if kind = 8 then [0] else if kind = 9 then [0] else if kind = 10 then [0, 3, 8] else if kind = 11 then [0, 3] else []
theorem fields_kind {kind : Nat} (h : fieldsN kind ≠ []) : kind = 1 ∨ kind = 2 ∨ kind = 3 ∨ kind = 4 ∨ kind = 5 ∨ kind = 6 ∨ kind = 7 ∨ kind = 8 ∨ kind = 9 ∨ kind = 10 ∨ kind = 11 := by
  have h2 : ¬ (kind ≠ 1 ∧ kind ≠ 2 ∧ kind ≠ 3 ∧ kind ≠ 4 ∧ kind ≠ 5 ∧ kind ≠ 6 ∧ kind ≠ 7 ∧ kind ≠ 8 ∧ kind ≠ 9 ∧ kind ≠ 10 ∧ kind ≠ 11) := fun ⟨a1, a2, a3, a4, a5, a6, a7, a8, a9, a10, a11⟩ => h (by unfold fieldsN; rw [if_neg a1, if_neg a2, if_neg a3, if_neg a4, if_neg a5, if_neg a6, if_neg a7, if_neg a8, if_neg a9, if_neg a10, if_neg a11])
  omega
theorem fields_facts (kind : Nat) : (fieldsN kind).Nodup ∧ ∀ f ∈ fieldsN kind, f < 10 := by
  by_cases h : fieldsN kind = []
  · rw [h]; exact ⟨List.nodup_nil, fun f hf => by cases hf⟩
  · rcases fields_kind h with rfl | rfl | rfl | rfl | rfl | rfl | rfl | rfl | rfl | rfl | rfl <;> exact ⟨by decide, by decide⟩
def encF (f : Nat) (m : MsgP) : List Int :=
  match f with
  | 0 => txC.enc m.tx
  | 1 => (numC mxN).enc m.time
  | 2 => regC.enc m.reg
  | 3 => keyC.enc m.key
  | 4 => byteN.enc m.mode
  | 5 => (numC mxN).enc m.no
  | 6 => (numC 17).enc m.why
  | 7 => byteN.enc m.yes
  | 8 => itC.enc m.item
  | _ => wsC.enc m.wr
def decF (f : Nat) (m : MsgP) (r : RS) : MsgP × RS :=
  match f with
  | 0 => ({ m with tx := (txC.dec r).1 }, (txC.dec r).2)
  | 1 => ({ m with time := ((numC mxN).dec r).1 }, ((numC mxN).dec r).2)
  | 2 => ({ m with reg := (regC.dec r).1 }, (regC.dec r).2)
  | 3 => ({ m with key := (keyC.dec r).1 }, (keyC.dec r).2)
  | 4 => ({ m with mode := (byteN.dec r).1 }, (byteN.dec r).2)
  | 5 => ({ m with no := ((numC mxN).dec r).1 }, ((numC mxN).dec r).2)
  | 6 => ({ m with why := ((numC 17).dec r).1 }, ((numC 17).dec r).2)
  | 7 => ({ m with yes := (byteN.dec r).1 }, (byteN.dec r).2)
  | 8 => ({ m with item := (itC.dec r).1 }, (itC.dec r).2)
  | _ => ({ m with wr := (wsC.dec r).1 }, (wsC.dec r).2)
def putF (f : Nat) (m a : MsgP) : MsgP :=
  match f with
  | 0 => { a with tx := m.tx }
  | 1 => { a with time := m.time }
  | 2 => { a with reg := m.reg }
  | 3 => { a with key := m.key }
  | 4 => { a with mode := m.mode }
  | 5 => { a with no := m.no }
  | 6 => { a with why := m.why }
  | 7 => { a with yes := m.yes }
  | 8 => { a with item := m.item }
  | _ => { a with wr := m.wr }
def okF (f : Nat) (m : MsgP) : Prop :=
  match f with
  | 0 => True ∧ m.tx.2.1 ≤ mxN ∧ m.tx.2.2 ≤ mxN
  | 1 => m.time ≤ mxN
  | 2 => m.reg.1 ≤ mxN ∧ m.reg.2 ≤ mxN
  | 3 => m.key.length = 8
  | 4 => True
  | 5 => m.no ≤ mxN
  | 6 => m.why ≤ 17
  | 7 => True
  | 8 => itOk m.item
  | _ => m.wr.length ≤ 16 ∧ ∀ x ∈ m.wr, wrOk x
def rngF (f : Nat) (m : MsgP) : Prop :=
  match f with
  | 0 => m.tx.1 < 256 ∧ m.tx.2.1 ≤ mxN ∧ m.tx.2.2 ≤ mxN
  | 1 => m.time ≤ mxN
  | 2 => m.reg.1 ≤ mxN ∧ m.reg.2 ≤ mxN
  | 3 => m.key.length = 8 ∧ ∀ c ∈ m.key, 0 ≤ c ∧ c < 256
  | 4 => m.mode < 256
  | 5 => m.no ≤ mxN
  | 6 => m.why ≤ 17
  | 7 => m.yes < 256
  | 8 => itRng m.item
  | _ => m.wr.length ≤ 16 ∧ ∀ x ∈ m.wr, wrRng x
/-- Two messages have the same in a field. -/
def eqF (f : Nat) (x y : MsgP) : Prop :=
  match f with
  | 0 => x.tx = y.tx
  | 1 => x.time = y.time
  | 2 => x.reg = y.reg
  | 3 => x.key = y.key
  | 4 => x.mode = y.mode
  | 5 => x.no = y.no
  | 6 => x.why = y.why
  | 7 => x.yes = y.yes
  | 8 => x.item = y.item
  | _ => x.wr = y.wr
theorem ten {P : Nat → Prop} {f : Nat} (hf : f < 10) (h0 : P 0) (h1 : P 1) (h2 : P 2) (h3 : P 3) (h4 : P 4) (h5 : P 5) (h6 : P 6) (h7 : P 7) (h8 : P 8) (h9 : P 9) : P f := by
  have : f = 0 ∨ f = 1 ∨ f = 2 ∨ f = 3 ∨ f = 4 ∨ f = 5 ∨ f = 6 ∨ f = 7 ∨ f = 8 ∨ f = 9 := by omega
  rcases this with rfl | rfl | rfl | rfl | rfl | rfl | rfl | rfl | rfl | rfl <;> assumption
theorem eqF_ext {x y : MsgP} (hk : x.kind = y.kind) (h : ∀ f, f < 10 → eqF f x y) : x = y := by
  obtain ⟨a0, a1, a2, a3, a4, a5, a6, a7, a8, a9, a10⟩ := x
  obtain ⟨b0, b1, b2, b3, b4, b5, b6, b7, b8, b9, b10⟩ := y
  have e0 : a1 = b1 := h 0 (by decide)
  have e1 : a2 = b2 := h 1 (by decide)
  have e2 : a3 = b3 := h 2 (by decide)
  have e3 : a4 = b4 := h 3 (by decide)
  have e4 : a5 = b5 := h 4 (by decide)
  have e5 : a6 = b6 := h 5 (by decide)
  have e6 : a7 = b7 := h 6 (by decide)
  have e7 : a8 = b8 := h 7 (by decide)
  have e8 : a9 = b9 := h 8 (by decide)
  have e9 : a10 = b10 := h 9 (by decide)
  subst e0 e1 e2 e3 e4 e5 e6 e7 e8 e9
  have ek : a0 = b0 := hk
  rw [ek]
theorem eqF_enc {f : Nat} (hf : f < 10) {x y : MsgP} (h : eqF f x y) : encF f x = encF f y := by
  revert h
  refine ten (P := fun f => eqF f x y → encF f x = encF f y) hf ?_ ?_ ?_ ?_ ?_ ?_ ?_ ?_ ?_ ?_ <;> exact fun h => by simp only [eqF] at h; simp only [encF, h]
theorem eqF_rng {f : Nat} (hf : f < 10) {x y : MsgP} (h : eqF f x y) : rngF f x ↔ rngF f y := by
  revert h
  refine ten (P := fun f => eqF f x y → (rngF f x ↔ rngF f y)) hf ?_ ?_ ?_ ?_ ?_ ?_ ?_ ?_ ?_ ?_ <;> exact fun h => by simp only [eqF] at h; simp only [rngF, h]
theorem eqF_symm {f : Nat} (hf : f < 10) {x y : MsgP} (h : eqF f x y) : eqF f y x := by
  revert h
  refine ten (P := fun f => eqF f x y → eqF f y x) hf ?_ ?_ ?_ ?_ ?_ ?_ ?_ ?_ ?_ ?_ <;> exact fun h => Eq.symm h
theorem eqF_trans {f : Nat} (hf : f < 10) {x y z : MsgP} (h : eqF f x y) (h' : eqF f y z) : eqF f x z := by
  revert h h'
  refine ten (P := fun f => eqF f x y → eqF f y z → eqF f x z) hf ?_ ?_ ?_ ?_ ?_ ?_ ?_ ?_ ?_ ?_ <;> exact fun h h' => Eq.trans h h'
theorem eqF_refl {f : Nat} (hf : f < 10) (x : MsgP) : eqF f x x := by
  refine ten (P := fun f => eqF f x x) hf ?_ ?_ ?_ ?_ ?_ ?_ ?_ ?_ ?_ ?_ <;> exact rfl
theorem putF_same {f : Nat} (hf : f < 10) (m a : MsgP) : eqF f (putF f m a) m := by
  refine ten (P := fun f => eqF f (putF f m a) m) hf ?_ ?_ ?_ ?_ ?_ ?_ ?_ ?_ ?_ ?_ <;> exact rfl
theorem putF_other {f g : Nat} (hf : f < 10) (hg : g < 10) (h : g ≠ f) (m a : MsgP) : eqF g (putF f m a) a := by
  revert h
  refine ten (P := fun f => g ≠ f → eqF g (putF f m a) a) hf ?_ ?_ ?_ ?_ ?_ ?_ ?_ ?_ ?_ ?_ <;> refine ten (P := fun g => g ≠ _ → eqF g (putF _ m a) a) hg ?_ ?_ ?_ ?_ ?_ ?_ ?_ ?_ ?_ ?_ <;> first | exact fun _ => rfl | exact fun h => absurd rfl h
theorem putF_kind (f : Nat) (m a : MsgP) : (putF f m a).kind = a.kind := by unfold putF; split <;> rfl
theorem decF_other {f g : Nat} (hf : f < 10) (hg : g < 10) (h : g ≠ f) (a : MsgP) (r : RS) : eqF g (decF f a r).1 a := by
  revert h
  refine ten (P := fun f => g ≠ f → eqF g (decF f a r).1 a) hf ?_ ?_ ?_ ?_ ?_ ?_ ?_ ?_ ?_ ?_ <;> refine ten (P := fun g => g ≠ _ → eqF g (decF _ a r).1 a) hg ?_ ?_ ?_ ?_ ?_ ?_ ?_ ?_ ?_ ?_ <;> first | exact fun _ => rfl | exact fun h => absurd rfl h
theorem decF_kind (f : Nat) (a : MsgP) (r : RS) : (decF f a r).1.kind = a.kind := by unfold decF; split <;> rfl
theorem decF_stays {f : Nat} (hf : f < 10) (a : MsgP) {r : RS} (h : r.why ≠ 0) : (decF f a r).2 = r := by
  refine ten (P := fun f => (decF f a r).2 = r) hf (txC_good.stays r h) ((numC_good mxN (by decide)).stays r h) (regC_good.stays r h) (keyC_good.stays r h) (byteN_good.stays r h) ((numC_good mxN (by decide)).stays r h) ((numC_good 17 (by decide)).stays r h) (byteN_good.stays r h) (itC_good.stays r h) (wsC_good.stays r h)
theorem decF_back {f : Nat} (hf : f < 10) (m a : MsgP) (hok : okF f m) (ys : List Int) (w e : Nat) : decF f a ⟨encF f m ++ ys, w, 0, e⟩ = (putF f m a, ⟨ys, w + (encF f m).length, 0, e⟩) := by
  revert hok
  refine ten (P := fun f => okF f m → decF f a ⟨encF f m ++ ys, w, 0, e⟩ = (putF f m a, ⟨ys, w + (encF f m).length, 0, e⟩)) hf ?_ ?_ ?_ ?_ ?_ ?_ ?_ ?_ ?_ ?_
  · exact fun h => by simp only [decF, encF, putF, txC_good.back m.tx h]
  · exact fun h => by simp only [decF, encF, putF, (numC_good mxN (by decide)).back m.time h]
  · exact fun h => by simp only [decF, encF, putF, regC_good.back m.reg h]
  · exact fun h => by simp only [decF, encF, putF, keyC_good.back m.key h]
  · exact fun h => by simp only [decF, encF, putF, byteN_good.back m.mode h]
  · exact fun h => by simp only [decF, encF, putF, (numC_good mxN (by decide)).back m.no h]
  · exact fun h => by simp only [decF, encF, putF, (numC_good 17 (by decide)).back m.why h]
  · exact fun h => by simp only [decF, encF, putF, byteN_good.back m.yes h]
  · exact fun h => by simp only [decF, encF, putF, itC_good.back m.item h]
  · exact fun h => by simp only [decF, encF, putF, wsC_good.back m.wr h]
theorem decF_one {f : Nat} (hf : f < 10) (a : MsgP) (r : RS) (h : r.why = 0) (hx : ∀ c ∈ r.bs, 0 ≤ c ∧ c < 256) : ReadsTo r (decF f a r).2 (encF f (decF f a r).1) ∧ ((decF f a r).2.why = 0 → rngF f (decF f a r).1) := by
  refine ten (P := fun f => ReadsTo r (decF f a r).2 (encF f (decF f a r).1) ∧ ((decF f a r).2.why = 0 → rngF f (decF f a r).1)) hf (txC_good.one r h hx) ((numC_good mxN (by decide)).one r h hx) (regC_good.one r h hx) (keyC_good.one r h hx) (byteN_good.one r h hx) ((numC_good mxN (by decide)).one r h hx) ((numC_good 17 (by decide)).one r h hx) (byteN_good.one r h hx) (itC_good.one r h hx) (wsC_good.one r h hx)
def decFs : List Nat → MsgP → RS → MsgP × RS
  | [], m, r => (m, r)
  | f :: fs, m, r => decFs fs (decF f m r).1 (decF f m r).2
def putFs : List Nat → MsgP → MsgP → MsgP
  | [], _, a => a
  | f :: fs, m, a => putFs fs m (putF f m a)
def encFs (fs : List Nat) (m : MsgP) : List Int := fs.flatMap fun f => encF f m
theorem decFs_kind : ∀ (fs : List Nat) (a : MsgP) (r : RS), (decFs fs a r).1.kind = a.kind
  | [], _, _ => rfl
  | f :: fs, a, r => by rw [decFs, decFs_kind fs, decF_kind]
theorem decFs_other {g : Nat} (hg : g < 10) : ∀ (fs : List Nat), (∀ f ∈ fs, f < 10) → g ∉ fs → ∀ (a : MsgP) (r : RS), eqF g (decFs fs a r).1 a
  | [], _, _, a, _ => eqF_refl hg a
  | f :: fs, hl, hn, a, r => by
    have hf := hl f List.mem_cons_self
    have hne : g ≠ f := fun e => hn (by rw [e]; exact List.mem_cons_self)
    exact eqF_trans hg (decFs_other hg fs (fun x hx => hl x (List.mem_cons_of_mem _ hx)) (fun hx => hn (List.mem_cons_of_mem _ hx)) _ _) (decF_other hf hg hne a r)
theorem decFs_stays : ∀ (fs : List Nat), (∀ f ∈ fs, f < 10) → ∀ (a : MsgP) (r : RS), r.why ≠ 0 → (decFs fs a r).2 = r
  | [], _, _, _, _ => rfl
  | f :: fs, hl, a, r, h => by
    rw [decFs, decF_stays (hl f List.mem_cons_self) a h]
    exact decFs_stays fs (fun x hx => hl x (List.mem_cons_of_mem _ hx)) _ r h
theorem decFs_back (m : MsgP) : ∀ (fs : List Nat), (∀ f ∈ fs, f < 10) → (∀ f ∈ fs, okF f m) → ∀ (a : MsgP) (ys : List Int) (w e : Nat), decFs fs a ⟨encFs fs m ++ ys, w, 0, e⟩ = (putFs fs m a, ⟨ys, w + (encFs fs m).length, 0, e⟩)
  | [], _, _, a, ys, w, e => by simp [decFs, putFs, encFs]
  | f :: fs, hl, hok, a, ys, w, e => by
    have he : encFs (f :: fs) m = encF f m ++ encFs fs m := by simp [encFs]
    rw [decFs, he, List.append_assoc, decF_back (hl f List.mem_cons_self) m a (hok f List.mem_cons_self)]
    simp only
    rw [decFs_back m fs (fun x hx => hl x (List.mem_cons_of_mem _ hx)) (fun x hx => hok x (List.mem_cons_of_mem _ hx))]
    simp only [putFs, List.length_append, Nat.add_assoc]
theorem decFs_one : ∀ (fs : List Nat), fs.Nodup → (∀ f ∈ fs, f < 10) → ∀ (a : MsgP) (r : RS), r.why = 0 → (∀ c ∈ r.bs, 0 ≤ c ∧ c < 256) → ReadsTo r (decFs fs a r).2 (encFs fs (decFs fs a r).1) ∧ ((decFs fs a r).2.why = 0 → ∀ f ∈ fs, rngF f (decFs fs a r).1)
  | [], _, _, a, r, h, _ => ⟨ReadsTo.nil h, fun _ f hf => by cases hf⟩
  | f :: fs, hnd, hl, a, r, h, hx => by
    rw [List.nodup_cons] at hnd
    have hf := hl f List.mem_cons_self
    have hl' : ∀ g ∈ fs, g < 10 := fun x hx => hl x (List.mem_cons_of_mem _ hx)
    obtain ⟨r1, g1⟩ := decF_one hf a r h hx
    have hsame : eqF f (decFs fs (decF f a r).1 (decF f a r).2).1 (decF f a r).1 := decFs_other hf fs hl' hnd.1 _ _
    have he : encFs (f :: fs) (decFs (f :: fs) a r).1 = encF f (decF f a r).1 ++ encFs fs (decFs fs (decF f a r).1 (decF f a r).2).1 := by
      show (f :: fs).flatMap _ = _
      rw [List.flatMap_cons, ← eqF_enc hf hsame]
      rfl
    rw [he]
    show ReadsTo r (decFs fs (decF f a r).1 (decF f a r).2).2 _ ∧ ((decFs fs (decF f a r).1 (decF f a r).2).2.why = 0 → ∀ g ∈ f :: fs, rngF g (decFs fs (decF f a r).1 (decF f a r).2).1)
    by_cases hw : (decF f a r).2.why = 0
    · obtain ⟨r2, g2⟩ := decFs_one fs hnd.2 hl' (decF f a r).1 (decF f a r).2 hw (r1.bytes hx)
      refine ⟨r1.trans hw r2, fun hz g hg => ?_⟩
      rcases List.mem_cons.1 hg with rfl | hg
      · exact (eqF_rng hf hsame).2 (g1 hw)
      · exact g2 hz g hg
    · have hs := decFs_stays fs hl' (decF f a r).1 (decF f a r).2 hw
      refine ⟨?_, fun hz => ?_⟩
      · rw [hs]; exact r1.stuck hw
      · rw [hs] at hz; exact absurd hz hw
theorem putFs_kind (m : MsgP) : ∀ (fs : List Nat) (a : MsgP), (putFs fs m a).kind = a.kind
  | [], _ => rfl
  | f :: fs, a => by rw [putFs, putFs_kind m fs, putF_kind]
theorem putFs_other (m : MsgP) {g : Nat} (hg : g < 10) : ∀ (fs : List Nat), (∀ f ∈ fs, f < 10) → g ∉ fs → ∀ (a : MsgP), eqF g (putFs fs m a) a
  | [], _, _, a => eqF_refl hg a
  | f :: fs, hl, hn, a => by
    have hf := hl f List.mem_cons_self
    have hne : g ≠ f := fun e => hn (by rw [e]; exact List.mem_cons_self)
    exact eqF_trans hg (putFs_other m hg fs (fun x hx => hl x (List.mem_cons_of_mem _ hx)) (fun hx => hn (List.mem_cons_of_mem _ hx)) _) (putF_other hf hg hne m a)
theorem putFs_same (m : MsgP) {g : Nat} (hg : g < 10) : ∀ (fs : List Nat), (∀ f ∈ fs, f < 10) → g ∈ fs → ∀ (a : MsgP), eqF g (putFs fs m a) m
  | [], _, hm, _ => by cases hm
  | f :: fs, hl, hm, a => by
    have hf := hl f List.mem_cons_self
    have hl' : ∀ x ∈ fs, x < 10 := fun x hx => hl x (List.mem_cons_of_mem _ hx)
    by_cases hin : g ∈ fs
    · exact putFs_same m hg fs hl' hin _
    · have e : g = f := by
        rcases List.mem_cons.1 hm with e | e
        · exact e
        · exact absurd e hin
      subst e
      exact eqF_trans hg (putFs_other m hg fs hl' hin _) (putF_same hg m a)
end
end Go.Proofs.YtoppdelljjapoaaGreat
