/-
  Own texts put together: MgFacts, Recs. Own work.
-/
import Derived.Test.YtoppdelljjapoaaGreatG08
import Derived.Test.YtoppdelljjapoaaGreatG01
import Derived.Laws.AppendOwnNone
import Derived.Maps.AppendAt
import Derived.Deep.RegionHeldLaw
namespace Go.Proofs.YtoppdelljjapoaaGreat
section
open Go

def itMayB (i : ItP) : Bool := decide (i.ver ≤ mxN) && decide (i.val.length ≤ 64) && mayB i.cf
def riseB : List (List Int) → Bool
  | a :: b :: l => decide (lexF a b < 0) && riseB (b :: l)
  | _ => true
def wsMayB (l : List WrP) : Bool := l.all (fun w => (nameF w.key).2 && itMayB w.it) && riseB (l.map WrP.key) && decide (l.length ≤ 16)
def txI (t : TxN) : TxP := ((t.1 : Int), (t.2.1 : Int), (t.2.2 : Int))
def mayF (m : MsgP) (f : Nat) : Bool :=
  match f with
  | 0 => txMayB (txI m.tx)
  | 1 => decide (m.time ≤ mxN)
  | 2 => regMayB ((m.reg.1 : Int), (m.reg.2 : Int)) || ((m.kind == 1 || m.kind == 5) && m.reg == (0, 0))
  | 3 => (nameF m.key).2
  | 4 => m.mode == 1 || m.mode == 2
  | 5 => decide (m.no ≤ mxN)
  | 6 => decide (1 ≤ m.why) && decide (m.why ≤ 17)
  | 7 => m.yes == 1 || m.yes == 2 || (m.yes == 3 && m.kind == 6)
  | 8 => itMayB m.item
  | _ => wsMayB m.wr
def zeroB (f : Nat) (m : MsgP) : Bool :=
  match f with
  | 0 => m.tx == (0, 0, 0)
  | 1 => m.time == 0
  | 2 => m.reg == (0, 0)
  | 3 => m.key == [0, 0, 0, 0, 0, 0, 0, 0]
  | 4 => m.mode == 0
  | 5 => m.no == 0
  | 6 => m.why == 0
  | 7 => m.yes == 0
  | 8 => m.item.ver == 0 && m.item.val == [] && m.item.cf.e == 0 && m.item.cf.r == 0 && m.item.cf.w == 0 && m.item.cf.vs == [0, 0, 0, 0, 0, 0, 0, 0]
  | _ => m.wr.isEmpty
theorem zeroB_eq {f : Nat} (hf : f < 10) (m : MsgP) (k : Nat) : zeroB f m = true ↔ eqF f m (zeroM k) := by
  refine ten (P := fun f => zeroB f m = true ↔ eqF f m (zeroM k)) hf ?_ ?_ ?_ ?_ ?_ ?_ ?_ ?_ ?_ ?_
  · simp [zeroB, eqF, zeroM]
  · simp [zeroB, eqF, zeroM]
  · simp [zeroB, eqF, zeroM]
  · simp [zeroB, eqF, zeroM]
  · simp [zeroB, eqF, zeroM]
  · simp [zeroB, eqF, zeroM]
  · simp [zeroB, eqF, zeroM]
  · simp [zeroB, eqF, zeroM]
  · obtain ⟨a0, a1, a2, a3, a4, a5, a6, a7, a8, ⟨v, s, ⟨e, r, w, vs⟩⟩, a10⟩ := m
    simp [zeroB, eqF, zeroM, zeroIt, zeroCf, and_assoc]
  · simp [zeroB, eqF, zeroM]
def keptB (m : MsgP) : Bool := (List.range 10).all fun g => (fieldsN m.kind).contains g || zeroB g m
def mayM (m : MsgP) : Bool := !(fieldsN m.kind).isEmpty && keptB m && (fieldsN m.kind).all (mayF m)
theorem kept_put {m : MsgP} (h : keptB m = true) : putFs (fieldsN m.kind) m (zeroM m.kind) = m := by
  have hl := (fields_facts m.kind).2
  refine eqF_ext (by rw [putFs_kind]; rfl) fun g hg => ?_
  by_cases hin : g ∈ fieldsN m.kind
  · exact putFs_same m hg _ hl hin _
  · unfold keptB at h
    rw [List.all_eq_true] at h
    have := h g (List.mem_range.2 hg)
    rw [Bool.or_eq_true] at this
    rcases this with e | e
    · exact absurd (by simpa using e) hin
    · exact eqF_trans hg (putFs_other m hg _ hl hin _) (eqF_symm hg ((zeroB_eq hg m _).1 e))
/-- Its numbers fit their types. -/
structure ItOk (i : ItP) : Prop where
  v : i.ver < 4294967296
  s : ∀ c ∈ i.val, 0 ≤ c ∧ c < 256
  c : i.cf.Ok
structure KeyOk (k : List Int) : Prop where
  l : k.length = 8
  b : ∀ c ∈ k, 0 ≤ c ∧ c < 256
structure MsgOk (m : MsgP) : Prop where
  kind : m.kind < 256
  tx : m.tx.1 < 256 ∧ m.tx.2.1 < 4294967296 ∧ m.tx.2.2 < 4294967296
  time : m.time < 4294967296
  reg : m.reg.1 < 4294967296 ∧ m.reg.2 < 4294967296
  key : KeyOk m.key
  mode : m.mode < 256
  no : m.no < 4294967296
  why : m.why < 256
  yes : m.yes < 256
  item : ItOk m.item
  wr : ∀ x ∈ m.wr, KeyOk x.key ∧ ItOk x.it
theorem it_ok {i : ItP} (h : ItOk i) (hm : itMayB i = true) : itOk i := by
  unfold itMayB mayB at hm
  simp only [Bool.and_eq_true, decide_eq_true_eq] at hm
  have h1 := h.c.r
  have h2 := h.c.w
  exact ⟨hm.1.1, hm.1.2, by show i.cf.e ≤ 2147483647; have := hm.2; omega, by omega, by omega, h.c.l, fun _ _ => trivial⟩
theorem may_ok {m : MsgP} (h : MsgOk m) {f : Nat} (hf : f < 10) (hm : mayF m f = true) : okF f m := by
  revert hm
  refine ten (P := fun f => mayF m f = true → okF f m) hf ?_ ?_ ?_ ?_ ?_ ?_ ?_ ?_ ?_ ?_
  · intro hm
    have h2 : txMayB (txI m.tx) = true := hm
    unfold txMayB countB txI at h2
    simp only [Bool.and_eq_true, decide_eq_true_eq] at h2
    exact ⟨trivial, by show m.tx.2.1 ≤ 2147483647; omega, by show m.tx.2.2 ≤ 2147483647; omega⟩
  · intro hm
    show m.time ≤ mxN
    simpa [mayF] using hm
  · intro hm
    simp only [mayF, regMayB, countB, Bool.or_eq_true, Bool.and_eq_true, decide_eq_true_eq] at hm
    rcases hm with hm | ⟨_, hm⟩
    · exact ⟨by show m.reg.1 ≤ 2147483647; omega, by show m.reg.2 ≤ 2147483647; omega⟩
    · have e : m.reg = (0, 0) := by simpa using hm
      show m.reg.1 ≤ mxN ∧ m.reg.2 ≤ mxN
      rw [e]
      exact ⟨by decide, by decide⟩
  · intro _; exact h.key.l
  · intro _; trivial
  · intro hm
    show m.no ≤ mxN
    simpa [mayF] using hm
  · intro hm
    simp only [mayF, Bool.and_eq_true, decide_eq_true_eq] at hm
    exact hm.2
  · intro _; trivial
  · intro hm; exact it_ok h.item hm
  · intro hm
    simp only [mayF, wsMayB, Bool.and_eq_true, decide_eq_true_eq, List.all_eq_true] at hm
    exact ⟨hm.2, fun x hx => ⟨(h.wr x hx).1.l, it_ok (h.wr x hx).2 (hm.1.1 x hx).2⟩⟩
/-- Encode: the bytes of one that may be. -/
def encM (m : MsgP) : List Int := (m.kind : Int) :: encFs (fieldsN m.kind) m
/-- Decode: the message, the error, the byte. -/
def decM (b : List Int) : MsgP × Int × Nat :=
  let r1 := (byteS ⟨b, 0, 0, 0⟩).2
  let kind := (byteS ⟨b, 0, 0, 0⟩).1.toNat
  if fieldsN kind = [] ∧ r1.why = 0 then (zeroM 0, 3, 0)
  else
    let x := decFs (fieldsN kind) (zeroM kind) r1
    let r3 := endS x.2
    if r3.why ≠ 0 then (zeroM 0, r3.why, r3.fat) else if mayM x.1 then (x.1, 0, 0) else (zeroM 0, 3, 0)
theorem dec_enc {m : MsgP} (hok : MsgOk m) (h : mayM m = true) : decM (encM m) = (m, 0, 0) := by
  have h0 := h
  unfold mayM at h
  simp only [Bool.and_eq_true, List.all_eq_true] at h
  obtain ⟨⟨hne, hk⟩, hf⟩ := h
  have hne2 : fieldsN m.kind ≠ [] := fun e => by rw [e] at hne; simp at hne
  have hl := (fields_facts m.kind).2
  have hb : byteS ⟨encM m, 0, 0, 0⟩ = ((m.kind : Int), ⟨encFs (fieldsN m.kind) m, 1, 0, 0⟩) := by
    have := byte_back (m.kind : Int) (encFs (fieldsN m.kind) m) 0 0
    simpa [encM] using this
  have hd := decFs_back m (fieldsN m.kind) hl (fun f hfm => may_ok hok (hl f hfm) (hf f hfm)) (zeroM m.kind) [] 1 0
  rw [List.append_nil, kept_put hk] at hd
  unfold decM
  simp only [hb, Int.toNat_natCast]
  rw [if_neg (fun e => hne2 e.1), hd]
  simp [endS, h0]
theorem end_zero {r : RS} (h : (endS r).why = 0) : r.why = 0 ∧ r.bs = [] := by
  unfold endS at h
  by_cases h1 : r.why = 0
  · rw [if_neg (by simp [h1])] at h
    split at h
    · rename_i h2; exact ⟨h1, h2⟩
    · simp [RS.fail] at h
  · rw [if_pos h1] at h; exact absurd h h1
theorem enc_dec {b : List Int} (hx : ∀ c ∈ b, 0 ≤ c ∧ c < 256) (h : (decM b).2.1 = 0) : mayM (decM b).1 = true ∧ encM (decM b).1 = b ∧ ∀ f ∈ fieldsN (decM b).1.kind, rngF f (decM b).1 := by
  unfold decM at h ⊢
  simp only at h ⊢
  split at h
  · simp at h
  rename_i hc
  rw [if_neg hc]
  split at h
  · rename_i h3; exact absurd h h3
  rename_i h3
  rw [if_neg h3]
  split at h
  · rename_i hmay
    rw [if_pos hmay]
    have hez := end_zero (Decidable.not_not.1 h3)
    obtain ⟨hw2, hbs⟩ := hez
    by_cases hw1 : (byteS ⟨b, 0, 0, 0⟩).2.why = 0
    · obtain ⟨rb, gb⟩ := byteN_good.one ⟨b, 0, 0, 0⟩ rfl hx
      have hff := fields_facts (byteS ⟨b, 0, 0, 0⟩).1.toNat
      obtain ⟨rd, gd⟩ := decFs_one _ hff.1 hff.2 (zeroM (byteS ⟨b, 0, 0, 0⟩).1.toNat) (byteS ⟨b, 0, 0, 0⟩).2 hw1 (rb.bytes hx)
      have hkind := decFs_kind (fieldsN (byteS ⟨b, 0, 0, 0⟩).1.toNat) (zeroM (byteS ⟨b, 0, 0, 0⟩).1.toNat) (byteS ⟨b, 0, 0, 0⟩).2
      have hkz : (zeroM (byteS ⟨b, 0, 0, 0⟩).1.toNat).kind = (byteS ⟨b, 0, 0, 0⟩).1.toNat := rfl
      rw [hkz] at hkind
      have ht := rb.trans hw1 rd
      refine ⟨hmay, ?_, ?_⟩
      · rcases ht with ⟨_, e, _⟩ | ⟨hn, _⟩
        · rw [hbs, List.append_nil] at e
          unfold encM
          rw [hkind]
          exact e.symm
        · exact absurd hw2 hn
      · simp only
        rw [hkind]
        exact gd hw2
    · have hb0 : b = [] := by
        cases b with
        | nil => rfl
        | cons c t => exact absurd (by simp [byteS, RS.go]) hw1
      subst hb0
      exfalso
      revert hmay
      simp [byteS, RS.fail, fieldsN, decFs, mayM, zeroM]
  · simp at h
/-- Where it has a fault it is no message, and the fault lies within the bytes. -/
theorem dec_fault {b : List Int} (hx : ∀ c ∈ b, 0 ≤ c ∧ c < 256) (h : (decM b).2.1 ≠ 0) : (decM b).1 = zeroM 0 ∧ (decM b).2.2 ≤ b.length := by
  unfold decM at h ⊢
  simp only at h ⊢
  split
  · exact ⟨rfl, Nat.zero_le _⟩
  split
  · rename_i h3
    refine ⟨rfl, ?_⟩
    obtain ⟨rb, gb⟩ := byteN_good.one ⟨b, 0, 0, 0⟩ rfl hx
    have hff := fields_facts (byteS ⟨b, 0, 0, 0⟩).1.toNat
    have key : ∀ (r r' : RS) (ys : List Int), r.why = 0 → ReadsTo r r' ys → (endS r').fat ≤ r.went + r.bs.length ∨ (endS r').why = 0 := by
      intro r r' ys hr hh
      unfold endS
      rcases hh with ⟨g0, g1, g2, g3⟩ | ⟨g0, k, gk, g1, g2, g3⟩
      · rw [if_neg (by simp [g0])]
        split
        · exact .inr g0
        · left
          show r'.went ≤ _
          rw [g2, g1, List.length_append]
          omega
      · rw [if_pos g0]
        left
        omega
    by_cases hw1 : (byteS ⟨b, 0, 0, 0⟩).2.why = 0
    · obtain ⟨rd, gd⟩ := decFs_one _ hff.1 hff.2 (zeroM (byteS ⟨b, 0, 0, 0⟩).1.toNat) (byteS ⟨b, 0, 0, 0⟩).2 hw1 (rb.bytes hx)
      rcases key ⟨b, 0, 0, 0⟩ _ _ rfl (rb.trans hw1 rd) with e | e
      · simpa using e
      · exact absurd e h3
    · have hs := decFs_stays _ hff.2 (zeroM (byteS ⟨b, 0, 0, 0⟩).1.toNat) (byteS ⟨b, 0, 0, 0⟩).2 hw1
      rw [hs] at h3 ⊢
      rcases key ⟨b, 0, 0, 0⟩ _ _ rfl rb with e | e
      · have e2 : (endS (byteS ⟨b, 0, 0, 0⟩).2).fat ≤ 0 + b.length := e
        show (endS (byteS ⟨b, 0, 0, 0⟩).2).fat ≤ b.length
        omega
      · exact absurd e h3
  · split
    · rename_i h3 hmay
      exfalso
      revert h
      split
      · rename_i hc; exact fun _ => absurd hc (by assumption)
      · simp
    · exact ⟨rfl, Nat.zero_le _⟩
theorem num_len {n : Nat} (h : n ≤ mxN) : (shortS n).length ≤ 5 := shortS_len 4 n (by have : n ≤ 2147483647 := h; omega)
theorem byt_len {n : Nat} (h : n ≤ 255) : (shortS n).length ≤ 2 := shortS_len 1 n (by omega)
theorem rep_byte_len (l : List Nat) : (repEnc byteN l).length = l.length := by
  induction l with
  | nil => rfl
  | cons x l ih =>
    simp [repEnc, byteN] at ih ⊢
    exact ih
theorem it_len {i : ItP} (h : itOk i) : (itC.enc i).length ≤ 91 := by
  obtain ⟨h1, h2, h3, h4, h5, h6, _⟩ := h
  have e : itC.enc i = shortS i.ver ++ ((shortS i.val.length ++ i.val) ++ (shortS i.cf.e ++ (shortS i.cf.r ++ (shortS i.cf.w ++ repEnc byteN i.cf.vs)))) := rfl
  have l1 := num_len h1
  have l2 := byt_len (n := i.val.length) (by omega)
  have l3 := num_len h3
  have l4 := byt_len h4
  have l5 := byt_len h5
  rw [e]
  simp only [List.length_append, rep_byte_len, h6]
  omega
theorem ws_len : ∀ (l : List WrP), (∀ x ∈ l, wrOk x) → (repEnc wrC l).length ≤ l.length * 99
  | [], _ => by simp [repEnc]
  | x :: l, h => by
    have ih := ws_len l (fun y hy => h y (List.mem_cons_of_mem _ hy))
    have hx := h x List.mem_cons_self
    have e : repEnc wrC (x :: l) = (x.key ++ itC.enc x.it) ++ repEnc wrC l := by show (x :: l).flatMap wrC.enc = _; rw [List.flatMap_cons]; rfl
    have hi := it_len hx.2
    have hk := hx.1
    rw [e, List.length_append, List.length_append, List.length_cons, Nat.add_mul]
    omega
theorem encF_len {m : MsgP} {f : Nat} (hf : f < 10) (h : okF f m) : (encF f m).length ≤ 1700 := by
  revert h
  refine ten (P := fun f => okF f m → (encF f m).length ≤ 1700) hf ?_ ?_ ?_ ?_ ?_ ?_ ?_ ?_ ?_ ?_
  · intro h
    have e : encF 0 m = [(m.tx.1 : Int)] ++ (shortS m.tx.2.1 ++ shortS m.tx.2.2) := rfl
    have l1 := num_len h.2.1
    have l2 := num_len h.2.2
    rw [e]
    simp only [List.length_append, List.length_cons, List.length_nil]
    omega
  · intro h
    have l1 := num_len (n := m.time) h
    show (shortS m.time).length ≤ 1700
    omega
  · intro h
    have e : encF 2 m = shortS m.reg.1 ++ shortS m.reg.2 := rfl
    have l1 := num_len h.1
    have l2 := num_len h.2
    rw [e, List.length_append]
    omega
  · intro h
    have h8 : m.key.length = 8 := h
    show m.key.length ≤ 1700
    omega
  · intro _; show 1 ≤ 1700; decide
  · intro h
    have l1 := num_len (n := m.no) h
    show (shortS m.no).length ≤ 1700
    omega
  · intro h
    have h2 : m.why ≤ 17 := h
    have l1 := byt_len (n := m.why) (by omega)
    show (shortS m.why).length ≤ 1700
    omega
  · intro _; show 1 ≤ 1700; decide
  · intro h
    have := it_len (i := m.item) h
    show (itC.enc m.item).length ≤ 1700
    omega
  · intro h
    have hl : m.wr.length ≤ 16 := h.1
    have := ws_len m.wr h.2
    have l1 := byt_len (n := m.wr.length) (by omega)
    have e : encF 9 m = shortS m.wr.length ++ repEnc wrC m.wr := rfl
    rw [e, List.length_append]
    omega
theorem enc_len {m : MsgP} (hok : MsgOk m) (h : mayM m = true) : (encM m).length ≤ 4096 := by
  unfold mayM at h
  simp only [Bool.and_eq_true, List.all_eq_true] at h
  obtain ⟨⟨hne, hk⟩, hf⟩ := h
  have hne2 : fieldsN m.kind ≠ [] := fun e => by rw [e] at hne; simp at hne
  have hl := (fields_facts m.kind).2
  have hall : ∀ f ∈ fieldsN m.kind, okF f m := fun f hfm => may_ok hok (hl f hfm) (hf f hfm)
  have small : ∀ f, f < 9 → okF f m → (encF f m).length ≤ 91 := by
    intro f hf9 ho
    revert ho
    refine ten (P := fun f => f < 9 → okF f m → (encF f m).length ≤ 91) (f := f) (by omega) ?_ ?_ ?_ ?_ ?_ ?_ ?_ ?_ ?_ ?_ hf9
    · intro _ h
      have e : encF 0 m = [(m.tx.1 : Int)] ++ (shortS m.tx.2.1 ++ shortS m.tx.2.2) := rfl
      have l1 := num_len h.2.1
      have l2 := num_len h.2.2
      rw [e]
      simp only [List.length_append, List.length_cons, List.length_nil]
      omega
    · intro _ h
      have l1 := num_len (n := m.time) h
      show (shortS m.time).length ≤ 91
      omega
    · intro _ h
      have e : encF 2 m = shortS m.reg.1 ++ shortS m.reg.2 := rfl
      have l1 := num_len h.1
      have l2 := num_len h.2
      rw [e, List.length_append]
      omega
    · intro _ h
      have h8 : m.key.length = 8 := h
      show m.key.length ≤ 91
      omega
    · intro _ _; show 1 ≤ 91; decide
    · intro _ h
      have l1 := num_len (n := m.no) h
      show (shortS m.no).length ≤ 91
      omega
    · intro _ h
      have h2 : m.why ≤ 17 := h
      have l1 := byt_len (n := m.why) (by omega)
      show (shortS m.why).length ≤ 91
      omega
    · intro _ _; show 1 ≤ 91; decide
    · intro _ h
      have := it_len (i := m.item) h
      exact this
    · intro h; omega
  have big := fun h => encF_len (m := m) (f := 9) (by decide) h
  unfold encM
  rw [List.length_cons]
  rcases fields_kind hne2 with e | e | e | e | e | e | e | e | e | e | e <;> rw [e] at hall ⊢
  · have q := fun f (hf : f ∈ fieldsN 1) => hall f hf
    have s0 := small 0 (by decide) (q 0 (by decide))
    have s1 := small 1 (by decide) (q 1 (by decide))
    have s2 := small 2 (by decide) (q 2 (by decide))
    have s3 := small 3 (by decide) (q 3 (by decide))
    have s4 := small 4 (by decide) (q 4 (by decide))
    have s5 := small 5 (by decide) (q 5 (by decide))
    have ee : encFs (fieldsN 1) m = encF 0 m ++ (encF 1 m ++ (encF 2 m ++ (encF 3 m ++ (encF 4 m ++ (encF 5 m ++ []))))) := rfl
    rw [ee]; simp only [List.length_append, List.length_nil]; omega
  · have q := fun f (hf : f ∈ fieldsN 2) => hall f hf
    have s0 := small 0 (by decide) (q 0 (by decide))
    have s1 := small 2 (by decide) (q 2 (by decide))
    have s2 := small 3 (by decide) (q 3 (by decide))
    have s3 := small 4 (by decide) (q 4 (by decide))
    have s4 := small 5 (by decide) (q 5 (by decide))
    have s5 := small 8 (by decide) (q 8 (by decide))
    have ee : encFs (fieldsN 2) m = encF 0 m ++ (encF 2 m ++ (encF 3 m ++ (encF 4 m ++ (encF 5 m ++ (encF 8 m ++ []))))) := rfl
    rw [ee]; simp only [List.length_append, List.length_nil]; omega
  · have q := fun f (hf : f ∈ fieldsN 3) => hall f hf
    have s0 := small 0 (by decide) (q 0 (by decide))
    have s1 := small 5 (by decide) (q 5 (by decide))
    have s2 := small 6 (by decide) (q 6 (by decide))
    have ee : encFs (fieldsN 3) m = encF 0 m ++ (encF 5 m ++ (encF 6 m ++ [])) := rfl
    rw [ee]; simp only [List.length_append, List.length_nil]; omega
  · have q := fun f (hf : f ∈ fieldsN 4) => hall f hf
    have s0 := small 0 (by decide) (q 0 (by decide))
    have s1 := small 2 (by decide) (q 2 (by decide))
    have ee : encFs (fieldsN 4) m = encF 0 m ++ (encF 2 m ++ []) := rfl
    rw [ee]; simp only [List.length_append, List.length_nil]; omega
  · have q := fun f (hf : f ∈ fieldsN 5) => hall f hf
    have s0 := small 0 (by decide) (q 0 (by decide))
    have s1 := small 2 (by decide) (q 2 (by decide))
    have s2 := big (q 9 (by decide))
    have ee : encFs (fieldsN 5) m = encF 0 m ++ (encF 2 m ++ (encF 9 m ++ [])) := rfl
    rw [ee]; simp only [List.length_append, List.length_nil]; omega
  · have q := fun f (hf : f ∈ fieldsN 6) => hall f hf
    have s0 := small 0 (by decide) (q 0 (by decide))
    have s1 := small 2 (by decide) (q 2 (by decide))
    have s2 := small 7 (by decide) (q 7 (by decide))
    have ee : encFs (fieldsN 6) m = encF 0 m ++ (encF 2 m ++ (encF 7 m ++ [])) := rfl
    rw [ee]; simp only [List.length_append, List.length_nil]; omega
  · have q := fun f (hf : f ∈ fieldsN 7) => hall f hf
    have s0 := small 0 (by decide) (q 0 (by decide))
    have s1 := small 7 (by decide) (q 7 (by decide))
    have ee : encFs (fieldsN 7) m = encF 0 m ++ (encF 7 m ++ []) := rfl
    rw [ee]; simp only [List.length_append, List.length_nil]; omega
  · have q := fun f (hf : f ∈ fieldsN 8) => hall f hf
    have s0 := small 0 (by decide) (q 0 (by decide))
    have ee : encFs (fieldsN 8) m = encF 0 m ++ [] := rfl
    rw [ee]; simp only [List.length_append, List.length_nil]; omega
  · have q := fun f (hf : f ∈ fieldsN 9) => hall f hf
    have s0 := small 0 (by decide) (q 0 (by decide))
    have ee : encFs (fieldsN 9) m = encF 0 m ++ [] := rfl
    rw [ee]; simp only [List.length_append, List.length_nil]; omega
  · have q := fun f (hf : f ∈ fieldsN 10) => hall f hf
    have s0 := small 0 (by decide) (q 0 (by decide))
    have s1 := small 3 (by decide) (q 3 (by decide))
    have s2 := small 8 (by decide) (q 8 (by decide))
    have ee : encFs (fieldsN 10) m = encF 0 m ++ (encF 3 m ++ (encF 8 m ++ [])) := rfl
    rw [ee]; simp only [List.length_append, List.length_nil]; omega
  · have q := fun f (hf : f ∈ fieldsN 11) => hall f hf
    have s0 := small 0 (by decide) (q 0 (by decide))
    have s1 := small 3 (by decide) (q 3 (by decide))
    have ee : encFs (fieldsN 11) m = encF 0 m ++ (encF 3 m ++ []) := rfl
    rw [ee]; simp only [List.length_append, List.length_nil]; omega
end
section
open Go.RowKit

/-- What is asked of a slice type t of elements e, of K cells each, that are written as enc says. -/
structure Rec {α : Type} (t e : TypeId) (K : Nat) (enc : α → List Value) : Prop where
  und : Tryz.prog.underlying t = some (.slice e)
  info : ∃ i z B, Tryz.prog.info? e = some i ∧ i.zero = some z ∧ i.size = K ∧ i.bytes = B ∧ z.cells.size = K ∧ B ≤ 4096
  pos : 0 < K
  len : ∀ x, (enc x).length = K
theorem rec_info {e : TypeId} {z : Value} {K B : Nat} (h : (Tryz.prog.info? e).map (fun i => (i.zero, i.size, i.bytes)) = some (some z, K, B)) (hz : z.cells.size = K) (hB : B ≤ 4096) : ∃ i z B, Tryz.prog.info? e = some i ∧ i.zero = some z ∧ i.size = K ∧ i.bytes = B ∧ z.cells.size = K ∧ B ≤ 4096 := by
  cases hi : Tryz.prog.info? e with
  | none => rw [hi] at h; cases h
  | some i =>
    rw [hi] at h
    simp at h
    exact ⟨i, z, B, rfl, h.1, h.2.1, h.2.2, hz, hB⟩
section
variable {α : Type} {t e : TypeId} {K : Nat} {enc : α → List Value}
/-- The cells of records. -/
def flat (enc : α → List Value) (xs : List α) : List Value := xs.flatMap enc
theorem flat_nil : flat enc [] = [] := rfl
theorem flat_cons (x : α) (xs : List α) : flat enc (x :: xs) = enc x ++ flat enc xs := by simp [flat]
theorem flat_app (a b : List α) : flat enc (a ++ b) = flat enc a ++ flat enc b := by simp [flat]
theorem flat_one (x : α) : flat enc [x] = enc x := by simp [flat]
theorem flat_len (h : ∀ x, (enc x).length = K) : ∀ xs : List α, (flat enc xs).length = xs.length * K
  | [] => by simp [flat]
  | x :: xs => by rw [flat_cons, List.length_append, h, flat_len h xs, List.length_cons, Nat.add_mul]; omega
theorem flat_take (h : ∀ x, (enc x).length = K) : ∀ (xs : List α) (i : Nat), (flat enc xs).take (i * K) = flat enc (xs.take i)
  | [], i => by simp [flat]
  | x :: xs, 0 => by simp [flat]
  | x :: xs, i + 1 => by
    rw [flat_cons, List.take_append, h, Nat.add_mul, Nat.one_mul, Nat.add_sub_cancel, flat_take h xs i, List.take_succ_cons, flat_cons, List.take_of_length_le (by rw [h]; omega)]
theorem flat_drop (h : ∀ x, (enc x).length = K) : ∀ (xs : List α) (i : Nat), (flat enc xs).drop (i * K) = flat enc (xs.drop i)
  | [], i => by simp [flat]
  | x :: xs, 0 => by simp
  | x :: xs, i + 1 => by
    rw [flat_cons, List.drop_append, h, Nat.add_mul, Nat.one_mul, Nat.add_sub_cancel, flat_drop h xs i, List.drop_succ_cons, List.drop_eq_nil_of_le (by rw [h]; omega), List.nil_append]
theorem flat_at (h : ∀ x, (enc x).length = K) {xs : List α} {i j : Nat} (hi : i < xs.length) (hj : j < K) : (flat enc xs)[i * K + j]? = (enc xs[i])[j]? := by
  have h1 : (flat enc xs)[i * K + j]? = ((flat enc xs).drop (i * K))[j]? := by rw [List.getElem?_drop]
  rw [h1, flat_drop h, List.drop_eq_getElem_cons hi, flat_cons, List.getElem?_append_left (by rw [h]; exact hj)]
/-- A slice that reads as these records, whatever its form. -/
def RSrc (enc : α → List Value) (w : World) (v : Value) (xs : List α) : Prop :=
  ∃ (ao : Option Addr) (c : Nat), v = .slice ao xs.length c ∧ xs.length ≤ c ∧ c ≤ maxLen ∧ (ao = none → xs = [] ∧ c = 0) ∧ (xs ≠ [] → ∃ b off, ao = some ⟨b, off, none⟩ ∧ b < w.heap.size ∧ ∀ j u, (flat enc xs)[j]? = some u → w.cell? ⟨b, off + j, none⟩ = some u)
theorem RSrc.nil (w : World) : RSrc enc w (.slice none 0 0) [] := ⟨none, 0, rfl, Nat.le_refl _, Nat.zero_le _, fun _ => ⟨rfl, rfl⟩, fun h => absurd rfl h⟩
theorem RSrc.keep {S : Nat → Prop} {w w' : World} {v : Value} {xs : List α} (h : RSrc enc w v xs) (hk : KeepBut S w w') (hS : ∀ g, v.ownBlock = some g → ¬ S g) : RSrc enc w' v xs := by
  obtain ⟨ao, c, rfl, h1, h2, h3, h4⟩ := h
  refine ⟨ao, c, rfl, h1, h2, h3, fun hne => ?_⟩
  obtain ⟨b, off, rfl, hb, hc⟩ := h4 hne
  refine ⟨b, off, rfl, Nat.lt_of_lt_of_le hb hk.size, fun j u hu => ?_⟩
  rw [← hc j u hu]
  exact World.cell?_of_block (hk.block b hb (hS b rfl))
theorem RSrc.below {w w' : World} {v : Value} {xs : List α} (h : RSrc enc w v xs) (hB : Below w.heap.size w w') : RSrc enc w' v xs := h.keep (KeepBut.of_below (fun _ => False) hB) (fun _ _ h => h)
theorem RSrc.shape {w : World} {v : Value} {xs : List α} (h : RSrc enc w v xs) : ∃ (ao : Option Addr) (c : Nat), v = .slice ao xs.length c ∧ xs.length ≤ c ∧ c ≤ maxLen := by
  obtain ⟨ao, c, e, h1, h2, _⟩ := h
  exact ⟨ao, c, e, h1, h2⟩
theorem RSrc.block {w : World} {v : Value} {xs : List α} (h : RSrc enc w v xs) (hne : xs ≠ []) : ∃ b off c, v = .slice (some ⟨b, off, none⟩) xs.length c ∧ b < w.heap.size ∧ xs.length ≤ c := by
  obtain ⟨ao, c, rfl, h1, _, _, h4⟩ := h
  obtain ⟨b, off, rfl, hb, _⟩ := h4 hne
  exact ⟨b, off, c, rfl, hb, h1⟩
/-- The cells of one of them. -/
theorem RSrc.at (hl : ∀ x, (enc x).length = K) {w : World} {ao : Option Addr} {n c : Nat} {xs : List α} (h : RSrc enc w (.slice ao n c) xs) {i : Nat} (hi : i < xs.length) : n = xs.length ∧ ∃ b off, ao = some ⟨b, off, none⟩ ∧ b < w.heap.size ∧ ∀ j u, (enc xs[i])[j]? = some u → w.cell? ⟨b, off + i * K + j, none⟩ = some u := by
  obtain ⟨ao', c', e, h1, _, _, h4⟩ := h
  cases e
  obtain ⟨b, off, rfl, hb, hc⟩ := h4 (fun e => by rw [e] at hi; simp at hi)
  refine ⟨rfl, b, off, rfl, hb, fun j u hu => ?_⟩
  have hj : j < K := by have := (List.getElem?_eq_some_iff.1 hu).1; rw [hl] at this; exact this
  rw [Nat.add_assoc]
  exact hc _ _ (by rw [flat_at hl hi hj]; exact hu)
/-- A row of one's own. -/
theorem RSrc.of_own {base : Nat} {w : World} {v : Value} {xs : List α} (h : w.ownsRow base e K v xs.length (flat enc xs)) : RSrc enc w v xs := by
  have h0 := h
  obtain ⟨_, ⟨rfl, hn⟩ | ⟨g, cap, cur, rfl, hb, hh, hcap, hm, r⟩⟩ := h
  · obtain rfl : xs = [] := List.eq_nil_of_length_eq_zero hn
    exact RSrc.nil w
  · refine ⟨_, cap, rfl, hcap, hm, fun e => (by cases e), fun _ => ⟨g, 0, rfl, (h0.lt g rfl).2, fun j u hu => ?_⟩⟩
    have := h0.cells rfl j u hu
    rw [Addr.add_lit] at this
    exact this
theorem owns_shapeR {base n : Nat} {w : World} {v : Value} {xs : List Value} (h : w.ownsRow base e K v n xs) : ∃ ao cap, v = .slice ao n cap ∧ n ≤ cap := by
  obtain ⟨_, ⟨rfl, rfl⟩ | ⟨g, cap, cur, rfl, _, _, hc, _⟩⟩ := h
  · exact ⟨none, 0, rfl, Nat.le_refl _⟩
  · exact ⟨_, cap, rfl, hc⟩
/-- One record in a new block. -/
theorem src_new (w : World) (x : α) (cs : Array Value) (h : cs.toList = enc x) (t' : TypeId) : RSrc enc (w.alloc (.cells cs t')) (.slice (some ⟨w.heap.size, 0, none⟩) 1 1) [x] := by
  refine ⟨_, 1, rfl, Nat.le_refl _, by decide, fun e => (by cases e), fun _ => ⟨w.heap.size, 0, rfl, by simp, fun j u hu => ?_⟩⟩
  rw [Nat.zero_add]
  refine (box_new w cs t').cell j u ?_
  rw [flat_one, ← h] at hu
  simpa using hu
/-- 'append', under a name that the walk leaves alone. -/
def appH (ats : Array TypeId) (ty : TypeId) (args : Array Value) : Sem Value := Builtin.append_ ats ty args
theorem app_hideH (ats : Array TypeId) (ty : TypeId) (args : Array Value) : Builtin.append_ ats ty args = appH ats ty args := rfl
/-- 'append(v, x...)' of records onto a row of one's own, as a run. -/
theorem run_recs (R : Rec t e K enc) (w : World) (base : Nat) (v vx : Value) (ys xs : List α) (hown : w.ownsRow base e K v ys.length (flat enc ys)) (hL : RSrc enc w vx xs) (h1 : ∀ x ∈ xs, ∀ u ∈ enc x, u.oneCell' = true) (hb : ys.length + xs.length ≤ 1000000) (hbase : base ≤ w.heap.size) :
    ∃ v' w', (∀ ty, (Builtin.append_ #[t, t] ty #[v, vx]).run Tryz.prog w = .ok v' w') ∧ w'.ownsRow base e K v' (ys ++ xs).length (flat enc (ys ++ xs)) ∧ w.grownBy w' v.ownBlock ∧ (v'.ownBlock = v.ownBlock ∨ v'.ownBlock = some w.heap.size) := by
  obtain ⟨i0, z, B, hi, hz0, hz1, hz2, hzs, hB⟩ := R.info
  obtain ⟨ao, c, rfl, hlc, _, hn, hc⟩ := hL
  cases ao with
  | none =>
    obtain ⟨rfl, rfl⟩ := hn rfl
    exact ⟨v, w, fun ty => run_append_owned_none (P := Tryz.prog) (w := w) base t ty e i0 K R.und hi v ys.length _ hown, by simpa using hown, World.grownBy.refl _ _, .inl rfl⟩
  | some ad =>
    have hnews : ∀ j u, (flat enc xs)[j]? = some u → w.cell? (ad.add j) = some u := fun j u hu => by
      by_cases hx : xs = []
      · subst hx; simp [flat] at hu
      · obtain ⟨b, off, e1, _, hcc⟩ := hc hx
        cases e1
        rw [Addr.add_lit]
        exact hcc j u hu
    have hBy : (ys.length + xs.length) * B ≤ 140737488355328 := Nat.le_trans (Nat.mul_le_mul hb hB) (by decide)
    have hone : ∀ u ∈ flat enc xs, u.oneCell' = true := fun u hu => by
      obtain ⟨x, hx, hu⟩ := List.mem_flatMap.1 hu
      exact h1 x hx u hu
    obtain ⟨v', w', hr, ho, hg, _, hob⟩ := run_append_own_at (P := Tryz.prog) w base t t e i0 z K B R.und hi hz0 hz1 hz2 hzs R.pos v ys.length _ hown ad xs.length c (flat enc xs) (flat_len R.len xs) hnews hone (by unfold maxLen; omega) hBy hbase
    exact ⟨v', w', fun ty => hr, by rw [List.length_append, flat_app]; exact ho, hg, hob⟩
theorem run_recsH (R : Rec t e K enc) (w : World) (base : Nat) (v vx : Value) (ys xs : List α) (hown : w.ownsRow base e K v ys.length (flat enc ys)) (hL : RSrc enc w vx xs) (h1 : ∀ x ∈ xs, ∀ u ∈ enc x, u.oneCell' = true) (hb : ys.length + xs.length ≤ 1000000) (hbase : base ≤ w.heap.size) :
    ∃ v' w', (∀ ty, (appH #[t, t] ty #[v, vx]).run Tryz.prog w = .ok v' w') ∧ w'.ownsRow base e K v' (ys ++ xs).length (flat enc (ys ++ xs)) ∧ w.grownBy w' v.ownBlock ∧ (v'.ownBlock = v.ownBlock ∨ v'.ownBlock = some w.heap.size) :=
  run_recs R w base v vx ys xs hown hL h1 hb hbase
/-- .. as an arm. -/
theorem wp_recs (R : Rec t e K enc) {ops : Array Oper} {rest : List Oper} {o : Oper} {a : Act} {Q : Exit → Act → World → Prop} (w : World) (hgd : o.guard = none) (s x : Operand)
    (ho : o.op = .call { callee := .builtin .append, args := #[s, x], argTypes := #[t, t] })
    (base : Nat) (v vx : Value) (ys xs : List α) (hs : a.eval s = v) (hown : w.ownsRow base e K v ys.length (flat enc ys)) (hx : a.eval x = vx) (hL : RSrc enc w vx xs) (h1 : ∀ x ∈ xs, ∀ u ∈ enc x, u.oneCell' = true) (hb : ys.length + xs.length ≤ 1000000) (hbase : base ≤ w.heap.size)
    (h : ∀ v' w', w'.ownsRow base e K v' (ys ++ xs).length (flat enc (ys ++ xs)) → w.grownBy w' v.ownBlock → (v'.ownBlock = v.ownBlock ∨ v'.ownBlock = some w.heap.size) → wpList Tryz.prog ops Q rest (a.put o.dst v') w') :
    wpList Tryz.prog ops Q (o :: rest) a w := by
  obtain ⟨v', w', hr, h2, h3, h4⟩ := run_recs R w base v vx ys xs hown hL h1 hb hbase
  refine wpList_plain hgd fun K' hK => ?_
  unfold Oper.wp execOp
  simp only [ho, resolve, invoke, builtin, Sem.run_bind, Sem.run_pure, Result.andThen_ok, List.map_toArray, List.map_cons, List.map_nil, hs, hx, hr]
  exact hK _ _ (h v' w' h2 h3 h4)
/-- .. as a step of a region that draws. -/
theorem step_recs (R : Rec t e K enc) {ops : Array Oper} {o : Oper} {a : Act} {K' : Act → World → Prop} {Q : Exit → Act → World → Prop} {E : Prop} (w : World) (hgd : o.guard = none) (s x : Operand)
    (ho : o.op = .call { callee := .builtin .append, args := #[s, x], argTypes := #[t, t] })
    (base : Nat) (v vx : Value) (ys xs : List α) (hs : a.eval s = v) (hown : w.ownsRow base e K v ys.length (flat enc ys)) (hx : a.eval x = vx) (hL : RSrc enc w vx xs) (h1 : ∀ x ∈ xs, ∀ u ∈ enc x, u.oneCell' = true) (hb : ys.length + xs.length ≤ 1000000) (hbase : base ≤ w.heap.size)
    (h : ∀ v' w', w'.ownsRow base e K v' (ys ++ xs).length (flat enc (ys ++ xs)) → w.grownBy w' v.ownBlock → (v'.ownBlock = v.ownBlock ∨ v'.ownBlock = some w.heap.size) → K' (a.put o.dst v') w') :
    if Region.wanted o (yielded ops a.tmps) = true then Oper.wp Tryz.prog o a w K' Q else E := by
  have hw : Region.wanted o (yielded ops a.tmps) = true := by simp [Region.wanted, hgd]
  rw [if_pos hw]
  obtain ⟨v', w', hr, h2, h3, h4⟩ := run_recs R w base v vx ys xs hown hL h1 hb hbase
  unfold Oper.wp execOp
  simp only [ho, resolve, invoke, builtin, Sem.run_bind, Sem.run_pure, Result.andThen_ok, List.map_toArray, List.map_cons, List.map_nil, hs, hx, hr]
  exact h v' w' h2 h3 h4
/-- 'x[:n]', 'x[s:]', 'x[s:n]'. -/
theorem run_toR (R : Rec t e K enc) (w : World) (ao : Option Addr) (m cap n : Nat) (hn : n ≤ cap) : (Instr.sliceAt t (.slice ao m cap) none (some (.int .i64 n)) none).run Tryz.prog w = .ok (.slice ao n cap) w := by
  have h2 : (if cap = 0 then ao else Option.map (fun x => x.add 0) ao) = ao := by
    split
    · rfl
    · cases ao with
      | none => rfl
      | some ad => simp [Addr.add]
  obtain ⟨i0, z, B, hi, hz0, hz1, hz2, hzs, hB⟩ := R.info
  simp [Instr.sliceAt, Instr.slice, run_underlying R.und, Instr.sliceBounds, Instr.sliceBound, asIntOf, h2, sizeOf, typeInfo, hi]
  omega
theorem run_fromR (R : Rec t e K enc) (w : World) (ao : Option Addr) (n cap s : Nat) (hs : s ≤ n) : (Instr.sliceAt t (.slice ao n cap) (some (.int .i64 s)) none none).run Tryz.prog w = .ok (.slice (if cap = s then ao else ao.map (·.add (s * K))) (n - s) (cap - s)) w := by
  obtain ⟨i0, z, B, hi, hz0, hz1, hz2, hzs, hB⟩ := R.info
  simp [Instr.sliceAt, Instr.slice, run_underlying R.und, Instr.sliceBounds, Instr.sliceBound, asIntOf, sizeOf, typeInfo, hi, hz1]
  omega
theorem src_takeR {w : World} {ao : Option Addr} {cap i : Nat} {xs : List α} (h : RSrc enc w (.slice ao xs.length cap) xs) (hl : ∀ x, (enc x).length = K) (hi : i ≤ xs.length) : RSrc enc w (.slice ao i cap) (xs.take i) := by
  obtain ⟨ao', c, e, hlc, hm, h2, h3⟩ := h
  cases e
  refine ⟨ao, cap, by rw [List.length_take, Nat.min_eq_left hi], by rw [List.length_take]; omega, hm, fun e => ?_, fun hne => ?_⟩
  · obtain ⟨rfl, rfl⟩ := h2 e
    exact ⟨by simp, rfl⟩
  · have hx : xs ≠ [] := fun e => hne (by rw [e]; simp)
    obtain ⟨b, off, rfl, hb, hc⟩ := h3 hx
    refine ⟨b, off, rfl, hb, fun j u hu => hc j u ?_⟩
    rw [← flat_take hl, List.getElem?_take] at hu
    split at hu
    · exact hu
    · cases hu
theorem src_dropR {w : World} {ao : Option Addr} {cap i : Nat} {xs : List α} (h : RSrc enc w (.slice ao xs.length cap) xs) (hl : ∀ x, (enc x).length = K) (hi : i ≤ xs.length) : RSrc enc w (.slice (if cap = i then ao else ao.map (·.add (i * K))) (xs.length - i) (cap - i)) (xs.drop i) := by
  obtain ⟨ao', c, e, hlc, hm, h2, h3⟩ := h
  cases e
  refine ⟨_, cap - i, by rw [List.length_drop], by rw [List.length_drop]; omega, by omega, fun e => ?_, fun hne => ?_⟩
  · have : ao = none := by
      split at e
      · exact e
      · simpa using e
    obtain ⟨rfl, rfl⟩ := h2 this
    exact ⟨by simp, by simp⟩
  · have hlt : i < xs.length := by
      rcases Nat.lt_or_ge i xs.length with h | h
      · exact h
      · exact absurd (List.drop_eq_nil_of_le h) hne
    obtain ⟨b, off, rfl, hb, hc⟩ := h3 (fun e => by rw [e] at hlt; simp at hlt)
    refine ⟨b, off + i * K, by rw [if_neg (by omega)]; simp [Addr.add_lit], hb, fun j u hu => ?_⟩
    rw [Nat.add_assoc]
    refine hc _ _ ?_
    rw [← List.getElem?_drop, flat_drop hl]
    exact hu
theorem own_dropR {ao : Option Addr} {n cap i : Nat} : (Value.slice (if cap = i then ao else ao.map (·.add (i * K))) (n - i) (cap - i)).ownBlock = (Value.slice ao n cap).ownBlock := by
  cases ao with
  | none => split <;> rfl
  | some a =>
    split
    · rfl
    · obtain ⟨b, o, sp⟩ := a
      simp [Value.ownBlock, Addr.add]
      split <;> rfl
end
end
end Go.Proofs.YtoppdelljjapoaaGreat
