/-
  Own texts put together: MgFacts, Recs. Own work.
-/
import Derived.Test.YtencmgepffdodaaGreatG09
import Derived.Test.YtencmgepffdodaaGreatG01
import Derived.Laws.AppendOwnNone
import Derived.Maps.AppendAt
import Derived.Deep.RegionHeldLaw
namespace Go.Proofs.YtencmgepffdodaaGreat
section
open Go

def itMayB (i : ItP) : Bool := decide (i.ver ≤ mxN) && decide (i.val.length ≤ 64) && mayB i.cf
def riseB : List (List Int) → Bool
  | a :: b :: l => decide (lexF a b < 0) && riseB (b :: l)
  | _ => true
def wsMayB (l : List WrP) : Bool := l.all (fun w => (nameF w.key).2 && itMayB w.it) && riseB (l.map WrP.key) && decide (l.length ≤ 16)
def txI (t : TxN) : TxP := ((t.1 : Int), (t.2.1 : Int), (t.2.2 : Int))
/-- Its numbers fit their types. -/
structure ItOk (i : ItP) : Prop where
  v : i.ver < 4294967296
  s : ∀ c ∈ i.val, 0 ≤ c ∧ c < 256
  c : i.cf.Ok
structure KeyOk (k : List Int) : Prop where
  l : k.length = 8
  b : ∀ c ∈ k, 0 ≤ c ∧ c < 256
theorem it_ok {i : ItP} (h : ItOk i) (hm : itMayB i = true) : itOk i := by
  unfold itMayB mayB at hm
  simp only [Bool.and_eq_true, decide_eq_true_eq] at hm
  have h1 := h.c.r
  have h2 := h.c.w
  exact ⟨hm.1.1, hm.1.2, by show i.cf.e ≤ 2147483647; have := hm.2; omega, by omega, by omega, h.c.l, fun _ _ => trivial⟩
theorem end_zero {r : RS} (h : (endS r).why = 0) : r.why = 0 ∧ r.bs = [] := by
  unfold endS at h
  by_cases h1 : r.why = 0
  · rw [if_neg (by simp [h1])] at h
    split at h
    · rename_i h2; exact ⟨h1, h2⟩
    · simp [RS.fail] at h
  · rw [if_pos h1] at h; exact absurd h h1
theorem num_len {n : Nat} (h : n ≤ mxN) : (shortS n).length ≤ 5 := shortS_len 4 n (by have : n ≤ 2147483647 := h; omega)
theorem byt_len {n : Nat} (h : n ≤ 255) : (shortS n).length ≤ 2 := shortS_len 1 n (by omega)
theorem rep_byte_len (l : List Nat) : (repEnc byteN l).length = l.length := by
  induction l with
  | nil => rfl
  | cons x l ih =>
    simp [repEnc, byteN] at ih ⊢
    exact ih
theorem it_len {i : ItP} (h : itOk i) : (itC.enc i).length ≤ 91 := by
  obtain ⟨h1, h2, h3, h4, h5, h6, _⟩ := h
  have e : itC.enc i = shortS i.ver ++ ((shortS i.val.length ++ i.val) ++ (shortS i.cf.e ++ (shortS i.cf.r ++ (shortS i.cf.w ++ repEnc byteN i.cf.vs)))) := rfl
  have l1 := num_len h1
  have l2 := byt_len (n := i.val.length) (by omega)
  have l3 := num_len h3
  have l4 := byt_len h4
  have l5 := byt_len h5
  rw [e]
  simp only [List.length_append, rep_byte_len, h6]
  omega
theorem ws_len : ∀ (l : List WrP), (∀ x ∈ l, wrOk x) → (repEnc wrC l).length ≤ l.length * 99
  | [], _ => by simp [repEnc]
  | x :: l, h => by
    have ih := ws_len l (fun y hy => h y (List.mem_cons_of_mem _ hy))
    have hx := h x List.mem_cons_self
    have e : repEnc wrC (x :: l) = (x.key ++ itC.enc x.it) ++ repEnc wrC l := by show (x :: l).flatMap wrC.enc = _; rw [List.flatMap_cons]; rfl
    have hi := it_len hx.2
    have hk := hx.1
    rw [e, List.length_append, List.length_append, List.length_cons, Nat.add_mul]
    omega
end
section
open Go.RowKit

/-- What is asked of a slice type t of elements e, of K cells each, that are written as enc says. -/
structure Rec {α : Type} (t e : TypeId) (K : Nat) (enc : α → List Value) : Prop where
  und : Tryz.prog.underlying t = some (.slice e)
  info : ∃ i z B, Tryz.prog.info? e = some i ∧ i.zero = some z ∧ i.size = K ∧ i.bytes = B ∧ z.cells.size = K ∧ B ≤ 4096
  pos : 0 < K
  len : ∀ x, (enc x).length = K
theorem rec_info {e : TypeId} {z : Value} {K B : Nat} (h : (Tryz.prog.info? e).map (fun i => (i.zero, i.size, i.bytes)) = some (some z, K, B)) (hz : z.cells.size = K) (hB : B ≤ 4096) : ∃ i z B, Tryz.prog.info? e = some i ∧ i.zero = some z ∧ i.size = K ∧ i.bytes = B ∧ z.cells.size = K ∧ B ≤ 4096 := by
  cases hi : Tryz.prog.info? e with
  | none => rw [hi] at h; cases h
  | some i =>
    rw [hi] at h
    simp at h
    exact ⟨i, z, B, rfl, h.1, h.2.1, h.2.2, hz, hB⟩
section
variable {α : Type} {t e : TypeId} {K : Nat} {enc : α → List Value}
/-- The cells of records. -/
def flat (enc : α → List Value) (xs : List α) : List Value := xs.flatMap enc
theorem flat_cons (x : α) (xs : List α) : flat enc (x :: xs) = enc x ++ flat enc xs := by simp [flat]
theorem flat_app (a b : List α) : flat enc (a ++ b) = flat enc a ++ flat enc b := by simp [flat]
theorem flat_one (x : α) : flat enc [x] = enc x := by simp [flat]
theorem flat_len (h : ∀ x, (enc x).length = K) : ∀ xs : List α, (flat enc xs).length = xs.length * K
  | [] => by simp [flat]
  | x :: xs => by rw [flat_cons, List.length_append, h, flat_len h xs, List.length_cons, Nat.add_mul]; omega
theorem flat_take (h : ∀ x, (enc x).length = K) : ∀ (xs : List α) (i : Nat), (flat enc xs).take (i * K) = flat enc (xs.take i)
  | [], i => by simp [flat]
  | x :: xs, 0 => by simp [flat]
  | x :: xs, i + 1 => by
    rw [flat_cons, List.take_append, h, Nat.add_mul, Nat.one_mul, Nat.add_sub_cancel, flat_take h xs i, List.take_succ_cons, flat_cons, List.take_of_length_le (by rw [h]; omega)]
theorem flat_drop (h : ∀ x, (enc x).length = K) : ∀ (xs : List α) (i : Nat), (flat enc xs).drop (i * K) = flat enc (xs.drop i)
  | [], i => by simp [flat]
  | x :: xs, 0 => by simp
  | x :: xs, i + 1 => by
    rw [flat_cons, List.drop_append, h, Nat.add_mul, Nat.one_mul, Nat.add_sub_cancel, flat_drop h xs i, List.drop_succ_cons, List.drop_eq_nil_of_le (by rw [h]; omega), List.nil_append]
theorem flat_at (h : ∀ x, (enc x).length = K) {xs : List α} {i j : Nat} (hi : i < xs.length) (hj : j < K) : (flat enc xs)[i * K + j]? = (enc xs[i])[j]? := by
  have h1 : (flat enc xs)[i * K + j]? = ((flat enc xs).drop (i * K))[j]? := by rw [List.getElem?_drop]
  rw [h1, flat_drop h, List.drop_eq_getElem_cons hi, flat_cons, List.getElem?_append_left (by rw [h]; exact hj)]
/-- A slice that reads as these records, whatever its form. -/
def RSrc (enc : α → List Value) (w : World) (v : Value) (xs : List α) : Prop :=
  ∃ (ao : Option Addr) (c : Nat), v = .slice ao xs.length c ∧ xs.length ≤ c ∧ c ≤ maxLen ∧ (ao = none → xs = [] ∧ c = 0) ∧ (xs ≠ [] → ∃ b off, ao = some ⟨b, off, none⟩ ∧ b < w.heap.size ∧ ∀ j u, (flat enc xs)[j]? = some u → w.cell? ⟨b, off + j, none⟩ = some u)
theorem RSrc.nil (w : World) : RSrc enc w (.slice none 0 0) [] := ⟨none, 0, rfl, Nat.le_refl _, Nat.zero_le _, fun _ => ⟨rfl, rfl⟩, fun h => absurd rfl h⟩
theorem RSrc.keep {S : Nat → Prop} {w w' : World} {v : Value} {xs : List α} (h : RSrc enc w v xs) (hk : KeepBut S w w') (hS : ∀ g, v.ownBlock = some g → ¬ S g) : RSrc enc w' v xs := by
  obtain ⟨ao, c, rfl, h1, h2, h3, h4⟩ := h
  refine ⟨ao, c, rfl, h1, h2, h3, fun hne => ?_⟩
  obtain ⟨b, off, rfl, hb, hc⟩ := h4 hne
  refine ⟨b, off, rfl, Nat.lt_of_lt_of_le hb hk.size, fun j u hu => ?_⟩
  rw [← hc j u hu]
  exact World.cell?_of_block (hk.block b hb (hS b rfl))
theorem RSrc.below {w w' : World} {v : Value} {xs : List α} (h : RSrc enc w v xs) (hB : Below w.heap.size w w') : RSrc enc w' v xs := h.keep (KeepBut.of_below (fun _ => False) hB) (fun _ _ h => h)
theorem RSrc.shape {w : World} {v : Value} {xs : List α} (h : RSrc enc w v xs) : ∃ (ao : Option Addr) (c : Nat), v = .slice ao xs.length c ∧ xs.length ≤ c ∧ c ≤ maxLen := by
  obtain ⟨ao, c, e, h1, h2, _⟩ := h
  exact ⟨ao, c, e, h1, h2⟩
theorem RSrc.block {w : World} {v : Value} {xs : List α} (h : RSrc enc w v xs) (hne : xs ≠ []) : ∃ b off c, v = .slice (some ⟨b, off, none⟩) xs.length c ∧ b < w.heap.size ∧ xs.length ≤ c := by
  obtain ⟨ao, c, rfl, h1, _, _, h4⟩ := h
  obtain ⟨b, off, rfl, hb, _⟩ := h4 hne
  exact ⟨b, off, c, rfl, hb, h1⟩
/-- The cells of one of them. -/
theorem RSrc.at (hl : ∀ x, (enc x).length = K) {w : World} {ao : Option Addr} {n c : Nat} {xs : List α} (h : RSrc enc w (.slice ao n c) xs) {i : Nat} (hi : i < xs.length) : n = xs.length ∧ ∃ b off, ao = some ⟨b, off, none⟩ ∧ b < w.heap.size ∧ ∀ j u, (enc xs[i])[j]? = some u → w.cell? ⟨b, off + i * K + j, none⟩ = some u := by
  obtain ⟨ao', c', e, h1, _, _, h4⟩ := h
  cases e
  obtain ⟨b, off, rfl, hb, hc⟩ := h4 (fun e => by rw [e] at hi; simp at hi)
  refine ⟨rfl, b, off, rfl, hb, fun j u hu => ?_⟩
  have hj : j < K := by have := (List.getElem?_eq_some_iff.1 hu).1; rw [hl] at this; exact this
  rw [Nat.add_assoc]
  exact hc _ _ (by rw [flat_at hl hi hj]; exact hu)
/-- A row of one's own. -/
theorem RSrc.of_own {base : Nat} {w : World} {v : Value} {xs : List α} (h : w.ownsRow base e K v xs.length (flat enc xs)) : RSrc enc w v xs := by
  have h0 := h
  obtain ⟨_, ⟨rfl, hn⟩ | ⟨g, cap, cur, rfl, hb, hh, hcap, hm, r⟩⟩ := h
  · obtain rfl : xs = [] := List.eq_nil_of_length_eq_zero hn
    exact RSrc.nil w
  · refine ⟨_, cap, rfl, hcap, hm, fun e => (by cases e), fun _ => ⟨g, 0, rfl, (h0.lt g rfl).2, fun j u hu => ?_⟩⟩
    have := h0.cells rfl j u hu
    rw [Addr.add_lit] at this
    exact this
theorem owns_shapeR {base n : Nat} {w : World} {v : Value} {xs : List Value} (h : w.ownsRow base e K v n xs) : ∃ ao cap, v = .slice ao n cap ∧ n ≤ cap := by
  obtain ⟨_, ⟨rfl, rfl⟩ | ⟨g, cap, cur, rfl, _, _, hc, _⟩⟩ := h
  · exact ⟨none, 0, rfl, Nat.le_refl _⟩
  · exact ⟨_, cap, rfl, hc⟩
/-- One record in a new block. -/
theorem src_new (w : World) (x : α) (cs : Array Value) (h : cs.toList = enc x) (t' : TypeId) : RSrc enc (w.alloc (.cells cs t')) (.slice (some ⟨w.heap.size, 0, none⟩) 1 1) [x] := by
  refine ⟨_, 1, rfl, Nat.le_refl _, by decide, fun e => (by cases e), fun _ => ⟨w.heap.size, 0, rfl, by simp, fun j u hu => ?_⟩⟩
  rw [Nat.zero_add]
  refine (box_new w cs t').cell j u ?_
  rw [flat_one, ← h] at hu
  simpa using hu
/-- 'append(v, x...)' of records onto a row of one's own, as a run. -/
theorem run_recs (R : Rec t e K enc) (w : World) (base : Nat) (v vx : Value) (ys xs : List α) (hown : w.ownsRow base e K v ys.length (flat enc ys)) (hL : RSrc enc w vx xs) (h1 : ∀ x ∈ xs, ∀ u ∈ enc x, u.oneCell' = true) (hb : ys.length + xs.length ≤ 1000000) (hbase : base ≤ w.heap.size) :
    ∃ v' w', (∀ ty, (Builtin.append_ #[t, t] ty #[v, vx]).run Tryz.prog w = .ok v' w') ∧ w'.ownsRow base e K v' (ys ++ xs).length (flat enc (ys ++ xs)) ∧ w.grownBy w' v.ownBlock ∧ (v'.ownBlock = v.ownBlock ∨ v'.ownBlock = some w.heap.size) := by
  obtain ⟨i0, z, B, hi, hz0, hz1, hz2, hzs, hB⟩ := R.info
  obtain ⟨ao, c, rfl, hlc, _, hn, hc⟩ := hL
  cases ao with
  | none =>
    obtain ⟨rfl, rfl⟩ := hn rfl
    exact ⟨v, w, fun ty => run_append_owned_none (P := Tryz.prog) (w := w) base t ty e i0 K R.und hi v ys.length _ hown, by simpa using hown, World.grownBy.refl _ _, .inl rfl⟩
  | some ad =>
    have hnews : ∀ j u, (flat enc xs)[j]? = some u → w.cell? (ad.add j) = some u := fun j u hu => by
      by_cases hx : xs = []
      · subst hx; simp [flat] at hu
      · obtain ⟨b, off, e1, _, hcc⟩ := hc hx
        cases e1
        rw [Addr.add_lit]
        exact hcc j u hu
    have hBy : (ys.length + xs.length) * B ≤ 140737488355328 := Nat.le_trans (Nat.mul_le_mul hb hB) (by decide)
    have hone : ∀ u ∈ flat enc xs, u.oneCell' = true := fun u hu => by
      obtain ⟨x, hx, hu⟩ := List.mem_flatMap.1 hu
      exact h1 x hx u hu
    obtain ⟨v', w', hr, ho, hg, _, hob⟩ := run_append_own_at (P := Tryz.prog) w base t t e i0 z K B R.und hi hz0 hz1 hz2 hzs R.pos v ys.length _ hown ad xs.length c (flat enc xs) (flat_len R.len xs) hnews hone (by unfold maxLen; omega) hBy hbase
    exact ⟨v', w', fun ty => hr, by rw [List.length_append, flat_app]; exact ho, hg, hob⟩
/-- .. as an arm. -/
theorem wp_recs (R : Rec t e K enc) {ops : Array Oper} {rest : List Oper} {o : Oper} {a : Act} {Q : Exit → Act → World → Prop} (w : World) (hgd : o.guard = none) (s x : Operand)
    (ho : o.op = .call { callee := .builtin .append, args := #[s, x], argTypes := #[t, t] })
    (base : Nat) (v vx : Value) (ys xs : List α) (hs : a.eval s = v) (hown : w.ownsRow base e K v ys.length (flat enc ys)) (hx : a.eval x = vx) (hL : RSrc enc w vx xs) (h1 : ∀ x ∈ xs, ∀ u ∈ enc x, u.oneCell' = true) (hb : ys.length + xs.length ≤ 1000000) (hbase : base ≤ w.heap.size)
    (h : ∀ v' w', w'.ownsRow base e K v' (ys ++ xs).length (flat enc (ys ++ xs)) → w.grownBy w' v.ownBlock → (v'.ownBlock = v.ownBlock ∨ v'.ownBlock = some w.heap.size) → wpList Tryz.prog ops Q rest (a.put o.dst v') w') :
    wpList Tryz.prog ops Q (o :: rest) a w := by
  obtain ⟨v', w', hr, h2, h3, h4⟩ := run_recs R w base v vx ys xs hown hL h1 hb hbase
  refine wpList_plain hgd fun K' hK => ?_
  unfold Oper.wp execOp
  simp only [ho, resolve, invoke, builtin, Sem.run_bind, Sem.run_pure, Result.andThen_ok, List.map_toArray, List.map_cons, List.map_nil, hs, hx, hr]
  exact hK _ _ (h v' w' h2 h3 h4)
/-- 'x[:n]', 'x[s:]', 'x[s:n]'. -/
theorem run_toR (R : Rec t e K enc) (w : World) (ao : Option Addr) (m cap n : Nat) (hn : n ≤ cap) : (Instr.sliceAt t (.slice ao m cap) none (some (.int .i64 n)) none).run Tryz.prog w = .ok (.slice ao n cap) w := by
  have h2 : (if cap = 0 then ao else Option.map (fun x => x.add 0) ao) = ao := by
    split
    · rfl
    · cases ao with
      | none => rfl
      | some ad => simp [Addr.add]
  obtain ⟨i0, z, B, hi, hz0, hz1, hz2, hzs, hB⟩ := R.info
  simp [Instr.sliceAt, Instr.slice, run_underlying R.und, Instr.sliceBounds, Instr.sliceBound, asIntOf, h2, sizeOf, typeInfo, hi]
  omega
theorem src_takeR {w : World} {ao : Option Addr} {cap i : Nat} {xs : List α} (h : RSrc enc w (.slice ao xs.length cap) xs) (hl : ∀ x, (enc x).length = K) (hi : i ≤ xs.length) : RSrc enc w (.slice ao i cap) (xs.take i) := by
  obtain ⟨ao', c, e, hlc, hm, h2, h3⟩ := h
  cases e
  refine ⟨ao, cap, by rw [List.length_take, Nat.min_eq_left hi], by rw [List.length_take]; omega, hm, fun e => ?_, fun hne => ?_⟩
  · obtain ⟨rfl, rfl⟩ := h2 e
    exact ⟨by simp, rfl⟩
  · have hx : xs ≠ [] := fun e => hne (by rw [e]; simp)
    obtain ⟨b, off, rfl, hb, hc⟩ := h3 hx
    refine ⟨b, off, rfl, hb, fun j u hu => hc j u ?_⟩
    rw [← flat_take hl, List.getElem?_take] at hu
    split at hu
    · exact hu
    · cases hu
end
end
end Go.Proofs.YtencmgepffdodaaGreat
