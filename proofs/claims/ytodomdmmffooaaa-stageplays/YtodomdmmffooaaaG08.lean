/-
  Own texts put together: Recs, MgVals, RecsOpen, MgOpen. Own work.
-/
import Derived.Test.YtodomdmmffooaaaG01
import Derived.Test.YtodomdmmffooaaaG07
import Derived.Laws.AppendOwnNone
import Derived.Maps.AppendAt
import Derived.Deep.RegionHeldLaw
import Derived.Laws.StructEq
import Derived.Laws.BytesArg
import Derived.Deep.Slices
import Derived.ChangeArms
import Derived.SizedLaws
namespace Go.Proofs.Ytodomdmmffooaaa
section
open Go.RowKit

/-- What is asked of a slice type t of elements e, of K cells each, that are written as enc says. -/
structure Rec {α : Type} (t e : TypeId) (K : Nat) (enc : α → List Value) : Prop where
  und : Try.prog.underlying t = some (.slice e)
  info : ∃ i z B, Try.prog.info? e = some i ∧ i.zero = some z ∧ i.size = K ∧ i.bytes = B ∧ z.cells.size = K ∧ B ≤ 4096
  pos : 0 < K
  len : ∀ x, (enc x).length = K
theorem rec_info {e : TypeId} {z : Value} {K B : Nat} (h : (Try.prog.info? e).map (fun i => (i.zero, i.size, i.bytes)) = some (some z, K, B)) (hz : z.cells.size = K) (hB : B ≤ 4096) : ∃ i z B, Try.prog.info? e = some i ∧ i.zero = some z ∧ i.size = K ∧ i.bytes = B ∧ z.cells.size = K ∧ B ≤ 4096 := by
  cases hi : Try.prog.info? e with
  | none => rw [hi] at h; cases h
  | some i =>
    rw [hi] at h
    simp at h
    exact ⟨i, z, B, rfl, h.1, h.2.1, h.2.2, hz, hB⟩
section
variable {α : Type} {t e : TypeId} {K : Nat} {enc : α → List Value}
/-- The cells of records. -/
def flat (enc : α → List Value) (xs : List α) : List Value := xs.flatMap enc
theorem flat_cons (x : α) (xs : List α) : flat enc (x :: xs) = enc x ++ flat enc xs := by simp [flat]
theorem flat_app (a b : List α) : flat enc (a ++ b) = flat enc a ++ flat enc b := by simp [flat]
theorem flat_one (x : α) : flat enc [x] = enc x := by simp [flat]
theorem flat_len (h : ∀ x, (enc x).length = K) : ∀ xs : List α, (flat enc xs).length = xs.length * K
  | [] => by simp [flat]
  | x :: xs => by rw [flat_cons, List.length_append, h, flat_len h xs, List.length_cons, Nat.add_mul]; omega
theorem flat_take (h : ∀ x, (enc x).length = K) : ∀ (xs : List α) (i : Nat), (flat enc xs).take (i * K) = flat enc (xs.take i)
  | [], i => by simp [flat]
  | x :: xs, 0 => by simp [flat]
  | x :: xs, i + 1 => by
    rw [flat_cons, List.take_append, h, Nat.add_mul, Nat.one_mul, Nat.add_sub_cancel, flat_take h xs i, List.take_succ_cons, flat_cons, List.take_of_length_le (by rw [h]; omega)]
theorem flat_drop (h : ∀ x, (enc x).length = K) : ∀ (xs : List α) (i : Nat), (flat enc xs).drop (i * K) = flat enc (xs.drop i)
  | [], i => by simp [flat]
  | x :: xs, 0 => by simp
  | x :: xs, i + 1 => by
    rw [flat_cons, List.drop_append, h, Nat.add_mul, Nat.one_mul, Nat.add_sub_cancel, flat_drop h xs i, List.drop_succ_cons, List.drop_eq_nil_of_le (by rw [h]; omega), List.nil_append]
theorem flat_at (h : ∀ x, (enc x).length = K) {xs : List α} {i j : Nat} (hi : i < xs.length) (hj : j < K) : (flat enc xs)[i * K + j]? = (enc xs[i])[j]? := by
  have h1 : (flat enc xs)[i * K + j]? = ((flat enc xs).drop (i * K))[j]? := by rw [List.getElem?_drop]
  rw [h1, flat_drop h, List.drop_eq_getElem_cons hi, flat_cons, List.getElem?_append_left (by rw [h]; exact hj)]
/-- A slice that reads as these records, whatever its form. -/
def RSrc (enc : α → List Value) (w : World) (v : Value) (xs : List α) : Prop :=
  ∃ (ao : Option Addr) (c : Nat), v = .slice ao xs.length c ∧ xs.length ≤ c ∧ c ≤ maxLen ∧ (ao = none → xs = [] ∧ c = 0) ∧ (xs ≠ [] → ∃ b off, ao = some ⟨b, off, none⟩ ∧ b < w.heap.size ∧ ∀ j u, (flat enc xs)[j]? = some u → w.cell? ⟨b, off + j, none⟩ = some u)
theorem RSrc.nil (w : World) : RSrc enc w (.slice none 0 0) [] := ⟨none, 0, rfl, Nat.le_refl _, Nat.zero_le _, fun _ => ⟨rfl, rfl⟩, fun h => absurd rfl h⟩
theorem RSrc.keep {S : Nat → Prop} {w w' : World} {v : Value} {xs : List α} (h : RSrc enc w v xs) (hk : KeepBut S w w') (hS : ∀ g, v.ownBlock = some g → ¬ S g) : RSrc enc w' v xs := by
  obtain ⟨ao, c, rfl, h1, h2, h3, h4⟩ := h
  refine ⟨ao, c, rfl, h1, h2, h3, fun hne => ?_⟩
  obtain ⟨b, off, rfl, hb, hc⟩ := h4 hne
  refine ⟨b, off, rfl, Nat.lt_of_lt_of_le hb hk.size, fun j u hu => ?_⟩
  rw [← hc j u hu]
  exact World.cell?_of_block (hk.block b hb (hS b rfl))
theorem RSrc.below {w w' : World} {v : Value} {xs : List α} (h : RSrc enc w v xs) (hB : Below w.heap.size w w') : RSrc enc w' v xs := h.keep (KeepBut.of_below (fun _ => False) hB) (fun _ _ h => h)
theorem RSrc.shape {w : World} {v : Value} {xs : List α} (h : RSrc enc w v xs) : ∃ (ao : Option Addr) (c : Nat), v = .slice ao xs.length c ∧ xs.length ≤ c ∧ c ≤ maxLen := by
  obtain ⟨ao, c, e, h1, h2, _⟩ := h
  exact ⟨ao, c, e, h1, h2⟩
theorem RSrc.block {w : World} {v : Value} {xs : List α} (h : RSrc enc w v xs) (hne : xs ≠ []) : ∃ b off c, v = .slice (some ⟨b, off, none⟩) xs.length c ∧ b < w.heap.size ∧ xs.length ≤ c := by
  obtain ⟨ao, c, rfl, h1, _, _, h4⟩ := h
  obtain ⟨b, off, rfl, hb, _⟩ := h4 hne
  exact ⟨b, off, c, rfl, hb, h1⟩
/-- The cells of one of them. -/
theorem RSrc.at (hl : ∀ x, (enc x).length = K) {w : World} {ao : Option Addr} {n c : Nat} {xs : List α} (h : RSrc enc w (.slice ao n c) xs) {i : Nat} (hi : i < xs.length) : n = xs.length ∧ ∃ b off, ao = some ⟨b, off, none⟩ ∧ b < w.heap.size ∧ ∀ j u, (enc xs[i])[j]? = some u → w.cell? ⟨b, off + i * K + j, none⟩ = some u := by
  obtain ⟨ao', c', e, h1, _, _, h4⟩ := h
  cases e
  obtain ⟨b, off, rfl, hb, hc⟩ := h4 (fun e => by rw [e] at hi; simp at hi)
  refine ⟨rfl, b, off, rfl, hb, fun j u hu => ?_⟩
  have hj : j < K := by have := (List.getElem?_eq_some_iff.1 hu).1; rw [hl] at this; exact this
  rw [Nat.add_assoc]
  exact hc _ _ (by rw [flat_at hl hi hj]; exact hu)
/-- A row of one's own. -/
theorem RSrc.of_own {base : Nat} {w : World} {v : Value} {xs : List α} (h : w.ownsRow base e K v xs.length (flat enc xs)) : RSrc enc w v xs := by
  have h0 := h
  obtain ⟨_, ⟨rfl, hn⟩ | ⟨g, cap, cur, rfl, hb, hh, hcap, hm, r⟩⟩ := h
  · obtain rfl : xs = [] := List.eq_nil_of_length_eq_zero hn
    exact RSrc.nil w
  · refine ⟨_, cap, rfl, hcap, hm, fun e => (by cases e), fun _ => ⟨g, 0, rfl, (h0.lt g rfl).2, fun j u hu => ?_⟩⟩
    have := h0.cells rfl j u hu
    rw [Addr.add_lit] at this
    exact this
theorem owns_shapeR {base n : Nat} {w : World} {v : Value} {xs : List Value} (h : w.ownsRow base e K v n xs) : ∃ ao cap, v = .slice ao n cap ∧ n ≤ cap := by
  obtain ⟨_, ⟨rfl, rfl⟩ | ⟨g, cap, cur, rfl, _, _, hc, _⟩⟩ := h
  · exact ⟨none, 0, rfl, Nat.le_refl _⟩
  · exact ⟨_, cap, rfl, hc⟩
/-- One record in a new block. -/
theorem src_new (w : World) (x : α) (cs : Array Value) (h : cs.toList = enc x) (t' : TypeId) : RSrc enc (w.alloc (.cells cs t')) (.slice (some ⟨w.heap.size, 0, none⟩) 1 1) [x] := by
  refine ⟨_, 1, rfl, Nat.le_refl _, by decide, fun e => (by cases e), fun _ => ⟨w.heap.size, 0, rfl, by simp, fun j u hu => ?_⟩⟩
  rw [Nat.zero_add]
  refine (box_new w cs t').cell j u ?_
  rw [flat_one, ← h] at hu
  simpa using hu
/-- 'append', under a name that the walk leaves alone. -/
def appH (ats : Array TypeId) (ty : TypeId) (args : Array Value) : Sem Value := Builtin.append_ ats ty args
theorem app_hideH (ats : Array TypeId) (ty : TypeId) (args : Array Value) : Builtin.append_ ats ty args = appH ats ty args := rfl
/-- 'append(v, x...)' of records onto a row of one's own, as a run. -/
theorem run_recs (R : Rec t e K enc) (w : World) (base : Nat) (v vx : Value) (ys xs : List α) (hown : w.ownsRow base e K v ys.length (flat enc ys)) (hL : RSrc enc w vx xs) (h1 : ∀ x ∈ xs, ∀ u ∈ enc x, u.oneCell' = true) (hb : ys.length + xs.length ≤ 1000000) (hbase : base ≤ w.heap.size) :
    ∃ v' w', (∀ ty, (Builtin.append_ #[t, t] ty #[v, vx]).run Try.prog w = .ok v' w') ∧ w'.ownsRow base e K v' (ys ++ xs).length (flat enc (ys ++ xs)) ∧ w.grownBy w' v.ownBlock ∧ (v'.ownBlock = v.ownBlock ∨ v'.ownBlock = some w.heap.size) := by
  obtain ⟨i0, z, B, hi, hz0, hz1, hz2, hzs, hB⟩ := R.info
  obtain ⟨ao, c, rfl, hlc, _, hn, hc⟩ := hL
  cases ao with
  | none =>
    obtain ⟨rfl, rfl⟩ := hn rfl
    exact ⟨v, w, fun ty => run_append_owned_none (P := Try.prog) (w := w) base t ty e i0 K R.und hi v ys.length _ hown, by simpa using hown, World.grownBy.refl _ _, .inl rfl⟩
  | some ad =>
    have hnews : ∀ j u, (flat enc xs)[j]? = some u → w.cell? (ad.add j) = some u := fun j u hu => by
      by_cases hx : xs = []
      · subst hx; simp [flat] at hu
      · obtain ⟨b, off, e1, _, hcc⟩ := hc hx
        cases e1
        rw [Addr.add_lit]
        exact hcc j u hu
    have hBy : (ys.length + xs.length) * B ≤ 140737488355328 := Nat.le_trans (Nat.mul_le_mul hb hB) (by decide)
    have hone : ∀ u ∈ flat enc xs, u.oneCell' = true := fun u hu => by
      obtain ⟨x, hx, hu⟩ := List.mem_flatMap.1 hu
      exact h1 x hx u hu
    obtain ⟨v', w', hr, ho, hg, _, hob⟩ := run_append_own_at (P := Try.prog) w base t t e i0 z K B R.und hi hz0 hz1 hz2 hzs R.pos v ys.length _ hown ad xs.length c (flat enc xs) (flat_len R.len xs) hnews hone (by unfold maxLen; omega) hBy hbase
    exact ⟨v', w', fun ty => hr, by rw [List.length_append, flat_app]; exact ho, hg, hob⟩
theorem run_recsH (R : Rec t e K enc) (w : World) (base : Nat) (v vx : Value) (ys xs : List α) (hown : w.ownsRow base e K v ys.length (flat enc ys)) (hL : RSrc enc w vx xs) (h1 : ∀ x ∈ xs, ∀ u ∈ enc x, u.oneCell' = true) (hb : ys.length + xs.length ≤ 1000000) (hbase : base ≤ w.heap.size) :
    ∃ v' w', (∀ ty, (appH #[t, t] ty #[v, vx]).run Try.prog w = .ok v' w') ∧ w'.ownsRow base e K v' (ys ++ xs).length (flat enc (ys ++ xs)) ∧ w.grownBy w' v.ownBlock ∧ (v'.ownBlock = v.ownBlock ∨ v'.ownBlock = some w.heap.size) :=
  run_recs R w base v vx ys xs hown hL h1 hb hbase
/-- .. as an arm. -/
theorem wp_recs (R : Rec t e K enc) {ops : Array Oper} {rest : List Oper} {o : Oper} {a : Act} {Q : Exit → Act → World → Prop} (w : World) (hgd : o.guard = none) (s x : Operand)
    (ho : o.op = .call { callee := .builtin .append, args := #[s, x], argTypes := #[t, t] })
    (base : Nat) (v vx : Value) (ys xs : List α) (hs : a.eval s = v) (hown : w.ownsRow base e K v ys.length (flat enc ys)) (hx : a.eval x = vx) (hL : RSrc enc w vx xs) (h1 : ∀ x ∈ xs, ∀ u ∈ enc x, u.oneCell' = true) (hb : ys.length + xs.length ≤ 1000000) (hbase : base ≤ w.heap.size)
    (h : ∀ v' w', w'.ownsRow base e K v' (ys ++ xs).length (flat enc (ys ++ xs)) → w.grownBy w' v.ownBlock → (v'.ownBlock = v.ownBlock ∨ v'.ownBlock = some w.heap.size) → wpList Try.prog ops Q rest (a.put o.dst v') w') :
    wpList Try.prog ops Q (o :: rest) a w := by
  obtain ⟨v', w', hr, h2, h3, h4⟩ := run_recs R w base v vx ys xs hown hL h1 hb hbase
  refine wpList_plain hgd fun K' hK => ?_
  unfold Oper.wp execOp
  simp only [ho, resolve, invoke, builtin, Sem.run_bind, Sem.run_pure, Result.andThen_ok, List.map_toArray, List.map_cons, List.map_nil, hs, hx, hr]
  exact hK _ _ (h v' w' h2 h3 h4)
/-- 'x[:n]', 'x[s:]', 'x[s:n]'. -/
theorem run_toR (R : Rec t e K enc) (w : World) (ao : Option Addr) (m cap n : Nat) (hn : n ≤ cap) : (Instr.sliceAt t (.slice ao m cap) none (some (.int .i64 n)) none).run Try.prog w = .ok (.slice ao n cap) w := by
  have h2 : (if cap = 0 then ao else Option.map (fun x => x.add 0) ao) = ao := by
    split
    · rfl
    · cases ao with
      | none => rfl
      | some ad => simp [Addr.add]
  obtain ⟨i0, z, B, hi, hz0, hz1, hz2, hzs, hB⟩ := R.info
  simp [Instr.sliceAt, Instr.slice, run_underlying R.und, Instr.sliceBounds, Instr.sliceBound, asIntOf, h2, sizeOf, typeInfo, hi]
  omega
theorem run_fromR (R : Rec t e K enc) (w : World) (ao : Option Addr) (n cap s : Nat) (hs : s ≤ n) : (Instr.sliceAt t (.slice ao n cap) (some (.int .i64 s)) none none).run Try.prog w = .ok (.slice (if cap = s then ao else ao.map (·.add (s * K))) (n - s) (cap - s)) w := by
  obtain ⟨i0, z, B, hi, hz0, hz1, hz2, hzs, hB⟩ := R.info
  simp [Instr.sliceAt, Instr.slice, run_underlying R.und, Instr.sliceBounds, Instr.sliceBound, asIntOf, sizeOf, typeInfo, hi, hz1]
  omega
theorem src_takeR {w : World} {ao : Option Addr} {cap i : Nat} {xs : List α} (h : RSrc enc w (.slice ao xs.length cap) xs) (hl : ∀ x, (enc x).length = K) (hi : i ≤ xs.length) : RSrc enc w (.slice ao i cap) (xs.take i) := by
  obtain ⟨ao', c, e, hlc, hm, h2, h3⟩ := h
  cases e
  refine ⟨ao, cap, by rw [List.length_take, Nat.min_eq_left hi], by rw [List.length_take]; omega, hm, fun e => ?_, fun hne => ?_⟩
  · obtain ⟨rfl, rfl⟩ := h2 e
    exact ⟨by simp, rfl⟩
  · have hx : xs ≠ [] := fun e => hne (by rw [e]; simp)
    obtain ⟨b, off, rfl, hb, hc⟩ := h3 hx
    refine ⟨b, off, rfl, hb, fun j u hu => hc j u ?_⟩
    rw [← flat_take hl, List.getElem?_take] at hu
    split at hu
    · exact hu
    · cases hu
theorem src_dropR {w : World} {ao : Option Addr} {cap i : Nat} {xs : List α} (h : RSrc enc w (.slice ao xs.length cap) xs) (hl : ∀ x, (enc x).length = K) (hi : i ≤ xs.length) : RSrc enc w (.slice (if cap = i then ao else ao.map (·.add (i * K))) (xs.length - i) (cap - i)) (xs.drop i) := by
  obtain ⟨ao', c, e, hlc, hm, h2, h3⟩ := h
  cases e
  refine ⟨_, cap - i, by rw [List.length_drop], by rw [List.length_drop]; omega, by omega, fun e => ?_, fun hne => ?_⟩
  · have : ao = none := by
      split at e
      · exact e
      · simpa using e
    obtain ⟨rfl, rfl⟩ := h2 this
    exact ⟨by simp, by simp⟩
  · have hlt : i < xs.length := by
      rcases Nat.lt_or_ge i xs.length with h | h
      · exact h
      · exact absurd (List.drop_eq_nil_of_le h) hne
    obtain ⟨b, off, rfl, hb, hc⟩ := h3 (fun e => by rw [e] at hlt; simp at hlt)
    refine ⟨b, off + i * K, by rw [if_neg (by omega)]; simp [Addr.add_lit], hb, fun j u hu => ?_⟩
    rw [Nat.add_assoc]
    refine hc _ _ ?_
    rw [← List.getElem?_drop, flat_drop hl]
    exact hu
theorem own_dropR {ao : Option Addr} {n cap i : Nat} : (Value.slice (if cap = i then ao else ao.map (·.add (i * K))) (n - i) (cap - i)).ownBlock = (Value.slice ao n cap).ownBlock := by
  cases ao with
  | none => split <;> rfl
  | some a =>
    split
    · rfl
    · obtain ⟨b, o, sp⟩ := a
      simp [Value.ownBlock, Addr.add]
      split <;> rfl
end
end
section
open Go.RowKit Classical

/-- One of eight, under a name that simp leaves alone. -/
def at8 (k : List Int) (i : Nat) : Int := k.getD i 0
def atN (k : List Nat) (i : Nat) : Int := ((k.getD i 0 : Nat) : Int)
/-- The cells of eight bytes, of a configuration, an item, a write, a message whose writes lie at p. -/
abbrev eightE (k : List Int) : List Value := [.int .u8 (at8 k 0), .int .u8 (at8 k 1), .int .u8 (at8 k 2), .int .u8 (at8 k 3), .int .u8 (at8 k 4), .int .u8 (at8 k 5), .int .u8 (at8 k 6), .int .u8 (at8 k 7)]
abbrev votE (k : List Nat) : List Value := [.int .u8 (atN k 0), .int .u8 (atN k 1), .int .u8 (atN k 2), .int .u8 (atN k 3), .int .u8 (atN k 4), .int .u8 (atN k 5), .int .u8 (atN k 6), .int .u8 (atN k 7)]
abbrev cfE (c : Cf) : List Value := .int .u32 (c.e : Int) :: .int .u8 (c.r : Int) :: .int .u8 (c.w : Int) :: votE c.vs
abbrev itE (i : ItP) : List Value := .int .u32 (i.ver : Int) :: .string (strOfNums i.val) :: cfE i.cf
abbrev wrE (x : WrP) : List Value := eightE x.key ++ itE x.it
abbrev txE (t : TxN) : List Value := [.int .u8 (t.1 : Int), .int .u32 (t.2.1 : Int), .int .u32 (t.2.2 : Int)]
abbrev rgE (g : Nat × Nat) : List Value := [.int .u32 (g.1 : Int), .int .u32 (g.2 : Int)]
abbrev msgE (m : MsgP) (p : Value) : List Value := .int .u8 (m.kind : Int) :: (txE m.tx ++ .int .u32 (m.time : Int) :: (rgE m.reg ++ (eightE m.key ++ .int .u8 (m.mode : Int) :: .int .u32 (m.no : Int) :: .int .u8 (m.why : Int) :: .int .u8 (m.yes : Int) :: (itE m.item ++ [p]))))
abbrev eightA (k : List Int) : Array Value := (eightE k).toArray
abbrev itA (i : ItP) : Array Value := (itE i).toArray
abbrev wrA (x : WrP) : Array Value := (wrE x).toArray
abbrev msgA (m : MsgP) (p : Value) : Array Value := (msgE m p).toArray
theorem eightE_map {k : List Int} (h : k.length = 8) : eightE k = k.map (Value.int .u8) := by
  match k, h with
  | [_, _, _, _, _, _, _, _], _ => rfl
theorem votE_map {k : List Nat} (h : k.length = 8) : votE k = votL k := by
  match k, h with
  | [_, _, _, _, _, _, _, _], _ => rfl
theorem cfE_cells {c : Cf} (h : c.Ok) : cfE c = c.cells := by
  show Value.int .u32 (c.e : Int) :: .int .u8 (c.r : Int) :: .int .u8 (c.w : Int) :: votE c.vs = _
  rw [votE_map h.l]
  rfl
theorem wr_one (x : WrP) : ∀ u ∈ wrE x, u.oneCell' = true := by
  intro u hu
  simp at hu
  rcases hu with rfl | rfl | rfl | rfl | rfl | rfl | rfl | rfl | rfl | rfl | rfl | rfl | rfl | rfl | rfl | rfl | rfl | rfl | rfl | rfl | rfl <;> rfl
def zeroWr : WrP := ⟨[0, 0, 0, 0, 0, 0, 0, 0], zeroIt⟩
theorem recWR : Rec 36 59 21 wrE := ⟨Try.underlying36, rec_info (z := .agg (wrA zeroWr)) (K := 21) (B := 48) (by kernel_rfl) rfl (by decide), by decide, fun _ => rfl⟩
theorem infoWrite : (Try.prog.info? 59).map (·.size) = some 21 := by kernel_rfl
theorem infoItem : (Try.prog.info? 57).map (·.size) = some 13 := by kernel_rfl
/-- Texts are the same where their bytes are. -/
theorem str_same {a b : List Int} (ha : ∀ c ∈ a, 0 ≤ c ∧ c < 256) (hb : ∀ c ∈ b, 0 ≤ c ∧ c < 256) : ((strOfNums a).toList == (strOfNums b).toList) = decide (a = b) := by
  rw [Bool.eq_iff_iff, beq_iff_eq, decide_eq_true_eq, ByteArray.toList_eq, ByteArray.toList_eq]
  unfold strOfNums
  simp only
  refine ⟨fun h => ?_, fun h => by rw [h]⟩
  have back : ∀ l : List Int, (∀ c ∈ l, 0 ≤ c ∧ c < 256) → (l.map fun n => UInt8.ofNat n.toNat).map (fun u => ((u.toNat : Nat) : Int)) = l := fun l hl => by
    rw [List.map_map]
    conv => rhs; rw [← List.map_id l]
    refine List.map_congr_left fun c hc => ?_
    have := hl c hc
    simp only [Function.comp, id, UInt8.toNat_ofNat']
    omega
  rw [← back a ha, ← back b hb, h]
set_option maxHeartbeats 800000 in
theorem eq8 (t : TypeId) (ht : Try.prog.underlying t = some (.array 8 5)) (d : Nat) (a0 a1 a2 a3 a4 a5 a6 a7 b0 b1 b2 b3 b4 b5 b6 b7 : Int) (w : World) :
    (Op.equalIn (d + 2) t (.agg #[.int .u8 a0, .int .u8 a1, .int .u8 a2, .int .u8 a3, .int .u8 a4, .int .u8 a5, .int .u8 a6, .int .u8 a7]) (.agg #[.int .u8 b0, .int .u8 b1, .int .u8 b2, .int .u8 b3, .int .u8 b4, .int .u8 b5, .int .u8 b6, .int .u8 b7])).run Try.prog w
      = .ok (a0 == b0 && a1 == b1 && a2 == b2 && a3 == b3 && a4 == b4 && a5 == b5 && a6 == b6 && a7 == b7) w := by
  rw [show d + 2 = (d + 1) + 1 from rfl, Op.equalIn]
  simp only [Sem.run_bind, run_underlying ht, Result.andThen_ok]
  simp only [Std.Legacy.Range.forIn_eq_forIn_range', Std.Legacy.Range.size, Nat.sub_zero, Nat.add_sub_cancel, Nat.div_one, List.range'_succ, List.range'_zero, List.forIn_cons, List.forIn_nil]
  go_simp
  by_cases h0 : a0 = b0
  · by_cases h1 : a1 = b1
    · by_cases h2 : a2 = b2
      · by_cases h3 : a3 = b3
        · by_cases h4 : a4 = b4
          · by_cases h5 : a5 = b5
            · by_cases h6 : a6 = b6
              · by_cases h7 : a7 = b7 <;> simp [h0, h1, h2, h3, h4, h5, h6, h7]
              · simp [h0, h1, h2, h3, h4, h5, h6]
            · simp [h0, h1, h2, h3, h4, h5]
          · simp [h0, h1, h2, h3, h4]
        · simp [h0, h1, h2, h3]
      · simp [h0, h1, h2]
    · simp [h0, h1]
  · simp [h0]
theorem eight_dec {a b : List Int} (ha : a.length = 8) (hb : b.length = 8) : (at8 a 0 == at8 b 0 && at8 a 1 == at8 b 1 && at8 a 2 == at8 b 2 && at8 a 3 == at8 b 3 && at8 a 4 == at8 b 4 && at8 a 5 == at8 b 5 && at8 a 6 == at8 b 6 && at8 a 7 == at8 b 7) = decide (a = b) := by
  match a, ha, b, hb with
  | [_, _, _, _, _, _, _, _], _, [_, _, _, _, _, _, _, _], _ =>
    rw [Bool.eq_iff_iff]
    simp [and_assoc, at8]
theorem vot_dec {a b : List Nat} (ha : a.length = 8) (hb : b.length = 8) : ((atN a 0) == (atN b 0) && (atN a 1) == (atN b 1) && (atN a 2) == (atN b 2) && (atN a 3) == (atN b 3) && (atN a 4) == (atN b 4) && (atN a 5) == (atN b 5) && (atN a 6) == (atN b 6) && (atN a 7) == (atN b 7)) = decide (a = b) := by
  match a, ha, b, hb with
  | [_, _, _, _, _, _, _, _], _, [_, _, _, _, _, _, _, _], _ =>
    rw [Bool.eq_iff_iff]
    simp [and_assoc, atN, Int.ofNat_inj]
set_option maxHeartbeats 800000 in
theorem eq_cf (d : Nat) {a b : Cf} (ha : a.Ok) (hb : b.Ok) (w : World) : (Op.equalIn (d + 3) 55 (.agg (cfE a).toArray) (.agg (cfE b).toArray)).run Try.prog w = .ok (decide (a = b)) w := by
  have hS : Try.prog.underlying 55 = some (.struct (Try.prog.fieldsOf 55)) := by kernel_rfl
  have hin := fun w => eq8 52 Try.underlying52 d (atN a.vs 0) (atN a.vs 1) (atN a.vs 2) (atN a.vs 3) (atN a.vs 4) (atN a.vs 5) (atN a.vs 6) (atN a.vs 7) (atN b.vs 0) (atN b.vs 1) (atN b.vs 2) (atN b.vs 3) (atN b.vs 4) (atN b.vs 5) (atN b.vs 6) (atN b.vs 7) w
  rw [vot_dec ha.l hb.l] at hin
  have hu : ∀ (x y : Int) w, (Op.equalIn (d + 2) 31 (.int .u32 x) (.int .u32 y)).run Try.prog w = .ok (x == y) w := fun x y w => by
    rw [show d + 2 = (d + 1) + 1 from rfl]
    go_simp
  have hv : ∀ (x y : Int) w, (Op.equalIn (d + 2) 5 (.int .u8 x) (.int .u8 y)).run Try.prog w = .ok (x == y) w := fun x y w => by
    rw [show d + 2 = (d + 1) + 1 from rfl]
    go_simp
  have hE : decide (a = b) = (((a.e : Int) == (b.e : Int)) && ((a.r : Int) == (b.r : Int)) && ((a.w : Int) == (b.w : Int)) && decide (a.vs = b.vs)) := by
    obtain ⟨a1, a2, a3, a4⟩ := a
    obtain ⟨b1, b2, b3, b4⟩ := b
    rw [Bool.eq_iff_iff]
    simp [and_assoc, Int.ofNat_inj]
  rw [hE, show d + 3 = (d + 2) + 1 from rfl, run_equalIn_agg w (d + 2) 55 _ _ hS (by kernel_rfl)]
  simp only [Program.fieldsOf, Try.underlying55]
  generalize decide (a.vs = b.vs) = q at *
  generalize d + 2 = d0 at *
  clear hE
  go_simp
  cases q <;> by_cases h1 : (a.e : Int) = (b.e : Int) <;> by_cases h2 : (a.r : Int) = (b.r : Int) <;> by_cases h3 : (a.w : Int) = (b.w : Int) <;> simp [h1, h2, h3]
set_option maxHeartbeats 800000 in
theorem eq_it (d : Nat) {a b : ItP} (ha : ItOk a) (hb : ItOk b) (w : World) : (Op.equalIn (d + 4) 57 (.agg (itA a)) (.agg (itA b))).run Try.prog w = .ok (decide (a = b)) w := by
  have hS : Try.prog.underlying 57 = some (.struct (Try.prog.fieldsOf 57)) := by kernel_rfl
  have hin := fun w => eq_cf d ha.c hb.c w
  have hu : ∀ (x y : Int) w, (Op.equalIn (d + 3) 31 (.int .u32 x) (.int .u32 y)).run Try.prog w = .ok (x == y) w := fun x y w => by
    rw [show d + 3 = (d + 2) + 1 from rfl]
    go_simp
  have hv : ∀ w, (Op.equalIn (d + 3) 9 (.string (strOfNums a.val)) (.string (strOfNums b.val))).run Try.prog w = .ok (decide (a.val = b.val)) w := fun w => by
    rw [show d + 3 = (d + 2) + 1 from rfl, run_equalIn_string w (d + 2) 9 _ _ Try.underlying9, str_same ha.s hb.s]
  have hE : decide (a = b) = (((a.ver : Int) == (b.ver : Int)) && decide (a.val = b.val) && decide (a.cf = b.cf)) := by
    obtain ⟨a1, a2, a3⟩ := a
    obtain ⟨b1, b2, b3⟩ := b
    rw [Bool.eq_iff_iff]
    simp [and_assoc, Int.ofNat_inj]
  rw [hE, show d + 4 = (d + 3) + 1 from rfl, run_equalIn_agg w (d + 3) 57 _ _ hS (by kernel_rfl)]
  simp only [Program.fieldsOf, Try.underlying57]
  generalize decide (a.val = b.val) = q at *
  generalize decide (a.cf = b.cf) = r at *
  generalize d + 3 = d0 at *
  clear hE
  go_simp
  cases q <;> cases r <;> by_cases h1 : (a.ver : Int) = (b.ver : Int) <;> simp [h1]
set_option maxHeartbeats 800000 in
theorem eq_wr (d : Nat) {a b : WrP} (ha : KeyOk a.key ∧ ItOk a.it) (hb : KeyOk b.key ∧ ItOk b.it) (w : World) : (Op.equalIn (d + 5) 59 (.agg (wrA a)) (.agg (wrA b))).run Try.prog w = .ok (decide (a = b)) w := by
  have hS : Try.prog.underlying 59 = some (.struct (Try.prog.fieldsOf 59)) := by kernel_rfl
  have hin := fun w => eq_it d ha.2 hb.2 w
  have hk := fun w => eq8 53 Try.underlying53 (d + 2) (at8 a.key 0) (at8 a.key 1) (at8 a.key 2) (at8 a.key 3) (at8 a.key 4) (at8 a.key 5) (at8 a.key 6) (at8 a.key 7) (at8 b.key 0) (at8 b.key 1) (at8 b.key 2) (at8 b.key 3) (at8 b.key 4) (at8 b.key 5) (at8 b.key 6) (at8 b.key 7) w
  rw [eight_dec ha.1.l hb.1.l] at hk
  have hE : decide (a = b) = (decide (a.key = b.key) && decide (a.it = b.it)) := by
    obtain ⟨a1, a2⟩ := a
    obtain ⟨b1, b2⟩ := b
    rw [Bool.eq_iff_iff]
    simp
  rw [show d + 2 + 2 = d + 4 from rfl] at hk
  rw [hE, show d + 5 = (d + 4) + 1 from rfl, run_equalIn_agg w (d + 4) 59 _ _ hS (by kernel_rfl)]
  simp only [Program.fieldsOf, Try.underlying59]
  generalize decide (a.key = b.key) = q at *
  generalize decide (a.it = b.it) = r at *
  generalize d + 4 = d0 at *
  go_simp
  cases q <;> cases r <;> simp
end
section
open Go.ChangeShapes Go.WideShapes Go.ChangeAt Go.RowKit Go.Deep

section
variable {H : Type} {enc : TypeId × Value → H} {W : World}
theorem choose_rec {α : Type} [Inhabited α] {n : Nat} {p : Nat → α → Prop} (h : ∀ i, i < n → ∃ x, p i x) : ∃ f : Nat → α, ∀ i, i < n → p i (f i) := by
  classical
  refine ⟨fun i => if hi : i < n then Classical.choose (h i hi) else default, fun i hi => ?_⟩
  simp only [dif_pos hi]
  exact Classical.choose_spec (h i hi)
/-- A slice of records as an argument, by what the cells of one of them are. -/
theorem recs_of_trod {α : Type} [Inhabited α] {t e : TypeId} {K : Nat} {encA : α → List Value} {ok : α → Prop} (R : Rec t e K encA) (hce : Try.prog.cellsOf e = K)
    (hone : ∀ (fuel : Nat) (cs : List Value) (x : DataW H × List MemPlace), DataW.trod enc Try.prog W 0 (fun _ => true) true fuel e cs = some x → ∃ a, cs = encA a ∧ ok a)
    {a0 : Option Addr} {len cap : Nat} {d : DataW H} {p : List MemPlace}
    (h : DataW.Trod enc Try.prog W 0 (fun _ => true) true t (.slice a0 len cap) d p) : ∃ fs, RSrc encA W (.slice a0 len cap) fs ∧ (∀ f ∈ fs, ok f) := by
  obtain ⟨fuel, hf⟩ := h
  rcases open_slice R.und hf with ⟨hcs, _⟩ | ⟨a, len', cap', m, n, D, Pl, hcs, _, hl, hm, hmm, hx, hel⟩
  · simp [Value.cells] at hcs
    obtain ⟨rfl, rfl, rfl⟩ := hcs
    exact ⟨[], RSrc.nil _, by simp⟩
  · simp [Value.cells] at hcs
    obtain ⟨rfl, rfl, rfl⟩ := hcs
    simp only [if_true] at hmm
    subst hmm
    have hch : ∀ i, i < len → ∃ f : α, W.cells? 0 (a.add (i * K)) K = some (encA f) ∧ ok f := by
      intro i hi
      obtain ⟨cs', h1, h2⟩ := hel i (by omega)
      rw [hce] at h1
      obtain ⟨f, rfl, r⟩ := hone _ _ _ h2
      exact ⟨f, h1, r⟩
    obtain ⟨f, hfi⟩ := choose_rec hch
    by_cases h0 : len = 0
    · subst h0
      exact ⟨[], ⟨_, _, rfl, Nat.zero_le _, hm, fun e => (by cases e), fun hne => absurd rfl hne⟩, by simp⟩
    · obtain ⟨b, off, spot⟩ := a
      have hcell : ∀ i, i < len → ∀ j, j < K → W.cell? (((⟨b, off, spot⟩ : Addr).add (i * K)).add j) = (encA (f i))[j]? := by
        intro i hi j hj
        have h1 := World.cells?_some (hfi i hi).1
        have h2 := h1.2.2 j hj
        exact h2
      have hpos := R.pos
      have hc0 := hcell 0 (by omega) 0 hpos
      have he0 : ∃ u, (encA (f 0))[0]? = some u := ⟨_, List.getElem?_eq_getElem (by rw [R.len]; exact hpos)⟩
      obtain ⟨u0, hu0⟩ := he0
      rw [hu0] at hc0
      have hspot : spot = none := by simpa [Addr.add] using World.cell?_spot hc0
      subst hspot
      have hb : b < W.heap.size := by
        rcases Nat.lt_or_ge b W.heap.size with h | h
        · exact h
        · have hn : W.heap[b]? = none := by simp [h]
          simp [Addr.add, World.cell?, hn] at hc0
      have hlen : ((List.range len).map f).length = len := by simp
      refine ⟨(List.range len).map f, ⟨_, _, by rw [hlen], by rw [hlen]; exact hl, hm, fun e => (by cases e), fun _ => ⟨b, off, rfl, hb, fun j u hu => ?_⟩⟩, fun g hg => ?_⟩
      · have hjl : j < len * K := by
          have := (List.getElem?_eq_some_iff.1 hu).1
          rw [flat_len R.len, hlen] at this
          exact this
        have hi : j / K < len := (Nat.div_lt_iff_lt_mul hpos).2 hjl
        have hr : j % K < K := Nat.mod_lt _ hpos
        have hj : j = (j / K) * K + j % K := by rw [Nat.mul_comm]; exact (Nat.div_add_mod j K).symm
        rw [hj, flat_at R.len (by rw [hlen]; exact hi) hr] at hu
        have hc := hcell (j / K) hi (j % K) hr
        rw [Addr.add_lit, Addr.add_lit] at hc
        rw [hj, ← Nat.add_assoc, hc]
        simpa using hu
      · rw [List.mem_map] at hg
        obtain ⟨i, hi, rfl⟩ := hg
        exact (hfi i (by simpa using hi)).2
end
end
section
open Go.ChangeShapes Go.WideShapes Go.ChangeAt Go.RowKit Go.Deep

theorem mCfg : Try.prog.cellsOf 55 = 11 := by kernel_rfl
theorem mArr8 : Try.prog.cellsOf 52 = 8 := by kernel_rfl
theorem mKey : Try.prog.cellsOf 53 = 8 := by kernel_rfl
theorem mTx : Try.prog.cellsOf 33 = 3 := by kernel_rfl
theorem mReg : Try.prog.cellsOf 35 = 2 := by kernel_rfl
theorem mItem : Try.prog.cellsOf 57 = 13 := by kernel_rfl
theorem mWrite : Try.prog.cellsOf 59 = 21 := by kernel_rfl
theorem mStr : Try.prog.cellsOf 9 = 1 := by kernel_rfl
theorem mU8 : Try.prog.cellsOf 5 = 1 := by kernel_rfl
theorem mU32 : Try.prog.cellsOf 31 = 1 := by kernel_rfl
theorem strOf_strI10 (s : ByteArray) : strOfNums (strI s) = s := by
  unfold strOfNums strI
  obtain ⟨⟨l⟩⟩ := s
  simp [List.map_map, Function.comp_def]
section Opened
variable {H : Type} {enc : TypeId × Value → H} {W : World} {base fuel : Nat} {spare : Nat → Bool} {held : Bool}
theorem ints_of10 : ∀ (cs : List Value) (n : Nat), cs.length = n → (∀ i, i < n → ∃ k : Int, (cs.drop i).take 1 = [.int .u8 k] ∧ 0 ≤ k ∧ k < 256) → ∃ ks : List Int, ks.length = n ∧ cs = ks.map (Value.int .u8) ∧ ∀ c ∈ ks, 0 ≤ c ∧ c < 256
  | [], n, h, _ => ⟨[], by simpa using h, rfl, by simp⟩
  | c :: r, 0, h, _ => by simp at h
  | c :: r, n + 1, h, hc => by
    obtain ⟨ks, h1, h2, h3⟩ := ints_of10 r n (by simpa using h) (fun i hi => by
      obtain ⟨k, e, b⟩ := hc (i + 1) (by omega)
      exact ⟨k, by simpa using e, b⟩)
    obtain ⟨k, e, b⟩ := hc 0 (by omega)
    simp at e
    refine ⟨k :: ks, by simp [h1], by rw [e, h2]; rfl, fun c hc2 => ?_⟩
    rcases List.mem_cons.1 hc2 with rfl | hc2
    · exact b
    · exact h3 c hc2
theorem eight_cells (t : TypeId) (ht : Try.prog.underlying t = some (.array 8 5)) (hc : Try.prog.cellsOf t = 8) {cs : List Value} {x : DataW H × List MemPlace} (h : DataW.trod enc Try.prog W base spare held fuel t cs = some x) : ∃ ks : List Int, ks.length = 8 ∧ cs = ks.map (Value.int .u8) ∧ ∀ c ∈ ks, 0 ≤ c ∧ c < 256 := by
  obtain ⟨xs, m, _, _, hl, hn, hf⟩ := DataW.trod_array ht h
  rw [hc] at hl
  refine ints_of10 cs 8 hl (fun i hi => ?_)
  have h0 := hf i hi
  rw [mU8, Nat.mul_one] at h0
  obtain ⟨y, hy⟩ : ∃ y, xs[i]? = some y := ⟨xs[i]'(by omega), by simp⟩
  rw [hy] at h0
  obtain ⟨a0, e0, _, w0⟩ := DataW.trod_int Try.underlying5 h0
  have := bounds_u8 w0
  exact ⟨a0, e0, by omega, by omega⟩
theorem key_cells {cs : List Value} {x : DataW H × List MemPlace} (h : DataW.trod enc Try.prog W base spare held fuel 53 cs = some x) : ∃ k : List Int, cs = eightE k ∧ KeyOk k := by
  obtain ⟨ks, hl, e, hb⟩ := eight_cells 53 Try.underlying53 mKey h
  exact ⟨ks, by rw [e, eightE_map hl], ⟨hl, hb⟩⟩
set_option maxRecDepth 100000 in
theorem cfg_cells10 {cs : List Value} {x : DataW H × List MemPlace} (h : DataW.trod enc Try.prog W base spare held fuel 55 cs = some x) : ∃ c : Cf, cs = cfE c ∧ c.Ok := by
  obtain ⟨xs, n, _, rfl, hl, hlen, hf⟩ := DataW.trod_struct Try.underlying55 h
  rw [mCfg] at hl
  match cs, hl, xs, hlen with
  | c0 :: c1 :: c2 :: rest, hl, [y0, y1, y2, y3], _ =>
    have h0 : DataW.trod enc Try.prog W base spare held n 31 (((c0 :: c1 :: c2 :: rest).drop 0).take (Try.prog.cellsOf 31)) = some y0 := hf 0 _ rfl
    have h1 : DataW.trod enc Try.prog W base spare held n 5 (((c0 :: c1 :: c2 :: rest).drop 1).take (Try.prog.cellsOf 5)) = some y1 := hf 1 _ rfl
    have h2 : DataW.trod enc Try.prog W base spare held n 5 (((c0 :: c1 :: c2 :: rest).drop 2).take (Try.prog.cellsOf 5)) = some y2 := hf 2 _ rfl
    have h3 : DataW.trod enc Try.prog W base spare held n 52 (((c0 :: c1 :: c2 :: rest).drop 3).take (Try.prog.cellsOf 52)) = some y3 := hf 3 _ rfl
    rw [mU32] at h0
    rw [mU8] at h1 h2
    rw [mArr8] at h3
    obtain ⟨a0, e0, _, w0⟩ := DataW.trod_int Try.underlying31 h0
    obtain ⟨a1, e1, _, w1⟩ := DataW.trod_int Try.underlying5 h1
    obtain ⟨a2, e2, _, w2⟩ := DataW.trod_int Try.underlying5 h2
    obtain ⟨ks, kl, e3, kb⟩ := eight_cells 52 Try.underlying52 mArr8 h3
    have b0 := bounds_u32 w0
    have b1 := bounds_u8 w1
    have b2 := bounds_u8 w2
    have hr : rest.length = 8 := by simpa using hl
    simp at e0 e1 e2
    have e3' : rest = ks.map (Value.int .u8) := by
      have h8 : rest.take 8 = ks.map (Value.int .u8) := by simpa using e3
      rw [List.take_of_length_le (by omega)] at h8
      exact h8
    obtain ⟨n0, rfl⟩ := Int.eq_ofNat_of_zero_le b0.1
    obtain ⟨n1, rfl⟩ := Int.eq_ofNat_of_zero_le b1.1
    obtain ⟨n2, rfl⟩ := Int.eq_ofNat_of_zero_le b2.1
    have hv : (ks.map Int.toNat).map (fun (n : Nat) => Value.int .u8 (n : Int)) = ks.map (Value.int .u8) := by
      rw [List.map_map]
      refine List.map_congr_left fun c hc => ?_
      have := kb c hc
      simp only [Function.comp]
      rw [Int.toNat_of_nonneg this.1]
    have hOk : Cf.Ok ⟨n0, n1, n2, ks.map Int.toNat⟩ := ⟨by simp only; omega, by simp only; omega, by simp only; omega, by simp [kl], fun x hx => by
      obtain ⟨c, hc, rfl⟩ := List.mem_map.1 hx
      have := kb c hc
      omega⟩
    refine ⟨_, ?_, hOk⟩
    rw [cfE_cells hOk, e0, e1, e2, e3', ← hv]
    rfl
theorem weights_agg10 {t : TypeId} {fs : Array Field} {parts : List (DataW H)} (hu : Try.prog.underlying t = some (.struct fs)) {j : Nat} {ft : TypeId} {d : DataW H} (hj : (fs.toList.map (·.type))[j]? = some ft) (hd : parts[j]? = some d) {n : Nat} (hn : n ∈ d.weights Try.prog ft) :
    n ∈ DataW.weights Try.prog t (.agg parts) := by
  unfold DataW.weights
  rw [hu]
  exact DataW.weights_mem_each hj hd n hn
set_option maxRecDepth 100000 in
theorem item_cells {cs : List Value} {x : DataW H × List MemPlace} (h : DataW.trod enc Try.prog W base spare held fuel 57 cs = some x) : ∃ i : ItP, cs = itE i ∧ (ItOk i ∧ i.val.length ≤ 9223372036854775807) ∧ i.val.length ∈ x.1.weights Try.prog 57 := by
  obtain ⟨xs, n, _, rfl, hl, hlen, hf⟩ := DataW.trod_struct Try.underlying57 h
  rw [mItem] at hl
  match cs, hl, xs, hlen with
  | c0 :: c1 :: rest, hl, [y0, y1, y2], _ =>
    have h0 : DataW.trod enc Try.prog W base spare held n 31 (((c0 :: c1 :: rest).drop 0).take (Try.prog.cellsOf 31)) = some y0 := hf 0 _ rfl
    have h1 : DataW.trod enc Try.prog W base spare held n 9 (((c0 :: c1 :: rest).drop 1).take (Try.prog.cellsOf 9)) = some y1 := hf 1 _ rfl
    have h2 : DataW.trod enc Try.prog W base spare held n 55 (((c0 :: c1 :: rest).drop 2).take (Try.prog.cellsOf 55)) = some y2 := hf 2 _ rfl
    rw [mU32] at h0
    rw [mStr] at h1
    rw [mCfg] at h2
    obtain ⟨a0, e0, _, w0⟩ := DataW.trod_int Try.underlying31 h0
    obtain ⟨s, e1, r1, w1⟩ := DataW.trod_string Try.underlying9 h1
    obtain ⟨c, e2, ok⟩ := cfg_cells10 h2
    have b0 := bounds_u32 w0
    unfold maxLen at w1
    have hr : rest.length = 11 := by simpa using hl
    simp only [List.drop_zero, List.take_succ_cons, List.take_zero, List.cons.injEq, and_true, List.drop_succ_cons] at e0 e1 e2
    rw [List.take_of_length_le (by omega)] at e2
    obtain ⟨n0, rfl⟩ := Int.eq_ofNat_of_zero_le b0.1
    refine ⟨⟨n0, strI s, c⟩, ?_, ⟨⟨by simp only; omega, strI_byte s, ok⟩, by simp only [strI_length]; omega⟩, ?_⟩
    · rw [e0, e1, e2]
      show _ = Value.int .u32 (n0 : Int) :: .string (strOfNums (strI s)) :: cfE c
      rw [strOf_strI10]
    · show (strI s).length ∈ DataW.weights Try.prog 57 (.agg [y0.1, y1.1, y2.1])
      rw [strI_length]
      refine weights_agg10 Try.underlying57 (j := 1) (ft := 9) rfl rfl ?_
      rw [r1]
      simp [DataW.weights]
set_option maxRecDepth 100000 in
theorem write_cells {cs : List Value} {x : DataW H × List MemPlace} (h : DataW.trod enc Try.prog W base spare held fuel 59 cs = some x) : ∃ a : WrP, cs = wrE a ∧ (KeyOk a.key ∧ ItOk a.it ∧ a.it.val.length ≤ 9223372036854775807) := by
  obtain ⟨xs, n, _, rfl, hl, hlen, hf⟩ := DataW.trod_struct Try.underlying59 h
  rw [mWrite] at hl
  match xs, hlen with
  | [y0, y1], _ =>
    have h0 : DataW.trod enc Try.prog W base spare held n 53 ((cs.drop 0).take (Try.prog.cellsOf 53)) = some y0 := hf 0 _ rfl
    have h1 : DataW.trod enc Try.prog W base spare held n 57 ((cs.drop 8).take (Try.prog.cellsOf 57)) = some y1 := hf 1 _ rfl
    rw [mKey, List.drop_zero] at h0
    rw [mItem, List.take_of_length_le (by rw [List.length_drop]; omega)] at h1
    obtain ⟨k, e0, ok0⟩ := key_cells h0
    obtain ⟨i, e1, ok1, _⟩ := item_cells h1
    refine ⟨⟨k, i⟩, ?_, ok0, ok1⟩
    rw [← List.take_append_drop 8 cs, e0, e1]
set_option maxRecDepth 100000 in
theorem tx_cells10 {cs : List Value} {x : DataW H × List MemPlace} (h : DataW.trod enc Try.prog W base spare held fuel 33 cs = some x) : ∃ t : TxN, cs = txE t ∧ (t.1 < 256 ∧ t.2.1 < 4294967296 ∧ t.2.2 < 4294967296) := by
  obtain ⟨xs, n, _, rfl, hl, hlen, hf⟩ := DataW.trod_struct Try.underlying33 h
  rw [mTx] at hl
  match cs, hl, xs, hlen with
  | [c0, c1, c2], _, [y0, y1, y2], _ =>
    have h0 : DataW.trod enc Try.prog W base spare held n 5 (([c0, c1, c2].drop 0).take (Try.prog.cellsOf 5)) = some y0 := hf 0 _ rfl
    have h1 : DataW.trod enc Try.prog W base spare held n 31 (([c0, c1, c2].drop 1).take (Try.prog.cellsOf 31)) = some y1 := hf 1 _ rfl
    have h2 : DataW.trod enc Try.prog W base spare held n 31 (([c0, c1, c2].drop 2).take (Try.prog.cellsOf 31)) = some y2 := hf 2 _ rfl
    rw [mU8] at h0
    rw [mU32] at h1 h2
    obtain ⟨a0, e0, _, w0⟩ := DataW.trod_int Try.underlying5 h0
    obtain ⟨a1, e1, _, w1⟩ := DataW.trod_int Try.underlying31 h1
    obtain ⟨a2, e2, _, w2⟩ := DataW.trod_int Try.underlying31 h2
    have b0 := bounds_u8 w0
    have b1 := bounds_u32 w1
    have b2 := bounds_u32 w2
    obtain ⟨n0, rfl⟩ := Int.eq_ofNat_of_zero_le b0.1
    obtain ⟨n1, rfl⟩ := Int.eq_ofNat_of_zero_le b1.1
    obtain ⟨n2, rfl⟩ := Int.eq_ofNat_of_zero_le b2.1
    simp at e0 e1 e2
    subst e0
    subst e1
    subst e2
    exact ⟨(n0, n1, n2), rfl, by simp only; omega, by simp only; omega, by simp only; omega⟩
set_option maxRecDepth 100000 in
theorem reg_cells10 {cs : List Value} {x : DataW H × List MemPlace} (h : DataW.trod enc Try.prog W base spare held fuel 35 cs = some x) : ∃ t : Nat × Nat, cs = rgE t ∧ (t.1 < 4294967296 ∧ t.2 < 4294967296) := by
  obtain ⟨xs, n, _, rfl, hl, hlen, hf⟩ := DataW.trod_struct Try.underlying35 h
  rw [mReg] at hl
  match cs, hl, xs, hlen with
  | [c0, c1], _, [y0, y1], _ =>
    have h0 : DataW.trod enc Try.prog W base spare held n 31 (([c0, c1].drop 0).take (Try.prog.cellsOf 31)) = some y0 := hf 0 _ rfl
    have h1 : DataW.trod enc Try.prog W base spare held n 31 (([c0, c1].drop 1).take (Try.prog.cellsOf 31)) = some y1 := hf 1 _ rfl
    rw [mU32] at h0 h1
    obtain ⟨a0, e0, _, w0⟩ := DataW.trod_int Try.underlying31 h0
    obtain ⟨a1, e1, _, w1⟩ := DataW.trod_int Try.underlying31 h1
    have b0 := bounds_u32 w0
    have b1 := bounds_u32 w1
    obtain ⟨n0, rfl⟩ := Int.eq_ofNat_of_zero_le b0.1
    obtain ⟨n1, rfl⟩ := Int.eq_ofNat_of_zero_le b1.1
    simp at e0 e1
    subst e0
    subst e1
    exact ⟨(n0, n1), rfl, by simp only; omega, by simp only; omega⟩
end Opened
end
end Go.Proofs.Ytodomdmmffooaaa
