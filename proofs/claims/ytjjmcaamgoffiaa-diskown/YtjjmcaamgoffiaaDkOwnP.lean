/-
  For DiskOwn: rows that are written over; an append behind a guard; what the calls leave, as a plain thing. Own work.
-/
import Derived.Test.YtjjmcaamgoffiaaDkAlive
import Derived.Test.YtjjmcaamgoffiaaDkFacts
import Derived.Test.YtjjmcaamgoffiaaAppStep
import Derived.WalkMore
import Derived.Test.YtjjmcaamgoffiaaFramePlain
import Derived.SizedLaws
namespace Go.Proofs.Ytjjmcaamgoffiaa
open Go.RowKit Go.ChangeShapes Go.WideShapes Go.ChangeAt

/-- A row of bytes that is written over: its cells are bytes still, all else is as it was. -/
def Over7 (w0 w : World) (v : Value) (n : Nat) : Prop :=
  KeepBut (fun k => v.ownBlock = some k) w0 w ∧ (n = 0 ∨ ∃ (g cap : Nat) (cur : Array Value), v = .slice (some ⟨g, 0, none⟩) n cap ∧ Box w g cur 5 ∧ ∀ t, t < n → ∃ z : Int, cur[t]? = some (.int .u8 z))
theorem Over7.start {w : World} {base n : Nat} {v : Value} {xs : List Int} (h : w.ownsRow base 5 1 v n (xs.map (Value.int .u8))) : Over7 w w v n := by
  refine ⟨KeepBut.refl _ _, ?_⟩
  have hl : xs.length = n := by simpa using h.1
  obtain ⟨_, ⟨_, h0⟩ | ⟨g, cap, cur, rfl, _, hh, hn, _, hsz, htake⟩⟩ := h
  · exact .inl h0
  · refine .inr ⟨g, cap, cur, rfl, hh, fun t ht => ⟨xs.getD t 0, ?_⟩⟩
    have h1 : (cur.toList.take (n * 1))[t]? = (xs.map (Value.int .u8))[t]? := by rw [htake]
    rw [List.getElem?_take_of_lt (by omega)] at h1
    have h2 : cur[t]? = (xs.map (Value.int .u8))[t]? := by simpa using h1
    rw [h2]
    simp [List.getD, show t < xs.length by omega]
theorem Over7.step {w0 w : World} {g n cap k : Nat} {cur : Array Value} (hk : KeepBut (fun k => (Value.slice (some ⟨g, 0, none⟩) n cap).ownBlock = some k) w0 w) (hb : Box w g cur 5) (hc : ∀ t, t < n → ∃ z : Int, cur[t]? = some (.int .u8 z)) (z : Int) :
    Over7 w0 (w.setCell ⟨g, k, none⟩ (.int .u8 z)) (.slice (some ⟨g, 0, none⟩) n cap) n := by
  refine ⟨hk.setCell (p := ⟨g, k, none⟩) (.inl rfl) _, .inr ⟨g, cap, _, rfl, hb.set, fun t ht => ?_⟩⟩
  obtain ⟨z', hz'⟩ := hc t ht
  by_cases e : k = t
  · subst e
    refine ⟨z, ?_⟩
    have hlt : k < cur.size := (Array.getElem?_eq_some_iff.1 hz').1
    simp [hlt]
  · exact ⟨z', by rw [Array.getElem?_setIfInBounds_ne e]; exact hz'⟩
theorem wpList_wanted7 {ops : Array Oper} {rest : List Oper} {o : Oper} {a : Act} {w : World} {Q : Exit → Act → World → Prop} {P : Program} (hg : Region.wanted o (yielded ops a.tmps) = true)
    (h : ∀ K : Act → World → Prop, (∀ a w, wpList P ops Q rest a w → K a w) → o.wp P a w K Q) : wpList P ops Q (o :: rest) a w :=
  wpList_step fun K hK => by simp only [hg, if_true]; exact h K hK
/-- 'append(v, x...)' behind a guard that holds. -/
theorem append_lies_g {ops : Array Oper} {rest : List Oper} {o : Oper} {a : Act} {Q : Exit → Act → World → Prop} (w : World) (hgd : Region.wanted o (yielded ops a.tmps) = true) (s x : Operand)
    (ho : o.op = .call { callee := .builtin .append, args := #[s, x], argTypes := #[29, 29] })
    (base : Nat) (v vx : Value) (n : Nat) (ys xs : List Int) (hs : a.eval s = v) (hown : w.ownsRow base 5 1 v n (ys.map (Value.int .u8))) (hx : a.eval x = vx) (hL : Lies .u8 w vx xs)
    (hb : n + xs.length ≤ 200000000000000) (hbase : base ≤ w.heap.size)
    (h : ∀ v' w', w'.ownsRow base 5 1 v' (n + xs.length) ((ys ++ xs).map (Value.int .u8)) → w.grownBy w' v.ownBlock → wpList Try.prog ops Q rest (a.put o.dst v') w') :
    wpList Try.prog ops Q (o :: rest) a w := by
  refine wpList_wanted7 hgd fun K hK => ?_
  obtain ⟨i0, hi, hz0, hz1, hz2⟩ := info_parts info5
  rcases hL with ⟨rfl, ao, cap, rfl, h0⟩ | ⟨_, b, off, cap, rfl, _, _, _, hc⟩
  · cases ao with
    | none =>
      obtain rfl := h0 rfl
      have hk := hK _ _ (h v w (by simpa using hown) (World.grownBy.refl _ _))
      have hrun := run_append_owned_none (P := Try.prog) (w := w) base 29 o.type 5 i0 1 Try.underlying29 hi v n _ hown
      unfold Oper.wp
      simp [execOp, ho, resolve, invoke, builtin, hs, hx, hrun, Result.andThen]
      exact hk
    | some ad =>
      exact wp_append_own_wide w s x 29 ho base 5 i0 (.int .u8 0) 1 1 Try.underlying29 hi hz0 hz1 hz2 rfl (by decide) v n _ hs hown ad 0 cap [] hx rfl (fun j u hj => by simp at hj) (fun u hu => by simp at hu)
        (by unfold maxLen; simp at hb; omega) (by simp at hb; omega) hbase (fun v' w' h1 h2 _ => hK _ _ (h v' w' (by simpa using h1) h2))
  · exact wp_append_own_wide w s x 29 ho base 5 i0 (.int .u8 0) 1 1 Try.underlying29 hi hz0 hz1 hz2 rfl (by decide) v n _ hs hown ⟨b, off, none⟩ xs.length cap (xs.map (Value.int .u8)) hx (by simp)
        (fun j u hu => by
          have hj : j < xs.length := by
            have := (List.getElem?_eq_some_iff.1 hu).1
            simpa using this
          rw [Addr.add_lit, hc j hj]
          simp [hj] at hu ⊢
          exact hu) (ints_oneCell _ _)
        (by unfold maxLen; omega) (by omega) hbase (fun v' w' h1 h2 _ => hK _ _ (h v' w' (by simpa using h1) h2))
/-- A row lies there, not among the disk's blocks. -/
def Far (F : Nat → Prop) (w : World) (v : Value) : Prop := ∀ g, v.ownBlock = some g → g < w.heap.size ∧ ¬ F g
theorem Far.did {F F' : Nat → Prop} {w w' : World} {v : Value} (h : Far F w v) (hk : KeepBut F w w') (hF : ∀ k, F' k → F k ∨ w.heap.size ≤ k) : Far F' w' v := fun g hg => by
  have h1 := h g hg
  refine ⟨Nat.lt_of_lt_of_le h1.1 hk.size, fun hf => ?_⟩
  rcases hF g hf with x | x
  · exact h1.2 x
  · omega
theorem Far.size {F : Nat → Prop} {w w' : World} {v : Value} (h : Far F w v) (hs : w.heap.size ≤ w'.heap.size) : Far F w' v := fun g hg => ⟨Nat.lt_of_lt_of_le (h g hg).1 hs, (h g hg).2⟩
theorem owns_below {w w' : World} {base n : Nat} {v : Value} {xs : List Value} (h : w.ownsRow base 5 1 v n xs) (hB : Below w.heap.size w w') : w'.ownsRow base 5 1 v n xs := owns_keep h (KeepBut.of_below (fun _ => False) hB) (fun _ _ h => h)
/-- An argument of type []byte, opened, with the form's own reach. -/
theorem liesz_of_trod {H : Type} {enc : TypeId × Value → H} {W : World} {a0 : Option Addr} {len cap : Nat} {d : DataW H} {p : List MemPlace}
    (h : DataW.Trod enc Try.prog W 0 (fun _ => true) true 29 (.slice a0 len cap) d p) (hw : ∀ n ∈ d.weights Try.prog 29, n ≤ 140737488351232) : ∃ xs, Lies .u8 W (.slice a0 len cap) xs ∧ (∀ c ∈ xs, 0 ≤ c ∧ c < 256) ∧ xs.length ≤ 140737488351232 := by
  obtain ⟨xs, h1, h2⟩ := lies_of_trod h
  refine ⟨xs, h1, h2, ?_⟩
  obtain ⟨ao, cp, e⟩ := h1.shape
  cases e
  obtain ⟨fuel, hf⟩ := h
  rcases open_ints Try.underlying29 Try.underlying5 (by kernel_rfl) hf with ⟨hcs, _⟩ | ⟨x, l, c, zs, hcs, _, hl, hm, hz, hx, _, _⟩
  · simp [Value.cells] at hcs
    simp [hcs.2.1]
  · simp [Value.cells] at hcs
    obtain ⟨rfl, e1, rfl⟩ := hcs
    have hd : d = .slice (lits .u8 (zs.take l)) (lits .u8 (zs.drop l)) := congrArg Prod.fst hx
    subst hd
    have hb : Try.prog.bytesOf 5 = 1 := by kernel_rfl
    have := hw (((lits (H := H) .u8 (zs.take l)).length + (lits (H := H) .u8 (zs.drop l)).length) * Try.prog.bytesOf 5) (by
      unfold DataW.weights
      rw [Try.underlying29]
      exact List.mem_cons_self)
    rw [hb] at this
    simp only [if_true] at hz
    have e3 : (lits (H := H) .u8 (zs.take l)).length = l := by simp [lits]; omega
    omega
def ow1 (a : List Int) : Dk := appD (newD 65536) a
def ow2 (a : List Int) : Dk := forD (ow1 a)
def ow3 (a : List Int) : Dk := faiD (ow2 a)
def ow4 (a b : List Int) : Dk := staD (ow3 a) 0 true b
theorem ow_facts (a b : List Int) (h : a.length + b.length ≤ 32768) : (ow3 a).bs = a ∧ reaA (ow4 a b) = 0 ∧ reaB (ow4 a b) = a ++ b := by
  have e1 : ow1 a = ⟨65536, a, 0, 0, 0, false, false, 0⟩ := by
    have hl : ¬ (newD 65536).left < a.length := by simp [Dk.left, newD]; omega
    have ho : (newD 65536).off = false := rfl
    unfold ow1 appD
    simp only [ho, Bool.false_eq_true, if_false, if_neg hl]
    simp [newD]
  have e2 : ow2 a = ⟨65536, a, 0, 0, a.length, false, false, 0⟩ := by
    unfold ow2 forD
    rw [e1]
    simp
  have e3 : ow3 a = ⟨65536, a, 0, 0, a.length, true, false, 0⟩ := by unfold ow3 faiD; rw [e2]
  have hB : staB (ow3 a) 0 b = a ++ b := by
    unfold staB
    rw [e3]
    by_cases hb : b = []
    · subst hb; simp
    · rw [if_neg hb]; simp
  have e4 : ow4 a b = ⟨65536, a ++ b, 0, 0, (a ++ b).length, false, false, 0⟩ := by
    have hf : ¬ (ow3 a).room - ((ow3 a).fend - (ow3 a).fbase) < b.length := by rw [e3]; simp; omega
    have ho : (ow3 a).off = true := by rw [e3]
    have hE : staE (ow3 a) 0 true b = 0 := by unfold staE; rw [hB, e3]; simp
    have hr : (ow3 a).room = 65536 := by rw [e3]
    unfold ow4 staD
    rw [if_neg (by rw [ho]; simp), if_neg hf, hB, hE, hr]
  refine ⟨by rw [e3], by rw [e4]; rfl, ?_⟩
  rw [e4]
  simp [reaB]
end Go.Proofs.Ytjjmcaamgoffiaa
