/-
  The readings of each kind (package code): number, single, truth, text, key. Own work.
-/
import Derived.Test.YtnljibmdcknmeabDoorCReader
import Derived.Test.YtnljibmdcknmeabDoorCuts
import Derived.Laws.CopyRow
namespace Go.Proofs.YtnljibmdcknmeabDoor
open Go.RowKit

def numR (most : Nat) (bs : List Int) : Int × Int × Int :=
  if (longS bs).2.2 ≠ 0 then (0, 0, (longS bs).2.2) else if (most : Int) < (longS bs).1 then (0, 0, 5) else ((longS bs).1, (longS bs).2.1, 0)
theorem numR_cases (most : Nat) (bs : List Int) (hx : ∀ c ∈ bs, 0 ≤ c ∧ c < 256) :
    (∃ e : Int, numR most bs = (0, 0, e) ∧ e ≠ 0) ∨ (∃ N s : Nat, numR most bs = ((N : Int), (s : Int), 0) ∧ 1 ≤ s ∧ s ≤ bs.length ∧ N < 18446744073709551616) := by
  unfold numR
  rcases long_cases' bs hx with ⟨e, h1, h2⟩ | ⟨N, s, h1, h2, h3, h4, _⟩
  · left; rw [h1]; simp only; rw [if_pos h2]; exact ⟨e, rfl, h2⟩
  · rw [h1]; simp only
    rw [if_neg (by simp)]
    by_cases h : (most : Int) < (N : Int)
    · rw [if_pos h]; exact .inl ⟨5, rfl, by decide⟩
    · rw [if_neg h]; exact .inr ⟨N, s, rfl, h2, h3, h4⟩
set_option maxRecDepth 100000 in
set_option maxHeartbeats 800000 in
theorem nread_any (most : Nat) (v : Value) (bs : List Int) (w : World) (h : Lies .u8 w v bs) (hx : ∀ c ∈ bs, 0 ≤ c ∧ c < 256) :
    Calls Tryd.prog 43 #[.agg #[.int .u64 most], v] w fun e w' => e = .returned (.tuple #[.int .u64 (numR most bs).1, .int .i64 (numR most bs).2.1, .int .i64 (numR most bs).2.2]) ∧ Below w.heap.size w w' := by
  have hB0 := (Below.refl w.heap.size w).alloc (Nat.le_refl _) (.cells #[.int .u64 most] 77)
  have C := hide (long_any v bs _ (h.below hB0) hx)
  have HB := hide hB0
  clear h hB0
  unfold numR
  rcases long_cases' bs hx with ⟨e, h1, h2⟩ | ⟨N, s, h1, h2, h3, h4, _⟩
  · rw [h1] at C ⊢
    simp only at C ⊢
    rw [if_pos h2]
    have he : (e != 0) = true := by simpa using h2
    clear h1 h2 hx
    go_enter Tryd.func43, Tryd.ntmps43
    go_wp2_with (go_at_call 49; refine C.out.mono ?_; rintro e w' ⟨rfl, hw⟩; subst hw)
    go_ret3
    exact ⟨rfl, HB.out⟩
  · rw [h1] at C ⊢
    simp only at C ⊢
    rw [if_neg (by simp)]
    clear h1 hx
    by_cases hm : (most : Int) < (N : Int)
    · rw [if_pos hm]
      go_enter Tryd.func43, Tryd.ntmps43
      go_wp2_with (go_at_call 49; refine C.out.mono ?_; rintro e w' ⟨rfl, hw⟩; subst hw)
      go_ret3
      exact ⟨rfl, HB.out⟩
    · rw [if_neg hm]
      go_enter Tryd.func43, Tryd.ntmps43
      go_wp2_with (go_at_call 49; refine C.out.mono ?_; rintro e w' ⟨rfl, hw⟩; subst hw)
      go_ret3
      exact ⟨rfl, HB.out⟩
def byteR (bs : List Int) : Int × Int × Int := if bs = [] then (0, 0, 4) else (bs.getD 0 0, 1, 0)
set_option maxHeartbeats 800000 in
theorem sread_any (v : Value) (bs : List Int) (w : World) (h : Lies .u8 w v bs) :
    Calls Tryd.prog 45 #[.agg #[], v] w fun e w' => e = .returned (.tuple #[.int .u8 (byteR bs).1, .int .i64 (byteR bs).2.1, .int .i64 (byteR bs).2.2]) ∧ Below w.heap.size w w' := by
  have hB0 := (Below.refl w.heap.size w).alloc (Nat.le_refl _) (.cells #[] 81)
  have HB := hide hB0
  have h1 := h.below hB0
  clear h hB0
  unfold byteR
  rcases h1 with ⟨rfl, ao, cap, rfl, _⟩ | ⟨hne, b, off, cap, rfl, hb, hl, hm, hc⟩
  · rw [if_pos rfl]
    go_enter Tryd.func45, Tryd.ntmps45
    go_wp2_with fail
    go_ret3
    exact ⟨rfl, HB.out⟩
  · rw [if_neg hne]
    have hpos : 0 < bs.length := List.length_pos_iff.2 hne
    have h0 := hc 0 hpos
    rw [Nat.add_zero] at h0
    have he : ((bs.length : Int) == 0) = false := by simp; omega
    unfold maxLen at hm
    have hI : (0 : Int) < (bs.length : Int) := by omega
    generalize bs.getD 0 0 = c at *
    clear hc hne
    generalize bs.length = n at *
    go_enter Tryd.func45, Tryd.ntmps45
    go_wp2_with fail
    go_ret3
    exact ⟨rfl, HB.out⟩
def boolR (bs : List Int) : Bool × Int × Int := if bs = [] then (false, 0, 4) else if 1 < bs.getD 0 0 then (false, 0, 3) else (bs.getD 0 0 == 1, 1, 0)
theorem strOfNums_nil : strOfNums [] = ⟨#[]⟩ := rfl
def mostU (most : Int) : Nat := if 0 ≤ most then most.toNat else 18446744073709551615
def textR (most : Int) (bs : List Int) : List Int × Int × Int :=
  if (numR (mostU most) bs).2.2 ≠ 0 then ([], 0, (numR (mostU most) bs).2.2)
  else if (bs.length : Int) - (numR (mostU most) bs).2.1 < (numR (mostU most) bs).1 then ([], 0, 4)
  else ((bs.drop (numR (mostU most) bs).2.1.toNat).take (numR (mostU most) bs).1.toNat, (numR (mostU most) bs).2.1 + (numR (mostU most) bs).1, 0)
/-- 'copy(k[:], b)' into a whole variable of bytes. -/
theorem wp_copy_box {ops : Array Oper} {rest : List Oper} {o : Oper} {a : Act} {Q : Exit → Act → World → Prop} (w : World) (hgd : o.guard = none) (d s : Operand)
    (ho : o.op = .call { callee := .builtin .copy, args := #[d, s], argTypes := #[41, 41] }) (p n : Nat) (cs : Array Value) (t : TypeId) (hb : Box w p cs t) (hcs : cs.size = n) (hd : a.eval d = .slice (some ⟨p, 0, none⟩) n n)
    (vx : Value) (hs : a.eval s = vx) (xs : List Int) (hL : Lies .u8 w vx xs) (hn0 : 0 < n) (hn : n ≤ xs.length)
    (h : ∀ w', Box w' p ((xs.take n).map (Value.int .u8)).toArray t → KeepBut (fun k => k = p) w w' → wpList Tryd.prog ops Q rest (a.put o.dst (.int .i64 n)) w') : wpList Tryd.prog ops Q (o :: rest) a w := by
  rcases hL with ⟨rfl, _⟩ | ⟨hne, b, off, cap, rfl, hlt, hl, hm, hc⟩
  · simp at hn; omega
  · have hlen : ((xs.take n).map (Value.int .u8)).length = n := by simp; omega
    obtain ⟨i0, hi, hz0, hz1, hz2⟩ := info_parts info5
    have hr := run_copy_row (P := Tryd.prog) w 41 41 o.type 5 p 0 n n ⟨b, off, none⟩ xs.length cap cs t ((xs.take n).map (Value.int .u8)) Tryd.underlying41 (by simp [hi, hz1]) hb
      (by rw [hlen]; exact (Nat.min_eq_right hn).symm) (fun j v hj => by
        have hjl : j < n := by have := (List.getElem?_eq_some_iff.1 hj).1; omega
        rw [Addr.add_lit, hc j (by omega)]
        rw [List.getElem?_map, List.getElem?_take_of_lt hjl] at hj
        simp [List.getD] at hj ⊢
        obtain ⟨x, h1, h2⟩ := hj
        simp [h1, h2]) (by rw [hlen]; omega) (ints_oneCell _ _)
    rw [hlen] at hr
    have e : (cs.toList.take 0 ++ (xs.take n).map (Value.int .u8) ++ cs.toList.drop (0 + n)).toArray = ((xs.take n).map (Value.int .u8)).toArray := by
      have : cs.toList.drop (0 + n) = [] := List.drop_eq_nil_of_le (by simp [hcs])
      rw [this]; simp
    rw [e] at hr
    refine wpList_plain hgd fun K hK => ?_
    unfold Oper.wp execOp
    simp only [ho, resolve, invoke, builtin, Sem.run_bind, Sem.run_pure, Result.andThen_ok, List.map_toArray, List.map_cons, List.map_nil, hd, hs, hr]
    refine hK _ _ (h _ (setRow_heap w p cs _ t (0, 0) hb) ⟨rfl, rfl, rfl, by simp [World.setRow], fun k _ hS => setRow_other w p k _ hS⟩)
def keyR (bs : List Int) : List Int × Int × Int := if bs.length < 8 then (List.replicate 8 0, 0, 4) else (bs.take 8, 8, 0)
/-- The first result lies in a variable of its own, two more are temporaries. -/
theorem results_box3 {P : Program} {fn : Func} {q t1 t2 : Tmp} {t t0 : TypeId} {d : TypeDesc} (h : fn.results = #[.cell q t, .tmp t1, .tmp t2]) (tmps : Array Value) (w : World) (p : Nat) (hq : tmps.getD q undef = .pointer (some ⟨p, 0, none⟩)) {v1 v2 : Value} (h1 : tmps.getD t1 undef = v1) (h2 : tmps.getD t2 undef = v2) {cs : Array Value} (hb : Box w p cs t0)
    (hu : P.underlying t = some d) (hd : d.isRow = true) (hi : (P.info? t).map (·.size) = some cs.size) : (results fn tmps).run P w = .ok (.tuple #[.agg cs, v1, v2]) w := by
  subst h1
  subst h2
  have hr : w.rangeAt p 0 cs.toList := fun j v hv => by
    rw [Nat.zero_add]; exact hb.cell j v (by simpa using hv)
  have hl := run_loadVar_mid (P := P) w p 0 t cs.toList d hr hu hd (by simpa using hi)
  have hq' : tmps[q]?.getD undef = .pointer (some ⟨p, 0, none⟩) := by rw [← Array.getD_eq_getD_getElem?]; exact hq
  simp only [results, h]
  simp [hq', asAddr, hl]
end Go.Proofs.YtnljibmdcknmeabDoor
