/-
  Own texts put together: Lies, FramePlain, AppLies, Boxes, AppStr, Plain, Num, Texts, Bytes. Own work.
-/
import Derived.Test.YtlegliimgjmphaaGreatProg
import Derived.WalkKit
import Derived.WalkSpells
import Derived.WalkLawsBesides
import Derived.Handy
import Derived.OwnWalk
import Derived.Laws.BytesArg
import Derived.Maps.AppendAt
import Derived.Test.YtlegliimgjmphaaGreatRows
import Derived.ChangeSlices
import Derived.ProofKit
import Derived.OpenShut
import Derived.ChangeOld
import Derived.Below
import Derived.Carry
import Derived.Laws.AppendOwnNone
import Derived.Deep.DeepAppendWide
import Derived.Deep.WholeRow
import Derived.Deep.MidRow
import Derived.Lib.AppendStr
import Derived.Laws.BitsAllLaws
import Derived.Laws.Bits64
import Derived.Lib.TrailingZeros
namespace Go.Proofs.YtlegliimgjmphaaGreat
section
open Go.RowKit
theorem hide {p : Prop} (h : p) : Hid p := h
theorem ret_int {k : IntKind} {a b : Int} (h : a = b) : Ending.returned (.int k a) = .returned (.int k b) := by rw [h]
theorem ret_bool {a b : Bool} (h : a = b) : Ending.returned (.bool a) = .returned (.bool b) := by rw [h]
def Lies (k : IntKind) (w : World) (v : Value) (xs : List Int) : Prop :=
 (xs = [] ∧ ∃ (ao : Option Addr) (cap : Nat), v = .slice ao 0 cap ∧ (ao = none → cap = 0)) ∨
 (xs ≠ [] ∧ ∃ b off cap : Nat, v = .slice (some ⟨b, off, none⟩) xs.length cap ∧ b < w.heap.size ∧ xs.length ≤ cap ∧ cap ≤ maxLen ∧
  ∀ t, t < xs.length → w.cell? ⟨b, off + t, none⟩ = some (.int k (xs.getD t 0)))
theorem Lies.below {k : IntKind} {w w' : World} {v : Value} {xs : List Int} (hB : Below w.heap.size w w') (h : Lies k w v xs) : Lies k w' v xs := by
 rcases h with h | ⟨hx, b, off, cap, rfl, hb, hl, hm, hc⟩
 ·exact .inl h
 ·exact .inr ⟨hx, b, off, cap, rfl, Nat.lt_of_lt_of_le hb hB.size, hl, hm, fun t ht => (hB.cell (p := ⟨b, off + t, none⟩) hb).trans (hc t ht)⟩
theorem Lies.nil (k : IntKind) (w : World) : Lies k w (.slice none 0 0) [] := .inl ⟨rfl, none, 0, rfl, fun _ => rfl⟩
theorem Lies.len {k : IntKind} {w : World} {v : Value} {xs : List Int} (h : Lies k w v xs) : xs.length ≤ maxLen := by
 rcases h with ⟨rfl, _⟩ | ⟨_, b, off, cap, _, _, hl, hm, _⟩
 ·simp
 ·omega
theorem Lies.of_own {k : IntKind} {w : World} {base e : Nat} {v : Value} {n : Nat} {xs : List Int} (h : w.ownsRow base e 1 v n (xs.map (Value.int k))) : Lies k w v xs := by
 have hl : xs.length = n := by simpa using h.1
 have h0 := h
 obtain ⟨_, ⟨rfl, rfl⟩ | ⟨g, cap, cur, rfl, hg, hh, hn, hcap, hsz, htake⟩⟩ := h
 ·obtain rfl : xs = [] := List.eq_nil_of_length_eq_zero hl
  exact Lies.nil _ _
 ·by_cases hx : xs = []
  ·subst hx
   obtain rfl : n = 0 := hl.symm
   exact .inl ⟨rfl, _, _, rfl, fun h => by cases h⟩
  ·refine .inr ⟨hx, g, 0, cap, by rw [hl], (h0.lt g rfl).2, by omega, hcap, fun t ht => ?_⟩
   rw [Nat.zero_add, h0.cellAt t (by omega)]
   simp [ht]
theorem Lies.appendable {k : IntKind} {w : World} {v : Value} {xs : List Int} (h : Lies k w v xs) :
  ∃ (ao : Option Addr) (cap : Nat), v = .slice ao xs.length cap ∧ (ao = none → xs.length = 0 ∧ cap = 0) ∧ (∀ ad, ao = some ad → ∀ j u, (xs.map (Value.int k))[j]? = some u → w.cell? (ad.add j) = some u) := by
 rcases h with ⟨rfl, ao, cap, rfl, h0⟩ | ⟨_, b, off, cap, rfl, _, _, _, hc⟩
 ·exact ⟨ao, cap, rfl, fun h => ⟨rfl, h0 h⟩, fun ad _ j u hu => by simp at hu⟩
 ·refine ⟨_, cap, rfl, (fun h => by cases h), fun ad had j u hu => ?_⟩
  obtain rfl := Option.some.inj had
  have hj : j < xs.length := by
   have := (List.getElem?_eq_some_iff.1 hu).1
   simpa using this
  rw [Addr.add_lit, hc j hj]
  simp [hj] at hu ⊢
  exact hu
theorem Lies.shape {k : IntKind} {w : World} {v : Value} {xs : List Int} (h : Lies k w v xs) : ∃ (ao : Option Addr) (cap : Nat), v = .slice ao xs.length cap := by
 obtain ⟨ao, cap, e, _⟩ := h.appendable
 exact ⟨ao, cap, e⟩
end
section
open Go.ChangeShapes Go.WideShapes Go.ChangeAt Go.RowKit
theorem own : ownKnob Tryz.prog.godebug = none := by kernel_rfl
theorem laidOut : laidOutB Tryz.prog = true := by kernel_rfl
end
section
open Go.RowKit
theorem info5 : (Tryz.prog.info? 5).map (fun i => (i.zero, i.size, i.bytes)) = some (some (.int .u8 0), 1, 1) := by kernel_rfl
theorem append_lies {ops : Array Oper} {rest : List Oper} {o : Oper} {a : Act} {Q : Exit → Act → World → Prop} (w : World) (hgd : o.guard = none) (s x : Operand)
  (ho : o.op = .call { callee := .builtin .append, args := #[s, x], argTypes := #[29, 29] })
  (base : Nat) (v vx : Value) (n : Nat) (ys xs : List Int) (hs : a.eval s = v) (hown : w.ownsRow base 5 1 v n (ys.map (Value.int .u8))) (hx : a.eval x = vx) (hL : Lies .u8 w vx xs)
  (hb : n + xs.length ≤ 200000000000000) (hbase : base ≤ w.heap.size)
  (h : ∀ v' w', w'.ownsRow base 5 1 v' (n + xs.length) ((ys ++ xs).map (Value.int .u8)) → w.grownBy w' v.ownBlock → wpList Tryz.prog ops Q rest (a.put o.dst v') w') :
  wpList Tryz.prog ops Q (o :: rest) a w := by
 obtain ⟨i0, hi, hz0, hz1, hz2⟩ := info_parts info5
 rcases hL with ⟨rfl, ao, cap, rfl, h0⟩ | ⟨_, b, off, cap, rfl, _, _, _, hc⟩
 ·cases ao with
  | none =>
   obtain rfl := h0 rfl
   exact wpList_append_own_none hgd s x 29 ho base 5 i0 1 Tryz.underlying29 hi v n _ hs hown hx (h v w (by simpa using hown) (World.grownBy.refl _ _))
  | some ad =>
   exact wpList_append_own_wide w hgd s x 29 ho base 5 i0 (.int .u8 0) 1 1 Tryz.underlying29 hi hz0 hz1 hz2 rfl (by decide) v n _ hs hown ad 0 cap [] hx rfl (fun j u hj => by simp at hj) (fun u hu => by simp at hu)
    (by unfold maxLen; simp at hb; omega) (by simp at hb; omega) hbase (fun v' w' h1 h2 _ => h v' w' (by simpa using h1) h2)
 ·exact wpList_append_own_wide w hgd s x 29 ho base 5 i0 (.int .u8 0) 1 1 Tryz.underlying29 hi hz0 hz1 hz2 rfl (by decide) v n _ hs hown ⟨b, off, none⟩ xs.length cap (xs.map (Value.int .u8)) hx (by simp)
    (fun j u hu => by
     have hj : j < xs.length := by
      have := (List.getElem?_eq_some_iff.1 hu).1
      simpa using this
     rw [Addr.add_lit, hc j hj]
     simp [hj] at hu ⊢
     exact hu) (ints_oneCell _ _)
    (by unfold maxLen; omega) (by omega) hbase (fun v' w' h1 h2 _ => h v' w' (by simpa using h1) h2)
end
section
open Go.RowKit
def Box (w : World) (p : Nat) (cs : Array Value) (t : TypeId) : Prop := w.heap[p]? = some (.cells cs t (0, 0))
theorem Box.cell {w : World} {p : Nat} {cs : Array Value} {t : TypeId} (h : Box w p cs t) (i : Nat) (v : Value) (hv : cs[i]? = some v) : w.cell? ⟨p, i, none⟩ = some v := by
 rw [cell_of_row w p i cs t (0, 0) h]; exact hv
theorem Box.frozen {w : World} {p : Nat} {cs : Array Value} {t : TypeId} (h : Box w p cs t) (i : Nat) : w.frozen? ⟨p, i, none⟩ = false := by
 unfold World.frozen?
 rw [h]; simp
theorem Box.lt {w : World} {p : Nat} {cs : Array Value} {t : TypeId} (h : Box w p cs t) : p < w.heap.size := (Array.getElem?_eq_some_iff.1 h).1
structure KeepBut (S : Nat → Prop) (w w' : World) : Prop where
 os : w'.os = w.os
 tape : w'.tape = w.tape
 output : w'.output = w.output
 size : w.heap.size ≤ w'.heap.size
 block : ∀ k, k < w.heap.size → ¬ S k → w'.heap[k]? = w.heap[k]?
theorem KeepBut.refl (S : Nat → Prop) (w : World) : KeepBut S w w := ⟨rfl, rfl, rfl, Nat.le_refl _, fun _ _ _ => rfl⟩
theorem KeepBut.trans {S S' : Nat → Prop} {a b c : World} (h : KeepBut S a b) (h' : KeepBut S' b c) (hs : ∀ k, k < a.heap.size → S' k → S k) : KeepBut S a c :=
 ⟨h'.os.trans h.os, h'.tape.trans h.tape, h'.output.trans h.output, Nat.le_trans h.size h'.size,
  fun k hk hS => (h'.block k (Nat.lt_of_lt_of_le hk h.size) (fun h2 => hS (hs k hk h2))).trans (h.block k hk hS)⟩
theorem KeepBut.mono {S S' : Nat → Prop} {w w' : World} (h : KeepBut S w w') (hs : ∀ k, S k → S' k) : KeepBut S' w w' :=
 ⟨h.os, h.tape, h.output, h.size, fun k hk hS => h.block k hk (fun h2 => hS (hs k h2))⟩
theorem KeepBut.of_below {w w' : World} (S : Nat → Prop) (h : Below w.heap.size w w') : KeepBut S w w' := ⟨h.os, h.tape, h.output, h.size, fun k hk _ => h.block k hk⟩
theorem KeepBut.below {S : Nat → Prop} {w w' : World} {B : Nat} (h : KeepBut S w w') (hB : B ≤ w.heap.size) (hs : ∀ k, S k → B ≤ k) : Below B w w' :=
 ⟨h.os, h.tape, h.output, h.size, fun k hk => h.block k (Nat.lt_of_lt_of_le hk hB) (fun h2 => Nat.lt_irrefl _ (Nat.lt_of_lt_of_le hk (hs k h2)))⟩
theorem KeepBut.setCell {S : Nat → Prop} {a w : World} (h : KeepBut S a w) {p : Addr} (hp : S p.block ∨ a.heap.size ≤ p.block) (u : Value) : KeepBut S a (w.setCell p u) := by
 refine ⟨h.os, h.tape, h.output, by simpa using h.size, fun k hk hS => ?_⟩
 have hne : k ≠ p.block := by
  intro e; subst e
  rcases hp with hp | hp
  ·exact hS hp
  ·omega
 rw [Below.heap_setCell w p u k hne]
 exact h.block k hk hS
theorem KeepBut.alloc {S : Nat → Prop} {a w : World} (h : KeepBut S a w) (o : Obj) : KeepBut S a (w.alloc o) :=
 ⟨h.os, h.tape, h.output, Nat.le_trans h.size (by simp), fun k hk hS => (Below.heap_alloc w o k (Nat.lt_of_lt_of_le hk h.size)).trans (h.block k hk hS)⟩
theorem KeepBut.drew {S : Nat → Prop} {a w : World} (h : KeepBut S a w) : KeepBut S a w.drew := ⟨h.os, h.tape, h.output, h.size, h.block⟩
theorem Box.keep {S : Nat → Prop} {w w' : World} {p : Nat} {cs : Array Value} {t : TypeId} (h : Box w p cs t) (hk : KeepBut S w w') (hS : ¬ S p) : Box w' p cs t :=
 (hk.block p h.lt hS).trans h
theorem Box.set {w : World} {p i : Nat} {cs : Array Value} {t : TypeId} {v : Value} (h : Box w p cs t) : Box (w.setCell ⟨p, i, none⟩ v) p (cs.setIfInBounds i v) t := by
 unfold Box at h ⊢
 simp [World.setCell, Array.getElem?_modify, h]
theorem owns_keep {S : Nat → Prop} {w w' : World} {base e size n : Nat} {v : Value} {xs : List Value} (h : w.ownsRow base e size v n xs) (hk : KeepBut S w w') (hS : ∀ g, v.ownBlock = some g → ¬ S g) : w'.ownsRow base e size v n xs := by
 obtain ⟨hl, h0 | ⟨g, cap, cur, rfl, hb, hh, h1, h2, h3, h4⟩⟩ := h
 ·exact ⟨hl, .inl h0⟩
 ·refine ⟨hl, .inr ⟨g, cap, cur, rfl, hb, ?_, h1, h2, h3, h4⟩⟩
  exact (hk.block g (Array.getElem?_eq_some_iff.1 hh).1 (hS g rfl)).trans hh
theorem wp_load_box {P : Program} {ops : Array Oper} {rest : List Oper} {op : Oper} {a : Act} {w : World} {Q : Exit → Act → World → Prop} {t t0 : TypeId} {d : TypeDesc} (hgd : op.guard = none) (x : Operand) (ho : op.op = .load t x)
  (p : Nat) (hx : a.eval x = .pointer (some ⟨p, 0, none⟩)) {cs : Array Value} (hb : Box w p cs t0) (hu : P.underlying t = some d) (hd : d.isRow = true) (hi : (P.info? t).map (·.size) = some cs.size)
  (h : wpList P ops Q rest (a.put op.dst (.agg cs)) w) : wpList P ops Q (op :: rest) a w := by
 have hr : w.rangeAt p 0 cs.toList := fun j v hv => by
  rw [Nat.zero_add]; exact hb.cell j v (by simpa using hv)
 exact wpList_load_mid hgd t x ho p 0 hx cs.toList d hr hu hd (by simpa using hi) (by simpa using h)
theorem wp_store_box {P : Program} {ops : Array Oper} {rest : List Oper} {op : Oper} {a : Act} {w : World} {Q : Exit → Act → World → Prop} {t t0 : TypeId} (hgd : op.guard = none) (hdst : op.dst = none) (x y : Operand) (ho : op.op = .store t x y)
  (p : Nat) (hx : a.eval x = .pointer (some ⟨p, 0, none⟩)) {cs cs' : Array Value} (hy : a.eval y = .agg cs') (hb : Box w p cs t0) (hsz : cs.size = cs'.size) (hi : (P.info? t).map (·.size) = some cs'.size) (h1 : cs'.all (·.oneCell') = true)
  (h : ∀ w', Box w' p cs' t0 → KeepBut (fun k => k = p) w w' → wpList P ops Q rest a w') : wpList P ops Q (op :: rest) a w := by
 refine wpList_plain hgd fun K hK => ?_
 have hr := run_storeVar_row (P := P) w p t0 t cs cs' hb hi hsz h1
 unfold Oper.wp execOp
 simp only [ho, hx, hy, Instr.storeAt, Instr.sureAddr, Sem.run_bind, Sem.run_pure, Result.andThen_ok, hr]
 show K (a.put op.dst undef) _
 rw [hdst]
 refine hK _ _ (h _ ?_ ?_)
 ·exact setRow_heap w p cs cs' t0 (0, 0) hb
 ·exact ⟨rfl, rfl, rfl, by simp [World.setRow], fun k _ hS => setRow_other w p k cs' hS⟩
theorem box_new (w : World) (cs : Array Value) (t : TypeId) : Box (w.alloc (.cells cs t)) w.heap.size cs t := heap_alloc_last w _
theorem results_box {P : Program} {fn : Func} {q : Tmp} {t t0 : TypeId} {d : TypeDesc} (h : fn.results = #[.cell q t]) (tmps : Array Value) (w : World) (p : Nat) (hq : tmps.getD q undef = .pointer (some ⟨p, 0, none⟩)) {cs : Array Value} (hb : Box w p cs t0)
  (hu : P.underlying t = some d) (hd : d.isRow = true) (hi : (P.info? t).map (·.size) = some cs.size) : (results fn tmps).run P w = .ok (.agg cs) w := by
 have hr : w.rangeAt p 0 cs.toList := fun j v hv => by
  rw [Nat.zero_add]; exact hb.cell j v (by simpa using hv)
 have hl := run_loadVar_mid (P := P) w p 0 t cs.toList d hr hu hd (by simpa using hi)
 have hq' : tmps[q]?.getD undef = .pointer (some ⟨p, 0, none⟩) := by rw [← Array.getD_eq_getD_getElem?]; exact hq
 simp only [results, h]
 simp [hq', asAddr, hl]
end
section
open Go.RowKit
def strI (s : ByteArray) : List Int := s.data.toList.map fun b => (b.toNat : Int)
theorem strI_length (s : ByteArray) : (strI s).length = s.size := by simp [strI]
theorem strI_byte (s : ByteArray) : ∀ c ∈ strI s, 0 ≤ c ∧ c < 256 := by
 intro c hc
 unfold strI at hc
 rw [List.mem_map] at hc
 obtain ⟨b, _, rfl⟩ := hc
 have := UInt8.toNat_lt b
 omega
theorem grown_keep {w w' : World} {v : Value} {S : Nat → Prop} (hg : w.grownBy w' v.ownBlock) (hS : ∀ g, v.ownBlock = some g → S g) : KeepBut S w w' :=
 ⟨hg.os, hg.tape, hg.output, hg.size, fun k hk hn => hg.block k hk (fun e => hn (hS k e.symm))⟩
end
section
open Go
def pw (k : Nat) : Int := (2 : Int) ^ k % 18446744073709551616
theorem pw_lt (k : Nat) (h : k < 64) : pw k = ((2 ^ k : Nat) : Int) := by
 unfold pw
 have : (2 : Nat) ^ k < 2 ^ 64 := Nat.pow_lt_pow_right (by decide) h
 rw [Int.emod_eq_of_lt]
 ·simp
 ·exact Int.pow_nonneg (by decide)
 ·have e : ((2 ^ k : Nat) : Int) = (2 : Int) ^ k := by simp
  rw [← e]; omega
end
section
open Go.RowKit
theorem only_in (n : Nat) (h1 : n < 64) (w : World) :
  Calls Tryz.prog 164 #[.int .i64 n] w fun e w' => e = .returned (.int .u64 (((2 ^ n : Nat) : Int))) ∧ w' = w := by
 have H : Hid (IntKind.u64.wrap ((2 : Int) ^ n) = ((2 ^ n : Nat) : Int)) := by
  refine hide ?_
  rw [IntKind.wrap_u64]
  exact pw_lt n h1
 go_enter Tryz.func164, Tryz.ntmps164
 go_wp2
 go_ret
 exact ⟨ret_int H.out, rfl⟩
def places (b : Int) : Nat := (b % 64).toNat
end
section
open Go
def shortF : Nat → Nat → List Int
 | 0, n => [(n : Int)]
 | f + 1, n => if n < 128 then [(n : Int)] else ((n % 128 + 128 : Nat) : Int) :: shortF f (n / 128)
theorem shortF_same : ∀ (f g n : Nat), n ≤ f → n ≤ g → shortF f n = shortF g n
 | 0, 0, _, _, _ => rfl
 | 0, g + 1, n, h, _ => by
  obtain rfl : n = 0 := by omega
  simp [shortF]
 | f + 1, 0, n, _, h => by
  obtain rfl : n = 0 := by omega
  simp [shortF]
 | f + 1, g + 1, n, hf, hg => by
  unfold shortF
  split
  ·rfl
  ·rw [shortF_same f g (n / 128) (by omega) (by omega)]
def shortS (n : Nat) : List Int := shortF n n
theorem shortS_eq (n : Nat) : shortS n = if n < 128 then [(n : Int)] else ((n % 128 + 128 : Nat) : Int) :: shortS (n / 128) := by
 unfold shortS
 cases n with
 | zero => simp [shortF]
 | succ n =>
  rw [shortF]
  split
  ·rfl
  ·rw [shortF_same n ((n + 1) / 128) ((n + 1) / 128) (by omega) (by omega)]
theorem shortS_lt {n : Nat} (h : n < 128) : shortS n = [(n : Int)] := by rw [shortS_eq, if_pos h]
theorem shortS_ge {n : Nat} (h : ¬ n < 128) : shortS n = ((n % 128 + 128 : Nat) : Int) :: shortS (n / 128) := by rw [shortS_eq, if_neg h]
theorem shortS_len : ∀ (k n : Nat), n < 128 ^ (k + 1) → (shortS n).length ≤ k + 1
 | 0, n, h => by rw [shortS_lt (by simpa using h)]; simp
 | k + 1, n, h => by
  by_cases hn : n < 128
  ·rw [shortS_lt hn]; simp
  ·rw [shortS_ge hn]
   have := shortS_len k (n / 128) (by rw [Nat.div_lt_iff_lt_mul (by decide)]; rw [Nat.pow_succ] at h; exact h)
   simp; omega
theorem shortS_len10 {n : Nat} (h : n < 18446744073709551616) : (shortS n).length ≤ 10 :=
 shortS_len 9 n (Nat.lt_trans h (by decide))
theorem shortS_bytes (n : Nat) : ∀ c ∈ shortS n, 0 ≤ c ∧ c < 256 := by
 induction n using Nat.strongRecOn with
 | ind n ih =>
  by_cases hn : n < 128
  ·rw [shortS_lt hn]; intro c hc; simp at hc; omega
  ·rw [shortS_ge hn]
   intro c hc
   rcases List.mem_cons.1 hc with rfl | hc
   ·omega
   ·exact ih (n / 128) (by omega) c hc
def sizeS : List Int → Nat
 | [] => 0
 | c :: cs => if c < 128 then 1 else if sizeS cs = 0 then 0 else sizeS cs + 1
theorem sizeS_le : ∀ xs : List Int, sizeS xs ≤ xs.length
 | [] => by simp [sizeS]
 | c :: cs => by
  have := sizeS_le cs
  unfold sizeS
  split
  ·simp
  ·split <;> simp <;> omega
def sizeFrom (xs : List Int) (k : Nat) : Nat := if sizeS (xs.drop k) = 0 then 0 else k + sizeS (xs.drop k)
theorem sizeFrom_zero (xs : List Int) : sizeFrom xs 0 = sizeS xs := by
 unfold sizeFrom
 rw [List.drop_zero]
 split <;> omega
theorem sizeFrom_end (xs : List Int) (k : Nat) (h : xs.length ≤ k) : sizeFrom xs k = 0 := by simp [sizeFrom, List.drop_of_length_le h, sizeS]
theorem drop_cons (xs : List Int) (k : Nat) (h : k < xs.length) : xs.drop k = xs.getD k 0 :: xs.drop (k + 1) := by
 rw [List.drop_eq_getElem_cons h]; simp [h]
theorem sizeFrom_hit (xs : List Int) (k : Nat) (h : k < xs.length) (hc : xs.getD k 0 < 128) : sizeFrom xs k = k + 1 := by
 have e : sizeS (xs.drop k) = 1 := by rw [drop_cons xs k h]; unfold sizeS; rw [if_pos hc]
 unfold sizeFrom; rw [e]; simp
theorem sizeFrom_miss (xs : List Int) (k : Nat) (h : k < xs.length) (hc : ¬ xs.getD k 0 < 128) : sizeFrom xs k = sizeFrom xs (k + 1) := by
 by_cases h0 : sizeS (xs.drop (k + 1)) = 0
 ·have e : sizeS (xs.drop k) = 0 := by rw [drop_cons xs k h]; unfold sizeS; rw [if_neg hc, if_pos h0]
  unfold sizeFrom; rw [e, h0]; simp
 ·have e : sizeS (xs.drop k) = sizeS (xs.drop (k + 1)) + 1 := by rw [drop_cons xs k h, sizeS, if_neg hc, if_neg h0]
  unfold sizeFrom; rw [e, if_neg h0, if_neg (by omega)]; omega
theorem sizeS_last : ∀ (xs : List Int), sizeS xs ≠ 0 → xs.getD (sizeS xs - 1) 0 < 128 ∧ ∀ i, i < sizeS xs - 1 → 128 ≤ xs.getD i 0
 | [], h => absurd rfl h
 | c :: cs, h => by
  unfold sizeS at h ⊢
  split
  ·rename_i hc
   simp [hc]
  ·rename_i hc
   rw [if_neg hc] at h
   split at h
   ·exact absurd rfl h
   ·rename_i h0
    have ih := sizeS_last cs h0
    rw [if_neg h0]
    obtain ⟨m, hm⟩ : ∃ m, sizeS cs = m + 1 := ⟨sizeS cs - 1, by omega⟩
    rw [hm] at ih ⊢
    refine ⟨by simpa using ih.1, fun i hi => ?_⟩
    cases i with
    | zero => simp; omega
    | succ i => simpa using ih.2 i (by omega)
def valS : List Int → Nat
 | [] => 0
 | c :: cs => (c % 128).toNat + 128 * valS cs
theorem valS_lt : ∀ xs : List Int, valS xs < 2 ^ (7 * xs.length)
 | [] => by simp [valS]
 | c :: cs => by
  have := valS_lt cs
  unfold valS
  have e : 2 ^ (7 * (c :: cs).length) = 128 * 2 ^ (7 * cs.length) := by
   rw [List.length_cons, Nat.mul_add, Nat.pow_add, Nat.mul_comm]
  rw [e]
  have : (c % 128).toNat < 128 := by omega
  omega
theorem valS_snoc : ∀ (xs : List Int) (c : Int), valS (xs ++ [c]) = valS xs + (c % 128).toNat * 2 ^ (7 * xs.length)
 | [], c => by simp [valS]
 | x :: xs, c => by
  have := valS_snoc xs c
  simp only [List.cons_append, valS, this, List.length_cons]
  have e : 2 ^ (7 * (xs.length + 1)) = 128 * 2 ^ (7 * xs.length) := by rw [Nat.mul_add, Nat.pow_add, Nat.mul_comm]
  rw [e, Nat.mul_add, Nat.mul_left_comm]
  omega
theorem take_snoc (xs : List Int) (k : Nat) (h : k < xs.length) : xs.take (k + 1) = xs.take k ++ [xs.getD k 0] := by
 rw [List.take_succ_eq_append_getElem h]; simp [h]
theorem shortS_val : ∀ (xs : List Int), (∀ c ∈ xs, 0 ≤ c ∧ c < 256) → sizeS xs ≠ 0 → (sizeS xs > 1 → xs.getD (sizeS xs - 1) 0 ≠ 0) → shortS (valS (xs.take (sizeS xs))) = xs.take (sizeS xs)
 | [], _, h, _ => absurd rfl h
 | c :: cs, hb, h, hl => by
  have hc := hb c (by simp)
  have hbs : ∀ x ∈ cs, 0 ≤ x ∧ x < 256 := fun x hx => hb x (by simp [hx])
  by_cases h1 : c < 128
  ·have e : sizeS (c :: cs) = 1 := by simp [sizeS, h1]
   rw [e]
   simp only [List.take_succ_cons, List.take_zero, valS]
   rw [shortS_lt (by omega)]
   simp; omega
  ·have h0 : sizeS cs ≠ 0 := by
    intro e; apply h; simp [sizeS, h1, e]
   have e : sizeS (c :: cs) = sizeS cs + 1 := by simp [sizeS, h1, h0]
   rw [e] at hl ⊢
   obtain ⟨m, hm⟩ : ∃ m, sizeS cs = m + 1 := ⟨sizeS cs - 1, by omega⟩
   have hlast : cs.getD m 0 ≠ 0 := by have := hl (by omega); simpa [hm] using this
   have ih := shortS_val cs hbs h0 (fun _ => by rw [hm]; exact hlast)
   simp only [List.take_succ_cons, valS]
   have hpos : 0 < valS (cs.take (sizeS cs)) := by
    have hml : m < cs.length := by have := sizeS_le cs; omega
    rw [hm, take_snoc cs m hml, valS_snoc]
    have h3 := (sizeS_last cs h0).1
    rw [hm] at h3
    simp only [Nat.add_sub_cancel] at h3
    have h2 : 0 ≤ cs.getD m 0 := by
     have := hbs (cs.getD m 0) (by simp [List.getD, hml])
     exact this.1
    have : 0 < (cs.getD m 0 % 128).toNat := by omega
    have : 0 < (cs.getD m 0 % 128).toNat * 2 ^ (7 * (cs.take m).length) := Nat.mul_pos this (Nat.two_pow_pos _)
    omega
   generalize valS (cs.take (sizeS cs)) = V at *
   rw [shortS_ge (by omega)]
   have e1 : ((c % 128).toNat + 128 * V) / 128 = V := by omega
   have e2 : (((c % 128).toNat + 128 * V) % 128 + 128 : Nat) = c.toNat := by omega
   rw [e1, ih]
   congr 1
   have : ((((c % 128).toNat + 128 * V) % 128 + 128 : Nat) : Int) = (c.toNat : Int) := by rw [e2]
   rw [this]; omega
theorem size_short : ∀ (n : Nat) (ys : List Int), sizeS (shortS n ++ ys) = (shortS n).length := by
 intro n
 induction n using Nat.strongRecOn with
 | ind n ih =>
  intro ys
  by_cases hn : n < 128
  ·rw [shortS_lt hn]; simp [sizeS]; omega
  ·rw [shortS_ge hn]
   have := ih (n / 128) (by omega) ys
   have hl : (shortS (n / 128)).length ≠ 0 := by
    rw [shortS_eq]; split <;> simp
   simp only [List.cons_append, sizeS, this, List.length_cons]
   rw [if_neg (by omega), if_neg hl]
theorem val_short (n : Nat) : valS (shortS n) = n := by
 induction n using Nat.strongRecOn with
 | ind n ih =>
  by_cases hn : n < 128
  ·rw [shortS_lt hn]; simp [valS]; omega
  ·rw [shortS_ge hn]
   have := ih (n / 128) (by omega)
   simp only [valS, this]
   omega
theorem short_last (n : Nat) : n ≠ 0 → (shortS n).getD ((shortS n).length - 1) 0 ≠ 0 := by
 induction n using Nat.strongRecOn with
 | ind n ih =>
  intro h0
  by_cases hn : n < 128
  ·rw [shortS_lt hn]; simp; omega
  ·rw [shortS_ge hn]
   have := ih (n / 128) (by omega) (by omega)
   have hl : (shortS (n / 128)).length ≠ 0 := by rw [shortS_eq]; split <;> simp
   obtain ⟨m, hm⟩ : ∃ m, (shortS (n / 128)).length = m + 1 := ⟨(shortS (n / 128)).length - 1, by omega⟩
   rw [hm] at this
   simp only [List.length_cons, hm]
   simpa using this
theorem short_tenth (n : Nat) (h : n < 18446744073709551616) (hl : (shortS n).length = 10) : (shortS n).getD 9 0 ≤ 1 := by
 have step : ∀ (k m : Nat), (shortS m).length = k + 2 → ¬ m < 128 ∧ (shortS (m / 128)).length = k + 1 ∧ (shortS m).getD (k + 1) 0 = (shortS (m / 128)).getD k 0 := by
  intro k m hm
  by_cases hn : m < 128
  ·rw [shortS_lt hn] at hm; simp at hm
  ·rw [shortS_ge hn] at hm ⊢
   refine ⟨hn, by simpa using hm, by simp⟩
 obtain ⟨_, l9, e9⟩ := step 8 n hl
 obtain ⟨_, l8, e8⟩ := step 7 _ l9
 obtain ⟨_, l7, e7⟩ := step 6 _ l8
 obtain ⟨_, l6, e6⟩ := step 5 _ l7
 obtain ⟨_, l5, e5⟩ := step 4 _ l6
 obtain ⟨_, l4, e4⟩ := step 3 _ l5
 obtain ⟨_, l3, e3⟩ := step 2 _ l4
 obtain ⟨_, l2, e2⟩ := step 1 _ l3
 obtain ⟨_, l1, e1⟩ := step 0 _ l2
 rw [e9, e8, e7, e6, e5, e4, e3, e2, e1]
 have hd : n / 128 / 128 / 128 / 128 / 128 / 128 / 128 / 128 / 128 ≤ 1 := by omega
 rw [shortS_lt (by omega)]
 simp; omega
end
section
open Go.RowKit
set_option maxHeartbeats 400000 in
theorem size_any (v : Value) (xs : List Int) (w : World) (h : Lies .u8 w v xs) :
  Calls Tryz.prog 256 #[v] w fun e w' => e = .returned (.int .i64 (sizeS xs)) ∧ w' = w := by
 have hlen := h.len
 unfold maxLen at hlen
 rcases h with ⟨rfl, ao, cap, rfl, _⟩ | ⟨_, b, off, cap, rfl, _, _, _, hc⟩
 ·go_enter Tryz.func256, Tryz.ntmps256
  go_wp2
  go_rounds 1
  go_ret
  exact ⟨rfl, rfl⟩
 ·have H0 : Hid (sizeFrom xs 0 = sizeS xs) := hide (sizeFrom_zero xs)
  go_enter Tryz.func256, Tryz.ntmps256
  go_wp2
  go_loop [3, 4, 7] (fun _ _ i => ∃ k : Nat, k ≤ xs.length ∧ i = .int .i64 k ∧ Hid (sizeFrom xs k = sizeS xs)) (fun _ _ i => xs.length - (intOf i).toNat)
  case atStart => exact ⟨0, Nat.zero_le _, rfl, H0⟩
  case round =>
   obtain ⟨k, hk, rfl, HK⟩ := hrel
   by_cases hlt : k < xs.length
   ·have hcell := hc k hlt
    by_cases hs : xs.getD k 0 < 128
    ·have HE : Hid (sizeS xs = k + 1) := hide (by rw [← HK.out, sizeFrom_hit xs k hlt hs])
     generalize xs.getD k 0 = c at *
     clear hc
     go_wp2
     go_ret
     exact ⟨ret_int (by rw [HE.out]; simp), rfl⟩
    ·have HE : Hid (sizeFrom xs (k + 1) = sizeS xs) := hide (by rw [← HK.out, sizeFrom_miss xs k hlt hs])
     generalize xs.getD k 0 = c at *
     clear hc
     go_wp2
     go_round
     case rel => exact ⟨k + 1, by omega, by go_num, HE⟩
     case measure => simp [intOf]; omega
   ·have HE : Hid (sizeS xs = 0) := hide (by rw [← HK.out, sizeFrom_end xs k (by omega)])
    clear hc
    go_wp2
    go_ret
    exact ⟨ret_int (by rw [HE.out]; rfl), rfl⟩
set_option maxHeartbeats 400000 in
theorem copy_any (v : Value) (xs : List Int) (room : Nat) (w : World) (h : Lies .u8 w v xs) (hr : xs.length + room ≤ 140737488355328) :
  Calls Tryz.prog 233 #[v, .int .i64 room] w fun e w' => e = .returned (.slice (some ⟨w.heap.size, 0, none⟩) xs.length (xs.length + room)) ∧
   w'.ownsRow w.heap.size 5 1 (.slice (some ⟨w.heap.size, 0, none⟩) xs.length (xs.length + room)) xs.length (xs.map (Value.int .u8)) ∧ Below w.heap.size w w' := by
 obtain ⟨ao, cap, rfl, hnone, hcells⟩ := h.appendable
 obtain ⟨i0, hi, hz0, hz1, hz2⟩ := info_parts info5
 clear h
 generalize hn : xs.length = n at *
 have hcap : (xs.map (Value.int .u8)).length = n * 1 := by simp [hn]
 clear hn
 generalize hy : xs.map (Value.int .u8) = ys at *
 have h1c : ∀ u ∈ ys, u.oneCell' = true := by rw [← hy]; exact ints_oneCell _ _
 clear hy
 go_enter Tryz.func233, Tryz.ntmps233
 go_wp2_with (at_make; refine wpList_make_own _ rfl _ _ 29 rfl w.heap.size 5 i0 (.int .u8 0) 1 Tryz.underlying29 hi hz0 hz1 _ _ _ (n + room) rfl rfl (by omega) ?b2 ?b3 (Nat.le_refl _) ?_)
 case b2 => rw [hz2]; omega
 case b3 => unfold maxLen; omega
 intro w0 hown0 hgrow0
 have hc0 : ∀ ad, ao = some ad → ∀ j u, ys[j]? = some u → w0.cell? (ad.add j) = some u := fun ad had j u hu => hgrow0.cell (hcells ad had j u hu) (by simp)
 have hB0 : Below w.heap.size w w0 := (Below.refl _ _).grown hgrow0 (Nat.le_refl _) (fun k h => by cases h)
 clear hcells hgrow0
 have HC := hide hc0
 clear hc0
 go_wp2_with (at_builtin; refine wpList_append_fits_any _ rfl _ _ 29 rfl w.heap.size 5 i0 1 Tryz.underlying29 hi hz1 w.heap.size 0 (n + room) _ rfl hown0 ao n cap ys rfl hcap hnone HC.out h1c (by omega) ?_; intro w1 hown1 hgrow1)
 simp only [Nat.zero_add, List.nil_append] at hown1
 go_ret
 exact ⟨by simp, hown1, hB0.grown hgrow1 hB0.size (fun k hk => by cases hk; exact Nat.le_refl _)⟩
theorem or128 (m : Nat) : bits BinOp.or IntKind.u8 ((m : Int) % 256) 128 = ((m % 128 + 128 : Nat) : Int) := by
 rw [u8_or _ _ (by omega) (by omega) (by decide) (by decide)]
 have key : ∀ x : Fin 256, (x.val ||| 128) = x.val % 128 + 128 := by decide +kernel
 have := key ⟨((m : Int) % 256).toNat, by omega⟩
 simp only at this
 show ((((m : Int) % 256).toNat ||| 128 : Nat) : Int) = _
 rw [this]
 omega
set_option maxRecDepth 100000 in
set_option maxHeartbeats 400000 in
theorem short_any (v : Value) (xs : List Int) (n : Nat) (w : World) (h : Lies .u8 w v xs) (hr : xs.length + 10 ≤ 140737488355328) (hn : n < 18446744073709551616) :
  Calls Tryz.prog 187 #[v, .int .u64 n] w fun e w' => ∃ v', e = .returned v' ∧
   w'.ownsRow w.heap.size 5 1 v' (xs ++ shortS n).length ((xs ++ shortS n).map (Value.int .u8)) ∧ Below w.heap.size w w' := by
 obtain ⟨i0, hi, hz0, hz1, hz2⟩ := info_parts info5
 have hl10 := shortS_len10 hn
 go_enter Tryz.func187, Tryz.ntmps187
 go_wp2_with (go_at_call 233; refine (copy_any v xs 10 w h hr).mono ?_; rintro e w0 ⟨rfl, hown0, hB0⟩)
 go_loopw [1, 5] (fun m' o wr => ∃ (m : Nat) (zs : List Int), m' = .int .u64 m ∧ m < 18446744073709551616 ∧ Hid (zs ++ shortS m = xs ++ shortS n) ∧ wr.ownsRow w.heap.size 5 1 o zs.length (zs.map (Value.int .u8)) ∧ Below w.heap.size w wr) (fun m' _ _ => (intOf m').toNat)
 case atStart => exact ⟨n, xs, rfl, hn, rfl, hown0, hB0⟩
 case round =>
  obtain ⟨m, zs, rfl, hm, HZ, hown, hB⟩ := hrel
  have hzl : zs.length + (shortS m).length = xs.length + (shortS n).length := by rw [← List.length_append, HZ.out, List.length_append]
  have hbase := hB.size
  by_cases hlt : m < 128
  ·have hsl : (shortS m).length = 1 := by rw [shortS_lt hlt]; rfl
   have HL : Hid ((zs ++ [(m : Int)]) = xs ++ shortS n) := by rw [← HZ.out, shortS_lt hlt]; rfl
   have hz64 : zs.length + 1 ≤ 140737488355328 := by omega
   clear hzl
   go_wp2_with (at_builtin; refine wpList_append_own _ rfl _ _ 29 rfl w.heap.size 5 i0 (.int .u8 0) 1 1 Tryz.underlying29 hi hz0 hz1 hz2 rfl (by decide) _ _ _ rfl (hown.alloc _) ⟨wr.heap.size, 0, none⟩ 1 1 [.int .u8 m] rfl rfl (cell_one_new _ _ _) (by simp [Value.oneCell']) (by unfold maxLen; omega) (by omega) (by simp; omega) ?_; intro v' w1 hown1 hgrow1 _)
   go_ret
   refine ⟨v', rfl, ?_, (hB.alloc hbase _).grown hgrow1 (by simp; omega) (fun k hk => (hown.lt k hk).1)⟩
   rw [← HL.out]
   simpa using hown1
  ·have HL : Hid ((zs ++ [((m % 128 + 128 : Nat) : Int)]) ++ shortS (m / 128) = xs ++ shortS n) := by rw [← HZ.out, shortS_ge hlt]; simp [Hid]
   have hsl : (shortS (m / 128)).length + 1 = (shortS m).length := by rw [shortS_ge hlt]; simp
   have hz64 : zs.length + 1 ≤ 140737488355328 := by omega
   have ho := or128 m
   generalize hcc : ((m % 128 + 128 : Nat) : Int) = c at *
   clear hcc hzl hsl
   go_wp2_with (at_builtin; refine wpList_append_own _ rfl _ _ 29 rfl w.heap.size 5 i0 (.int .u8 0) 1 1 Tryz.underlying29 hi hz0 hz1 hz2 rfl (by decide) _ _ _ rfl (hown.alloc _) ⟨wr.heap.size, 0, none⟩ 1 1 [.int .u8 c] rfl rfl (cell_one_new _ _ _) (by simp [Value.oneCell']) (by unfold maxLen; omega) (by omega) (by simp; omega) ?_; intro v' w1 hown1 hgrow1 _)
   go_roundw
   case rel => exact ⟨m / 128, zs ++ [c], by go_num, by omega, HL, by simpa using hown1, (hB.alloc hbase _).grown hgrow1 (by simp; omega) (fun k hk => (hown.lt k hk).1)⟩
   case measure => simp [intOf]; omega
theorem and127 (c : Int) (h0 : 0 ≤ c) (h1 : c < 256) : bits BinOp.and IntKind.u8 c 127 = (((c % 128).toNat : Nat) : Int) := by
 rw [u8_and _ _ h0 h1 (by decide) (by decide)]
 have := nat_mask7 c.toNat
 show ((c.toNat &&& 127 : Nat) : Int) = _
 rw [this]; omega
theorem val_fit (c : Int) (k : Nat) (hk : k < 10) (h9 : k = 9 → c ≤ 1) (h0 : 0 ≤ c) : (c % 128).toNat * 2 ^ (7 * k) < 18446744073709551616 := by
 by_cases h : k = 9
 ·subst h
  have := h9 rfl
  have : (c % 128).toNat ≤ 1 := by omega
  have : (c % 128).toNat * 2 ^ (7 * 9) ≤ 1 * 2 ^ (7 * 9) := Nat.mul_le_mul_right _ this
  exact Nat.lt_of_le_of_lt this (by decide)
 ·have h1 : (c % 128).toNat ≤ 127 := by omega
  have h2 : 2 ^ (7 * k) ≤ 2 ^ 56 := Nat.pow_le_pow_right (by decide) (by omega)
  have := Nat.mul_le_mul h1 h2
  exact Nat.lt_of_le_of_lt this (by decide)
theorem val_step (xs : List Int) (k : Nat) (hk : k < xs.length) (c : Int) (hc : xs.getD k 0 = c) (h0 : 0 ≤ c) (h1 : c < 256) (hf : (c % 128).toNat * 2 ^ (7 * k) < 18446744073709551616) (hv : valS (xs.take k) < 18446744073709551616) :
  bits BinOp.or IntKind.u64 ((valS (xs.take k) : Nat) : Int) (IntKind.u64.wrap (IntKind.u64.wrap (bits BinOp.and IntKind.u8 c 127) * 2 ^ (7 * k))) = ((valS (xs.take (k + 1)) : Nat) : Int) := by
 have hl : (xs.take k).length = k := by simp; omega
 have hlt := valS_lt (xs.take k)
 rw [hl] at hlt
 rw [and127 c h0 h1]
 have e1 : IntKind.u64.wrap (((c % 128).toNat : Nat) : Int) = (((c % 128).toNat : Nat) : Int) := by rw [IntKind.wrap_u64]; omega
 rw [e1]
 have e2 : IntKind.u64.wrap ((((c % 128).toNat : Nat) : Int) * 2 ^ (7 * k)) = (((c % 128).toNat * 2 ^ (7 * k) : Nat) : Int) := by
  rw [IntKind.wrap_u64]
  have : ((((c % 128).toNat : Nat) : Int) * 2 ^ (7 * k)) = (((c % 128).toNat * 2 ^ (7 * k) : Nat) : Int) := by simp
  rw [this]; omega
 rw [e2, u64_or_nat _ _ hv hf, Nat.or_comm, nat_join (7 * k) _ _ (Nat.mul_mod_left _ _) hlt, take_snoc xs k hk, valS_snoc, hl, hc, Nat.add_comm]
set_option maxHeartbeats 1600000 in
theorem long_ok (b off cap s : Nat) (xs : List Int) (w : World) (hb : b < w.heap.size) (hxs : xs ≠ []) (hl : xs.length ≤ cap) (hm : cap ≤ maxLen)
  (hc : ∀ t, t < xs.length → w.cell? ⟨b, off + t, none⟩ = some (.int .u8 (xs.getD t 0)))
  (hs : Hid (sizeS xs = s)) (h1 : 1 ≤ s) (hz : 1 < s → xs.getD (s - 1) 0 ≠ 0) (h10 : s ≤ 10) (hten : s = 10 → xs.getD 9 0 ≤ 1)
  (hx : ∀ c ∈ xs, 0 ≤ c ∧ c < 256) :
  Calls Tryz.prog 248 #[.slice (some ⟨b, off, none⟩) xs.length cap] w fun e w' => e = .returned (.tuple #[.int .u64 ((valS (xs.take s) : Nat) : Int), .int .i64 s, .int .i64 0]) ∧ w' = w := by
 have hszc : Calls Tryz.prog 256 #[.slice (some ⟨b, off, none⟩) xs.length cap] w fun e w' => e = .returned (.int .i64 s) ∧ w' = w := by
  have := size_any (.slice (some ⟨b, off, none⟩) xs.length cap) xs w (.inr ⟨hxs, b, off, cap, rfl, hb, hl, hm, hc⟩)
  rw [hs.out] at this
  exact this
 have hsl : s ≤ xs.length := by rw [← hs.out]; exact sizeS_le xs
 have hla := hc (s - 1) (by omega)
 unfold maxLen at hm
 have e0 : ((s : Int) == 0) = false := by simp; omega
 have e1 : (s : Int) - 1 = ((s - 1 : Nat) : Int) := by omega
 have hfit : Hid (∀ k, k < s → (xs.getD k 0 % 128).toNat * 2 ^ (7 * k) < 18446744073709551616 ∧ 0 ≤ xs.getD k 0 ∧ xs.getD k 0 < 256) := by
  intro k hk
  have hcb : 0 ≤ xs.getD k 0 ∧ xs.getD k 0 < 256 := hx _ (by simp [List.getD, show k < xs.length by omega])
  refine ⟨val_fit _ k (by omega) (fun h9 => ?_) hcb.1, hcb⟩
  subst h9
  exact hten (by omega)
 have hval : Hid (∀ k, k ≤ s → valS (xs.take k) < 18446744073709551616) := by
  intro k
  induction k with
  | zero => intro _; simp [valS]
  | succ k ih =>
   intro hk
   have h1 := ih (by omega)
   have h2 := (hfit.out k (by omega)).1
   have hl' : (xs.take k).length = k := by simp; omega
   have h3 := valS_lt (xs.take k)
   rw [hl'] at h3
   rw [take_snoc xs k (by omega), valS_snoc, hl']
   by_cases h9 : k = 9
   ·subst h9
    have := hten (by omega)
    have : (xs.getD 9 0 % 128).toNat ≤ 1 := by have := (hfit.out 9 (by omega)).2; omega
    have : (xs.getD 9 0 % 128).toNat * 2 ^ (7 * 9) ≤ 1 * 2 ^ (7 * 9) := Nat.mul_le_mul_right _ this
    have e63 : (2 : Nat) ^ (7 * 9) = 9223372036854775808 := by decide
    rw [e63] at h3 this ⊢
    omega
   ·have h4 : (2 : Nat) ^ (7 * k) ≤ 2 ^ 56 := Nat.pow_le_pow_right (by decide) (by omega)
    have h5 : (xs.getD k 0 % 128).toNat ≤ 127 := by have := (hfit.out k (by omega)).2; omega
    have h6 := Nat.mul_le_mul h5 h4
    have e56 : (2 : Nat) ^ 56 = 72057594037927936 := by decide
    rw [e56] at h4 h6
    omega
 clear hx
 have cases3 : (s ≤ 1) ∨ (1 < s ∧ s < 10) ∨ s = 10 := by omega
 generalize hlg : xs.getD (s - 1) 0 = last at *
 have hlg' := hide hlg
 clear hlg
 have e2 : 1 < s → (last == 0) = false := fun h => by simpa using hz h
 have e4 : s = 10 → last ≤ 1 := fun h => by have := hten h; rw [← hlg'.out, h]; exact this
 clear hz hten hlg'
 rcases cases3 with hs0 | ⟨h1s, hs10⟩ | rfl
 ·have hs1 : (s : Int) ≤ 1 := by omega
  have hla0 : w.cell? ⟨b, off, none⟩ = some (.int .u8 last) := by simpa [show s - 1 = 0 by omega] using hla
  have e3 : ((s : Int) == 10) = false := by simp; omega
  clear e4 e2
  go_enter Tryz.func248, Tryz.ntmps248
  go_wp2_with (go_at_call 256; refine hszc.mono ?_; rintro e w' ⟨rfl, rfl⟩)
  go_loop [7, 8, 9, 39] (fun n _ _ i => ∃ k : Nat, k ≤ s ∧ i = .int .i64 k ∧ n = .int .u64 ((valS (xs.take k) : Nat) : Int)) (fun _ _ _ i => s - (intOf i).toNat)
  case atStart => exact ⟨0, Nat.zero_le _, rfl, rfl⟩
  case round =>
   obtain ⟨k, hk, rfl, rfl⟩ := hrel
   by_cases hlt : k < s
   ·have hcell := hc k (by omega)
    obtain ⟨hf, hcb0, hcb1⟩ := hfit.out k hlt
    have HS := hide (val_step xs k (by omega) _ rfl hcb0 hcb1 hf (hval.out k hk))
    generalize xs.getD k 0 = c at *
    clear hf hc hszc hla
    go_wp2
    go_round
    case rel => exact ⟨k + 1, by omega, by go_num, by rw [← HS.out]⟩
    case measure => simp [intOf]; omega
   ·obtain rfl : k = s := by omega
    go_wp2
    go_ret3
    exact ⟨rfl, rfl⟩
 ·have e2' := e2 h1s
  have e3 : ((s : Int) == 10) = false := by simp; omega
  clear e4 e2
  go_enter Tryz.func248, Tryz.ntmps248
  go_wp2_with (go_at_call 256; refine hszc.mono ?_; rintro e w' ⟨rfl, rfl⟩)
  go_loop [7, 8, 9, 39] (fun n _ _ i => ∃ k : Nat, k ≤ s ∧ i = .int .i64 k ∧ n = .int .u64 ((valS (xs.take k) : Nat) : Int)) (fun _ _ _ i => s - (intOf i).toNat)
  case atStart => exact ⟨0, Nat.zero_le _, rfl, rfl⟩
  case round =>
   obtain ⟨k, hk, rfl, rfl⟩ := hrel
   by_cases hlt : k < s
   ·have hcell := hc k (by omega)
    obtain ⟨hf, hcb0, hcb1⟩ := hfit.out k hlt
    have HS := hide (val_step xs k (by omega) _ rfl hcb0 hcb1 hf (hval.out k hk))
    generalize xs.getD k 0 = c at *
    clear hf hc hszc hla
    go_wp2
    go_round
    case rel => exact ⟨k + 1, by omega, by go_num, by rw [← HS.out]⟩
    case measure => simp [intOf]; omega
   ·obtain rfl : k = s := by omega
    go_wp2
    go_ret3
    exact ⟨rfl, rfl⟩
 ·have e2' := e2 (by decide)
  have e4' := e4 rfl
  clear e4 e2
  go_enter Tryz.func248, Tryz.ntmps248
  go_wp2_with (go_at_call 256; refine hszc.mono ?_; rintro e w' ⟨rfl, rfl⟩)
  go_loop [7, 8, 9, 39] (fun n _ _ i => ∃ k : Nat, k ≤ 10 ∧ i = .int .i64 k ∧ n = .int .u64 ((valS (xs.take k) : Nat) : Int)) (fun _ _ _ i => 10 - (intOf i).toNat)
  case atStart => exact ⟨0, Nat.zero_le _, rfl, rfl⟩
  case round =>
   obtain ⟨k, hk, rfl, rfl⟩ := hrel
   by_cases hlt : k < 10
   ·have hcell := hc k (by omega)
    obtain ⟨hf, hcb0, hcb1⟩ := hfit.out k hlt
    have HS := hide (val_step xs k (by omega) _ rfl hcb0 hcb1 hf (hval.out k hk))
    generalize xs.getD k 0 = c at *
    clear hf hc hszc hla
    go_wp2
    go_round
    case rel => exact ⟨k + 1, by omega, by go_num, by rw [← HS.out]⟩
    case measure => simp [intOf]; omega
   ·obtain rfl : k = 10 := by omega
    go_wp2
    go_ret3
    exact ⟨rfl, rfl⟩
theorem convert_empty (ao : Option Addr) (cap : Nat) (w : World) : (convert 29 9 (.slice ao 0 cap)).run Tryz.prog w = .ok (.string (strOfNums [])) w := by
 cases ao with
 | none => exact run_convert_bytes_nil (P := Tryz.prog) w 29 5 Tryz.underlying29 Tryz.underlying5 0 cap 9 Tryz.underlying9
 | some ad =>
  have hl : (loadCells ad 0).run Tryz.prog w = .ok (([] : List Int).map (Value.int .u8)).toArray w := by
   have := run_loadCells_list (P := Tryz.prog) w ad [] (fun j v hj => by simp at hj)
   simpa using this
  rw [run_convert_bytes_string w 29 9 5 _ 0 cap Tryz.underlying29 Tryz.underlying5 Tryz.underlying9, run_bytesToString w _ 0 cap [] hl]
  rfl
theorem Lies.convert {w : World} {v : Value} {xs : List Int} (h : Lies .u8 w v xs) : (convert 29 9 v).run Tryz.prog w = .ok (.string (strOfNums xs)) w := by
 rcases h with ⟨rfl, ao, cap, rfl, _⟩ | ⟨_, b, off, cap, rfl, _, _, _, hc⟩
 ·exact convert_empty ao cap w
 ·exact run_convert_bytes_arg w 29 5 Tryz.underlying29 Tryz.underlying5 b off xs.length cap xs rfl hc 9 Tryz.underlying9
def longS (xs : List Int) : Int × Int × Int :=
 if sizeS xs = 0 then (0, 0, 4)
 else if 1 < sizeS xs ∧ xs.getD (sizeS xs - 1) 0 = 0 then (0, 0, 3)
 else if 10 < sizeS xs ∨ sizeS xs = 10 ∧ 1 < xs.getD (sizeS xs - 1) 0 then (0, 0, 3)
 else (((valS (xs.take (sizeS xs)) : Nat) : Int), (sizeS xs : Int), 0)
set_option maxHeartbeats 800000 in
theorem long_any (v : Value) (xs : List Int) (w : World) (h : Lies .u8 w v xs) (hx : ∀ c ∈ xs, 0 ≤ c ∧ c < 256) :
  Calls Tryz.prog 248 #[v] w fun e w' => e = .returned (.tuple #[.int .u64 (longS xs).1, .int .i64 (longS xs).2.1, .int .i64 (longS xs).2.2]) ∧ w' = w := by
 have hszc := size_any v xs w h
 have hlen := h.len
 unfold maxLen at hlen
 have hsl := sizeS_le xs
 unfold longS
 by_cases h0 : sizeS xs = 0
 ·rw [if_pos h0]
  rw [h0] at hszc
  clear hsl h0 h hx
  go_enter Tryz.func248, Tryz.ntmps248
  go_wp2_with (go_at_call 256; refine hszc.mono ?_; rintro e w' ⟨rfl, rfl⟩)
  go_ret3
  exact ⟨rfl, rfl⟩
 ·rw [if_neg h0]
  rcases h with ⟨rfl, _⟩ | ⟨hxs, b, off, cap, rfl, hb, hl, hm, hc⟩
  ·exact absurd rfl h0
  ·by_cases hA : 1 < sizeS xs ∧ xs.getD (sizeS xs - 1) 0 = 0
   ·rw [if_pos hA]
    obtain ⟨h1, h2⟩ := hA
    have hla := hc (sizeS xs - 1) (by omega)
    rw [h2] at hla
    clear hc h2 hx
    unfold maxLen at hm
    generalize sizeS xs = s at *
    have e0 : ((s : Int) == 0) = false := by simp; omega
    have e1 : (s : Int) - 1 = ((s - 1 : Nat) : Int) := by omega
    go_enter Tryz.func248, Tryz.ntmps248
    go_wp2_with (go_at_call 256; refine hszc.mono ?_; rintro e w' ⟨rfl, rfl⟩)
    go_ret3
    exact ⟨rfl, rfl⟩
   ·rw [if_neg hA]
    by_cases hB : 10 < sizeS xs ∨ sizeS xs = 10 ∧ 1 < xs.getD (sizeS xs - 1) 0
    ·rw [if_pos hB]
     have hla := hc (sizeS xs - 1) (by omega)
     clear hc hx
     unfold maxLen at hm
     generalize xs.getD (sizeS xs - 1) 0 = last at *
     generalize sizeS xs = s at *
     have e0 : ((s : Int) == 0) = false := by simp; omega
     have e1 : (s : Int) - 1 = ((s - 1 : Nat) : Int) := by omega
     have e2 : (last == 0) = false := by simp; omega
     rcases hB with hB | ⟨hB1, hB2⟩
     ·clear hA
      go_enter Tryz.func248, Tryz.ntmps248
      go_wp2_with (go_at_call 256; refine hszc.mono ?_; rintro e w' ⟨rfl, rfl⟩)
      go_ret3
      exact ⟨rfl, rfl⟩
     ·clear hA
      have e3 : ((s : Int) == 10) = true := by simp; omega
      have hs1 : (1 : Int) < s := by omega
      have hs2 : (s : Int) ≤ 10 := by omega
      clear hB1
      go_enter Tryz.func248, Tryz.ntmps248
      go_wp2_with (go_at_call 256; refine hszc.mono ?_; rintro e w' ⟨rfl, rfl⟩)
      go_ret3
      exact ⟨rfl, rfl⟩
    ·rw [if_neg hB]
     refine long_ok b off cap (sizeS xs) xs w hb hxs hl hm hc rfl (by omega) (fun h h' => hA ⟨h, h'⟩) (by omega) (fun h => ?_) hx
     have : ¬ 1 < xs.getD (sizeS xs - 1) 0 := fun h' => hB (.inr ⟨h, h'⟩)
     rw [h] at this
     simpa using this
end
end Go.Proofs.YtlegliimgjmphaaGreat
