/-
  Own texts put together: RgLaw, AppStr, Plain, Num, Texts. Own work.
-/
import Derived.Test.YtencmgepffdodaaGreatG02
import Derived.Test.YtencmgepffdodaaGreatG01
import Derived.RangeFuncNested
import Derived.Lib.AppendStr
import Derived.Maps.AppendAt
import Derived.Laws.BitsAllLaws
import Derived.Laws.Bits64
import Derived.Lib.TrailingZeros
import Derived.Test.YtencmgepffdodaaGreatProg
import Derived.WalkKit
import Derived.WalkSpells
import Derived.WalkLawsBesides
namespace Go.Proofs.YtencmgepffdodaaGreat
section
open Go Go.RowKit

/-- Nothing that holds cells has turned; beyond B what holds none may have. -/
def Calm (B : Nat) (A A' : World) : Prop := KeepBut (fun b => B ≤ b ∧ ∃ o : Obj, A.heap[b]? = some o ∧ o.isCells = false) A A'
theorem Calm.of_below {B : Nat} {A A' : World} (h : Below A.heap.size A A') : Calm B A A' := KeepBut.of_below _ h
theorem Calm.putObj {B b : Nat} {A : World} {o : Obj} (hb : A.heap[b]? = some o) (ho : o.isCells = false) (hB : B ≤ b) (o' : Obj) : Calm B A (A.putObj b o') :=
  ⟨rfl, rfl, rfl, by simp, fun k _ hS => World.putObj_heap_other (fun e => hS (by subst e; exact ⟨hB, o, hb, ho⟩))⟩
theorem Calm.box {B p : Nat} {A A' : World} {cs : Array Value} {t : TypeId} (h : Calm B A A') (hb : Box A p cs t) : Box A' p cs t := hb.keep h (fun ⟨_, o, ho, hc⟩ => by
  have hb2 : A.heap[p]? = _ := hb
  rw [hb2] at ho
  cases ho
  cases hc)
theorem Calm.below {B C : Nat} {A A' : World} (h : Calm B A A') (hC : C ≤ B) (hA : C ≤ A.heap.size) : Below C A A' := KeepBut.below h hA (fun _ hk => by have := hk.1; omega)
/-- What an iterator does that hands N things to whatever loop. -/
def Gives (P : Program) (gf : FuncId) (lb : Array Value) (N : Nat) (V : Nat → Nat → World → Array Value → Prop) (Pre : World → Prop) (W : World) : Prop :=
  ∀ (l : Nat) (J : Nat → World → Prop) (Jx : World → Prop),
    (∀ k A B, J k A → Below A.heap.size A B → J k B) → (∀ A B, Jx A → Below A.heap.size A B → Jx B) → (∀ k A, J k A → Pre A) →
    (∀ k A vs, k < N → J k A → W.heap.size + 3 ≤ A.heap.size → V k W.heap.size A vs → YieldAt Fence.wide 0 P l vs A fun e B => (e = .returned (.bool true) ∧ J (k + 1) B ∧ KeepBut (fun b => b < W.heap.size ∨ W.heap.size + 3 ≤ b) A B) ∨ (e = .returned (.bool false) ∧ Jx B)) →
    J 0 W → Calls P gf (#[.func (.yield l) #[] #[]] ++ lb) W fun e W' => (∃ v, e = .returned v) ∧ (J N W' ∨ Jx W')
/-- How a round may end. -/
def post11 (B : Nat) (In Ix : World → Prop) (A : World) : Exit → Act → World → Prop
  | .normal, _, A' => KeepBut (fun b => b < B ∨ B + 5 ≤ b) A A' ∧ In A'
  | .ret, _, A' => KeepBut (fun b => b < B ∨ B + 5 ≤ b) A A' ∧ Ix A'
  | _, _, _ => False
theorem wpIn_range11 {P : Program} {gf : FuncId} {lb : Array Value} {N : Nat} {V : Nat → Nat → World → Array Value → Prop} {Pre : World → Prop} {g : Operand} {ps : Array Tmp} {assign body : Code} {Q : Exit → Act → World → Prop} {a : Act} {w : World} {n : Nat}
    (hg : a.eval g = .func (.func gf) #[] lb) (eg : ∀ args w, (callFunc gf args).run P w = .ok (.enter gf args) w)
    (hseq : ∀ W, W.heap.size = w.heap.size + 2 → Below w.heap.size w W → Gives P gf lb N V Pre W)
    (hV : ∀ k H A vs, V k H A vs → vs.size = ps.size) (hVc : ∀ k H A A' vs, V k H A vs → Calm w.heap.size A A' → V k H A' vs)
    (I : Nat → World → Prop) (Ix : World → Prop) (hI : ∀ k A A', I k A → Calm w.heap.size A A' → I k A') (hIx : ∀ A A', Ix A → Calm w.heap.size A A' → Ix A') (hPre : ∀ k A, I k A → Pre A) (h0 : I 0 w)
    (Ax : Array Value → Act → World → Prop) (hAx : ∀ vs a' A A', Ax vs a' A → Calm w.heap.size A A' → Ax vs a' A')
    (hassign : ∀ (l k : Nat) (vs : Array Value) (A : World) (K : Act → World → Prop), V k (w.heap.size + 2) A vs → (∀ a' A', Below A.heap.size A A' → Ax vs a' A' → K a' A') →
      assign.wpIn (Fence.wide.inRound l) 0 P (Exit.then K (fun _ _ _ => False)) { tmps := (ps.zip vs).foldl (fun t (p, v) => t.setIfInBounds p v) a.tmps, defers := [] } A)
    (hbody : ∀ (l k : Nat) (vs : Array Value) (a' : Act) (A : World), k < N → w.heap.size + 5 ≤ A.heap.size → I k A → V k (w.heap.size + 2) A vs → Ax vs a' A →
      body.wpIn (Fence.wide.inRound l) 0 P (post11 w.heap.size (I (k + 1)) Ix A) a' A)
    (hdone : ∀ (D : Nat) (W : World), w.heap.size ≤ D → I N W → W.heap[D]? = some (.deferred (some [])) → Q .normal { a with defers := { target := .collected D, args := #[] } :: a.defers } W)
    (hstop : ∀ (D : Nat) (W : World), w.heap.size ≤ D → Ix W → W.heap[D]? = some (.deferred (some [])) → Code.ret.wpIn Fence.wide n P Q { a with defers := { target := .collected D, args := #[] } :: a.defers } W) :
    (Code.rangeFunc g ps assign body).wpIn Fence.wide n P Q a w := by
  refine wpIn_rangeFunc ?_
  intro fn _
  obtain ⟨rec, hrec⟩ : ∃ rec : LoopState → Option Code → Loop, rec = fun st pe => { state := st, pending := pe, fn, tmps := a.tmps, params := ps, assign, body, defers := w.heap.size } := ⟨_, rfl⟩
  obtain ⟨W1, hW1⟩ : ∃ W1, (w.alloc (.deferred (some []))).alloc (.loop (rec .ready none)) = W1 := ⟨_, rfl⟩
  have hsz : W1.heap.size = w.heap.size + 2 := by rw [← hW1]; simp
  have hL1 : W1.heap[w.heap.size + 1]? = some (.loop (rec .ready none)) := by
    rw [← hW1]; have := World.alloc_heap_new (w.alloc (.deferred (some []))) (.loop (rec .ready none)); rwa [World.size_alloc] at this
  have hK1 : W1.heap[w.heap.size]? = some (.deferred (some [])) := by
    rw [← hW1]; exact (Below.heap_alloc _ _ _ (by simp)).trans (World.alloc_heap_new w _)
  have hb1 : Below w.heap.size w W1 := by
    rw [← hW1]; exact ((Below.refl _ w).alloc (Nat.le_refl _) _).alloc (by simp) _
  have hI1 : I 0 W1 := hI 0 w W1 h0 (Calm.of_below hb1)
  refine ⟨w.heap.size + 1, [{ target := .collected w.heap.size, args := #[] }], W1, { target := .fn (.func gf) lb, args := #[.func (.yield (w.heap.size + 1)) #[] #[]] }, W1, gf,
    #[.func (.yield (w.heap.size + 1)) #[] #[]] ++ lb, W1, ?_, ?_, fun _ _ => trivial, ?_, wide_deep, ?_⟩
  · rw [← hW1, hrec]; exact run_enterLoop_outer _ _ _ _ _
  · simp only [resolve, hg]
    simp [go_sem]
  · simp [invoke, go_sem, eg]
  · have hkeep : ∀ {A B : World} {b : Nat} {o : Obj}, A.heap[b]? = some o → Below A.heap.size A B → B.heap[b]? = some o := fun hb hB => (hB.block _ (Array.getElem?_eq_some_iff.1 hb).1).trans hb
    refine callsIn_wide.2 ((hseq W1 hsz hb1 (w.heap.size + 1)
      (fun k W => I k W ∧ W.heap[w.heap.size + 1]? = some (.loop (rec .ready none)) ∧ W.heap[w.heap.size]? = some (.deferred (some [])))
      (fun W => Ix W ∧ W.heap[w.heap.size + 1]? = some (.loop (rec .done (some .ret))) ∧ W.heap[w.heap.size]? = some (.deferred (some [])))
      (fun k A B h hB => ⟨hI k A B h.1 (Calm.of_below hB), hkeep h.2.1 hB, hkeep h.2.2 hB⟩)
      (fun A B h hB => ⟨hIx A B h.1 (Calm.of_below hB), hkeep h.2.1 hB, hkeep h.2.2 hB⟩)
      (fun k A h => hPre k A h.1) ?_ ⟨hI1, hL1, hK1⟩).mono ?_)
    · rintro k A vs hk ⟨hi, hl, hd⟩ hA hv
      rw [hsz] at hA hv ⊢
      have hy := run_yield (P := P) (args := vs) hl (by rw [hrec]; exact hV k _ A vs hv)
      rw [hrec] at hy
      refine ⟨fn, _, assign, body, hy, roundIn_of_wpIn trivial (hassign _ k vs A _ hv ?_)⟩
      clear hy
      intro a' A1 hB1 hax
      have hl1 := hkeep hl hB1
      have hd1 := hkeep hd hB1
      have hi1 := hI k A A1 hi (Calm.of_below hB1)
      have hv1 := hVc k _ A A1 vs hv (Calm.of_below hB1)
      have hlt : w.heap.size + 1 < A1.heap.size := (Array.getElem?_eq_some_iff.1 hl1).1
      refine ⟨_, run_beginRound hl1 (by rw [hrec]), ?_⟩
      obtain ⟨A2, hA2⟩ : ∃ A2, A1.putObj (w.heap.size + 1) (.loop { rec .ready none with state := .busy }) = A2 := ⟨_, rfl⟩
      have hc2 : Calm w.heap.size A1 A2 := by rw [← hA2]; exact Calm.putObj hl1 rfl (by omega) _
      have hl2 : A2.heap[w.heap.size + 1]? = some (.loop { rec .ready none with state := .busy }) := by rw [← hA2]; exact World.putObj_heap_same hlt
      have hd2 : A2.heap[w.heap.size]? = some (.deferred (some [])) := by rw [← hA2]; exact (World.putObj_heap_other (by omega)).trans hd1
      have hk2 : KeepBut (fun b => b = w.heap.size + 1) A1 A2 := by rw [← hA2]; exact ⟨rfl, rfl, rfl, by simp, fun j _ hS => World.putObj_heap_other hS⟩
      have hs2 : A1.heap.size ≤ A2.heap.size := hk2.size
      rw [hA2]
      refine wpIn_mono (hbody _ k vs a' A2 hk (by have := hB1.size; omega) (hI k A1 A2 hi1 hc2) (hVc k _ A1 A2 vs hv1 hc2) (hAx vs a' A1 A2 hax hc2)) ?_
      have fin : ∀ (jump : Option Code) (A3 : World), KeepBut (fun b => b < w.heap.size ∨ w.heap.size + 5 ≤ b) A2 A3 →
          (Instr.endRound (w.heap.size + 1) jump).run P A3 = .ok (.bool jump.isNone) (A3.putObj (w.heap.size + 1) (.loop (rec (if jump.isNone then .ready else .done) jump))) ∧
          A3.heap[w.heap.size + 1]? = some (.loop { rec .ready none with state := .busy }) ∧
          (A3.putObj (w.heap.size + 1) (.loop (rec (if jump.isNone then .ready else .done) jump))).heap[w.heap.size + 1]? = some (.loop (rec (if jump.isNone then .ready else .done) jump)) ∧
          (A3.putObj (w.heap.size + 1) (.loop (rec (if jump.isNone then .ready else .done) jump))).heap[w.heap.size]? = some (.deferred (some [])) := fun jump A3 hk3 => by
        have hl3 : A3.heap[w.heap.size + 1]? = _ := (hk3.block _ (Array.getElem?_eq_some_iff.1 hl2).1 (by omega)).trans hl2
        have hd3 : A3.heap[w.heap.size]? = _ := (hk3.block _ (Array.getElem?_eq_some_iff.1 hd2).1 (by omega)).trans hd2
        have := run_endRound (P := P) jump hl3
        rw [hrec] at this ⊢
        exact ⟨this, by rw [hrec] at hl3; exact hl3, World.putObj_heap_same (Array.getElem?_eq_some_iff.1 hl3).1, (World.putObj_heap_other (by omega)).trans hd3⟩
      rintro e a3 A3 hp
      cases e with
      | normal =>
        obtain ⟨hk3, hi3⟩ := hp
        obtain ⟨hr, hl3, hl4, hd4⟩ := fin none A3 hk3
        refine ⟨_, _, hr, .inl ⟨rfl, ⟨hI _ _ _ hi3 (Calm.putObj hl3 rfl (by omega) _), hl4, hd4⟩, ?_⟩⟩
        have hk4 : KeepBut (fun b => b = w.heap.size + 1) A3 (A3.putObj (w.heap.size + 1) (.loop (rec (if (none : Option Code).isNone then .ready else .done) none))) := ⟨rfl, rfl, rfl, by simp, fun j _ hS => World.putObj_heap_other hS⟩
        refine (((KeepBut.of_below (fun b => b < w.heap.size + 2 ∨ w.heap.size + 2 + 3 ≤ b) hB1).trans hk2 (fun b _ h => .inl (by omega))).trans hk3 (fun b _ h => ?_)).trans hk4 (fun b _ h => .inl (by omega))
        omega
      | ret =>
        obtain ⟨hk3, hi3⟩ := hp
        obtain ⟨hr, hl3, hl4, hd4⟩ := fin (some .ret) A3 hk3
        exact ⟨_, _, hr, .inr ⟨rfl, hIx _ _ hi3 (Calm.putObj hl3 rfl (by omega) _), hl4, hd4⟩⟩
      | exit id => exact hp.elim
      | goto t => exact hp.elim
      | panic ch => exact hp.elim
      | outgrown => exact hp.elim
    · rintro e W2 ⟨⟨v, rfl⟩, (⟨hi, hl, hd⟩ | ⟨hi, hl, hd⟩)⟩
      · exact ⟨none, _, by have := run_endLoop (P := P) hl (by rw [hrec]; simp); rw [hrec] at this; exact this, hdone _ _ (Nat.le_refl _) (hI _ _ _ hi (Calm.putObj hl rfl (by omega) _)) ((World.putObj_heap_other (by omega)).trans hd)⟩
      · exact ⟨some .ret, _, by have := run_endLoop (P := P) hl (by rw [hrec]; simp); rw [hrec] at this; exact this, hstop _ _ (Nat.le_refl _) (hIx _ _ hi (Calm.putObj hl rfl (by omega) _)) ((World.putObj_heap_other (by omega)).trans hd)⟩
end
section
open Go.RowKit

/-- A text's bytes as numbers. -/
def strI (s : ByteArray) : List Int := s.data.toList.map fun b => (b.toNat : Int)
theorem strI_length (s : ByteArray) : (strI s).length = s.size := by simp [strI]
theorem strI_cells (s : ByteArray) : Lib.strCells s = (strI s).map (Value.int .u8) := by simp [Lib.strCells, strI, List.map_map, Function.comp_def]
theorem strI_byte (s : ByteArray) : ∀ c ∈ strI s, 0 ≤ c ∧ c < 256 := by
  intro c hc
  unfold strI at hc
  rw [List.mem_map] at hc
  obtain ⟨b, _, rfl⟩ := hc
  have := UInt8.toNat_lt b
  omega
/-- Where the new row lies: where the old one lay, or in a new block. -/
theorem str_block (w : World) (ty : TypeId) (v : Value) (n : Nat) (xs : List Value) (hown : w.ownsRow 0 5 1 v n xs) (s : ByteArray) (hb : n + s.size ≤ 140737488355328) (v' : Value) (w' : World)
    (hr : (Builtin.append_ #[45, 9] ty #[v, .string s]).run Tryz.prog w = .ok v' w') : v'.ownBlock = v.ownBlock ∨ v'.ownBlock = some w.heap.size := by
  obtain ⟨i0, hi, hz0, hz1, hz2⟩ := info_parts info5
  have hxl : xs.length = n := by simpa using hown.1
  rcases hown.2 with ⟨rfl, rfl⟩ | ⟨g, cap, cur, rfl, _, hg, hnc, hcm, hcs, htake⟩
  · obtain ⟨v2, w2, hr2, _, _, h4⟩ := Lib.run_append_own_string (P := Tryz.prog) w w.heap.size 45 9 ty 5 i0 Tryz.underlying45 Tryz.underlying9 hi hz0 hz1 hz2 (.slice none 0 0) 0 [] (World.ownsRow_nil _ _ _ _) s (by unfold maxLen; omega) (by omega) (Nat.le_refl _)
    by_cases h0 : s.size = 0
    · rw [hr2] at hr
      cases hr
      rw [h4.2 ⟨rfl, h0⟩]
      exact .inl rfl
    · have h1 := run_append_nil_string (P := Tryz.prog) w 45 9 ty 5 i0 (.int .u8 0) Tryz.underlying45 Tryz.underlying9 hi hz0 s (by omega) (by omega) (by rw [hz2]; omega)
      rw [h1] at hr
      cases hr
      exact .inr rfl
  · by_cases hroom : n + s.size ≤ cap
    · have h1 := Lib.run_append_room_string (P := Tryz.prog) w 45 9 ty 5 i0 Tryz.underlying45 Tryz.underlying9 hi hz1 g n cap cur hg s hroom (by omega)
      rw [h1] at hr
      cases hr
      exact .inl rfl
    · have holds : ∀ j u, xs[j]? = some u → w.cell? ((⟨g, 0, none⟩ : Addr).add j) = some u := hown.cells (g := g) rfl
      have h1 := Lib.run_append_grow_string (P := Tryz.prog) w 45 9 ty 5 i0 (.int .u8 0) Tryz.underlying45 Tryz.underlying9 hi hz0 ⟨g, 0, none⟩ n cap xs (by rw [hz1]; simpa using hxl) holds s (by omega) (by omega) (by rw [hz2]; exact growslice_fits (by omega) (by omega))
      rw [h1] at hr
      cases hr
      exact .inr rfl
/-- 'append(v, s...)', s a text. -/
theorem append_str {ops : Array Oper} {rest : List Oper} {o : Oper} {a : Act} {Q : Exit → Act → World → Prop} (w : World) (hgd : o.guard = none) (sl x : Operand)
    (ho : o.op = .call { callee := .builtin .append, args := #[sl, x], argTypes := #[45, 9] })
    (v : Value) (n : Nat) (ys : List Int) (hs : a.eval sl = v) (hown : w.ownsRow 0 5 1 v n (ys.map (Value.int .u8))) (s : ByteArray) (hx : a.eval x = .string s) (hb : n + s.size ≤ 140737488355328)
    (h : ∀ v' w', w'.ownsRow 0 5 1 v' (n + s.size) ((ys ++ strI s).map (Value.int .u8)) → w.grownBy w' v.ownBlock → (v'.ownBlock = v.ownBlock ∨ v'.ownBlock = some w.heap.size) → wpList Tryz.prog ops Q rest (a.put o.dst v') w') :
    wpList Tryz.prog ops Q (o :: rest) a w := by
  obtain ⟨i0, hi, hz0, hz1, hz2⟩ := info_parts info5
  refine wpList_plain hgd fun K hK => ?_
  obtain ⟨v', w', hr, h2, h3, _⟩ := Lib.run_append_own_string (P := Tryz.prog) w 0 45 9 o.type 5 i0 Tryz.underlying45 Tryz.underlying9 hi hz0 hz1 hz2 v n _ hown s (by unfold maxLen; omega) hb (Nat.zero_le _)
  have h5 := str_block w o.type v n _ hown s hb v' w' hr
  unfold Oper.wp execOp
  simp only [ho, resolve, invoke, builtin, Sem.run_bind, Sem.run_pure, Result.andThen_ok, List.map_toArray, List.map_cons, List.map_nil, hs, hx, hr]
  exact hK _ _ (h v' w' (by rw [List.map_append, ← strI_cells]; exact h2) h3 h5)
/-- 'append(v, c)', c one byte that lies in a new block. -/
theorem grown_keep {w w' : World} {v : Value} {S : Nat → Prop} (hg : w.grownBy w' v.ownBlock) (hS : ∀ g, v.ownBlock = some g → S g) : KeepBut S w w' :=
  ⟨hg.os, hg.tape, hg.output, hg.size, fun k hk hn => hg.block k hk (fun e => hn (hS k e.symm))⟩
end
section
open Go

/-- 2 to the k, in 64 bits. -/
def pw (k : Nat) : Int := (2 : Int) ^ k % 18446744073709551616
theorem pw_lt (k : Nat) (h : k < 64) : pw k = ((2 ^ k : Nat) : Int) := by
  unfold pw
  have : (2 : Nat) ^ k < 2 ^ 64 := Nat.pow_lt_pow_right (by decide) h
  rw [Int.emod_eq_of_lt]
  · simp
  · exact Int.pow_nonneg (by decide)
  · have e : ((2 ^ k : Nat) : Int) = (2 : Int) ^ k := by simp
    rw [← e]; omega
end
section
open Go.RowKit

theorem only_in (n : Nat) (h1 : n < 64) (w : World) :
    Calls Tryz.prog 103 #[.int .i64 n] w fun e w' => e = .returned (.int .u64 (((2 ^ n : Nat) : Int))) ∧ w' = w := by
  have H : Hid (IntKind.u64.wrap ((2 : Int) ^ n) = ((2 ^ n : Nat) : Int)) := by
    refine hide ?_
    rw [IntKind.wrap_u64]
    exact pw_lt n h1
  go_enter Tryz.func103, Tryz.ntmps103
  go_wp2
  go_ret
  exact ⟨ret_int H.out, rfl⟩
/-- By how many places: from 0 to 63. -/
def places (b : Int) : Nat := (b % 64).toNat
end
section
open Go

/-- The text of a number: seven bits a byte, the lowest first; the first argument bounds how many. -/
def shortF : Nat → Nat → List Int
  | 0, n => [(n : Int)]
  | f + 1, n => if n < 128 then [(n : Int)] else ((n % 128 + 128 : Nat) : Int) :: shortF f (n / 128)
theorem shortF_same : ∀ (f g n : Nat), n ≤ f → n ≤ g → shortF f n = shortF g n
  | 0, 0, _, _, _ => rfl
  | 0, g + 1, n, h, _ => by
    obtain rfl : n = 0 := by omega
    simp [shortF]
  | f + 1, 0, n, _, h => by
    obtain rfl : n = 0 := by omega
    simp [shortF]
  | f + 1, g + 1, n, hf, hg => by
    unfold shortF
    split
    · rfl
    · rw [shortF_same f g (n / 128) (by omega) (by omega)]
/-- The text of a number. -/
def shortS (n : Nat) : List Int := shortF n n
theorem shortS_eq (n : Nat) : shortS n = if n < 128 then [(n : Int)] else ((n % 128 + 128 : Nat) : Int) :: shortS (n / 128) := by
  unfold shortS
  cases n with
  | zero => simp [shortF]
  | succ n =>
    rw [shortF]
    split
    · rfl
    · rw [shortF_same n ((n + 1) / 128) ((n + 1) / 128) (by omega) (by omega)]
theorem shortS_lt {n : Nat} (h : n < 128) : shortS n = [(n : Int)] := by rw [shortS_eq, if_pos h]
theorem shortS_ge {n : Nat} (h : ¬ n < 128) : shortS n = ((n % 128 + 128 : Nat) : Int) :: shortS (n / 128) := by rw [shortS_eq, if_neg h]
theorem shortS_len : ∀ (k n : Nat), n < 128 ^ (k + 1) → (shortS n).length ≤ k + 1
  | 0, n, h => by rw [shortS_lt (by simpa using h)]; simp
  | k + 1, n, h => by
    by_cases hn : n < 128
    · rw [shortS_lt hn]; simp
    · rw [shortS_ge hn]
      have := shortS_len k (n / 128) (by rw [Nat.div_lt_iff_lt_mul (by decide)]; rw [Nat.pow_succ] at h; exact h)
      simp; omega
theorem shortS_len10 {n : Nat} (h : n < 18446744073709551616) : (shortS n).length ≤ 10 :=
  shortS_len 9 n (Nat.lt_trans h (by decide))
theorem shortS_bytes (n : Nat) : ∀ c ∈ shortS n, 0 ≤ c ∧ c < 256 := by
  induction n using Nat.strongRecOn with
  | ind n ih =>
    by_cases hn : n < 128
    · rw [shortS_lt hn]; intro c hc; simp at hc; omega
    · rw [shortS_ge hn]
      intro c hc
      rcases List.mem_cons.1 hc with rfl | hc
      · omega
      · exact ih (n / 128) (by omega) c hc

/-- How many bytes the short number has that a text begins with; 0 where it does not end. -/
def sizeS : List Int → Nat
  | [] => 0
  | c :: cs => if c < 128 then 1 else if sizeS cs = 0 then 0 else sizeS cs + 1
theorem sizeS_le : ∀ xs : List Int, sizeS xs ≤ xs.length
  | [] => by simp [sizeS]
  | c :: cs => by
    have := sizeS_le cs
    unfold sizeS
    split
    · simp
    · split <;> simp <;> omega
/-- From a place on, none ahead of it being a last byte. -/
def sizeFrom (xs : List Int) (k : Nat) : Nat := if sizeS (xs.drop k) = 0 then 0 else k + sizeS (xs.drop k)
theorem sizeFrom_zero (xs : List Int) : sizeFrom xs 0 = sizeS xs := by
  unfold sizeFrom
  rw [List.drop_zero]
  split <;> omega
theorem sizeFrom_end (xs : List Int) (k : Nat) (h : xs.length ≤ k) : sizeFrom xs k = 0 := by simp [sizeFrom, List.drop_of_length_le h, sizeS]
theorem drop_cons (xs : List Int) (k : Nat) (h : k < xs.length) : xs.drop k = xs.getD k 0 :: xs.drop (k + 1) := by
  rw [List.drop_eq_getElem_cons h]; simp [h]
theorem sizeFrom_hit (xs : List Int) (k : Nat) (h : k < xs.length) (hc : xs.getD k 0 < 128) : sizeFrom xs k = k + 1 := by
  have e : sizeS (xs.drop k) = 1 := by rw [drop_cons xs k h]; unfold sizeS; rw [if_pos hc]
  unfold sizeFrom; rw [e]; simp
theorem sizeFrom_miss (xs : List Int) (k : Nat) (h : k < xs.length) (hc : ¬ xs.getD k 0 < 128) : sizeFrom xs k = sizeFrom xs (k + 1) := by
  by_cases h0 : sizeS (xs.drop (k + 1)) = 0
  · have e : sizeS (xs.drop k) = 0 := by rw [drop_cons xs k h]; unfold sizeS; rw [if_neg hc, if_pos h0]
    unfold sizeFrom; rw [e, h0]; simp
  · have e : sizeS (xs.drop k) = sizeS (xs.drop (k + 1)) + 1 := by rw [drop_cons xs k h, sizeS, if_neg hc, if_neg h0]
    unfold sizeFrom; rw [e, if_neg h0, if_neg (by omega)]; omega
/-- The short number's own last byte, and those ahead of it. -/
theorem sizeS_last : ∀ (xs : List Int), sizeS xs ≠ 0 → xs.getD (sizeS xs - 1) 0 < 128 ∧ ∀ i, i < sizeS xs - 1 → 128 ≤ xs.getD i 0
  | [], h => absurd rfl h
  | c :: cs, h => by
    unfold sizeS at h ⊢
    split
    · rename_i hc
      simp [hc]
    · rename_i hc
      rw [if_neg hc] at h
      split at h
      · exact absurd rfl h
      · rename_i h0
        have ih := sizeS_last cs h0
        rw [if_neg h0]
        obtain ⟨m, hm⟩ : ∃ m, sizeS cs = m + 1 := ⟨sizeS cs - 1, by omega⟩
        rw [hm] at ih ⊢
        refine ⟨by simpa using ih.1, fun i hi => ?_⟩
        cases i with
        | zero => simp; omega
        | succ i => simpa using ih.2 i (by omega)

/-- What bytes are worth, seven bits each. -/
def valS : List Int → Nat
  | [] => 0
  | c :: cs => (c % 128).toNat + 128 * valS cs
theorem valS_lt : ∀ xs : List Int, valS xs < 2 ^ (7 * xs.length)
  | [] => by simp [valS]
  | c :: cs => by
    have := valS_lt cs
    unfold valS
    have e : 2 ^ (7 * (c :: cs).length) = 128 * 2 ^ (7 * cs.length) := by
      rw [List.length_cons, Nat.mul_add, Nat.pow_add, Nat.mul_comm]
    rw [e]
    have : (c % 128).toNat < 128 := by omega
    omega
theorem valS_snoc : ∀ (xs : List Int) (c : Int), valS (xs ++ [c]) = valS xs + (c % 128).toNat * 2 ^ (7 * xs.length)
  | [], c => by simp [valS]
  | x :: xs, c => by
    have := valS_snoc xs c
    simp only [List.cons_append, valS, this, List.length_cons]
    have e : 2 ^ (7 * (xs.length + 1)) = 128 * 2 ^ (7 * xs.length) := by rw [Nat.mul_add, Nat.pow_add, Nat.mul_comm]
    rw [e, Nat.mul_add, Nat.mul_left_comm]
    omega
theorem take_snoc (xs : List Int) (k : Nat) (h : k < xs.length) : xs.take (k + 1) = xs.take k ++ [xs.getD k 0] := by
  rw [List.take_succ_eq_append_getElem h]; simp [h]

/-- A text that ends, of one byte or with a last byte that is not 0, is the short one of what it is worth. -/
theorem shortS_val : ∀ (xs : List Int), (∀ c ∈ xs, 0 ≤ c ∧ c < 256) → sizeS xs ≠ 0 → (sizeS xs > 1 → xs.getD (sizeS xs - 1) 0 ≠ 0) → shortS (valS (xs.take (sizeS xs))) = xs.take (sizeS xs)
  | [], _, h, _ => absurd rfl h
  | c :: cs, hb, h, hl => by
    have hc := hb c (by simp)
    have hbs : ∀ x ∈ cs, 0 ≤ x ∧ x < 256 := fun x hx => hb x (by simp [hx])
    by_cases h1 : c < 128
    · have e : sizeS (c :: cs) = 1 := by simp [sizeS, h1]
      rw [e]
      simp only [List.take_succ_cons, List.take_zero, valS]
      rw [shortS_lt (by omega)]
      simp; omega
    · have h0 : sizeS cs ≠ 0 := by
        intro e; apply h; simp [sizeS, h1, e]
      have e : sizeS (c :: cs) = sizeS cs + 1 := by simp [sizeS, h1, h0]
      rw [e] at hl ⊢
      obtain ⟨m, hm⟩ : ∃ m, sizeS cs = m + 1 := ⟨sizeS cs - 1, by omega⟩
      have hlast : cs.getD m 0 ≠ 0 := by have := hl (by omega); simpa [hm] using this
      have ih := shortS_val cs hbs h0 (fun _ => by rw [hm]; exact hlast)
      simp only [List.take_succ_cons, valS]
      have hpos : 0 < valS (cs.take (sizeS cs)) := by
        have hml : m < cs.length := by have := sizeS_le cs; omega
        rw [hm, take_snoc cs m hml, valS_snoc]
        have h3 := (sizeS_last cs h0).1
        rw [hm] at h3
        simp only [Nat.add_sub_cancel] at h3
        have h2 : 0 ≤ cs.getD m 0 := by
          have := hbs (cs.getD m 0) (by simp [List.getD, hml])
          exact this.1
        have : 0 < (cs.getD m 0 % 128).toNat := by omega
        have : 0 < (cs.getD m 0 % 128).toNat * 2 ^ (7 * (cs.take m).length) := Nat.mul_pos this (Nat.two_pow_pos _)
        omega
      generalize valS (cs.take (sizeS cs)) = V at *
      rw [shortS_ge (by omega)]
      have e1 : ((c % 128).toNat + 128 * V) / 128 = V := by omega
      have e2 : (((c % 128).toNat + 128 * V) % 128 + 128 : Nat) = c.toNat := by omega
      rw [e1, ih]
      congr 1
      have : ((((c % 128).toNat + 128 * V) % 128 + 128 : Nat) : Int) = (c.toNat : Int) := by rw [e2]
      rw [this]; omega

/-- What was made short is made long, whatever stands behind. -/
theorem size_short : ∀ (n : Nat) (ys : List Int), sizeS (shortS n ++ ys) = (shortS n).length := by
  intro n
  induction n using Nat.strongRecOn with
  | ind n ih =>
    intro ys
    by_cases hn : n < 128
    · rw [shortS_lt hn]; simp [sizeS]; omega
    · rw [shortS_ge hn]
      have := ih (n / 128) (by omega) ys
      have hl : (shortS (n / 128)).length ≠ 0 := by
        rw [shortS_eq]; split <;> simp
      simp only [List.cons_append, sizeS, this, List.length_cons]
      rw [if_neg (by omega), if_neg hl]
theorem val_short (n : Nat) : valS (shortS n) = n := by
  induction n using Nat.strongRecOn with
  | ind n ih =>
    by_cases hn : n < 128
    · rw [shortS_lt hn]; simp [valS]; omega
    · rw [shortS_ge hn]
      have := ih (n / 128) (by omega)
      simp only [valS, this]
      omega
theorem short_last (n : Nat) : n ≠ 0 → (shortS n).getD ((shortS n).length - 1) 0 ≠ 0 := by
  induction n using Nat.strongRecOn with
  | ind n ih =>
    intro h0
    by_cases hn : n < 128
    · rw [shortS_lt hn]; simp; omega
    · rw [shortS_ge hn]
      have := ih (n / 128) (by omega) (by omega)
      have hl : (shortS (n / 128)).length ≠ 0 := by rw [shortS_eq]; split <;> simp
      obtain ⟨m, hm⟩ : ∃ m, (shortS (n / 128)).length = m + 1 := ⟨(shortS (n / 128)).length - 1, by omega⟩
      rw [hm] at this
      simp only [List.length_cons, hm]
      simpa using this
/-- The tenth byte of a number below 2^64 is at most 1. -/
theorem short_tenth (n : Nat) (h : n < 18446744073709551616) (hl : (shortS n).length = 10) : (shortS n).getD 9 0 ≤ 1 := by
  have step : ∀ (k m : Nat), (shortS m).length = k + 2 → ¬ m < 128 ∧ (shortS (m / 128)).length = k + 1 ∧ (shortS m).getD (k + 1) 0 = (shortS (m / 128)).getD k 0 := by
    intro k m hm
    by_cases hn : m < 128
    · rw [shortS_lt hn] at hm; simp at hm
    · rw [shortS_ge hn] at hm ⊢
      refine ⟨hn, by simpa using hm, by simp⟩
  obtain ⟨_, l9, e9⟩ := step 8 n hl
  obtain ⟨_, l8, e8⟩ := step 7 _ l9
  obtain ⟨_, l7, e7⟩ := step 6 _ l8
  obtain ⟨_, l6, e6⟩ := step 5 _ l7
  obtain ⟨_, l5, e5⟩ := step 4 _ l6
  obtain ⟨_, l4, e4⟩ := step 3 _ l5
  obtain ⟨_, l3, e3⟩ := step 2 _ l4
  obtain ⟨_, l2, e2⟩ := step 1 _ l3
  obtain ⟨_, l1, e1⟩ := step 0 _ l2
  rw [e9, e8, e7, e6, e5, e4, e3, e2, e1]
  have hd : n / 128 / 128 / 128 / 128 / 128 / 128 / 128 / 128 / 128 ≤ 1 := by omega
  rw [shortS_lt (by omega)]
  simp; omega
end
end Go.Proofs.YtencmgepffdodaaGreat
