/-
  NetOnce's variables: a net and three maps, apart. Own work.
-/
import Derived.Test.YteehkjdolmmapaaNtMaps
import Derived.Test.YteehkjdolmmapaaNtAlive
namespace Go.Proofs.Yteehkjdolmmapaa
open Go.RowKit Go.Maps
section
variable {D : World → Nat → (Nat → Prop) → Nt → Prop}
theorem MapB.mono {w : World} {b n n' : Nat} {f : Nat → Bool} (h : MapB w b n f) (hn : n ≤ n') : MapB w b n' f := by
  obtain ⟨X, h, h2⟩ := h
  exact ⟨X, h.mono hn, h2⟩
theorem MapT.mono {w : World} {b n n' : Nat} {f : Nat → Nat} (h : MapT w b n f) (hn : n ≤ n') : MapT w b n' f := by
  obtain ⟨X, h, h2⟩ := h
  exact ⟨X, h.mono hn, h2⟩
theorem lies_one8 {w : World} {ao : Option Addr} {l c : Nat} {y : Int} (h : Lies .u8 w (.slice ao l c) [y]) : ∃ g o : Nat, ao = some ⟨g, o, none⟩ ∧ w.cell? ⟨g, o, none⟩ = some (.int .u8 y) := by
  rcases h with ⟨h, _⟩ | ⟨_, b, off, cap, e, _, _, _, hc⟩
  · cases h
  · cases e
    exact ⟨b, off, rfl, by simpa using hc 0 (by simp)⟩
structure OnS (D : World → Nat → (Nat → Prop) → Nt → Prop) (w : World) (q s d t : Nat) (F : Nat → Prop) (n : Nt) (S Db : Nat → Bool) (T : Nat → Nat) (m : Nat) (W : World) : Prop where
  dd : D W q F n
  f1 : ∀ k, F k → w.heap.size ≤ k
  B : Below w.heap.size w W
  s1 : MapB W s m S
  d1 : MapB W d m Db
  t1 : MapT W t m T
  ls : w.heap.size ≤ s ∧ w.heap.size ≤ d ∧ w.heap.size ≤ t
  ne : s ≠ d ∧ s ≠ t ∧ d ≠ t
  nf : ¬ F s ∧ ¬ F d ∧ ¬ F t
variable {w W W' : World} {q s d t m : Nat} {F : Nat → Prop} {n : Nt} {S Db : Nat → Bool} {T : Nat → Nat}
theorem OnS.keep (H : NetDo D) (h : OnS D w q s d t F n S Db T m W) {X : Nat → Prop} (hk : KeepBut X W W') (hF : ∀ k, F k → ¬ X k) (hs : ¬ X s) (hd : ¬ X d) (ht : ¬ X t) (hw : ∀ k, X k → w.heap.size ≤ k) : OnS D w q s d t F n S Db T m W' :=
  ⟨H.keep h.dd hk hF, h.f1, h.B.trans (hk.below h.B.size hw), h.s1.keep hk hs, h.d1.keep hk hd, h.t1.keep hk ht, h.ls, h.ne, h.nf⟩
theorem OnS.below (H : NetDo D) (h : OnS D w q s d t F n S Db T m W) (hB : Below W.heap.size W W') : OnS D w q s d t F n S Db T m W' :=
  h.keep H (KeepBut.of_below (fun _ => False) hB) (fun _ _ h => h) (fun h => h) (fun h => h) (fun h => h) (fun _ h => h.elim)
theorem OnS.mono (h : OnS D w q s d t F n S Db T m W) {m' : Nat} (hm : m ≤ m') : OnS D w q s d t F n S Db T m' W :=
  ⟨h.dd, h.f1, h.B, h.s1.mono hm, h.d1.mono hm, h.t1.mono hm, h.ls, h.ne, h.nf⟩
theorem OnS.does (h : OnS D w q s d t F n S Db T m W) {F' : Nat → Prop} {n' : Nt} (h1 : D W' q F' n') (hk : KeepBut F W W') (hF : ∀ k, F' k → F k ∨ W.heap.size ≤ k) : OnS D w q s d t F' n' S Db T m W' := by
  have l1 := h.s1.lt
  have l2 := h.d1.lt
  have l3 := h.t1.lt
  refine ⟨h1, fun k hf => ?_, h.B.trans (hk.below h.B.size h.f1), h.s1.keep hk h.nf.1, h.d1.keep hk h.nf.2.1, h.t1.keep hk h.nf.2.2, h.ls, h.ne, fun hf => ?_, fun hf => ?_, fun hf => ?_⟩
  · rcases hF k hf with x | x
    · exact h.f1 k x
    · exact Nat.le_trans h.B.size x
  · rcases hF _ hf with x | x
    · exact h.nf.1 x
    · omega
  · rcases hF _ hf with x | x
    · exact h.nf.2.1 x
    · omega
  · rcases hF _ hf with x | x
    · exact h.nf.2.2 x
    · omega
/-- sent[y] = true -/
theorem OnS.putS (H : NetDo D) (h : OnS D w q s d t F n S Db T m W) (hm : m ≤ 1000000) {y : Nat} (hy : y < 256) : ∃ W', (Instr.mapUpdate 55 (.map (some s)) (.int .u8 (y : Int)) (.bool true)).run Try.prog W = .ok () W' ∧ OnS D w q s d t F n (updB S y) Db T (m + 1) W' ∧ KeepBut (fun k => k = s) W W' := by
  obtain ⟨W', h1, h2, h3⟩ := h.s1.put hm hy
  refine ⟨W', h1, ⟨H.keep h.dd h3 (fun k hf e => h.nf.1 (e ▸ hf)), h.f1, h.B.trans (h3.below h.B.size (fun k e => e ▸ h.ls.1)), h2, (h.d1.keep h3 (fun e => h.ne.1 e.symm)).mono (Nat.le_succ _), (h.t1.keep h3 (fun e => h.ne.2.1 e.symm)).mono (Nat.le_succ _), h.ls, h.ne, h.nf⟩, h3⟩
/-- doubled[y] = true -/
theorem OnS.putD (H : NetDo D) (h : OnS D w q s d t F n S Db T m W) (hm : m ≤ 1000000) {y : Nat} (hy : y < 256) : ∃ W', (Instr.mapUpdate 55 (.map (some d)) (.int .u8 (y : Int)) (.bool true)).run Try.prog W = .ok () W' ∧ OnS D w q s d t F n S (updB Db y) T (m + 1) W' ∧ KeepBut (fun k => k = d) W W' := by
  obtain ⟨W', h1, h2, h3⟩ := h.d1.put hm hy
  refine ⟨W', h1, ⟨H.keep h.dd h3 (fun k hf e => h.nf.2.1 (e ▸ hf)), h.f1, h.B.trans (h3.below h.B.size (fun k e => e ▸ h.ls.2.1)), (h.s1.keep h3 (fun e => h.ne.1 e)).mono (Nat.le_succ _), h2, (h.t1.keep h3 (fun e => h.ne.2.2 e.symm)).mono (Nat.le_succ _), h.ls, h.ne, h.nf⟩, h3⟩
/-- taken[y]++ -/
theorem OnS.putT (H : NetDo D) (h : OnS D w q s d t F n S Db T m W) (hm : m ≤ 1000000) {y : Nat} (hy : y < 256) (hT : T y < 1000000) : ∃ W', (Instr.mapUpdate 56 (.map (some t)) (.int .u8 (y : Int)) (.int .i64 ((T y : Int) + 1))).run Try.prog W = .ok () W' ∧ OnS D w q s d t F n S Db (updT T y) (m + 1) W' ∧ KeepBut (fun k => k = t) W W' := by
  obtain ⟨W', h1, h2, h3⟩ := h.t1.put hm hy hT
  refine ⟨W', h1, ⟨H.keep h.dd h3 (fun k hf e => h.nf.2.2 (e ▸ hf)), h.f1, h.B.trans (h3.below h.B.size (fun k e => e ▸ h.ls.2.2)), (h.s1.keep h3 (fun e => h.ne.2.1 e)).mono (Nat.le_succ _), (h.d1.keep h3 (fun e => h.ne.2.2 e)).mono (Nat.le_succ _), h2, h.ls, h.ne, h.nf⟩, h3⟩
end
end Go.Proofs.Yteehkjdolmmapaa
