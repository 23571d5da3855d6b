/-
  The program's clock: its cells; New, given, Now, Len, slotOf, Until. Own work.
-/
import Derived.Test.YtgjdlclkibiffaaPkFind
import Derived.Test.YtgjdlclkibiffaaPkIns
import Derived.Test.YtgjdlclkibiffaaPkMap
import Derived.Test.YtgjdlclkibiffaaPkPlain
import Derived.Test.YtgjdlclkibiffaaCkLaw
import Derived.BigQuiet
namespace Go.Proofs.Ytgjdlclkibiffaa
open Go.RowKit Go.Maps

/-- A clock's cells: its time, its map, its 64 slots. -/
def ckCells (now : Nat) (b : Nat) (sv : Nat → Value) : Array Value := (.int .u32 (now : Int) :: .map (some b) :: (List.range 64).map sv).toArray
theorem ck_size (now b : Nat) (sv : Nat → Value) : (ckCells now b sv).size = 66 := by simp [ckCells]
theorem ck_slot (now b : Nat) (sv : Nat → Value) {i : Nat} (h : i < 64) : (ckCells now b sv)[2 + i]? = some (sv i) := by
  unfold ckCells
  rw [Nat.add_comm 2 i]
  simp [h]
/-- One slot another one. -/
def updV (sv : Nat → Value) (i : Nat) (v : Value) (j : Nat) : Value := if j = i then v else sv j
theorem upd_same (sv : Nat → Value) (i : Nat) (v : Value) : updV sv i v i = v := by simp [updV]
theorem upd_other (sv : Nat → Value) {i j : Nat} (v : Value) (h : j ≠ i) : updV sv i v j = sv j := by simp [updV, h]
theorem ck_set (now b : Nat) (sv : Nat → Value) {i : Nat} (h : i < 64) (v : Value) : (ckCells now b sv).setIfInBounds (2 + i) v = ckCells now b (updV sv i v) := by
  apply Array.ext_getElem?
  intro j
  rw [Array.getElem?_setIfInBounds]
  by_cases e : 2 + i = j
  · subst e
    rw [if_pos rfl, if_pos (by rw [ck_size]; omega), ck_slot _ _ _ h, upd_same]
  · rw [if_neg e]
    unfold ckCells
    simp only [List.getElem?_toArray]
    rcases j with _ | _ | j
    · rfl
    · rfl
    · simp only [List.getElem?_cons_succ, List.getElem?_map]
      by_cases hj : j < 64
      · simp [hj, upd_other sv v (show j ≠ i by omega)]
      · simp [hj]
theorem ck_time (now now' b : Nat) (sv : Nat → Value) : (ckCells now b sv).setIfInBounds 0 (.int .u32 (now' : Int)) = ckCells now' b sv := by
  unfold ckCells
  simp
/-- The program's clock lies in a variable: its map in a block, each slot in a row of its own. -/
structure PCs (w : World) (q b : Nat) (sv : Nat → Value) (now : Nat) (l : List TmP) (sl : Nat → List TmP) : Prop where
  box : Box w q (ckCells now b sv) 69
  map : MapC w b l
  own : ∀ i, i < 64 → w.ownsRow 0 80 5 (sv i) (sl i).length (flat ptE (sl i))
  far : ∀ i j, i < 64 → j < 64 → i ≠ j → ∀ g, (sv i).ownBlock = some g → (sv j).ownBlock ≠ some g
structure PCk (w : World) (q b : Nat) (sv : Nat → Value) (c : Ck) : Prop where
  s : PCs w q b sv c.now c.l c.slot
  ok : c.Ok
/-- The blocks that it uses. -/
def usesC9 (q b : Nat) (sv : Nat → Value) (k : Nat) : Prop := k = q ∨ k = b ∨ ∃ i, i < 64 ∧ (sv i).ownBlock = some k
theorem own_cells {w : World} {v : Value} {n g : Nat} {xs : List Value} (h : w.ownsRow 0 80 5 v n xs) (hg : v.ownBlock = some g) : ∃ cur, w.heap[g]? = some (.cells cur 80 (0, 0)) := by
  obtain ⟨_, ⟨rfl, _⟩ | ⟨g', cap, cur, rfl, _, hh, _⟩⟩ := h
  · cases hg
  · cases hg
    exact ⟨cur, hh⟩
section
variable {w w' : World} {q b : Nat} {sv : Nat → Value} {now : Nat} {l : List TmP} {sl : Nat → List TmP}
theorem PCs.ne_box (h : PCs w q b sv now l sl) {i : Nat} (hi : i < 64) : (sv i).ownBlock ≠ some q := fun e => by
  obtain ⟨cur, hh⟩ := own_cells (h.own i hi) e
  have hb := h.box
  unfold Box at hb
  rw [hh] at hb
  have := Option.some.inj hb
  injection this with _ h2
  exact absurd h2 (by decide)
theorem PCs.ne_map (h : PCs w q b sv now l sl) {i : Nat} (hi : i < 64) : (sv i).ownBlock ≠ some b := fun e => by
  obtain ⟨cur, hh⟩ := own_cells (h.own i hi) e
  obtain ⟨es, cl, hm⟩ := h.map.isMap
  rw [hh] at hm
  cases hm
theorem PCs.map_ne (h : PCs w q b sv now l sl) : b ≠ q := fun e => by
  obtain ⟨es, cl, hm⟩ := h.map.isMap
  have hb := h.box
  unfold Box at hb
  rw [← e, hm] at hb
  cases hb
theorem PCs.keep {S : Nat → Prop} (h : PCs w q b sv now l sl) (hk : KeepBut S w w') (hS : ∀ k, usesC9 q b sv k → ¬ S k) : PCs w' q b sv now l sl :=
  ⟨h.box.keep hk (hS q (.inl rfl)), h.map.keep hk (hS b (.inr (.inl rfl))), fun i hi => owns_keep (h.own i hi) hk (fun g hg => hS g (.inr (.inr ⟨i, hi, hg⟩))), h.far⟩
theorem PCs.below (h : PCs w q b sv now l sl) (hB : Below w.heap.size w w') : PCs w' q b sv now l sl := h.keep (KeepBut.of_below (fun _ => False) hB) (fun _ _ h => h)
theorem PCs.lt (h : PCs w q b sv now l sl) : ∀ k, usesC9 q b sv k → k < w.heap.size := by
  rintro k (rfl | rfl | ⟨i, hi, h1⟩)
  · exact h.box.lt
  · exact h.map.lt
  · exact ((h.own i hi).lt k h1).2
theorem PCs.c0 (h : PCs w q b sv now l sl) : w.cell? ⟨q, 0, none⟩ = some (.int .u32 (now : Int)) := h.box.cell 0 _ (by unfold ckCells; rfl)
theorem PCs.c1 (h : PCs w q b sv now l sl) : w.cell? ⟨q, 1, none⟩ = some (.map (some b)) := h.box.cell 1 _ (by unfold ckCells; rfl)
theorem PCs.cs (h : PCs w q b sv now l sl) {i : Nat} (hi : i < 64) : w.cell? ⟨q, 2 + i, none⟩ = some (sv i) := h.box.cell _ _ (ck_slot _ _ _ hi)
end
section
variable {w w' : World} {q b : Nat} {sv : Nat → Value} {c : Ck}
theorem PCk.keep {S : Nat → Prop} (h : PCk w q b sv c) (hk : KeepBut S w w') (hS : ∀ k, usesC9 q b sv k → ¬ S k) : PCk w' q b sv c := ⟨h.s.keep hk hS, h.ok⟩
theorem PCk.below (h : PCk w q b sv c) (hB : Below w.heap.size w w') : PCk w' q b sv c := ⟨h.s.below hB, h.ok⟩
theorem PCk.lt (h : PCk w q b sv c) : ∀ k, usesC9 q b sv k → k < w.heap.size := h.s.lt
theorem PCk.c0 (h : PCk w q b sv c) : w.cell? ⟨q, 0, none⟩ = some (.int .u32 (c.now : Int)) := h.s.c0
theorem PCk.c1 (h : PCk w q b sv c) : w.cell? ⟨q, 1, none⟩ = some (.map (some b)) := h.s.c1
theorem PCk.cs (h : PCk w q b sv c) {i : Nat} (hi : i < 64) : w.cell? ⟨q, 2 + i, none⟩ = some (sv i) := h.s.cs hi
end
section
variable {w w' : World} {q b : Nat} {sv : Nat → Value} {now : Nat} {l l' : List TmP} {sl : Nat → List TmP}
/-- Its map is another one. -/
theorem PCs.mapTo (h : PCs w q b sv now l sl) (hk : KeepBut (fun k => k = b) w w') (hm : MapC w' b l') : PCs w' q b sv now l' sl :=
  ⟨h.box.keep hk (fun e => h.map_ne e.symm), hm, fun i hi => owns_keep (h.own i hi) hk (fun g hg e => h.ne_map hi (by rw [hg, e])), h.far⟩
/-- Its time is another one. -/
theorem PCs.time (h : PCs w q b sv now l sl) (now' : Nat) : PCs (w.setCell ⟨q, 0, none⟩ (.int .u32 (now' : Int))) q b sv now' l sl ∧ KeepBut (fun k => k = q) w (w.setCell ⟨q, 0, none⟩ (.int .u32 (now' : Int))) := by
  have hk : KeepBut (fun k => k = q) w (w.setCell ⟨q, 0, none⟩ (.int .u32 (now' : Int))) := (KeepBut.refl (fun k => k = q) w).setCell (p := ⟨q, 0, none⟩) (.inl rfl) _
  refine ⟨⟨?_, h.map.keep hk h.map_ne, fun i hi => owns_keep (h.own i hi) hk (fun g hg e => h.ne_box hi (by rw [hg, e])), h.far⟩, hk⟩
  have := h.box.set (i := 0) (v := .int .u32 (now' : Int))
  rw [ck_time] at this
  exact this
/-- One of its slots is another one. -/
theorem PCs.row (h : PCs w q b sv now l sl) {i : Nat} (hi : i < 64) {w3 : World} {v : Value} {ys : List TmP} (hk : KeepBut (fun g => (sv i).ownBlock = some g) w w3) (ho : w3.ownsRow 0 80 5 v ys.length (flat ptE ys)) (hv : v.ownBlock = (sv i).ownBlock ∨ ∃ g, v.ownBlock = some g ∧ w.heap.size ≤ g) :
    PCs (w3.setCell ⟨q, 2 + i, none⟩ v) q b (updV sv i v) now l (fun j => if j = i then ys else sl j) ∧ KeepBut (usesC9 q b sv) w (w3.setCell ⟨q, 2 + i, none⟩ v) ∧ ∀ k, usesC9 q b (updV sv i v) k → usesC9 q b sv k ∨ w.heap.size ≤ k := by
  have hks : KeepBut (fun k => k = q) w3 (w3.setCell ⟨q, 2 + i, none⟩ v) := (KeepBut.refl (fun k => k = q) w3).setCell (p := ⟨q, 2 + i, none⟩) (.inl rfl) _
  have hfr : ∀ g, v.ownBlock = some g → ∀ j, j < 64 → j ≠ i → (sv j).ownBlock ≠ some g := fun g hg j hj hji e => by
    rcases hv with h1 | ⟨g', h1, h2⟩
    · exact h.far j i hj hi hji g e (by rw [← h1, hg])
    · rw [hg] at h1
      cases h1
      have := ((h.own j hj).lt g e).2
      omega
  refine ⟨⟨?_, ?_, fun j hj => ?_, fun j k hj hk2 hne g hg => ?_⟩, ?_, ?_⟩
  · have := (h.box.keep hk (h.ne_box hi)).set (i := 2 + i) (v := v)
    rw [ck_set _ _ _ hi] at this
    exact this
  · exact (h.map.keep hk (h.ne_map hi)).keep hks h.map_ne
  · by_cases e : j = i
    · subst e
      rw [upd_same, if_pos rfl]
      refine owns_keep ho hks (fun g hg e => ?_)
      rcases hv with h1 | ⟨g', h1, h2⟩
      · exact h.ne_box hi (by rw [← h1, hg, e])
      · rw [hg] at h1
        cases h1
        have := h.box.lt
        omega
    · rw [upd_other sv v e, if_neg e]
      exact owns_keep (owns_keep (h.own j hj) hk (fun g hg e2 => h.far j i hj hi e g hg e2)) hks (fun g hg e2 => h.ne_box hj (by rw [hg, e2]))
  · by_cases e : j = i
    · subst e
      rw [upd_same] at hg
      rw [upd_other sv v (fun e2 => hne e2.symm)]
      exact hfr g hg k hk2 (fun e2 => hne e2.symm)
    · rw [upd_other sv v e] at hg
      by_cases e2 : k = i
      · subst e2
        rw [upd_same]
        exact fun e3 => hfr g e3 j hj e hg
      · rw [upd_other sv v e2]
        exact h.far j k hj hk2 hne g hg
  · exact (hk.mono (S' := usesC9 q b sv) (fun k e => .inr (.inr ⟨i, hi, e⟩))).trans hks (fun k _ e => .inl e)
  · rintro k (e | e | ⟨j, hj, e⟩)
    · exact .inl (.inl e)
    · exact .inl (.inr (.inl e))
    · by_cases e2 : j = i
      · subst e2
        rw [upd_same] at e
        rcases hv with h1 | ⟨g', h1, h2⟩
        · exact .inl (.inr (.inr ⟨j, hi, by rw [← h1, e]⟩))
        · rw [e] at h1
          cases h1
          exact .inr h2
      · rw [upd_other sv v e2] at e
        exact .inl (.inr (.inr ⟨j, hj, e⟩))
end
theorem neq_ptr9 (w : World) (a : Addr) : (binOp .neq 23 (.pointer (some a)) (.pointer none)).run Try.prog w = .ok (.bool true) w := by
  have h1 : ∀ d, (Op.equalIn (d + 1) 23 (.pointer (some a)) (.pointer none)).run Try.prog w = .ok false w := by
    intro d; simp [Op.equalIn, run_underlying Try.underlying23]
  have h2 : (Op.equal 23 (.pointer (some a)) (.pointer none)).run Try.prog w = .ok false w := h1 9999
  simp [binOp, h2]
set_option maxRecDepth 100000 in
theorem kgiven_any (q b : Nat) (sv : Nat → Value) (c : Ck) (w : World) (h : PCk w q b sv c) :
    Calls Try.prog 26 #[.pointer (some ⟨q, 0, none⟩)] w fun e w' => e = .returned (.bool true) ∧ w' = w := by
  have m1 := h.c1
  have hn := neqSomeMap b
  have hp := fun W => neq_ptr9 W ⟨q, 0, none⟩
  clear h
  go_enter Try.func26, Try.ntmps26
  go_wp2
  go_ret
  exact ⟨rfl, rfl⟩
set_option maxRecDepth 100000 in
theorem know_any (q b : Nat) (sv : Nat → Value) (c : Ck) (w : World) (h : PCk w q b sv c) :
    Calls Try.prog 24 #[.pointer (some ⟨q, 0, none⟩)] w fun e w' => e = .returned (.int .u32 (c.now : Int)) ∧ w' = w := by
  have m0 := h.c0
  have C := hide (kgiven_any q b sv c w h)
  clear h
  go_enter Try.func24, Try.ntmps24
  go_wp2_with fail
  refine C.out.mono ?_
  rintro e w1 ⟨rfl, rfl⟩
  go_wp2_with fail
  go_ret
  exact ⟨rfl, rfl⟩
set_option maxRecDepth 100000 in
theorem klen_any (q b : Nat) (sv : Nat → Value) (c : Ck) (w : World) (h : PCk w q b sv c) :
    Calls Try.prog 25 #[.pointer (some ⟨q, 0, none⟩)] w fun e w' => e = .returned (.int .i64 (c.l.length : Int)) ∧ w' = w := by
  have m1 := h.c1
  have hlen := fun ty => h.s.map.len ty
  have C := hide (kgiven_any q b sv c w h)
  generalize c.l.length = n at *
  clear h
  go_enter Try.func25, Try.ntmps25
  go_wp2_with fail
  refine C.out.mono ?_
  rintro e w1 ⟨rfl, rfl⟩
  go_wp2_with fail
  go_ret
  exact ⟨rfl, rfl⟩
theorem and63 (x : Int) (h0 : 0 ≤ x) (h1 : x < 4294967296) : bits .and .u32 x 63 = ((x.toNat % 64 : Nat) : Int) := by
  obtain ⟨a, rfl⟩ : ∃ a : Nat, x = (a : Int) := ⟨x.toNat, by omega⟩
  rw [show (63 : Int) = ((63 : Nat) : Int) from rfl, u32_and_nat a 63 (by omega) (by decide), Int.toNat_natCast]
  congr 1
  exact Nat.and_two_pow_sub_one_eq_mod a 6
set_option maxRecDepth 100000 in
theorem kslot_any (x : Int) (h0 : 0 ≤ x) (h1 : x < 4294967296) (w : World) :
    Calls Try.prog 34 #[.int .u32 x] w fun e w' => e = .returned (.int .u32 ((x.toNat % 64 : Nat) : Int)) ∧ w' = w := by
  have h2 := and63 x h0 h1
  generalize x.toNat % 64 = k at *
  go_enter Try.func34, Try.ntmps34
  go_wp2
  go_ret
  exact ⟨rfl, rfl⟩
set_option maxRecDepth 100000 in
theorem kuntil_any (q b : Nat) (sv : Nat → Value) (c : Ck) (n : NmP) (w : World) (h : PCk w q b sv c) (hn : nmOk n) :
    Calls Try.prog 20 #[.pointer (some ⟨q, 0, none⟩), .agg (nmA n)] w fun e w' => e = .returned (.tuple #[.int .u32 (c.atOf n), .bool (c.has n)]) ∧ Below w.heap.size w w' := by
  have hA := alloc_below9 w (.cells (nmA n) 47)
  have hX := box_new w (nmA n) 47
  obtain ⟨w1, hw1⟩ : ∃ w1, w1 = w.alloc (.cells (nmA n) 47) := ⟨_, rfl⟩
  rw [← hw1] at hA hX
  have h1 := h.below hA
  have m1 := h1.c1
  have hlook := h1.s.map.look hn
  have hlook2 : (Instr.lookup 65 (.map (some b)) (.agg (nmA n)) true).run Try.prog w1.drew = .ok (.tuple #[.int .u32 (c.atOf n), .bool (c.has n)]) w1.drew := (h1.below (below_drewN9 w1 1)).s.map.look hn
  have C := hide (kgiven_any q b sv c w1 h1)
  have x0 := hX.cell 0 _ rfl
  have x1 := hX.cell 1 _ rfl
  have x2 := hX.cell 2 _ rfl
  have x3 := hX.cell 3 _ rfl
  have HA := hide hA
  have hW := hw1.symm
  generalize c.atOf n = a at *
  generalize c.has n = r at *
  clear h h1 hX hA hlook hw1
  go_enter Try.func20, Try.ntmps20
  go_wp2_with fail
  refine C.out.mono ?_
  rintro e w2 ⟨rfl, rfl⟩
  go_wp2_with fail
  go_region
  go_wp2_with fail
  go_ret2
  exact ⟨rfl, HA.out.drew⟩
theorem zeroClock (w : World) : (zeroValue 69).run Try.prog w = .ok (.agg (#[.int .u32 0, .map none] ++ (Array.replicate 64 (.slice none 0 0)))) w := by kernel_rfl
def svN : Nat → Value := fun _ => .slice none 0 0
theorem ck_new (b : Nat) : ckCells 0 b svN = #[.int .u32 0, .map (some b)] ++ Array.replicate 64 (.slice none 0 0) := by
  unfold ckCells svN
  simp [List.map_const']
set_option maxRecDepth 100000 in
theorem knew_any (w : World) : Calls Try.prog 8 #[] w fun e w' => ∃ q b, e = .returned (.pointer (some ⟨q, 0, none⟩)) ∧ PCk w' q b svN newC ∧ w.heap.size ≤ q ∧ w.heap.size ≤ b ∧ Below w.heap.size w w' := by
  have hmm := @run_makeMap Try.prog
  have hz := zeroClock
  have HP : Hid (PCk ((w.alloc (.map #[] 0)).alloc (.cells (#[.int .u32 0, .map (some w.heap.size)] ++ Array.replicate 64 (.slice none 0 0)) 69)) (w.heap.size + 1) w.heap.size svN newC) := hide (by
    have hb := box_new (w.alloc (.map #[] 0)) (ckCells 0 w.heap.size svN) 69
    rw [World.size_alloc, ck_new] at hb
    have hm := (mapC_made w).below (alloc_below9 (w.alloc (.map #[] 0)) (.cells (ckCells 0 w.heap.size svN) 69))
    rw [ck_new] at hm
    refine ⟨⟨?_, hm, fun i _ => World.ownsRow_nil _ _ _ _, fun i j _ _ _ g e => ?_⟩, newC_ok⟩
    · show Box _ _ (ckCells 0 _ _) _
      rw [ck_new]
      exact hb
    · cases e)
  have hB := fun o => ((Below.refl w.heap.size w).alloc (Nat.le_refl _) (.map #[] 0)).alloc (by simp) o
  go_enter Try.func8, Try.ntmps8
  go_wp2
  go_ret
  exact ⟨_, _, rfl, HP.out, Nat.le_succ _, Nat.le_refl _, hB _⟩
end Go.Proofs.Ytgjdlclkibiffaa
