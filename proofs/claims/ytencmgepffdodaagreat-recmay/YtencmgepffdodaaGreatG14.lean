/-
  Own texts put together: CWriter, CReader. Own work.
-/
import Derived.Test.YtencmgepffdodaaGreatG05
import Derived.Laws.IdiomStrings
import Derived.Deep.QuietTactic
import Derived.BigQuiet
namespace Go.Proofs.YtencmgepffdodaaGreat
section
open Go.RowKit

/-- 'append(v, x...)', with where the new row lies. -/
theorem append_lies_at {ops : Array Oper} {rest : List Oper} {o : Oper} {a : Act} {Q : Exit → Act → World → Prop} (w : World) (hgd : o.guard = none) (s x : Operand)
    (ho : o.op = .call { callee := .builtin .append, args := #[s, x], argTypes := #[45, 45] })
    (base : Nat) (v vx : Value) (n : Nat) (ys xs : List Int) (hs : a.eval s = v) (hown : w.ownsRow base 5 1 v n (ys.map (Value.int .u8))) (hx : a.eval x = vx) (hL : Lies .u8 w vx xs)
    (hb : n + xs.length ≤ 140737488355328) (hbase : base ≤ w.heap.size)
    (h : ∀ v' w', w'.ownsRow base 5 1 v' (n + xs.length) ((ys ++ xs).map (Value.int .u8)) → w.grownBy w' v.ownBlock → (v'.ownBlock = v.ownBlock ∨ v'.ownBlock = some w.heap.size) → wpList Tryz.prog ops Q rest (a.put o.dst v') w') :
    wpList Tryz.prog ops Q (o :: rest) a w := by
  obtain ⟨i0, hi, hz0, hz1, hz2⟩ := info_parts info5
  rcases hL with ⟨rfl, ao, cap, rfl, h0⟩ | ⟨_, b, off, cap, rfl, _, _, _, hc⟩
  · cases ao with
    | none =>
      obtain rfl := h0 rfl
      exact wpList_append_own_none hgd s x 45 ho base 5 i0 1 Tryz.underlying45 hi v n _ hs hown hx (h v w (by simpa using hown) (World.grownBy.refl _ _) (.inl rfl))
    | some ad =>
      exact wpList_append_own_at w hgd s x 45 ho base 5 i0 (.int .u8 0) 1 1 Tryz.underlying45 hi hz0 hz1 hz2 rfl (by decide) v n _ hs hown ad 0 cap [] hx rfl (fun j u hj => by simp at hj) (fun u hu => by simp at hu)
        (by unfold maxLen; simp at hb; omega) (by simp at hb; omega) hbase (fun v' w' h1 h2 _ h4 => h v' w' (by simpa using h1) h2 h4)
  · exact wpList_append_own_at w hgd s x 45 ho base 5 i0 (.int .u8 0) 1 1 Tryz.underlying45 hi hz0 hz1 hz2 rfl (by decide) v n _ hs hown ⟨b, off, none⟩ xs.length cap (xs.map (Value.int .u8)) hx (by simp)
        (fun j u hu => by
          have hj : j < xs.length := by
            have := (List.getElem?_eq_some_iff.1 hu).1
            simpa using this
          rw [Addr.add_lit, hc j hj]
          simp [hj] at hu ⊢
          exact hu) (ints_oneCell _ _)
        (by unfold maxLen; omega) (by omega) hbase (fun v' w' h1 h2 _ h4 => h v' w' (by simpa using h1) h2 h4)
/-- '[]byte(s)'. -/
theorem wp_bytes_of_str {ops : Array Oper} {rest : List Oper} {o : Oper} {a : Act} {Q : Exit → Act → World → Prop} (w : World) (hgd : o.guard = none) (x : Operand) (ho : o.op = .convert 9 45 x) (s : ByteArray)
    (hx : a.eval x = .string s) (hs : s.size ≤ 140737488355328) (h : ∀ v' w', Lies .u8 w' v' (strI s) → Below w.heap.size w w' → wpList Tryz.prog ops Q rest (a.put o.dst v') w') : wpList Tryz.prog ops Q (o :: rest) a w := by
  refine wpList_plain hgd fun K hK => ?_
  have hr := run_bytes_of_string (P := Tryz.prog) w 9 45 5 s Tryz.underlying9 Tryz.underlying45 Tryz.underlying5
  have hcm : grownCap w s.size 0 5 ≤ maxLen := grownCap_le_maxLen w _ _ _ (by unfold maxLen; omega)
  have hge := grownCap_ge w s.size 0 5
  unfold Oper.wp execOp
  simp only [ho, hx, Sem.run_bind, hr, Result.andThen_ok]
  refine hK _ _ (h _ _ ?_ (((Below.refl _ _).drew).alloc (Nat.le_refl _) _))
  by_cases h0 : s.size = 0
  · refine .inl ⟨List.eq_nil_of_length_eq_zero (by rw [strI_length]; exact h0), _, _, by rw [h0], fun h => by cases h⟩
  · refine .inr ⟨fun e => h0 (by rw [← strI_length, e]; rfl), w.heap.size, 0, _, by rw [strI_length], ?_, by rw [strI_length]; exact hge, hcm, fun t ht => ?_⟩
    · show w.heap.size < (w.heap.push _).size
      simp
    · rw [strI_length] at ht
      have hb : (w.drew.alloc (.cells (bytesRow s (grownCap w s.size 0 5)) 5 ((bytesRow s (grownCap w s.size 0 5)).size, (bytesRow s (grownCap w s.size 0 5)).size + 1))).heap[w.heap.size]? = some (.cells (bytesRow s (grownCap w s.size 0 5)) 5 ((bytesRow s (grownCap w s.size 0 5)).size, (bytesRow s (grownCap w s.size 0 5)).size + 1)) := heap_alloc_new w.drew _
      rw [Nat.zero_add, cell_of_row _ w.heap.size t _ _ _ hb, bytesRow_at s _ t ht]
      have : (strI s)[t]? = some ((s.data[t]'ht).toNat : Int) := by unfold strI; simp [ht]
      simp [List.getD, this]
/-- A new block of one byte. -/
theorem lies_one (w : World) (c : Int) (t : TypeId) : Lies .u8 (w.alloc (.cells #[.int .u8 c] t)) (.slice (some ⟨w.heap.size, 0, none⟩) 1 1) [c] :=
  .inr ⟨by simp, w.heap.size, 0, 1, rfl, by simp, by simp, by unfold maxLen; omega, fun i hi => by
    have : i = 0 := by simpa using hi
    subst this
    simp [List.getD]⟩
/-- A block that lies there whole as bytes, from its first cell on. -/
theorem lies_box {w : World} {p : Nat} {t : TypeId} (ks : List Int) (hne : ks ≠ []) (hb : Box w p (ks.map (Value.int .u8)).toArray t) (hl : ks.length ≤ maxLen) : Lies .u8 w (.slice (some ⟨p, 0, none⟩) ks.length ks.length) ks :=
  .inr ⟨hne, p, 0, ks.length, rfl, hb.lt, Nat.le_refl _, hl, fun i hi => by
    rw [Nat.zero_add]
    exact hb.cell i _ (by simp [List.getD, hi])⟩

/-- The program's writer: a variable of its own, its bytes a row of their own. -/
structure CW (w : World) (p : Nat) (v : Value) (xs : List Int) : Prop where
  box : Box w p #[v] 80
  own : w.ownsRow 0 5 1 v xs.length (xs.map (Value.int .u8))
theorem CW.apart {w : World} {p : Nat} {v : Value} {xs : List Int} (h : CW w p v xs) : v.ownBlock ≠ some p := by
  intro e
  obtain ⟨_, ⟨rfl, _⟩ | ⟨g, cap, cur, rfl, _, hh, _⟩⟩ := h.own
  · cases e
  · cases e
    have := h.box
    unfold Box at this
    rw [hh] at this
    cases this
structure CWrote (w w' : World) (p : Nat) (v v' : Value) (ys : List Int) : Prop where
  wr : CW w' p v' ys
  keep : KeepBut (fun k => k = p ∨ v.ownBlock = some k) w w'
  place : v'.ownBlock = v.ownBlock ∨ ∃ g, v'.ownBlock = some g ∧ w.heap.size ≤ g
theorem CW.keep {S : Nat → Prop} {w w' : World} {p : Nat} {v : Value} {xs : List Int} (h : CW w p v xs) (hk : KeepBut S w w') (hp : ¬ S p) (hg : ∀ g, v.ownBlock = some g → ¬ S g) : CW w' p v xs :=
  ⟨h.box.keep hk hp, owns_keep h.own hk hg⟩
theorem CW.below {w w' : World} {p : Nat} {v : Value} {xs : List Int} (h : CW w p v xs) (hB : Below w.heap.size w w') : CW w' p v xs :=
  h.keep (KeepBut.of_below (fun _ => False) hB) (fun h => h) (fun _ _ h => h)
theorem CWrote.trans {w w1 w2 : World} {p : Nat} {v v1 v2 : Value} {ys zs : List Int} (h : CWrote w w1 p v v1 ys) (h' : CWrote w1 w2 p v1 v2 zs) : CWrote w w2 p v v2 zs := by
  refine ⟨h'.wr, h.keep.trans h'.keep ?_, ?_⟩
  · intro k hk hS
    rcases hS with hS | hS
    · exact .inl hS
    · rcases h.place with e | ⟨g, e, hg⟩
      · exact .inr (e ▸ hS)
      · rw [e] at hS; cases hS; omega
  · rcases h'.place with e | ⟨g, e, hg⟩
    · rcases h.place with e2 | ⟨g, e2, hg⟩
      · exact .inl (e.trans e2)
      · exact .inr ⟨g, e.trans e2, hg⟩
    · exact .inr ⟨g, e, Nat.le_trans h.keep.size hg⟩
theorem CWrote.before {w w1 w2 : World} {p : Nat} {v v2 : Value} {zs : List Int} (hB : Below w.heap.size w w1) (h' : CWrote w1 w2 p v v2 zs) : CWrote w w2 p v v2 zs :=
  ⟨h'.wr, (KeepBut.of_below _ hB).trans h'.keep (fun _ _ h => h), h'.place.imp id (fun ⟨g, e, hg⟩ => ⟨g, e, Nat.le_trans hB.size hg⟩)⟩
theorem CW.put_at {w w1 : World} {p : Nat} {v v' : Value} {xs ys : List Int} (h : CW w p v xs) (hg : w.grownBy w1 v.ownBlock) (ho : w1.ownsRow 0 5 1 v' ys.length (ys.map (Value.int .u8))) (hpl : v'.ownBlock = v.ownBlock ∨ v'.ownBlock = some w.heap.size) :
    Box w1 p #[v] 80 ∧ CWrote w (w1.setCell ⟨p, 0, none⟩ v') p v v' ys := by
  have hk : KeepBut (fun k => v.ownBlock = some k) w w1 := grown_keep hg (fun _ e => e)
  have hb1 : Box w1 p #[v] 80 := h.box.keep hk h.apart
  refine ⟨hb1, ⟨?_, ?_⟩, ?_, ?_⟩
  · have := hb1.set (i := 0) (v := v')
    simpa using this
  · refine owns_keep ho ((KeepBut.refl (fun k => k = p) w1).setCell (.inl rfl) _) ?_
    intro g e hgp
    subst hgp
    rcases hpl with e2 | e2
    · rw [e2] at e; exact h.apart e
    · rw [e2] at e; cases e; exact Nat.lt_irrefl _ h.box.lt
  · exact (hk.mono (fun _ hk => .inr hk)).setCell (.inl (.inl rfl)) _
  · rcases hpl with e | e
    · exact .inl e
    · exact .inr ⟨_, e, Nat.le_refl _⟩

set_option maxHeartbeats 800000 in
theorem put_any (p : Nat) (v vx : Value) (xs ys : List Int) (w : World) (h : CW w p v xs) (hL : Lies .u8 w vx ys) (hr : xs.length + ys.length ≤ 140737488355328) :
    Calls Tryz.prog 89 #[.pointer (some ⟨p, 0, none⟩), vx] w fun e w' => e = .returned (.tuple #[]) ∧ ∃ v', CWrote w w' p v v' (xs ++ ys) := by
  have HH := hide h
  have hcell := h.box.cell 0 v rfl
  have HL := hide hL
  obtain ⟨a0, c0, rfl⟩ := (Lies.of_own h.own).shape
  obtain ⟨ax, cx, rfl⟩ := hL.shape
  clear h hL
  go_enter Tryz.func89, Tryz.ntmps89
  go_wp2_with (at_builtin; refine append_lies_at _ rfl _ _ rfl 0 _ _ _ xs ys rfl HH.out.own rfl HL.out hr (Nat.zero_le _) ?_; intro v1 w1 hown1 hgrow1 hpl1; have hown2 : w1.ownsRow 0 5 1 v1 (xs ++ ys).length ((xs ++ ys).map (Value.int .u8)) := (by rw [List.length_append]; exact hown1); have H1 := hide (HH.out.put_at hgrow1 hown2 hpl1); have hc1 := H1.out.1.cell 0 _ rfl; have hf1 := H1.out.1.frozen 0; obtain ⟨a1, c1, hv1⟩ := (Lies.of_own hown2).shape; rw [List.length_append] at hv1; subst hv1; clear hown1 hown2 hgrow1 hpl1)
  go_end0
  exact ⟨rfl, _, H1.out.2⟩
set_option maxHeartbeats 800000 in
theorem cwnum_any (p : Nat) (v : Value) (xs : List Int) (n : Nat) (w : World) (h : CW w p v xs) (hr : roomFor xs.length) (hn : n < 18446744073709551616) :
    Calls Tryz.prog 73 #[.pointer (some ⟨p, 0, none⟩), .int .u64 n] w fun e w' => e = .returned (.tuple #[]) ∧ ∃ v', CWrote w w' p v v' (xs ++ shortS n) := by
  unfold roomFor at hr
  have hl10 := shortS_len10 hn
  have HH := hide h
  have HS := hide (short_any (.slice none 0 0) [] n w (Lies.nil _ _) (by simp) hn)
  clear h
  go_enter Tryz.func73, Tryz.ntmps73
  go_wp2_with fail
  refine HS.out.mono ?_
  rintro e w1 ⟨v1, rfl, hown, hB⟩
  rw [List.nil_append] at hown
  have HP := hide (put_any p v v1 xs (shortS n) w1 (HH.out.below hB) (Lies.of_own hown) (by omega))
  have HB := hide hB
  clear hown hB HS
  go_wp2_with fail
  refine HP.out.mono ?_
  rintro e w2 ⟨rfl, v2, h2⟩
  have H2 := hide h2
  clear h2 HP
  go_wp2_with fail
  go_end0
  exact ⟨rfl, v2, H2.out.before HB.out⟩
set_option maxHeartbeats 800000 in
theorem cwbyte_any (p : Nat) (v : Value) (xs : List Int) (c : Int) (w : World) (h : CW w p v xs) (hr : roomFor xs.length) :
    Calls Tryz.prog 33 #[.pointer (some ⟨p, 0, none⟩), .int .u8 c] w fun e w' => e = .returned (.tuple #[]) ∧ ∃ v', CWrote w w' p v v' (xs ++ [c]) := by
  unfold roomFor at hr
  have hB := hide ((Below.refl w.heap.size w).alloc (Nat.le_refl _) (.cells #[.int .u8 c] 5))
  have HP := hide (put_any p v _ xs [c] _ (h.below hB.out) (lies_one w c 5) (by simp; omega))
  clear h
  go_enter Tryz.func33, Tryz.ntmps33
  go_wp2_with fail
  refine HP.out.mono ?_
  rintro e w2 ⟨rfl, v2, h2⟩
  have H2 := hide h2
  clear h2 HP
  go_wp2_with fail
  go_end0
  exact ⟨rfl, v2, H2.out.before hB.out⟩
set_option maxHeartbeats 800000 in
theorem cwtext_any (p : Nat) (v : Value) (xs : List Int) (s : ByteArray) (w : World) (h : CW w p v xs) (hr : roomFor (xs.length + s.size)) :
    Calls Tryz.prog 153 #[.pointer (some ⟨p, 0, none⟩), .string s] w fun e w' => e = .returned (.tuple #[]) ∧ ∃ v', CWrote w w' p v v' (xs ++ shortS s.size ++ strI s) := by
  unfold roomFor at hr
  have C := hide (cwnum_any p v xs s.size w h (by unfold roomFor; omega) (by omega))
  have hl10 := shortS_len10 (n := s.size) (by omega)
  have hlen : (xs ++ shortS s.size).length ≤ xs.length + 10 := by rw [List.length_append]; omega
  clear h hl10
  generalize xs ++ shortS s.size = ys at *
  have HSL := hide (strI_length s)
  go_enter Tryz.func153, Tryz.ntmps153
  go_wp2_with fail
  refine C.out.mono ?_
  rintro e w1 ⟨rfl, v1, h1⟩
  have H1 := hide h1
  clear h1 C
  go_wp2_with (refine wp_bytes_of_str _ rfl _ rfl s rfl (by omega) ?_; intro v2 w2 hL2 hB2; have HP := hide (put_any p v1 v2 ys (strI s) w2 (H1.out.wr.below hB2) hL2 (by rw [HSL.out]; omega)); have HB2 := hide hB2; clear hL2 hB2)
  refine HP.out.mono ?_
  rintro e w3 ⟨rfl, v3, h3⟩
  have H3 := hide h3
  clear h3 HP
  go_wp2_with fail
  go_end0
  exact ⟨rfl, v3, H1.out.trans (H3.out.before HB2.out)⟩
set_option maxHeartbeats 800000 in
theorem cwkey_any (p : Nat) (v : Value) (xs : List Int) (ks : List Int) (w : World) (h : CW w p v xs) (hr : roomFor xs.length) (hk8 : ks.length = 8) :
    Calls Tryz.prog 79 #[.pointer (some ⟨p, 0, none⟩), .agg (ks.map (Value.int .u8)).toArray] w fun e w' => e = .returned (.tuple #[]) ∧ ∃ v', CWrote w w' p v v' (xs ++ ks) := by
  unfold roomFor at hr
  have hB := hide ((Below.refl w.heap.size w).alloc (Nat.le_refl _) (.cells (ks.map (Value.int .u8)).toArray 31))
  have hbx := hide (box_new w (ks.map (Value.int .u8)).toArray 31)
  have hL := lies_box ks (by intro e; rw [e] at hk8; simp at hk8) hbx.out (by unfold maxLen; omega)
  rw [hk8] at hL
  have HP := hide (put_any p v _ xs ks _ (h.below hB.out) hL (by omega))
  have hsz : (ks.map (Value.int .u8)).toArray.size = 8 := by simp [hk8]
  clear h hL
  generalize (ks.map (Value.int .u8)).toArray = C at *
  go_enter Tryz.func79, Tryz.ntmps79
  go_wp2_with fail
  refine HP.out.mono ?_
  rintro e w2 ⟨rfl, v2, h2⟩
  have H2 := hide h2
  clear h2 HP
  go_wp2_with fail
  go_end0
  exact ⟨rfl, v2, H2.out.before hB.out⟩
/-! A nil writer takes nothing. -/
/-! Clone, Bytes. -/
theorem eql_nil (a : Option Addr) (l c : Nat) (w : World) : (binOp .eql 45 (.slice a l c) (.slice none 0 0)).run Tryz.prog w = .ok (.bool a.isNone) w := by
  have h1 : ∀ d, (Op.equalIn (d + 1) 45 (.slice a l c) (.slice none 0 0)).run Tryz.prog w = .ok a.isNone w := by
    intro d
    cases a <;> simp [Op.equalIn, run_underlying Tryz.underlying45]
  have h2 : (Op.equal 45 (.slice a l c) (.slice none 0 0)).run Tryz.prog w = .ok a.isNone w := h1 9999
  simp [binOp, h2]
set_option maxRecDepth 100000 in
set_option maxHeartbeats 800000 in
theorem clone_any (v : Value) (xs : List Int) (w : World) (h : Lies .u8 w v xs) (hr : xs.length ≤ 200000000000000) :
    Calls Tryz.prog 90 #[v] w fun e w' => ∃ v', e = .returned v' ∧ w'.ownsRow w.heap.size 5 1 v' xs.length (xs.map (Value.int .u8)) ∧ Below w.heap.size w w' := by
  obtain ⟨ao, cap, hv, hn, _⟩ := h.appendable
  subst hv
  cases ao with
  | none =>
    obtain ⟨h0, rfl⟩ := hn rfl
    rw [h0]
    obtain rfl : xs = [] := List.eq_nil_of_length_eq_zero h0
    clear h hn hr h0
    have hq := fun (w : World) => eql_nil none 0 0 w
    go_enter Tryz.func90, Tryz.ntmps90
    go_wp2_with fail
    go_ret
    exact ⟨_, rfl, World.ownsRow_nil _ _ _ _, Below.refl _ _⟩
  | some ad =>
    have HL := hide (h.below ((Below.refl w.heap.size w).alloc (Nat.le_refl _) (.cells #[] 5)))
    have HO := hide (World.ownsRow_made (base := w.heap.size) (e := 5) (size := 1) w #[] 0 (Nat.le_refl _) (by unfold maxLen; omega) rfl)
    have HB := hide ((Below.refl w.heap.size w).alloc (Nat.le_refl _) (.cells #[] 5))
    clear h hn
    have hq := fun (w : World) (n c : Nat) => eql_nil (some ad) n c w
    have HS : Hid (w.heap.size ≤ (w.alloc (.cells #[] 5)).heap.size) := hide (HB.out.size)
    go_enter Tryz.func90, Tryz.ntmps90
    go_wp2_with (at_builtin; refine append_lies _ rfl _ _ rfl w.heap.size _ _ 0 [] xs rfl HO.out rfl HL.out (by omega) HS.out ?_; intro v0 w0 hown0 hgrow0; simp only [Nat.zero_add, List.nil_append] at hown0; have H0 := hide hown0; have H1 := hide hgrow0; clear hown0 hgrow0)
    go_ret
    exact ⟨_, rfl, H0.out, HB.out.grown H1.out HS.out (fun k hk => by cases hk; exact Nat.le_refl _)⟩
theorem cwbytes_any (p : Nat) (v : Value) (xs : List Int) (w : World) (h : CW w p v xs) (hr : xs.length ≤ 200000000000000) :
    Calls Tryz.prog 34 #[.pointer (some ⟨p, 0, none⟩)] w fun e w' => ∃ v', e = .returned v' ∧ w'.ownsRow w.heap.size 5 1 v' xs.length (xs.map (Value.int .u8)) ∧ Below w.heap.size w w' := by
  have C := hide (clone_any v xs w (Lies.of_own h.own) hr)
  have hcell := h.box.cell 0 v rfl
  clear h
  go_enter Tryz.func34, Tryz.ntmps34
  go_wp2_with (go_at_call 90; refine C.out.mono ?_; rintro e w1 ⟨v1, rfl, ho, hB⟩; have HO := hide ho; have HB := hide hB; clear ho hB)
  go_ret
  exact ⟨v1, rfl, HO.out, HB.out⟩
end
section
open Go.RowKit

/-- The program's reader: a variable of its own; its bytes a row of their own that nobody writes. -/
structure CR (w : World) (p : Nat) (vb : Value) (all : List Int) (r : RS) : Prop where
  box : Box w p #[vb, .int .i64 (r.went : Nat), .int .i64 r.why, .int .i64 (r.fat : Nat)] 148
  own : w.ownsRow 0 5 1 vb all.length (all.map (Value.int .u8))
  byte : ∀ c ∈ all, 0 ≤ c ∧ c < 256
  le : r.went ≤ all.length
  bs : r.bs = all.drop r.went
  room : all.length ≤ 200000000000000
theorem CR.apart {w : World} {p : Nat} {vb : Value} {all : List Int} {r : RS} (h : CR w p vb all r) : vb.ownBlock ≠ some p := by
  intro e
  obtain ⟨_, ⟨rfl, _⟩ | ⟨g, cap, cur, rfl, _, hh, _⟩⟩ := h.own
  · cases e
  · cases e
    have := h.box
    unfold Box at this
    rw [hh] at this
    cases this
theorem CR.keep {S : Nat → Prop} {w w' : World} {p : Nat} {vb : Value} {all : List Int} {r : RS} (h : CR w p vb all r) (hk : KeepBut S w w') (hp : ¬ S p) (hg : ∀ g, vb.ownBlock = some g → ¬ S g) : CR w' p vb all r :=
  ⟨h.box.keep hk hp, owns_keep h.own hk hg, h.byte, h.le, h.bs, h.room⟩
theorem CR.below {w w' : World} {p : Nat} {vb : Value} {all : List Int} {r : RS} (h : CR w p vb all r) (hB : Below w.heap.size w w') : CR w' p vb all r :=
  h.keep (KeepBut.of_below (fun _ => False) hB) (fun h => h) (fun _ _ h => h)
/-- A reader's own cells are set anew. -/
theorem CR.set {w w' : World} {p : Nat} {vb : Value} {all : List Int} {r r' : RS} (h : CR w p vb all r) (hk : KeepBut (fun k => k = p) w w') (hb : Box w' p #[vb, .int .i64 (r'.went : Nat), .int .i64 r'.why, .int .i64 (r'.fat : Nat)] 148)
    (hle : r'.went ≤ all.length) (hbs : r'.bs = all.drop r'.went) : CR w' p vb all r' :=
  ⟨hb, owns_keep h.own hk (fun _ hg e => h.apart (e ▸ hg)), h.byte, hle, hbs, h.room⟩
theorem CR.len {w : World} {p : Nat} {vb : Value} {all : List Int} {r : RS} (h : CR w p vb all r) : r.bs.length = all.length - r.went := by rw [h.bs]; simp

set_option maxHeartbeats 800000 in
theorem fault_any (p : Nat) (vb : Value) (all : List Int) (r : RS) (w : World) (h : CR w p vb all r) :
    Calls Tryz.prog 44 #[.pointer (some ⟨p, 0, none⟩)] w fun e w' => e = .returned (.agg #[.int .i64 r.why, .int .i64 (r.fat : Nat)]) ∧ Below w.heap.size w w' := by
  have m2 := h.box.cell 2 _ rfl
  have m3 := h.box.cell 3 _ rfl
  have hlt := h.box.lt
  clear h
  go_enter Tryz.func44, Tryz.ntmps44
  go_wp2_with fail
  exact bodyPost_ret (v := .agg #[.int .i64 r.why, .int .i64 (r.fat : Nat)]) (by simp [results, Tryz.results44, go_sem]) rfl ⟨rfl, (Below.refl _ _).alloc (Nat.le_refl _) _⟩
theorem fld_why (a b : Int) (w : World) : (Instr.field 53 (.agg #[.int .i64 a, .int .i64 b]) 0).run Tryz.prog w = .ok (.int .i64 a) w := by kernel_rfl
set_option maxRecDepth 100000 in
set_option maxHeartbeats 800000 in
theorem left_any (p : Nat) (vb : Value) (all : List Int) (r : RS) (w : World) (h : CR w p vb all r) :
    Calls Tryz.prog 96 #[.pointer (some ⟨p, 0, none⟩)] w fun e w' => e = .returned (.int .i64 (leftS r : Nat)) ∧ Below w.heap.size w w' := by
  have C := hide (fault_any p vb all r w h)
  have HH := hide h
  have hle := h.le
  have hroom := h.room
  have hlen := hide h.len
  obtain ⟨ao, cap, rfl⟩ := (Lies.of_own h.own).shape
  have hfl := fld_why
  clear h
  by_cases hw : r.why = 0
  · have HE : Hid (leftS r = all.length - r.went) := hide (by unfold leftS; rw [if_neg (by simp [hw]), hlen.out])
    rw [HE.out]
    rw [hw] at C
    go_enter Tryz.func96, Tryz.ntmps96
    go_wp2_with fail
    refine C.out.mono ?_
    rintro e w1 ⟨rfl, hB⟩
    have HB := hide hB
    have h1 := HH.out.below hB
    have m0 := h1.box.cell 0 _ rfl
    have m1 := h1.box.cell 1 _ rfl
    clear h1 hB C
    go_wp2_with fail
    go_quiet (fail)
    go_wp2_with fail
    go_ret
    exact ⟨ret_int (by omega), below_drewN HB.out _⟩
  · have HE : Hid (leftS r = 0) := hide (by unfold leftS; rw [if_pos hw])
    rw [HE.out]
    have hn : (r.why != 0) = true := by simpa using hw
    clear HH
    go_enter Tryz.func96, Tryz.ntmps96
    go_wp2_with fail
    refine C.out.mono ?_
    rintro e w1 ⟨rfl, hB⟩
    have HB := hide hB
    clear hB C
    go_wp2_with fail
    go_ret
    exact ⟨rfl, HB.out⟩
theorem infoFault : (Tryz.prog.info? 53).map (fun i => (i.zero, i.size)) = some (some (.agg #[.int .i64 0, .int .i64 0]), 2) := by kernel_rfl
/-- A fault is laid. -/
theorem CR.failed {w : World} {p : Nat} {vb : Value} {all : List Int} {r : RS} (h : CR w p vb all r) (e : Int) :
    CR ((w.setCell ⟨p, 2, none⟩ (.int .i64 e)).setCell ⟨p, 3, none⟩ (.int .i64 (r.went : Nat))) p vb all (r.fail e) ∧ KeepBut (fun k => k = p) w ((w.setCell ⟨p, 2, none⟩ (.int .i64 e)).setCell ⟨p, 3, none⟩ (.int .i64 (r.went : Nat))) := by
  have hk := ((KeepBut.refl (fun k => k = p) w).setCell (p := ⟨p, 2, none⟩) (.inl rfl) (.int .i64 e)).setCell (p := ⟨p, 3, none⟩) (.inl rfl) (.int .i64 (r.went : Nat))
  refine ⟨h.set hk ?_ h.le h.bs, hk⟩
  have := (h.box.set (i := 2) (v := .int .i64 e)).set (i := 3) (v := .int .i64 (r.went : Nat))
  simpa [RS.fail] using this
/-- Bytes went. -/
theorem CR.gone {w : World} {p : Nat} {vb : Value} {all : List Int} {r : RS} (h : CR w p vb all r) (k : Nat) (hk : k ≤ r.bs.length) :
    CR (w.setCell ⟨p, 1, none⟩ (.int .i64 ((r.went + k : Nat) : Int))) p vb all (r.go k) ∧ KeepBut (fun k => k = p) w (w.setCell ⟨p, 1, none⟩ (.int .i64 ((r.went + k : Nat) : Int))) := by
  have hkk := (KeepBut.refl (fun k => k = p) w).setCell (p := ⟨p, 1, none⟩) (.inl rfl) (.int .i64 ((r.went + k : Nat) : Int))
  have hlen := h.len
  refine ⟨h.set hkk ?_ (by have := h.le; simp only [RS.go]; omega) (by simp only [RS.go]; rw [h.bs, List.drop_drop]), hkk⟩
  have := h.box.set (i := 1) (v := .int .i64 ((r.went + k : Nat) : Int))
  simpa [RS.go] using this
set_option maxRecDepth 100000 in
set_option maxHeartbeats 800000 in
theorem end_any (p : Nat) (vb : Value) (all : List Int) (r : RS) (w : World) (h : CR w p vb all r) :
    Calls Tryz.prog 45 #[.pointer (some ⟨p, 0, none⟩)] w fun e w' => e = .returned (.agg #[.int .i64 (endS r).why, .int .i64 ((endS r).fat : Nat)]) ∧ CR w' p vb all (endS r) ∧ KeepBut (fun k => k = p) w w' := by
  have hB0 := (Below.refl w.heap.size w).alloc (Nat.le_refl _) (.cells #[.int .i64 0, .int .i64 0] 53)
  have HH := hide (h.below hB0)
  have HB0 := hide hB0
  have C := hide (left_any p vb all r _ (h.below hB0))
  have hlt := h.box.lt
  have hlen := hide h.len
  have hle := hide h.le
  have hbs := hide h.bs
  have hroom := h.room
  have hleft : leftS r ≤ 200000000000000 := by
    unfold leftS
    split
    · omega
    · rw [hlen.out]; omega
  have HG : Hid (vb.ownBlock ≠ some w.heap.size) := hide (fun e => Nat.lt_irrefl _ (owns_lt h.own e))
  clear h hB0
  generalize hl : leftS r = L at *
  have HLF := hide hl
  clear hl
  have HBX := hide (box_new w #[.int .i64 0, .int .i64 0] 53)
  have hpn : Hid (¬ w.heap.size = p) := hide (by omega)
  have HI := hide ((zero_of_info infoFault).2)
  by_cases hz : 0 < L
  · have hI : (0 : Int) < (L : Int) := by omega
    have HE : Hid (endS r = r.fail 3) := hide (by
      have h1 := HLF.out
      unfold leftS at h1
      unfold endS
      by_cases hw : r.why ≠ 0
      · rw [if_pos hw] at h1; omega
      · rw [if_neg hw] at h1 ⊢
        rw [if_neg (by intro e; rw [e] at h1; simp at h1; omega)])
    rw [HE.out]
    go_enter Tryz.func45, Tryz.ntmps45
    go_wp2_with fail
    refine C.out.mono ?_
    rintro e w1 ⟨rfl, hB⟩
    have HB := hide hB
    have h1 := HH.out.below hB
    have hx1 := hide (HBX.out.keep (KeepBut.of_below (fun _ => False) hB) (fun h => h))
    have m1 := h1.box.cell 1 _ rfl
    have f2 := h1.box.frozen 2
    have f3 := h1.box.frozen 3
    have m2 := h1.box.cell 2 _ rfl
    have m3 := h1.box.cell 3 _ rfl
    have H1 := hide (h1.failed 3)
    clear h1 hB C HH
    go_wp2_with fail
    refine (fault_any p vb all (r.fail 3) _ H1.out.1).mono ?_
    rintro e w2 ⟨rfl, hB2⟩
    have H2 := hide (H1.out.1.below hB2)
    have hx2 := hide ((hx1.out.keep H1.out.2 hpn.out).keep (KeepBut.of_below (fun _ => False) hB2) (fun h => h))
    have HK2 : Hid (KeepBut (fun k => k = p) w w2) := hide ((((KeepBut.of_below (fun k => k = p) HB0.out).trans (KeepBut.of_below (fun k => k = p) HB.out) (fun _ _ h => h)).trans H1.out.2 (fun _ _ h => h)).trans (KeepBut.of_below (fun k => k = p) hB2) (fun _ _ h => h))
    clear hB2 m1 m2 m3 f2 f3 H1
    go_wp2_with (refine wp_store_box rfl rfl _ _ rfl w.heap.size rfl rfl hx2.out rfl HI.out (by simp [Value.oneCell']) ?_; intro w3 hb3 hk3; have HB3 := hide hb3; have HK3 := hide hk3; clear hb3 hk3)
    refine bodyPost_ret (v := .agg #[.int .i64 (r.fail 3).why, .int .i64 ((r.fail 3).fat : Nat)]) (results_box rfl _ _ w.heap.size rfl HB3.out Tryz.underlying53 rfl HI.out) rfl ⟨rfl, H2.out.keep HK3.out (fun e => hpn.out e.symm) (fun g hg e => ?_), HK2.out.trans HK3.out (fun k hk e => absurd hk (by omega))⟩
    subst e
    exact absurd hg HG.out
  · have hI : (L : Int) ≤ 0 := by omega
    have HE : Hid (endS r = r) := hide (by
      have h1 := HLF.out
      unfold leftS at h1
      unfold endS
      by_cases hw : r.why ≠ 0
      · rw [if_pos hw]
      · rw [if_neg hw] at h1 ⊢
        rw [if_pos (List.eq_nil_of_length_eq_zero (by omega))])
    rw [HE.out]
    go_enter Tryz.func45, Tryz.ntmps45
    go_wp2_with fail
    refine C.out.mono ?_
    rintro e w1 ⟨rfl, hB⟩
    have HB := hide hB
    have H1 := hide (HH.out.below hB)
    have hx1 := hide (HBX.out.keep (KeepBut.of_below (fun _ => False) hB) (fun h => h))
    clear hB C HH
    go_wp2_with fail
    refine (fault_any p vb all r _ H1.out).mono ?_
    rintro e w2 ⟨rfl, hB2⟩
    have H2 := hide (H1.out.below hB2)
    have hx2 := hide (hx1.out.keep (KeepBut.of_below (fun _ => False) hB2) (fun h => h))
    have HK2 : Hid (KeepBut (fun k => k = p) w w2) := hide (((KeepBut.of_below (fun k => k = p) HB0.out).trans (KeepBut.of_below (fun k => k = p) HB.out) (fun _ _ h => h)).trans (KeepBut.of_below (fun k => k = p) hB2) (fun _ _ h => h))
    clear hB2 H1
    go_wp2_with (refine wp_store_box rfl rfl _ _ rfl w.heap.size rfl rfl hx2.out rfl HI.out (by simp [Value.oneCell']) ?_; intro w3 hb3 hk3; have HB3 := hide hb3; have HK3 := hide hk3; clear hb3 hk3)
    refine bodyPost_ret (v := .agg #[.int .i64 r.why, .int .i64 (r.fat : Nat)]) (results_box rfl _ _ w.heap.size rfl HB3.out Tryz.underlying53 rfl HI.out) rfl ⟨rfl, H2.out.keep HK3.out (fun e => hpn.out e.symm) (fun g hg e => ?_), HK2.out.trans HK3.out (fun k hk e => absurd hk (by omega))⟩
    subst e
    exact absurd hg HG.out
/-- A new reader. -/
theorem new_any (v : Value) (xs : List Int) (w : World) (h : Lies .u8 w v xs) (hx : ∀ c ∈ xs, 0 ≤ c ∧ c < 256) (hr : xs.length ≤ 200000000000000) :
    Calls Tryz.prog 42 #[v] w fun e w' => ∃ p vb, e = .returned (.pointer (some ⟨p, 0, none⟩)) ∧ CR w' p vb xs ⟨xs, 0, 0, 0⟩ ∧ w.heap.size ≤ p ∧ (∀ g, vb.ownBlock = some g → w.heap.size ≤ g) ∧ Below w.heap.size w w' := by
  have C := hide (clone_any v xs w h hr)
  clear h
  go_enter Tryz.func42, Tryz.ntmps42
  go_wp2_with fail
  refine C.out.mono ?_
  rintro e w1 ⟨vb, rfl, ho, hB⟩
  obtain ⟨ao, cap, rfl⟩ := (Lies.of_own ho).shape
  have HO := hide ho
  have HB := hide hB
  clear ho hB C
  go_wp2_with fail
  go_ret
  refine ⟨_, _, rfl, ⟨box_new w1 _ _, (owns_any HO.out).alloc _, hx, Nat.zero_le _, by simp, hr⟩, HB.out.size, fun g hg => (HO.out.lt g hg).1, HB.out.alloc HB.out.size _⟩
end
end Go.Proofs.YtencmgepffdodaaGreat
