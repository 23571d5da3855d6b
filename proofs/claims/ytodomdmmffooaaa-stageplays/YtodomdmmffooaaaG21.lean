/-
  Own texts put together: SgDone, SgAlive, SgKit, SgRf. Own work.
-/
import Derived.Test.YtodomdmmffooaaaG20
import Derived.Test.YtodomdmmffooaaaG10
import Derived.Test.YtodomdmmffooaaaG15
import Derived.Test.YtodomdmmffooaaaG19
import Derived.Deep.RegionHeld
import Derived.BigRegion
namespace Go.Proofs.Ytodomdmmffooaaa
section
open Go.RowKit Go.Maps Classical

theorem keep_f {w w' : World} {q b1 b2 : Nat} {p : TxN → Value} {l : List OnP} {F : Nat → Prop} (hF : ∀ k, F k ↔ FSg q b1 b2 p l k) (hk : KeepBut (fun k => k = b1 ∨ k = b2) w w') : KeepBut F w w' :=
  hk.mono fun k e => (hF k).2 (e.elim (fun e => .inr (.inl e)) (fun e => .inr (.inr (.inl e))))
theorem ps_do : StageDo PS where
  keep := ps_keep
  lt := ps_lt
  ok := ps_ok
  new := psNew_any
  put := fun {w q F l} x v h hx hs => by
    obtain ⟨b1, b2, p, h1, h2⟩ := h
    exact (psPut_any q b1 b2 p l x v w h1 hx hs).mono fun e w' ⟨he, p', h3, h4, h5⟩ => ⟨he, FSg q b1 b2 p' (pS l x), ⟨b1, b2, p', h3, fun k => Iff.rfl⟩, keep_f h2 h4, fun k hk => (h5 k hk).imp (h2 k).2 id⟩
  take := fun {w q F l} t h ht => by
    obtain ⟨b1, b2, p, h1, h2⟩ := h
    refine (psTake_any q b1 b2 p l t w h1 ht).mono fun e w' ⟨v, he, h3, h4, h5, h6⟩ => ⟨v, FSg q b1 b2 p (dropS l t), he, ⟨b1, b2, p, h3, fun k => Iff.rfl⟩, keep_f h2 h4, fun k hk => .inl ((h2 k).2 ?_), h5, fun g hg => ⟨(h2 g).2 (.inr (.inr (.inr (h6 g hg).1))), fun hf => ?_⟩⟩
    · rcases hk with e | e | e | ⟨x, hx, hg⟩
      · exact .inl e
      · exact .inr (.inl e)
      · exact .inr (.inr (.inl e))
      · exact .inr (.inr (.inr ⟨x, ((dropS_mem l t x).1 hx).1, hg⟩))
    · obtain ⟨⟨x, hx, hg2⟩, hn⟩ := h6 g hg
      have hb := h1.blk hx hg2
      rcases hf with e | e | e | ⟨y, hy, hg3⟩
      · exact hb.2.1 e
      · exact hb.2.2.1 e
      · exact hb.2.2.2 e
      · exact hn y hy hg3
  writes := fun {w q F l} t h ht => by
    obtain ⟨b1, b2, p, h1, _⟩ := h
    exact psWrites_any q b1 b2 p l t w h1 ht
  owner := fun {w q F l} k h hk => by
    obtain ⟨b1, b2, p, h1, _⟩ := h
    exact psOwner_any q b1 b2 p l k w h1 hk
  all := fun {w q F l} h => by
    obtain ⟨b1, b2, p, h1, _⟩ := h
    exact psAll_any q b1 b2 p l w h1
/-- A stage that nobody made: nil, or one without maps. -/
def Nob14 (w : World) (v : Value) : Prop := v = .pointer none ∨ ∃ q, v = .pointer (some ⟨q, 0, none⟩) ∧ Box w q #[.map none, .map none] 65
theorem Nob14.below {w w' : World} {v : Value} (h : Nob14 w v) (hB : Below w.heap.size w w') : Nob14 w' v := h.imp id fun ⟨q, e, hb⟩ => ⟨q, e, hb.belowI hB⟩
end
section
open Go.RowKit Classical

def k14 : List Int := [97, 0, 0, 0, 0, 0, 0, 0]
def sw14 : WrP := ⟨k14, ⟨1, [], ⟨1, 1, 1, [1, 0, 0, 0, 0, 0, 0, 0]⟩⟩⟩
def x14 : OnP := ⟨(0, 1, 1), (1, 1), [sw14]⟩
theorem k14_ok : KeyOk k14 := ⟨rfl, by decide⟩
theorem sw14_ok : KeyOk sw14.key ∧ ItOk sw14.it := ⟨k14_ok, ⟨by decide, (fun c hc => by cases hc), (show Cf.Ok ⟨1, 1, 1, [1, 0, 0, 0, 0, 0, 0, 0]⟩ from ⟨by decide, by decide, by decide, by decide, by decide⟩)⟩⟩
theorem x14_ok : OnOk x14 := ⟨⟨by decide, by decide, by decide⟩, ⟨by decide, by decide⟩, fun y hy => by
  simp only [x14, List.mem_singleton] at hy
  rw [hy]
  exact sw14_ok⟩
theorem x14_facts : pA [] x14 = 0 ∧ pS [] x14 = [x14] ∧ ownS [x14] k14 = some (0, 1, 1) ∧ tA [x14] (0, 1, 1) = 0 ∧ tW [x14] (0, 1, 1) = [sw14] ∧ dropS [x14] (0, 1, 1) = [] := ⟨by decide, rfl, rfl, by decide, rfl, rfl⟩
theorem info14Tx : (Try.prog.info? 33).map (·.size) = some 3 := by kernel_rfl
theorem build14k (w : World) : (Instr.build 53 #[(0, .int .u8 97)]).run Try.prog w = .ok (.agg #[.int .u8 97, .int .u8 0, .int .u8 0, .int .u8 0, .int .u8 0, .int .u8 0, .int .u8 0, .int .u8 0]) w := by kernel_rfl
theorem build14t (w : World) : (Instr.build 33 #[(1, .int .u32 1), (2, .int .u32 1)]).run Try.prog w = .ok (.agg #[.int .u8 0, .int .u32 1, .int .u32 1]) w := by kernel_rfl
theorem build14g (w : World) : (Instr.build 35 #[(0, .int .u32 1), (1, .int .u32 1)]).run Try.prog w = .ok (.agg #[.int .u32 1, .int .u32 1]) w := by kernel_rfl
set_option maxRecDepth 100000 in
theorem some14_any (w : World) : Calls Try.prog 29 #[] w fun e w' => e = .returned (.slice (some ⟨w.heap.size, 0, none⟩) 1 1) ∧ RSrc wrE w' (.slice (some ⟨w.heap.size, 0, none⟩) 1 1) [sw14] ∧ Below w.heap.size w w' := by
  go_enter Try.func29, Try.ntmps29
  go_wp2
  go_ret
  refine ⟨by simp, ⟨_, 1, rfl, Nat.le_refl _, by decide, (fun e => by cases e), fun _ => ⟨w.heap.size, 0, rfl, by simp, fun j u hu => ?_⟩⟩, (Below.refl _ _).alloc (Nat.le_refl _) _⟩
  rw [Nat.zero_add]
  exact (box_new w (wrA sw14) 59).cell j u (by simpa [flat] using hu)
section
variable {D : World → Nat → (Nat → Prop) → List OnP → Prop}
set_option maxRecDepth 100000 in
set_option maxHeartbeats 3200000 in
theorem alive_by14 (H : StageDo D) (w : World) : Calls Try.prog 8 #[] w fun e w' => e = .returned (.bool true) ∧ Below w.heap.size w w' := by
  have HF := hide x14_facts
  have hbk := build14k
  have hbt := build14t
  have hbg := build14g
  have CS := hide (fun W => some14_any W)
  go_enter Try.func8, Try.ntmps8
  go_wp2_with fail
  refine (H.new w).mono ?_
  rintro e w1 ⟨q, F1, rfl, hD1, hF1, hB1⟩
  have HS1 : Hid (Since14 D w q F1 [] w1) := hide ⟨hD1, hF1, hB1⟩
  have HNF : Hid (¬ F1 w1.heap.size) := hide (fun hf => Nat.lt_irrefl _ (H.lt hD1 _ hf))
  have hws := hB1.size
  have HZ := hide (box_new w1 #[.int .u8 0, .int .u32 0, .int .u32 0] 33)
  have HZS := hide (HS1.out.below H ((Below.refl w1.heap.size w1).alloc (Nat.le_refl _) (.cells #[.int .u8 0, .int .u32 0, .int .u32 0] 33)))
  clear hD1 hF1 hB1
  go_wp2_with (refine wp_store_box rfl rfl _ _ rfl w1.heap.size rfl (cs' := #[.int .u8 0, .int .u32 1, .int .u32 1]) rfl HZ.out rfl info14Tx (by simp [Value.oneCell']) ?_; intro w2 hb2 hk2; have HX2 := hide hb2; have HS2 : Hid (Since14 D w q F1 [] w2) := hide (HZS.out.keep H hk2 (fun k hf e => HNF.out (by rw [← e]; exact hf)) (fun k e => by omega)); clear hb2 hk2)
  obtain ⟨z0, z1, z2⟩ := HX2.out.three
  have HP : Hid (∀ W F v, D W q F [] → RSrc wrE W v [sw14] → Calls Try.prog 13 #[.pointer (some ⟨q, 0, none⟩), .agg #[.int .u8 0, .int .u32 1, .int .u32 1], .agg #[.int .u32 1, .int .u32 1], v] W fun e w' => e = .returned (.int .i64 0) ∧ SDid D W w' q F [x14]) := hide (fun W F v hD hv => by
    have h := H.put x14 v hD x14_ok hv
    rw [HF.out.1, HF.out.2.1] at h
    exact h)
  first | (go_region_held (fun w' => w'.cell? ⟨w1.heap.size, 0, none⟩ = some (.int .u8 0) ∧ w'.cell? ⟨w1.heap.size, 1, none⟩ = some (.int .u32 1) ∧ w'.cell? ⟨w1.heap.size, 2, none⟩ = some (.int .u32 1)) (go_keep) (first
    | (go_at_call 29; refine (CS.out _).mono ?_; rintro e w3 ⟨rfl, hs3, hB3⟩; have hB23 : Below w2.heap.size w2 w3 := (Below.refl w2.heap.size w2).drew.trans hB3; have HX3 := hide (HX2.out.belowI hB23); have HS3 := hide (HS2.out.below H hB23); have HV3 := hide hs3; obtain ⟨y0, y1, y2⟩ := HX3.out.three; clear hB3 hB23 hs3 HX2 HS2 z0 z1 z2)
    | (go_at_call 13; refine (HP.out _ _ _ HS3.out.d HV3.out).mono ?_; rintro e w4 ⟨rfl, hd4⟩; obtain ⟨F4, hs4, hk4, hf4⟩ := HS3.out.did hd4; have HS4 := hide hs4; have HX4 := hide (HX3.out.keep hk4 HNF.out); have HN4 : Hid (¬ F4 w1.heap.size) := hide (fun hf => (hf4 _ hf).elim HNF.out (fun h => by have := HX3.out.lt; omega)); obtain ⟨x0, x1, x2⟩ := HX4.out.three; clear hd4 hs4 hk4 hf4 HS3 HX3 HV3 y0 y1 y2))) | fail
  have HO : Hid (Calls Try.prog 20 #[.pointer (some ⟨q, 0, none⟩), .agg #[.int .u8 97, .int .u8 0, .int .u8 0, .int .u8 0, .int .u8 0, .int .u8 0, .int .u8 0, .int .u8 0]] w4 fun e w' => e = .returned (.tuple #[.agg #[.int .u8 0, .int .u32 1, .int .u32 1], .bool true]) ∧ Below w4.heap.size w4 w') := hide (by
    have h := H.owner k14 HS4.out.d k14_ok
    rw [HF.out.2.2.1] at h
    exact h)
  clear HP x0 x1 x2
  go_wp2_with fail
  refine HO.out.mono ?_
  rintro e w5 ⟨rfl, hB5⟩
  have HS5 := hide (HS4.out.below H hB5)
  have HX5 := hide (HX4.out.belowI hB5)
  have h45 := hB5.size
  have HZ5 := hide (box_new w5 #[.int .u8 0, .int .u32 0, .int .u32 0] 33)
  have hA5 : Below w5.heap.size w5 (w5.alloc (.cells #[.int .u8 0, .int .u32 0, .int .u32 0] 33)) := (Below.refl _ _).alloc (Nat.le_refl _) _
  have HZS5 := hide (HS5.out.below H hA5)
  have HZX5 := hide (HX5.out.belowI hA5)
  have HN5 : Hid (¬ F4 w5.heap.size) := hide (fun hf => Nat.lt_irrefl _ (H.lt HS5.out.d _ hf))
  have h5 := HS5.out.b.size
  have h15 := HX5.out.lt
  clear hB5 hA5 HO
  go_wp2_with (first | (refine wp_store_box rfl rfl _ _ rfl w5.heap.size rfl (cs' := #[.int .u8 0, .int .u32 1, .int .u32 1]) rfl HZ5.out rfl info14Tx (by simp [Value.oneCell']) ?_; intro w6 hb6 hk6; have HO6 := hide hb6; have HX6 := hide (HZX5.out.keep hk6 (by omega)); have HS6 : Hid (Since14 D w q F4 [x14] w6) := hide (HZS5.out.keep H hk6 (fun k hf e => HN5.out (by rw [← e]; exact hf)) (fun k e => by omega)); clear hb6 hk6) | (refine wp_load_box rfl _ rfl w1.heap.size rfl HX6.out Try.underlying33 rfl info14Tx ?_))
  have HT : Hid (Calls Try.prog 10 #[.pointer (some ⟨q, 0, none⟩), .agg #[.int .u8 0, .int .u32 1, .int .u32 1]] w6 fun e w' => ∃ v F', e = .returned (.tuple #[v, .int .i64 0]) ∧ D w' q F' [] ∧ KeepBut F4 w6 w' ∧ (∀ k, F' k → F4 k ∨ w6.heap.size ≤ k) ∧ RSrc wrE w' v [sw14] ∧ ∀ g, v.ownBlock = some g → F4 g ∧ ¬ F' g) := hide (by
    have h := H.take (0, 1, 1) HS6.out.d x14_ok.tx
    rw [HF.out.2.2.2.1, HF.out.2.2.2.2.1, HF.out.2.2.2.2.2] at h
    exact h)
  have HN6 : Hid (¬ F4 w1.heap.size) := HN4
  refine HT.out.mono ?_
  rintro e w7 ⟨v7, F7, rfl, hd7, hk7, hf7, hv7, _⟩
  have HS7 : Hid (Since14 D w q F7 [] w7) := hide ⟨hd7, fun k hk => (hf7 k hk).elim (HS6.out.new k) (fun h => Nat.le_trans HS6.out.b.size h), HS6.out.b.trans (hk7.below HS6.out.b.size HS6.out.new)⟩
  have HX7 := hide (HX6.out.keep hk7 HN6.out)
  have HO7 := hide (HO6.out.keep hk7 HN5.out)
  have HV7 := hide hv7
  obtain ⟨sa, sc, e7, _, _⟩ := hv7.shape
  subst e7
  have heq := eql_tx 0 1 1 0 1 1
  clear hd7 hk7 hf7 hv7 HT
  have CM : Hid (∀ W v u, RSrc wrE W v [sw14] → RSrc wrE W u [sw14] → Calls Try.prog 12 #[v, u] W fun e w' => e = .returned (.bool true) ∧ Below W.heap.size W w') := hide (fun W v u h1 h2 => by
    have h := rsameWrites_any v u [sw14] [sw14] W h1 h2 (fun x hx => by rw [List.mem_singleton.1 hx]; exact sw14_ok) (fun x hx => by rw [List.mem_singleton.1 hx]; exact sw14_ok)
    rw [decide_eq_true rfl] at h
    exact h)
  have CA := hide (fun W (h : Since14 D w q F7 [] W) => H.all h.d)
  go_wp2_with (first | (refine wp_load_box rfl _ rfl w5.heap.size rfl HO7.out Try.underlying33 rfl info14Tx ?_) | (refine wp_load_box rfl _ rfl w1.heap.size rfl HX7.out Try.underlying33 rfl info14Tx ?_) | (go_at_call 29; refine (CS.out _).mono ?_; rintro e w8 ⟨rfl, hs8, hB8⟩; have HS8 := hide (HS7.out.below H hB8); have HU8 := hide hs8; have HV8 := hide (HV7.out.below hB8); clear hs8 hB8) | (go_at_call 12; refine (CM.out _ _ _ HV8.out HU8.out).mono ?_; rintro e w9 ⟨rfl, hB9⟩; have HS9 := hide (HS8.out.below H hB9); clear hB9) | (go_at_call 18; refine (CA.out _ HS9.out).mono ?_; rintro e w10 ⟨v10, rfl, ho10, hB10⟩; have HB10 := hide (HS9.out.b.trans (hB10.mono HS9.out.b.size)); clear hB10; obtain ⟨_, ⟨rfl, _⟩ | ⟨g10, cap10, cur10, rfl, _⟩⟩ := ho10))
  all_goals go_ret
  all_goals exact ⟨rfl, HB10.out⟩
end
end
section
open Go.RowKit Classical

theorem tx_dec (a b : TxN) : (((a.1 : Int) == (b.1 : Int)) && ((a.2.1 : Int) == (b.2.1 : Int)) && ((a.2.2 : Int) == (b.2.2 : Int))) = decide (a = b) := by
  obtain ⟨a1, a2, a3⟩ := a
  obtain ⟨b1, b2, b3⟩ := b
  rw [Bool.eq_iff_iff]
  simp only [Bool.and_eq_true, beq_iff_eq, decide_eq_true_eq, Prod.mk.injEq]
  omega
theorem eql_txN (a b : TxN) (w : World) : (binOp .eql 33 (txVN a) (txVN b)).run Try.prog w = .ok (.bool (decide (a = b))) w := by
  rw [← tx_dec]
  exact eql_tx _ _ _ _ _ _ w
theorem neq_txN (a b : TxN) (w : World) : (binOp .neq 33 (txVN a) (txVN b)).run Try.prog w = .ok (.bool (!decide (a = b))) w := by
  rw [← tx_dec]
  exact neq_tx _ _ _ _ _ _ w
theorem eql_rgN (a b : Nat × Nat) (w : World) : (binOp .eql 35 (rgV a) (rgV b)).run Try.prog w = .ok (.bool (decide (a = b))) w := by
  have e : (((a.1 : Int) == (b.1 : Int)) && ((a.2 : Int) == (b.2 : Int))) = decide (a = b) := by
    obtain ⟨a1, a2⟩ := a
    obtain ⟨b1, b2⟩ := b
    rw [Bool.eq_iff_iff]
    simp only [Bool.and_eq_true, beq_iff_eq, decide_eq_true_eq, Prod.mk.injEq]
    omega
  rw [← e]
  exact eql_reg _ _ _ _ w
theorem SvOk.on {W : World} {a : SActV} (h : SvOk W a) : OnOk a.a.on := ⟨h.tx, h.rg, fun y hy => ⟨(h.wr y hy).1, (h.wr y hy).2.1⟩⟩
theorem SvOk.below {w w' : World} {a : SActV} (h : SvOk w a) (hB : Below w.heap.size w w') : SvOk w' a := ⟨h.tx, h.rg, h.src.below hB, h.wr⟩
theorem box_act {W : World} {b : Nat} {tk : Bool} {tx : TxN} {rg : Nat × Nat} {ws : List WrP} {p : Value} {t : TypeId} (h : Box W b (sactA ⟨⟨tk, ⟨tx, rg, ws⟩⟩, p⟩) t) : W.cell? ⟨b, 0, none⟩ = some (.bool tk) ∧ W.cell? ⟨b, 1, none⟩ = some (.int .u8 (tx.1 : Int)) ∧ W.cell? ⟨b, 2, none⟩ = some (.int .u32 (tx.2.1 : Int)) ∧ W.cell? ⟨b, 3, none⟩ = some (.int .u32 (tx.2.2 : Int)) ∧ W.cell? ⟨b, 4, none⟩ = some (.int .u32 (rg.1 : Int)) ∧ W.cell? ⟨b, 5, none⟩ = some (.int .u32 (rg.2 : Int)) ∧ W.cell? ⟨b, 6, none⟩ = some p :=
  ⟨h.cell 0 _ rfl, h.cell 1 _ rfl, h.cell 2 _ rfl, h.cell 3 _ rfl, h.cell 4 _ rfl, h.cell 5 _ rfl, h.cell 6 _ rfl⟩
section
variable {D : World → Nat → (Nat → Prop) → List OnP → Prop}
theorem Since14.took {w w1 w2 : World} {q : Nat} {F F' : Nat → Prop} {l l' : List OnP} (h : Since14 D w q F l w1) (hd : D w2 q F' l') (hk : KeepBut F w1 w2) (h2 : ∀ k, F' k → F k ∨ w1.heap.size ≤ k) : Since14 D w q F' l' w2 :=
  ⟨hd, fun k hk' => (h2 k hk').elim (h.new k) (fun h3 => Nat.le_trans h.b.size h3), h.b.trans (hk.below h.b.size h.new)⟩
end
end
section
open Go.RowKit Classical

/-- One as it lies in a row. -/
structure OnV where
  o : OnP
  p : Value
abbrev onE (x : OnV) : List Value := [.int .u8 (x.o.tx.1 : Int), .int .u32 (x.o.tx.2.1 : Int), .int .u32 (x.o.tx.2.2 : Int), .int .u32 (x.o.rg.1 : Int), .int .u32 (x.o.rg.2 : Int), x.p]
abbrev osV (vs : List OnV) : List OnP := vs.map OnV.o
theorem recON : Rec 25 91 6 onE := ⟨Try.underlying25, rec_info (z := .agg #[.int .u8 0, .int .u32 0, .int .u32 0, .int .u32 0, .int .u32 0, .slice none 0 0]) (K := 6) (B := 48) (by kernel_rfl) rfl (by decide), by decide, fun _ => rfl⟩
def usesO (v : Value) (vs : List OnV) (k : Nat) : Prop := v.ownBlock = some k ∨ ∃ x ∈ vs, x.p.ownBlock = some k
def usesS (r : Nat) (v : Value) (vs : List OnV) (k : Nat) : Prop := k = r ∨ usesO v vs k
/-- At r lies the reference's stage. -/
structure RSg (w : World) (r : Nat) (v : Value) (vs : List OnV) : Prop where
  box : Box w r #[v] 27
  src : RSrc onE w v vs
  wr : ∀ x ∈ vs, RSrc wrE w x.p x.o.wr
  far : ∀ k, usesO v vs k → k < w.heap.size ∧ k ≠ r
  all : SgAll (osV vs)
  oks : ∀ x ∈ vs, OnOk x.o
section
variable {w w' : World} {r : Nat} {v : Value} {vs : List OnV}
theorem RSg.keep {S : Nat → Prop} (h : RSg w r v vs) (hk : KeepBut S w w') (hS : ∀ k, usesS r v vs k → ¬ S k) : RSg w' r v vs :=
  ⟨h.box.keep hk (hS r (.inl rfl)), h.src.keep hk (fun g e => hS g (.inr (.inl e))), fun x hx => (h.wr x hx).keep hk (fun g e => hS g (.inr (.inr ⟨x, hx, e⟩))), fun k hk' => ⟨Nat.lt_of_lt_of_le (h.far k hk').1 hk.size, (h.far k hk').2⟩, h.all, h.oks⟩
theorem RSg.below (h : RSg w r v vs) (hB : Below w.heap.size w w') : RSg w' r v vs := h.keep (KeepBut.of_below (fun _ => False) hB) (fun _ _ h => h)
theorem RSg.lt (h : RSg w r v vs) : ∀ k, usesS r v vs k → k < w.heap.size := by
  rintro k (rfl | e)
  · exact h.box.lt
  · exact (h.far k e).1
/-- What a call leaves of it. -/
def RSid (w w' : World) (r : Nat) (v : Value) (vs : List OnV) (l' : List OnP) : Prop :=
  ∃ v' vs', RSg w' r v' vs' ∧ osV vs' = l' ∧ KeepBut (fun k => k = r) w w' ∧ ∀ k, usesO v' vs' k → usesO v vs k ∨ w.heap.size ≤ k
theorem RSid.of_below (h : RSg w r v vs) (hB : Below w.heap.size w w') : RSid w w' r v vs (osV vs) := ⟨v, vs, h.below hB, rfl, KeepBut.of_below _ hB, fun _ hk => .inl hk⟩
theorem RSid.before {w1 : World} {l' : List OnP} (hB : Below w.heap.size w w1) (h : RSid w1 w' r v vs l') : RSid w w' r v vs l' := by
  obtain ⟨v', vs', h1, h2, hk, hu⟩ := h
  exact ⟨v', vs', h1, h2, (KeepBut.of_below (fun k => k = r) hB).trans hk (fun _ _ h => h), fun k hk' => (hu k hk').imp id (fun h => Nat.le_trans hB.size h)⟩
/-- Its row is written anew. -/
theorem RSg.put {wf : World} {v' : Value} {vs' : List OnV} (h : RSg w r v vs) (hB : Below w.heap.size w wf) (ho : wf.ownsRow w.heap.size 91 6 v' vs'.length (flat onE vs')) (hwr : ∀ x ∈ vs', (x ∈ vs ∨ ∀ g, x.p.ownBlock = some g → w.heap.size ≤ g ∧ g < wf.heap.size) ∧ RSrc wrE wf x.p x.o.wr)
    (hall : SgAll (osV vs')) (hoks : ∀ x ∈ vs', OnOk x.o) : RSid w (wf.setCell ⟨r, 0, none⟩ v') r v vs (osV vs') := by
  have hpw := h.box.lt
  have hf : ∀ g, v'.ownBlock = some g → w.heap.size ≤ g := fun g e => (ho.lt g e).1
  have hks : KeepBut (fun k => k = r) wf (wf.setCell ⟨r, 0, none⟩ v') := (KeepBut.refl (fun k => k = r) wf).setCell (p := ⟨r, 0, none⟩) (.inl rfl) _
  have hx : ∀ x ∈ vs', ∀ g, x.p.ownBlock = some g → g < wf.heap.size ∧ g ≠ r := fun x hx g hg => by
    rcases (hwr x hx).1 with h1 | h1
    · have := h.far g (.inr ⟨x, h1, hg⟩)
      exact ⟨Nat.lt_of_lt_of_le this.1 hB.size, this.2⟩
    · have := h1 g hg
      exact ⟨this.2, by omega⟩
  refine ⟨v', vs', ⟨(h.box.belowI hB).set (i := 0) (v := v'), (RSrc.of_own ho).keep hks (fun g e e2 => by have := hf g e; omega), fun x hxm => (hwr x hxm).2.keep hks (fun g e e2 => (hx x hxm g e).2 e2), ?_, hall, hoks⟩, rfl, (KeepBut.of_below (fun k => k = r) hB).trans hks (fun _ _ h => h), ?_⟩
  · rintro k (e | ⟨x, hxm, e⟩)
    · have h1 := (ho.lt k e).2
      have h2 := hf k e
      exact ⟨by simpa using h1, by omega⟩
    · have := hx x hxm k e
      exact ⟨by simpa using this.1, this.2⟩
  · rintro k (e | ⟨x, hxm, e⟩)
    · exact .inr (hf k e)
    · rcases (hwr x hxm).1 with h1 | h1
      · exact .inl (.inr ⟨x, h1, e⟩)
      · exact .inr (h1 k e).1
end
/-- Where a name stands. -/
def plS : List OnP → TxN → Int
  | [], _ => -1
  | x :: l, t => if x.tx = t then 0 else if plS l t < 0 then -1 else plS l t + 1
theorem pl_none {l : List OnP} {t : TxN} (h : ∀ x ∈ l, x.tx ≠ t) : plS l t = -1 := by
  induction l with
  | nil => rfl
  | cons x l ih =>
    unfold plS
    rw [if_neg (h x List.mem_cons_self), ih (fun y hy => h y (List.mem_cons_of_mem _ hy))]
    rfl
theorem pl_at {l : List OnP} {t : TxN} : ∀ {k : Nat} (hk : k < l.length), l[k].tx = t → (∀ j (hj : j < k), (l[j]'(Nat.lt_trans hj hk)).tx ≠ t) → plS l t = (k : Int) := by
  induction l with
  | nil => intro k hk; simp at hk
  | cons x l ih =>
    intro k hk e hne
    unfold plS
    cases k with
    | zero => rw [if_pos (by simpa using e)]; rfl
    | succ k =>
      have h0 := hne 0 (by omega)
      rw [if_neg (by simpa using h0)]
      have := ih (k := k) (by simpa using hk) (by simpa using e) (fun j hj => by simpa using hne (j + 1) (by omega))
      rw [this, if_neg (by omega)]
      rfl
theorem pl_on {l : List OnP} {t : TxN} {x : OnP} : ∀ (_ : onS l t = some x), ∃ k : Nat, plS l t = (k : Int) ∧ ∃ hk : k < l.length, l[k] = x ∧ x.tx = t := by
  induction l with
  | nil => intro h; cases h
  | cons y l ih =>
    intro h
    unfold plS
    unfold onS at h ih
    by_cases e : y.tx = t
    · rw [List.find?_cons_of_pos (by simpa using e)] at h
      cases h
      exact ⟨0, by rw [if_pos e]; rfl, by simp, rfl, e⟩
    · rw [List.find?_cons_of_neg (by simpa using e)] at h
      obtain ⟨k, h1, hk, h2⟩ := ih h
      rw [if_neg e, h1, if_neg (by omega)]
      exact ⟨k + 1, by omega, by simp; omega, by simpa using h2⟩
theorem below_drewN14 (w : World) (n : Nat) : Below w.heap.size w (w.drewN n) := ⟨rfl, rfl, rfl, Nat.le_refl _, fun _ _ => rfl⟩
set_option maxRecDepth 100000 in
set_option maxHeartbeats 1600000 in
theorem rgfind_any (r : Nat) (v : Value) (vs : List OnV) (t : TxN) (w : World) (h : RSg w r v vs) :
    Calls Try.prog 31 #[.pointer (some ⟨r, 0, none⟩), txVN t] w fun e w' => e = .returned (.int .i64 (plS (osV vs) t)) ∧ Below w.heap.size w w' := by
  have hX0 := box_new w #[.int .u8 (t.1 : Int), .int .u32 (t.2.1 : Int), .int .u32 (t.2.2 : Int)] 33
  have hA0 := alloc_below14 w (.cells #[.int .u8 (t.1 : Int), .int .u32 (t.2.1 : Int), .int .u32 (t.2.2 : Int)] 33)
  obtain ⟨w1, hw1⟩ : ∃ w1, w1 = w.alloc (.cells #[.int .u8 (t.1 : Int), .int .u32 (t.2.1 : Int), .int .u32 (t.2.2 : Int)] 33) := ⟨_, rfl⟩
  rw [← hw1] at hX0 hA0
  have hW1 := hw1.symm
  have hR := h.below hA0
  obtain ⟨ao, cap, hvb, hcap, hcm⟩ := hR.src.shape
  subst hvb
  have m1 : w1.cell? ⟨r, 0, none⟩ = some (.slice ao vs.length cap) := hR.box.cell 0 _ rfl
  obtain ⟨x0, x1, x2⟩ := hX0.three
  have HSR := hide hR.src
  have HB := hide hA0
  obtain ⟨L, hL⟩ : ∃ L, L = vs.length := ⟨_, rfl⟩
  have HL := hide hL
  have hL2 : L ≤ 64 := by have := h.all.ok.few; rw [List.length_map] at this; omega
  rw [← hL] at m1
  clear h hR hX0 hA0 hw1 hL hcap hcm
  go_enter Try.func31, Try.ntmps31
  go_wp2
  go_loopw [5] (fun i wr => ∃ k : Nat, k ≤ L ∧ i = .int .i64 k ∧ Hid (∀ j (hj : j < vs.length), j < k → vs[j].o.tx ≠ t) ∧ ∃ nd, wr = w1.drewN nd) (fun i _ => L - (intOf i).toNat)
  case atStart => exact ⟨0, Nat.zero_le _, rfl, hide (fun j _ hj => by omega), 0, rfl⟩
  case round =>
    obtain ⟨k, hk, rfl, HNO, nd, rfl⟩ := hrel
    by_cases hlt : k < L
    · have hkn : k < vs.length := by rw [← HL.out]; exact hlt
      obtain ⟨_, b, off, hao, _, hc⟩ := HSR.out.at recON.len hkn
      cases hao
      have r0 := hc 0 _ rfl
      have r1 := hc 1 _ rfl
      have r2 := hc 2 _ rfl
      rw [Nat.add_zero] at r0
      have hq := fun W => eql_txN vs[k].o.tx t W
      have hltI : (k : Int) < (L : Int) := by omega
      by_cases e : vs[k].o.tx = t
      · have HP : Hid (plS (osV vs) t = (k : Int)) := hide (pl_at (by simpa using hkn) (by simpa using e) (fun j hj => by have := HNO.out j (Nat.lt_trans hj hkn) hj; simpa using this))
        rw [decide_eq_true e] at hq
        generalize vs[k].o.tx = y at *
        clear hc e
        go_wp2
        go_quiet (fail)
        go_wp2
        go_ret
        exact ⟨ret_int HP.out.symm, HB.out.trans (((below_drewN14 w1 nd).trans (below_drewN14 (w1.drewN nd) nq)).mono HB.out.size)⟩
      · have HNO2 : Hid (∀ j (hj : j < vs.length), j < k + 1 → vs[j].o.tx ≠ t) := hide (fun j hj hjk => by
          by_cases ej : j = k
          · subst ej; exact e
          · exact HNO.out j hj (by omega))
        rw [decide_eq_false e] at hq
        generalize vs[k].o.tx = y at *
        clear hc e
        go_wp2
        go_quiet (fail)
        go_wp2
        go_roundw
        case rel => exact ⟨k + 1, by omega, by go_num, HNO2, nd + nq, by simp⟩
        case measure => simp [intOf]; omega
    · have HP : Hid (plS (osV vs) t = -1) := hide (pl_none (fun x hx => by
        obtain ⟨y, hy, rfl⟩ := List.mem_map.1 hx
        obtain ⟨j, hj, rfl⟩ := List.getElem_of_mem hy
        exact HNO.out j hj (by have := HL.out; omega)))
      go_wp2
      go_ret
      exact ⟨ret_int HP.out.symm, HB.out.trans ((below_drewN14 w1 _).mono HB.out.size)⟩
/-- Without the one at its place. -/
theorem drop_erase {l : List OnP} (h : SgOk l) {k : Nat} (hk : k < l.length) {t : TxN} (e : l[k].tx = t) : dropS l t = l.eraseIdx k := by
  unfold dropS
  have hp := h.rise
  clear h
  revert k
  induction l with
  | nil => intro k hk; simp at hk
  | cons x l ih =>
    intro k hk e
    obtain ⟨h1, h2⟩ := List.pairwise_cons.1 hp
    cases k with
    | zero =>
      have e0 : x.tx = t := by simpa using e
      rw [List.filter_cons, if_neg (by simp [e0]), List.eraseIdx_cons_zero, List.filter_eq_self]
      intro y hy
      have := h1 y hy
      have : y.tx ≠ t := fun e2 => by rw [e2, e0, (txO_zero _ _).2 rfl] at this; omega
      simpa using this
    | succ k =>
      have hk' : k < l.length := by simpa using hk
      have ek : l[k].tx = t := by simpa using e
      have : x.tx ≠ t := fun e2 => by
        have := h1 l[k] (List.getElem_mem _)
        rw [ek, e2, (txO_zero _ _).2 rfl] at this
        omega
      rw [List.filter_cons, if_pos (by simpa using this), List.eraseIdx_cons_succ, ih h2 hk' ek]
theorem ons_one (l : List OnV) (h : ∀ x ∈ l, x.p.oneCell' = true) : ∀ x ∈ l, ∀ u ∈ onE x, u.oneCell' = true := fun x hx u hu => by
  simp only [List.mem_cons, List.not_mem_nil, or_false] at hu
  rcases hu with rfl | rfl | rfl | rfl | rfl | rfl
  · rfl
  · rfl
  · rfl
  · rfl
  · rfl
  · exact h x hx
theorem src_cell {α : Type} {enc : α → List Value} {w : World} {v : Value} {xs : List α} (h : RSrc enc w v xs) : v.oneCell' = true := by
  obtain ⟨ao, c, rfl, _⟩ := h.shape
  rfl
theorem RSg.ones {w : World} {r : Nat} {v : Value} {vs : List OnV} (h : RSg w r v vs) : ∀ x ∈ vs, x.p.oneCell' = true := fun x hx => src_cell (h.wr x hx)
attribute [local go_sem ↓] app_hideH
set_option maxRecDepth 100000 in
set_option maxHeartbeats 3200000 in
theorem rgTake_any (r : Nat) (v : Value) (vs : List OnV) (t : TxN) (w : World) (h : RSg w r v vs) :
    Calls Try.prog 11 #[.pointer (some ⟨r, 0, none⟩), txVN t] w fun e w' => ∃ u, e = .returned (.tuple #[u, .int .i64 (tA (osV vs) t)]) ∧ RSrc wrE w' u (tW (osV vs) t) ∧ RSid w w' r v vs (dropS (osV vs) t) := by
  have hX0 := box_new w #[.int .u8 (t.1 : Int), .int .u32 (t.2.1 : Int), .int .u32 (t.2.2 : Int)] 33
  have hA0 := alloc_below14 w (.cells #[.int .u8 (t.1 : Int), .int .u32 (t.2.1 : Int), .int .u32 (t.2.2 : Int)] 33)
  obtain ⟨w1, hw1⟩ : ∃ w1, w1 = w.alloc (.cells #[.int .u8 (t.1 : Int), .int .u32 (t.2.1 : Int), .int .u32 (t.2.2 : Int)] 33) := ⟨_, rfl⟩
  rw [← hw1] at hX0 hA0
  have hW1 := hw1.symm
  have hR := h.below hA0
  have CP := hide (rgfind_any r v vs t w1 hR)
  obtain ⟨x0, x1, x2⟩ := hX0.three
  have HB := hide hA0
  have HR0 := hide h
  clear h hR hX0 hA0 hw1
  cases hf : onS (osV vs) t with
  | none =>
    have hp : plS (osV vs) t = -1 := pl_none (fun x hx => onS_none.1 hf x hx)
    have HE : Hid (tA (osV vs) t = 6 ∧ tW (osV vs) t = [] ∧ dropS (osV vs) t = osV vs) := hide (by
      refine ⟨by unfold tA; rw [hf]; rfl, by unfold tW; rw [hf], ?_⟩
      unfold dropS
      rw [List.filter_eq_self]
      intro x hx
      simpa using onS_none.1 hf x hx)
    rw [hp] at CP
    clear hf hp
    go_enter Try.func11, Try.ntmps11
    go_wp2_with fail
    refine CP.out.mono ?_
    rintro e W2 ⟨rfl, hB2⟩
    have HB2 := hide (HB.out.trans (hB2.mono HB.out.size))
    clear hB2 CP
    go_wp2_with fail
    go_ret2
    refine ⟨.slice none 0 0, by rw [HE.out.1]; rfl, by rw [HE.out.2.1]; exact RSrc.nil _, ?_⟩
    rw [HE.out.2.2]
    exact RSid.of_below HR0.out HB2.out
  | some x =>
    obtain ⟨k, hk1, hk, hkx, hkt⟩ := pl_on hf
    have hkv : k < vs.length := by simpa using hk
    have hxo : vs[k].o = x := by simpa using hkx
    have hDE := drop_erase (t := t) HR0.out.all.ok hk (by rw [hkx]; exact hkt)
    have HE : Hid (tA (osV vs) t = 0 ∧ tW (osV vs) t = vs[k].o.wr ∧ dropS (osV vs) t = osV (vs.eraseIdx k)) := hide (by
      refine ⟨by unfold tA; rw [hf]; rfl, by unfold tW; rw [hf, hxo], ?_⟩
      rw [hDE]
      show (vs.map OnV.o).eraseIdx k = (vs.eraseIdx k).map OnV.o
      rw [List.eraseIdx_eq_take_drop_succ, List.eraseIdx_eq_take_drop_succ, List.map_append, List.map_take, List.map_drop])
    have hfew : vs.length ≤ 64 := by have := HR0.out.all.ok.few; rw [List.length_map] at this; omega
    rw [hk1] at CP
    clear hf hk1 hk hkx hkt hxo hDE
    go_enter Try.func11, Try.ntmps11
    go_wp2_with fail
    refine CP.out.mono ?_
    rintro e W2 ⟨rfl, hB2⟩
    have HB2 := hide (HB.out.trans (hB2.mono HB.out.size))
    have hR2 := HR0.out.below HB2.out
    clear hB2 CP x0 x1 x2 hW1 HB
    obtain ⟨ao, cap, hvb, hcap, hcm⟩ := hR2.src.shape
    subst hvb
    obtain ⟨L, hL⟩ : ∃ L, L = vs.length := ⟨_, rfl⟩
    have hto := fun W => run_toR recON W ao L cap k (by omega)
    have hfr := fun W => run_fromR recON W ao L cap (k + 1) (by omega)
    obtain ⟨af, haf⟩ : ∃ af, af = if cap = k + 1 then ao else ao.map (·.add ((k + 1) * 6)) := ⟨_, rfl⟩
    rw [← haf] at hfr
    have hs1 := src_takeR hR2.src recON.len (i := k) (by omega)
    have hs2 := src_dropR hR2.src recON.len (i := k + 1) (by omega)
    rw [← haf, ← hL] at hs2
    obtain ⟨l2, hl2⟩ : ∃ l2, l2 = L - (k + 1) := ⟨_, rfl⟩
    rw [← hl2] at hfr hs2
    have hwrap : IntKind.i64.wrap ((k : Int) + 1) = ((k + 1 : Nat) : Int) := by rw [IntKind.wrap_i64]; omega
    have hfr2 : ∀ W, (Instr.sliceAt 25 (.slice ao L cap) (some (.int .i64 (IntKind.i64.wrap ((k : Int) + 1)))) none none).run Try.prog W = .ok (.slice af l2 (cap - (k + 1))) W := fun W => by rw [hwrap]; exact hfr W
    have hfr3 : ∀ W, (Instr.sliceAt 25 (.slice ao L cap) (some (.int .i64 ((k : Int) + 1))) none none).run Try.prog W = .ok (.slice af l2 (cap - (k + 1))) W := fun W => by
      have := hfr W
      rw [show ((k + 1 : Nat) : Int) = (k : Int) + 1 by omega] at this
      exact this
    have hBd : Below W2.heap.size W2 W2.drew := (Below.refl _ _).drew
    have hon := hR2.ones
    obtain ⟨v4, w4, hr4, ho4, hg4, _⟩ := run_recsH recON W2.drew W2.heap.size (.slice none 0 0) (.slice ao k cap) [] (vs.take k) (World.ownsRow_nil _ _ _ _) (hs1.below hBd) (ons_one _ (fun x hx => hon x (List.mem_of_mem_take hx))) (by simp; omega) (Nat.le_refl _)
    rw [List.nil_append] at ho4
    have hB4 : Below W2.heap.size W2 w4 := hBd.grown hg4 (Nat.le_refl _) (fun k hk => by cases hk)
    obtain ⟨v5, w5, hr5, ho5, hg5, _⟩ := run_recsH recON w4 W2.heap.size v4 (.slice af l2 (cap - (k + 1))) (vs.take k) (vs.drop (k + 1)) ho4 (hs2.below hB4) (ons_one _ (fun x hx => hon x (List.mem_of_mem_drop hx))) (by simp; omega) hB4.size
    rw [← List.eraseIdx_eq_take_drop_succ] at ho5
    have hB5 : Below W2.heap.size W2 w5 := hB4.grown hg5 hB4.size (fun j hj => (ho4.lt j hj).1)
    have hmem : ∀ x ∈ vs.eraseIdx k, x ∈ vs := fun x hx => List.mem_of_mem_eraseIdx hx
    have hput := hR2.put hB5 ho5 (fun x hx => ⟨.inl (hmem x hx), (hR2.wr x (hmem x hx)).below hB5⟩) (by rw [← HE.out.2.2]; exact drop_all hR2.all t) (fun x hx => hR2.oks x (hmem x hx))
    have hsu : RSrc wrE (w5.setCell ⟨r, 0, none⟩ v5) vs[k].p vs[k].o.wr := ((hR2.wr _ (List.getElem_mem hkv)).below hB5).keep ((KeepBut.refl (fun k => k = r) w5).setCell (p := ⟨r, 0, none⟩) (.inl rfl) _) (fun g e => (hR2.far g (.inr ⟨_, List.getElem_mem hkv, e⟩)).2)
    have HFIN := hide (RSid.before HB2.out hput)
    rw [← HE.out.2.2] at HFIN
    have HSU := hide hsu
    have m1 : W2.cell? ⟨r, 0, none⟩ = some (.slice ao vs.length cap) := hR2.box.cell 0 _ rfl
    have q4 : w4.cell? ⟨r, 0, none⟩ = some (.slice ao vs.length cap) := (hR2.below hB4).box.cell 0 _ rfl
    have q5 : w5.cell? ⟨r, 0, none⟩ = some (.slice ao vs.length cap) := (hR2.below hB5).box.cell 0 _ rfl
    have z5 := (hR2.below hB5).box.frozen 0
    obtain ⟨en, b, off, hao, hbl, hc⟩ := hR2.src.at recON.len hkv
    have y5 := hc 5 _ rfl
    cases hao
    obtain ⟨a4, c4, hv4, _⟩ := owns_shapeR ho4
    subst hv4
    obtain ⟨a5, c5, hv5, _⟩ := owns_shapeR ho5
    subst hv5
    rw [← hL] at m1 q4 q5
    have HLE := hide hL
    obtain ⟨tl, htl⟩ : ∃ tl, tl = (vs.take k).length := ⟨_, rfl⟩
    obtain ⟨el, hel⟩ : ∃ el, el = (vs.eraseIdx k).length := ⟨_, rfl⟩
    rw [← htl] at hr4 hr5
    rw [← hel] at hr5 HFIN HSU
    have hkL : k < L := by omega
    have hkI : (k : Int) < (L : Int) := by omega
    have d1 : decide ((k : Int) < 0) = false := decide_eq_false (by omega)
    generalize vs[k].p = pk at *
    generalize vs[k].o.wr = wk at *
    clear ho4 hg4 hB4 ho5 hg5 hB5 hR2 hs1 hs2 hfr hBd htl hel hL hl2 haf hcm hkv hfew hcap hwrap hon hmem hput hsu hc en hbl
    go_wp2_with fail
    go_region
    all_goals go_wp2_with fail
    all_goals go_ret2
    all_goals exact ⟨pk, by rw [HE.out.1]; rfl, by rw [HE.out.2.1]; exact HSU.out, HFIN.out⟩
end
end Go.Proofs.Ytodomdmmffooaaa
