/-
  Own texts put together: SgDone, SgAlive, SgKit, SgMet. Own work.
-/
import Derived.Test.YtflphnefelcpoaaG20
import Derived.Test.YtflphnefelcpoaaG10
import Derived.Test.YtflphnefelcpoaaG15
import Derived.Test.YtflphnefelcpoaaG19
import Derived.Test.YtflphnefelcpoaaG11
import Derived.Test.YtflphnefelcpoaaG12
import Derived.Deep.RegionHeld
namespace Go.Proofs.Ytflphnefelcpoaa
section
open Go.RowKit Go.Maps Classical

theorem keep_f {w w' : World} {q b1 b2 : Nat} {p : TxN → Value} {l : List OnP} {F : Nat → Prop} (hF : ∀ k, F k ↔ FSg q b1 b2 p l k) (hk : KeepBut (fun k => k = b1 ∨ k = b2) w w') : KeepBut F w w' :=
  hk.mono fun k e => (hF k).2 (e.elim (fun e => .inr (.inl e)) (fun e => .inr (.inr (.inl e))))
theorem ps_do : StageDo PS where
  keep := ps_keep
  lt := ps_lt
  ok := ps_ok
  new := psNew_any
  put := fun {w q F l} x v h hx hs => by
    obtain ⟨b1, b2, p, h1, h2⟩ := h
    exact (psPut_any q b1 b2 p l x v w h1 hx hs).mono fun e w' ⟨he, p', h3, h4, h5⟩ => ⟨he, FSg q b1 b2 p' (pS l x), ⟨b1, b2, p', h3, fun k => Iff.rfl⟩, keep_f h2 h4, fun k hk => (h5 k hk).imp (h2 k).2 id⟩
  take := fun {w q F l} t h ht => by
    obtain ⟨b1, b2, p, h1, h2⟩ := h
    refine (psTake_any q b1 b2 p l t w h1 ht).mono fun e w' ⟨v, he, h3, h4, h5, h6⟩ => ⟨v, FSg q b1 b2 p (dropS l t), he, ⟨b1, b2, p, h3, fun k => Iff.rfl⟩, keep_f h2 h4, fun k hk => .inl ((h2 k).2 ?_), h5, fun g hg => ⟨(h2 g).2 (.inr (.inr (.inr (h6 g hg).1))), fun hf => ?_⟩⟩
    · rcases hk with e | e | e | ⟨x, hx, hg⟩
      · exact .inl e
      · exact .inr (.inl e)
      · exact .inr (.inr (.inl e))
      · exact .inr (.inr (.inr ⟨x, ((dropS_mem l t x).1 hx).1, hg⟩))
    · obtain ⟨⟨x, hx, hg2⟩, hn⟩ := h6 g hg
      have hb := h1.blk hx hg2
      rcases hf with e | e | e | ⟨y, hy, hg3⟩
      · exact hb.2.1 e
      · exact hb.2.2.1 e
      · exact hb.2.2.2 e
      · exact hn y hy hg3
  writes := fun {w q F l} t h ht => by
    obtain ⟨b1, b2, p, h1, _⟩ := h
    exact psWrites_any q b1 b2 p l t w h1 ht
  owner := fun {w q F l} k h hk => by
    obtain ⟨b1, b2, p, h1, _⟩ := h
    exact psOwner_any q b1 b2 p l k w h1 hk
  all := fun {w q F l} h => by
    obtain ⟨b1, b2, p, h1, _⟩ := h
    exact psAll_any q b1 b2 p l w h1
/-- A stage that nobody made: nil, or one without maps. -/
def Nob14 (w : World) (v : Value) : Prop := v = .pointer none ∨ ∃ q, v = .pointer (some ⟨q, 0, none⟩) ∧ Box w q #[.map none, .map none] 67
theorem Nob14.below {w w' : World} {v : Value} (h : Nob14 w v) (hB : Below w.heap.size w w') : Nob14 w' v := h.imp id fun ⟨q, e, hb⟩ => ⟨q, e, hb.belowI hB⟩
end
section
open Go.RowKit Classical

def k14 : List Int := [97, 0, 0, 0, 0, 0, 0, 0]
def sw14 : WrP := ⟨k14, ⟨1, [], ⟨1, 1, 1, [1, 0, 0, 0, 0, 0, 0, 0]⟩⟩⟩
def x14 : OnP := ⟨(0, 1, 1), (1, 1), [sw14]⟩
theorem k14_ok : KeyOk k14 := ⟨rfl, by decide⟩
theorem sw14_ok : KeyOk sw14.key ∧ ItOk sw14.it := ⟨k14_ok, ⟨by decide, (fun c hc => by cases hc), (show Cf.Ok ⟨1, 1, 1, [1, 0, 0, 0, 0, 0, 0, 0]⟩ from ⟨by decide, by decide, by decide, by decide, by decide⟩)⟩⟩
theorem x14_ok : OnOk x14 := ⟨⟨by decide, by decide, by decide⟩, ⟨by decide, by decide⟩, fun y hy => by
  simp only [x14, List.mem_singleton] at hy
  rw [hy]
  exact sw14_ok⟩
theorem x14_facts : pA [] x14 = 0 ∧ pS [] x14 = [x14] ∧ ownS [x14] k14 = some (0, 1, 1) ∧ tA [x14] (0, 1, 1) = 0 ∧ tW [x14] (0, 1, 1) = [sw14] ∧ dropS [x14] (0, 1, 1) = [] := ⟨by decide, rfl, rfl, by decide, rfl, rfl⟩
theorem info14Tx : (Try.prog.info? 33).map (·.size) = some 3 := by kernel_rfl
theorem build14k (w : World) : (Instr.build 53 #[(0, .int .u8 97)]).run Try.prog w = .ok (.agg #[.int .u8 97, .int .u8 0, .int .u8 0, .int .u8 0, .int .u8 0, .int .u8 0, .int .u8 0, .int .u8 0]) w := by kernel_rfl
theorem build14t (w : World) : (Instr.build 33 #[(1, .int .u32 1), (2, .int .u32 1)]).run Try.prog w = .ok (.agg #[.int .u8 0, .int .u32 1, .int .u32 1]) w := by kernel_rfl
theorem build14g (w : World) : (Instr.build 35 #[(0, .int .u32 1), (1, .int .u32 1)]).run Try.prog w = .ok (.agg #[.int .u32 1, .int .u32 1]) w := by kernel_rfl
set_option maxRecDepth 100000 in
theorem some14_any (w : World) : Calls Try.prog 23 #[] w fun e w' => e = .returned (.slice (some ⟨w.heap.size, 0, none⟩) 1 1) ∧ RSrc wrE w' (.slice (some ⟨w.heap.size, 0, none⟩) 1 1) [sw14] ∧ Below w.heap.size w w' := by
  go_enter Try.func23, Try.ntmps23
  go_wp2
  go_ret
  refine ⟨by simp, ⟨_, 1, rfl, Nat.le_refl _, by decide, (fun e => by cases e), fun _ => ⟨w.heap.size, 0, rfl, by simp, fun j u hu => ?_⟩⟩, (Below.refl _ _).alloc (Nat.le_refl _) _⟩
  rw [Nat.zero_add]
  exact (box_new w (wrA sw14) 59).cell j u (by simpa [flat] using hu)
section
variable {D : World → Nat → (Nat → Prop) → List OnP → Prop}
set_option maxRecDepth 100000 in
set_option maxHeartbeats 3200000 in
theorem alive_by14 (H : StageDo D) (w : World) : Calls Try.prog 9 #[] w fun e w' => e = .returned (.bool true) ∧ Below w.heap.size w w' := by
  have HF := hide x14_facts
  have hbk := build14k
  have hbt := build14t
  have hbg := build14g
  have CS := hide (fun W => some14_any W)
  go_enter Try.func9, Try.ntmps9
  go_wp2_with fail
  refine (H.new w).mono ?_
  rintro e w1 ⟨q, F1, rfl, hD1, hF1, hB1⟩
  have HS1 : Hid (Since14 D w q F1 [] w1) := hide ⟨hD1, hF1, hB1⟩
  have HNF : Hid (¬ F1 w1.heap.size) := hide (fun hf => Nat.lt_irrefl _ (H.lt hD1 _ hf))
  have hws := hB1.size
  have HZ := hide (box_new w1 #[.int .u8 0, .int .u32 0, .int .u32 0] 33)
  have HZS := hide (HS1.out.below H ((Below.refl w1.heap.size w1).alloc (Nat.le_refl _) (.cells #[.int .u8 0, .int .u32 0, .int .u32 0] 33)))
  clear hD1 hF1 hB1
  go_wp2_with (refine wp_store_box rfl rfl _ _ rfl w1.heap.size rfl (cs' := #[.int .u8 0, .int .u32 1, .int .u32 1]) rfl HZ.out rfl info14Tx (by simp [Value.oneCell']) ?_; intro w2 hb2 hk2; have HX2 := hide hb2; have HS2 : Hid (Since14 D w q F1 [] w2) := hide (HZS.out.keep H hk2 (fun k hf e => HNF.out (by rw [← e]; exact hf)) (fun k e => by omega)); clear hb2 hk2)
  obtain ⟨z0, z1, z2⟩ := HX2.out.three
  have HP : Hid (∀ W F v, D W q F [] → RSrc wrE W v [sw14] → Calls Try.prog 14 #[.pointer (some ⟨q, 0, none⟩), .agg #[.int .u8 0, .int .u32 1, .int .u32 1], .agg #[.int .u32 1, .int .u32 1], v] W fun e w' => e = .returned (.int .i64 0) ∧ SDid D W w' q F [x14]) := hide (fun W F v hD hv => by
    have h := H.put x14 v hD x14_ok hv
    rw [HF.out.1, HF.out.2.1] at h
    exact h)
  first | (go_region_held (fun w' => w'.cell? ⟨w1.heap.size, 0, none⟩ = some (.int .u8 0) ∧ w'.cell? ⟨w1.heap.size, 1, none⟩ = some (.int .u32 1) ∧ w'.cell? ⟨w1.heap.size, 2, none⟩ = some (.int .u32 1)) (go_keep) (first
    | (go_at_call 23; refine (CS.out _).mono ?_; rintro e w3 ⟨rfl, hs3, hB3⟩; have hB23 : Below w2.heap.size w2 w3 := (Below.refl w2.heap.size w2).drew.trans hB3; have HX3 := hide (HX2.out.belowI hB23); have HS3 := hide (HS2.out.below H hB23); have HV3 := hide hs3; obtain ⟨y0, y1, y2⟩ := HX3.out.three; clear hB3 hB23 hs3 HX2 HS2 z0 z1 z2)
    | (go_at_call 14; refine (HP.out _ _ _ HS3.out.d HV3.out).mono ?_; rintro e w4 ⟨rfl, hd4⟩; obtain ⟨F4, hs4, hk4, hf4⟩ := HS3.out.did hd4; have HS4 := hide hs4; have HX4 := hide (HX3.out.keep hk4 HNF.out); have HN4 : Hid (¬ F4 w1.heap.size) := hide (fun hf => (hf4 _ hf).elim HNF.out (fun h => by have := HX3.out.lt; omega)); obtain ⟨x0, x1, x2⟩ := HX4.out.three; clear hd4 hs4 hk4 hf4 HS3 HX3 HV3 y0 y1 y2))) | fail
  have HO : Hid (Calls Try.prog 21 #[.pointer (some ⟨q, 0, none⟩), .agg #[.int .u8 97, .int .u8 0, .int .u8 0, .int .u8 0, .int .u8 0, .int .u8 0, .int .u8 0, .int .u8 0]] w4 fun e w' => e = .returned (.tuple #[.agg #[.int .u8 0, .int .u32 1, .int .u32 1], .bool true]) ∧ Below w4.heap.size w4 w') := hide (by
    have h := H.owner k14 HS4.out.d k14_ok
    rw [HF.out.2.2.1] at h
    exact h)
  clear HP x0 x1 x2
  go_wp2_with fail
  refine HO.out.mono ?_
  rintro e w5 ⟨rfl, hB5⟩
  have HS5 := hide (HS4.out.below H hB5)
  have HX5 := hide (HX4.out.belowI hB5)
  have h45 := hB5.size
  have HZ5 := hide (box_new w5 #[.int .u8 0, .int .u32 0, .int .u32 0] 33)
  have hA5 : Below w5.heap.size w5 (w5.alloc (.cells #[.int .u8 0, .int .u32 0, .int .u32 0] 33)) := (Below.refl _ _).alloc (Nat.le_refl _) _
  have HZS5 := hide (HS5.out.below H hA5)
  have HZX5 := hide (HX5.out.belowI hA5)
  have HN5 : Hid (¬ F4 w5.heap.size) := hide (fun hf => Nat.lt_irrefl _ (H.lt HS5.out.d _ hf))
  have h5 := HS5.out.b.size
  have h15 := HX5.out.lt
  clear hB5 hA5 HO
  go_wp2_with (first | (refine wp_store_box rfl rfl _ _ rfl w5.heap.size rfl (cs' := #[.int .u8 0, .int .u32 1, .int .u32 1]) rfl HZ5.out rfl info14Tx (by simp [Value.oneCell']) ?_; intro w6 hb6 hk6; have HO6 := hide hb6; have HX6 := hide (HZX5.out.keep hk6 (by omega)); have HS6 : Hid (Since14 D w q F4 [x14] w6) := hide (HZS5.out.keep H hk6 (fun k hf e => HN5.out (by rw [← e]; exact hf)) (fun k e => by omega)); clear hb6 hk6) | (refine wp_load_box rfl _ rfl w1.heap.size rfl HX6.out Try.underlying33 rfl info14Tx ?_))
  have HT : Hid (Calls Try.prog 11 #[.pointer (some ⟨q, 0, none⟩), .agg #[.int .u8 0, .int .u32 1, .int .u32 1]] w6 fun e w' => ∃ v F', e = .returned (.tuple #[v, .int .i64 0]) ∧ D w' q F' [] ∧ KeepBut F4 w6 w' ∧ (∀ k, F' k → F4 k ∨ w6.heap.size ≤ k) ∧ RSrc wrE w' v [sw14] ∧ ∀ g, v.ownBlock = some g → F4 g ∧ ¬ F' g) := hide (by
    have h := H.take (0, 1, 1) HS6.out.d x14_ok.tx
    rw [HF.out.2.2.2.1, HF.out.2.2.2.2.1, HF.out.2.2.2.2.2] at h
    exact h)
  have HN6 : Hid (¬ F4 w1.heap.size) := HN4
  refine HT.out.mono ?_
  rintro e w7 ⟨v7, F7, rfl, hd7, hk7, hf7, hv7, _⟩
  have HS7 : Hid (Since14 D w q F7 [] w7) := hide ⟨hd7, fun k hk => (hf7 k hk).elim (HS6.out.new k) (fun h => Nat.le_trans HS6.out.b.size h), HS6.out.b.trans (hk7.below HS6.out.b.size HS6.out.new)⟩
  have HX7 := hide (HX6.out.keep hk7 HN6.out)
  have HO7 := hide (HO6.out.keep hk7 HN5.out)
  have HV7 := hide hv7
  obtain ⟨sa, sc, e7, _, _⟩ := hv7.shape
  subst e7
  have heq := eql_tx 0 1 1 0 1 1
  clear hd7 hk7 hf7 hv7 HT
  have CM : Hid (∀ W v u, RSrc wrE W v [sw14] → RSrc wrE W u [sw14] → Calls Try.prog 13 #[v, u] W fun e w' => e = .returned (.bool true) ∧ Below W.heap.size W w') := hide (fun W v u h1 h2 => by
    have h := rsameWrites_any v u [sw14] [sw14] W h1 h2 (fun x hx => by rw [List.mem_singleton.1 hx]; exact sw14_ok) (fun x hx => by rw [List.mem_singleton.1 hx]; exact sw14_ok)
    rw [decide_eq_true rfl] at h
    exact h)
  have CA := hide (fun W (h : Since14 D w q F7 [] W) => H.all h.d)
  go_wp2_with (first | (refine wp_load_box rfl _ rfl w5.heap.size rfl HO7.out Try.underlying33 rfl info14Tx ?_) | (refine wp_load_box rfl _ rfl w1.heap.size rfl HX7.out Try.underlying33 rfl info14Tx ?_) | (go_at_call 23; refine (CS.out _).mono ?_; rintro e w8 ⟨rfl, hs8, hB8⟩; have HS8 := hide (HS7.out.below H hB8); have HU8 := hide hs8; have HV8 := hide (HV7.out.below hB8); clear hs8 hB8) | (go_at_call 13; refine (CM.out _ _ _ HV8.out HU8.out).mono ?_; rintro e w9 ⟨rfl, hB9⟩; have HS9 := hide (HS8.out.below H hB9); clear hB9) | (go_at_call 19; refine (CA.out _ HS9.out).mono ?_; rintro e w10 ⟨v10, rfl, ho10, hB10⟩; have HB10 := hide (HS9.out.b.trans (hB10.mono HS9.out.b.size)); clear hB10; obtain ⟨_, ⟨rfl, _⟩ | ⟨g10, cap10, cur10, rfl, _⟩⟩ := ho10))
  all_goals go_ret
  all_goals exact ⟨rfl, HB10.out⟩
end
end
section
open Go.RowKit Classical

theorem tx_dec (a b : TxN) : (((a.1 : Int) == (b.1 : Int)) && ((a.2.1 : Int) == (b.2.1 : Int)) && ((a.2.2 : Int) == (b.2.2 : Int))) = decide (a = b) := by
  obtain ⟨a1, a2, a3⟩ := a
  obtain ⟨b1, b2, b3⟩ := b
  rw [Bool.eq_iff_iff]
  simp only [Bool.and_eq_true, beq_iff_eq, decide_eq_true_eq, Prod.mk.injEq]
  omega
theorem eql_txN (a b : TxN) (w : World) : (binOp .eql 33 (txVN a) (txVN b)).run Try.prog w = .ok (.bool (decide (a = b))) w := by
  rw [← tx_dec]
  exact eql_tx _ _ _ _ _ _ w
theorem neq_txN (a b : TxN) (w : World) : (binOp .neq 33 (txVN a) (txVN b)).run Try.prog w = .ok (.bool (!decide (a = b))) w := by
  rw [← tx_dec]
  exact neq_tx _ _ _ _ _ _ w
theorem SvOk.on {W : World} {a : SActV} (h : SvOk W a) : OnOk a.a.on := ⟨h.tx, h.rg, fun y hy => ⟨(h.wr y hy).1, (h.wr y hy).2.1⟩⟩
theorem SvOk.below {w w' : World} {a : SActV} (h : SvOk w a) (hB : Below w.heap.size w w') : SvOk w' a := ⟨h.tx, h.rg, h.src.below hB, h.wr⟩
theorem box_act {W : World} {b : Nat} {tk : Bool} {tx : TxN} {rg : Nat × Nat} {ws : List WrP} {p : Value} {t : TypeId} (h : Box W b (sactA ⟨⟨tk, ⟨tx, rg, ws⟩⟩, p⟩) t) : W.cell? ⟨b, 0, none⟩ = some (.bool tk) ∧ W.cell? ⟨b, 1, none⟩ = some (.int .u8 (tx.1 : Int)) ∧ W.cell? ⟨b, 2, none⟩ = some (.int .u32 (tx.2.1 : Int)) ∧ W.cell? ⟨b, 3, none⟩ = some (.int .u32 (tx.2.2 : Int)) ∧ W.cell? ⟨b, 4, none⟩ = some (.int .u32 (rg.1 : Int)) ∧ W.cell? ⟨b, 5, none⟩ = some (.int .u32 (rg.2 : Int)) ∧ W.cell? ⟨b, 6, none⟩ = some p :=
  ⟨h.cell 0 _ rfl, h.cell 1 _ rfl, h.cell 2 _ rfl, h.cell 3 _ rfl, h.cell 4 _ rfl, h.cell 5 _ rfl, h.cell 6 _ rfl⟩
section
variable {D : World → Nat → (Nat → Prop) → List OnP → Prop}
theorem Since14.took {w w1 w2 : World} {q : Nat} {F F' : Nat → Prop} {l l' : List OnP} (h : Since14 D w q F l w1) (hd : D w2 q F' l') (hk : KeepBut F w1 w2) (h2 : ∀ k, F' k → F k ∨ w1.heap.size ≤ k) : Since14 D w q F' l' w2 :=
  ⟨hd, fun k hk' => (h2 k hk').elim (h.new k) (fun h3 => Nat.le_trans h.b.size h3), h.b.trans (hk.below h.b.size h.new)⟩
end
theorem take_fold {α β : Type} (f : β → α → β) (b : β) (l : List α) {k : Nat} (h : k < l.length) : (l.take (k + 1)).foldl f b = f ((l.take k).foldl f b) l[k] := by
  rw [List.take_succ_eq_append_getElem h, List.foldl_append]
  rfl
/-- Scripts as they lie. -/
def actV (l : List OnP) (a : SActV) : List OnP := actS l a.a
def butV (t : TxN) (l : List OnP) (a : SActV) : List OnP := if a.a.on.tx = t then l else actS l a.a
theorem butV_play (t : TxN) : ∀ (fs : List SActV) (l : List OnP), fs.foldl (butV t) l = playBut t l (fs.map SActV.a)
  | [], _ => rfl
  | a :: fs, l => by
    rw [List.foldl_cons, butV_play t fs]
    rfl
theorem acts_len {W : World} {fs : List SActV} (h : ∀ a ∈ fs, SvOk W a) : ∀ a ∈ fs.map SActV.a, ∀ y ∈ a.on.wr, y.key.length = 8 := fun a ha y hy => by
  obtain ⟨b, hb, rfl⟩ := List.mem_map.1 ha
  exact ((h b hb).wr y hy).1.l
theorem src_one14 (w : World) (a : SActV) : RSrc sactE (w.alloc (.cells (sactA a) 38)) (.slice (some ⟨w.heap.size, 0, none⟩) 1 1) [a] :=
  ⟨_, 1, rfl, Nat.le_refl _, by decide, (fun e => by cases e), fun _ => ⟨w.heap.size, 0, rfl, by simp, fun j u hu => by
    rw [Nat.zero_add]
    exact (box_new w (sactA a) 38).cell j u (by rw [flat_one] at hu; rw [← Array.getElem?_toList]; exact hu)⟩⟩
end
section
open Go.RowKit Go.Maps Classical

theorem kmTy : MapTy 62 53 4 (fun k : KeyT => kyV k.1) (fun k => kyKey k.1) Value.bool false where
  und := Try.underlying62
  keyed := kyKeyed
  key := fun k => keyOf_ky k.1 k.2
  inj := fun k l h => Subtype.ext (kyKey_inj k.2 l.2 h)
  inv := fun v kl h => keyOf_ky_inv h
  zero := fun w => by kernel_rfl
  einj := fun a b h => by cases h; rfl
/-- What was met: just these keys. -/
abbrev metG (L : List (List Int)) (k : KeyT) : Option Bool := if k.1 ∈ L then some true else none
abbrev KMap (w : World) (b : Nat) (L : List (List Int)) (n : Nat) : Prop := GMap 53 (fun k : KeyT => kyKey k.1) Value.bool w b (metG L) n
theorem met_few {w : World} {b n : Nat} {L : List (List Int)} (h : KMap w b L n) : n ≤ L.length := by
  have := h.few kmTy (L.filterMap fun k => if hk : KeyOk k then some (⟨k, hk⟩ : KeyT) else none) (fun k hk => List.mem_filterMap.2 ⟨k.1, by
    by_cases e : k.1 ∈ L
    · exact e
    · simp [metG, e] at hk, by simp [k.2]⟩)
  exact Nat.le_trans this (List.length_filterMap_le _ _)
theorem met_put {w' : World} {b n : Nat} {L : List (List Int)} {k : List Int} (hk : KeyOk k) {g : KeyT → Option Bool} (h : GMap 53 (fun k : KeyT => kyKey k.1) Value.bool w' b g n) (h1 : g ⟨k, hk⟩ = some true) (h2 : ∀ k', k' ≠ (⟨k, hk⟩ : KeyT) → g k' = metG L k') : KMap w' b (L ++ [k]) n :=
  h.as fun k' => by
    by_cases e : k' = (⟨k, hk⟩ : KeyT)
    · rw [e, h1]
      simp [metG]
    · have e3 : k'.1 ≠ k := fun e4 => e (Subtype.ext e4)
      rw [h2 k' e]
      simp [metG, e3]
theorem keys_take (l : List OnP) {i : Nat} (h : i < l.length) : keysS (l.take (i + 1)) = keysS (l.take i) ++ (l[i]).wr.map WrP.key := by
  unfold keysS
  rw [List.take_succ_eq_append_getElem h, List.flatMap_append]
  simp
theorem keys_sub (l : List OnP) (i : Nat) : ∃ r, keysS l = keysS (l.take i) ++ r := ⟨keysS (l.drop i), by
  unfold keysS
  rw [← List.flatMap_append, List.take_append_drop]⟩
theorem key_fresh {l : List OnP} (h : SgAll l) {i j : Nat} (hi : i < l.length) (hj : j < (l[i]).wr.length) : ((l[i]).wr[j]).key ∉ keysS (l.take i) ++ ((l[i]).wr.take j).map WrP.key := by
  obtain ⟨r, hr⟩ := keys_sub l (i + 1)
  have hn := keys_nodup h
  rw [hr, keys_take l hi] at hn
  have h2 := (List.nodup_append.1 hn).1
  have e : (l[i]).wr.map WrP.key = ((l[i]).wr.take j).map WrP.key ++ ((l[i]).wr[j]).key :: ((l[i]).wr.drop (j + 1)).map WrP.key := by
    rw [← List.map_cons, ← List.map_append, ← List.drop_eq_getElem_cons hj, List.take_append_drop]
  rw [e, ← List.append_assoc] at h2
  intro hm
  exact (List.nodup_append.1 h2).2.2 _ hm _ List.mem_cons_self rfl
theorem keys_len14 : ∀ {l : List OnP}, (∀ x ∈ l, mayO x = true) → (keysS l).length ≤ l.length * 16
  | [], _ => by simp [keysS]
  | x :: l, h => by
    have e : keysS (x :: l) = x.wr.map WrP.key ++ keysS l := by
      unfold keysS
      rw [List.flatMap_cons]
    have h1 := h x List.mem_cons_self
    unfold mayO wsMayB at h1
    simp only [Bool.and_eq_true, decide_eq_true_eq] at h1
    have h3 := h1.2.2
    have h2 := keys_len14 (l := l) (fun y hy => h y (List.mem_cons_of_mem _ hy))
    rw [e, List.length_append, List.length_map, List.length_cons]
    omega
/-- A row of names reads as such. -/
abbrev txOn (x : OnP) : List Value := txE x.tx
theorem src_txs {w : World} {base : Nat} {v : Value} {l : List OnP} (h : w.ownsRow base 33 3 v l.length (rowOf (l.map fun x => txI x.tx))) : RSrc txOn w v l := by
  have e : rowOf (l.map fun x => txI x.tx) = flat txOn l := by
    unfold rowOf flat
    rw [List.flatMap_map]
    rfl
  rw [e] at h
  obtain ⟨hl, ⟨rfl, hz⟩ | ⟨g, cap, cur, rfl, hb, hh, h1, h2, h3, h4⟩⟩ := h
  · have : l = [] := List.eq_nil_of_length_eq_zero hz
    subst this
    exact RSrc.nil w
  · refine ⟨some ⟨g, 0, none⟩, cap, rfl, h1, h2, (fun e => by cases e), fun _ => ⟨g, 0, rfl, (Array.getElem?_eq_some_iff.1 hh).1, fun j u hu => ?_⟩⟩
    rw [Nat.zero_add, cell_of_row w g j cur _ (0, 0) hh]
    have hj := (List.getElem?_eq_some_iff.1 hu).1
    rw [hl] at hj
    have : (cur.toList.take (l.length * 3))[j]? = some u := by rw [h4]; exact hu
    rw [List.getElem?_take_of_lt hj] at this
    simpa using this
theorem src_row14 {w : World} {base : Nat} {v : Value} {xs : List WrP} (h : w.ownsRow base 59 21 v xs.length (flat wrE xs)) : RSrc wrE w v xs := by
  obtain ⟨hl, ⟨rfl, hz⟩ | ⟨g, cap, cur, rfl, hb, hh, h1, h2, h3, h4⟩⟩ := h
  · have : xs = [] := List.eq_nil_of_length_eq_zero hz
    subst this
    exact RSrc.nil w
  · refine ⟨some ⟨g, 0, none⟩, cap, rfl, h1, h2, (fun e => by cases e), fun _ => ⟨g, 0, rfl, (Array.getElem?_eq_some_iff.1 hh).1, fun j u hu => ?_⟩⟩
    rw [Nat.zero_add, cell_of_row w g j cur _ (0, 0) hh]
    have hj := (List.getElem?_eq_some_iff.1 hu).1
    rw [hl] at hj
    have : (cur.toList.take (xs.length * 21))[j]? = some u := by rw [h4]; exact hu
    rw [List.getElem?_take_of_lt hj] at this
    simpa using this
theorem info14Rg : (Try.prog.info? 35).map (·.size) = some 2 := by kernel_rfl
theorem box_wr14 {W : World} {b : Nat} {y : WrP} {t : TypeId} (h : Box W b (wrA y) t) : W.cell? ⟨b, 0, none⟩ = some (.int .u8 (at8 y.key 0)) ∧ W.cell? ⟨b, 1, none⟩ = some (.int .u8 (at8 y.key 1)) ∧ W.cell? ⟨b, 2, none⟩ = some (.int .u8 (at8 y.key 2)) ∧ W.cell? ⟨b, 3, none⟩ = some (.int .u8 (at8 y.key 3)) ∧ W.cell? ⟨b, 4, none⟩ = some (.int .u8 (at8 y.key 4)) ∧ W.cell? ⟨b, 5, none⟩ = some (.int .u8 (at8 y.key 5)) ∧ W.cell? ⟨b, 6, none⟩ = some (.int .u8 (at8 y.key 6)) ∧ W.cell? ⟨b, 7, none⟩ = some (.int .u8 (at8 y.key 7)) :=
  ⟨h.cell 0 _ rfl, h.cell 1 _ rfl, h.cell 2 _ rfl, h.cell 3 _ rfl, h.cell 4 _ rfl, h.cell 5 _ rfl, h.cell 6 _ rfl, h.cell 7 _ rfl⟩
end
end Go.Proofs.Ytflphnefelcpoaa
