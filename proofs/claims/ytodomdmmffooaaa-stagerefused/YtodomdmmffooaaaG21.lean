/-
  Own texts put together: SgDone, SgAlive, SgKit, SgMet1, IdRSet, IdSame, SgInc, SgNob. Own work.
-/
import Derived.Test.YtodomdmmffooaaaG20
import Derived.Test.YtodomdmmffooaaaG10
import Derived.Test.YtodomdmmffooaaaG15
import Derived.Test.YtodomdmmffooaaaG19
import Derived.Test.YtodomdmmffooaaaG13
import Derived.Deep.RegionHeld
namespace Go.Proofs.Ytodomdmmffooaaa
section
open Go.RowKit Go.Maps Classical

theorem keep_f {w w' : World} {q b1 b2 : Nat} {p : TxN → Value} {l : List OnP} {F : Nat → Prop} (hF : ∀ k, F k ↔ FSg q b1 b2 p l k) (hk : KeepBut (fun k => k = b1 ∨ k = b2) w w') : KeepBut F w w' :=
  hk.mono fun k e => (hF k).2 (e.elim (fun e => .inr (.inl e)) (fun e => .inr (.inr (.inl e))))
theorem ps_do : StageDo PS where
  keep := ps_keep
  lt := ps_lt
  ok := ps_ok
  new := psNew_any
  put := fun {w q F l} x v h hx hs => by
    obtain ⟨b1, b2, p, h1, h2⟩ := h
    exact (psPut_any q b1 b2 p l x v w h1 hx hs).mono fun e w' ⟨he, p', h3, h4, h5⟩ => ⟨he, FSg q b1 b2 p' (pS l x), ⟨b1, b2, p', h3, fun k => Iff.rfl⟩, keep_f h2 h4, fun k hk => (h5 k hk).imp (h2 k).2 id⟩
  take := fun {w q F l} t h ht => by
    obtain ⟨b1, b2, p, h1, h2⟩ := h
    refine (psTake_any q b1 b2 p l t w h1 ht).mono fun e w' ⟨v, he, h3, h4, h5, h6⟩ => ⟨v, FSg q b1 b2 p (dropS l t), he, ⟨b1, b2, p, h3, fun k => Iff.rfl⟩, keep_f h2 h4, fun k hk => .inl ((h2 k).2 ?_), h5, fun g hg => ⟨(h2 g).2 (.inr (.inr (.inr (h6 g hg).1))), fun hf => ?_⟩⟩
    · rcases hk with e | e | e | ⟨x, hx, hg⟩
      · exact .inl e
      · exact .inr (.inl e)
      · exact .inr (.inr (.inl e))
      · exact .inr (.inr (.inr ⟨x, ((dropS_mem l t x).1 hx).1, hg⟩))
    · obtain ⟨⟨x, hx, hg2⟩, hn⟩ := h6 g hg
      have hb := h1.blk hx hg2
      rcases hf with e | e | e | ⟨y, hy, hg3⟩
      · exact hb.2.1 e
      · exact hb.2.2.1 e
      · exact hb.2.2.2 e
      · exact hn y hy hg3
  writes := fun {w q F l} t h ht => by
    obtain ⟨b1, b2, p, h1, _⟩ := h
    exact psWrites_any q b1 b2 p l t w h1 ht
  owner := fun {w q F l} k h hk => by
    obtain ⟨b1, b2, p, h1, _⟩ := h
    exact psOwner_any q b1 b2 p l k w h1 hk
  all := fun {w q F l} h => by
    obtain ⟨b1, b2, p, h1, _⟩ := h
    exact psAll_any q b1 b2 p l w h1
/-- A stage that nobody made: nil, or one without maps. -/
def Nob14 (w : World) (v : Value) : Prop := v = .pointer none ∨ ∃ q, v = .pointer (some ⟨q, 0, none⟩) ∧ Box w q #[.map none, .map none] 65
theorem Nob14.below {w w' : World} {v : Value} (h : Nob14 w v) (hB : Below w.heap.size w w') : Nob14 w' v := h.imp id fun ⟨q, e, hb⟩ => ⟨q, e, hb.belowI hB⟩
theorem nobMade14 {w : World} {v : Value} (h : Nob14 w v) : Calls Try.prog 30 #[v] w fun e w' => e = .returned (.bool false) ∧ w' = w := by
  rcases h with rfl | ⟨q, rfl, hb⟩
  · exact made14_nil w
  · exact made14_none q w hb
set_option maxRecDepth 100000 in
theorem nobAll14 {w : World} {v : Value} (h : Nob14 w v) : Calls Try.prog 18 #[v] w fun e w' => e = .returned (.slice none 0 0) ∧ w' = w := by
  have C := hide (nobMade14 h)
  clear h
  go_enter Try.func18, Try.ntmps18
  go_wp2_with (go_at_call 30; refine C.out.mono ?_; rintro e w' ⟨rfl, rfl⟩)
  go_ret
  exact ⟨rfl, rfl⟩
set_option maxRecDepth 100000 in
theorem nobPut14 {w : World} {v : Value} (t : TxN) (g : Nat × Nat) (u : Value) (h : Nob14 w v) : Calls Try.prog 13 #[v, txVN t, rgV g, u] w fun e w' => e = .returned (.int .i64 2) ∧ Below w.heap.size w w' := by
  have hA := alloc_below14 w (.cells #[.int .u8 (t.1 : Int), .int .u32 (t.2.1 : Int), .int .u32 (t.2.2 : Int)] 33)
  have hA2 := alloc_below14 (w.alloc (.cells #[.int .u8 (t.1 : Int), .int .u32 (t.2.1 : Int), .int .u32 (t.2.2 : Int)] 33)) (.cells #[.int .u32 (g.1 : Int), .int .u32 (g.2 : Int)] 35)
  have hB2 := hA.trans (hA2.mono hA.size)
  have C := hide (nobMade14 (h.below hB2))
  have HB := hide hB2
  clear h hA hA2 hB2
  go_enter Try.func13, Try.ntmps13
  go_wp2_with fail
  refine C.out.mono ?_
  rintro e w1 ⟨rfl, hw1⟩
  replace HB : Hid (Below w.heap.size w w1) := hide (by rw [hw1]; exact HB.out)
  clear hw1 C
  go_wp2_with fail
  go_ret
  exact ⟨rfl, HB.out⟩
set_option maxRecDepth 100000 in
theorem nobTake14 {w : World} {v : Value} (t : TxN) (h : Nob14 w v) : Calls Try.prog 10 #[v, txVN t] w fun e w' => e = .returned (.tuple #[.slice none 0 0, .int .i64 2]) ∧ Below w.heap.size w w' := by
  have hA := alloc_below14 w (.cells #[.int .u8 (t.1 : Int), .int .u32 (t.2.1 : Int), .int .u32 (t.2.2 : Int)] 33)
  have C := hide (nobMade14 (h.below hA))
  have HB := hide hA
  clear h hA
  go_enter Try.func10, Try.ntmps10
  go_wp2_with fail
  refine C.out.mono ?_
  rintro e w1 ⟨rfl, hw1⟩
  replace HB : Hid (Below w.heap.size w w1) := hide (by rw [hw1]; exact HB.out)
  clear hw1 C
  go_wp2_with fail
  go_ret2
  exact ⟨rfl, HB.out⟩
theorem build_rg14 (w : World) : (Instr.build 35 #[]).run Try.prog w = .ok (.agg #[.int .u32 0, .int .u32 0]) w := by kernel_rfl
theorem build_tx14 (w : World) : (Instr.build 33 #[]).run Try.prog w = .ok (.agg #[.int .u8 0, .int .u32 0, .int .u32 0]) w := by kernel_rfl
set_option maxRecDepth 100000 in
theorem nobWrites14 {w : World} {v : Value} (t : TxN) (h : Nob14 w v) : Calls Try.prog 15 #[v, txVN t] w fun e w' => e = .returned (.tuple #[.slice none 0 0, rgV (0, 0), .bool false]) ∧ Below w.heap.size w w' := by
  have hA := alloc_below14 w (.cells #[.int .u8 (t.1 : Int), .int .u32 (t.2.1 : Int), .int .u32 (t.2.2 : Int)] 33)
  have hA2 := alloc_below14 (w.alloc (.cells #[.int .u8 (t.1 : Int), .int .u32 (t.2.1 : Int), .int .u32 (t.2.2 : Int)] 33)) (.cells #[.int .u32 0, .int .u32 0] 35)
  have hB2 := hA.trans (hA2.mono hA.size)
  have C := hide (nobMade14 (h.below hB2))
  have HXR : Hid (Box ((w.alloc (.cells #[.int .u8 (t.1 : Int), .int .u32 (t.2.1 : Int), .int .u32 (t.2.2 : Int)] 33)).alloc (.cells #[.int .u32 0, .int .u32 0] 35)) (w.heap.size + 1) #[.int .u32 0, .int .u32 0] 35) := hide (by have := box_new (w.alloc (.cells #[.int .u8 (t.1 : Int), .int .u32 (t.2.1 : Int), .int .u32 (t.2.2 : Int)] 33)) #[.int .u32 0, .int .u32 0] 35; simpa using this)
  have HB := hide hB2
  have hb := build_rg14
  clear h hA hA2 hB2
  go_enter Try.func15, Try.ntmps15
  go_wp2_with fail
  refine C.out.mono ?_
  rintro e w1 ⟨rfl, hw1⟩
  replace HB : Hid (Below w.heap.size w w1) := hide (by rw [hw1]; exact HB.out)
  replace HXR : Hid (Box w1 (w.heap.size + 1) #[.int .u32 0, .int .u32 0] 35) := hide (by rw [hw1]; exact HXR.out)
  clear hw1 C
  go_wp2_with (refine wp_store_box rfl rfl _ _ rfl (w.heap.size + 1) rfl (cs' := #[.int .u32 0, .int .u32 0]) rfl HXR.out rfl infoRg14 (by simp [Value.oneCell']) ?_; intro w4 hb4 hk4; have HR4 := hide hb4; have HB4 := hide (HB.out.trans (hk4.below HB.out.size (fun k hk => by omega))); clear hb4 hk4)
  refine bodyPost_ret (v := .tuple #[.slice none 0 0, rgV (0, 0), .bool false]) (results_box3s Try.results15 _ _ (w.heap.size + 1) rfl rfl rfl HR4.out Try.underlying35 rfl infoRg14) rfl ⟨rfl, HB4.out⟩
set_option maxRecDepth 100000 in
theorem nobOwner14 {w : World} {v : Value} (k : List Int) (h : Nob14 w v) : Calls Try.prog 20 #[v, .agg (eightA k)] w fun e w' => e = .returned (.tuple #[txVN (0, 0, 0), .bool false]) ∧ Below w.heap.size w w' := by
  have hA := alloc_below14 w (.cells (eightA k) 53)
  have hA2 := alloc_below14 (w.alloc (.cells (eightA k) 53)) (.cells #[.int .u8 0, .int .u32 0, .int .u32 0] 33)
  have hB2 := hA.trans (hA2.mono hA.size)
  have C := hide (nobMade14 (h.below hB2))
  have HXR : Hid (Box ((w.alloc (.cells (eightA k) 53)).alloc (.cells #[.int .u8 0, .int .u32 0, .int .u32 0] 33)) (w.heap.size + 1) #[.int .u8 0, .int .u32 0, .int .u32 0] 33) := hide (by have := box_new (w.alloc (.cells (eightA k) 53)) #[.int .u8 0, .int .u32 0, .int .u32 0] 33; simpa using this)
  have HB := hide hB2
  have hb := build_tx14
  clear h hA hA2 hB2
  go_enter Try.func20, Try.ntmps20
  go_wp2_with fail
  refine C.out.mono ?_
  rintro e w1 ⟨rfl, hw1⟩
  replace HB : Hid (Below w.heap.size w w1) := hide (by rw [hw1]; exact HB.out)
  replace HXR : Hid (Box w1 (w.heap.size + 1) #[.int .u8 0, .int .u32 0, .int .u32 0] 33) := hide (by rw [hw1]; exact HXR.out)
  clear hw1 C
  go_wp2_with (refine wp_store_box rfl rfl _ _ rfl (w.heap.size + 1) rfl (cs' := #[.int .u8 0, .int .u32 0, .int .u32 0]) rfl HXR.out rfl infoTx14 (by simp [Value.oneCell']) ?_; intro w4 hb4 hk4; have HR4 := hide hb4; have HB4 := hide (HB.out.trans (hk4.below HB.out.size (fun k hk => by omega))); clear hb4 hk4)
  refine bodyPost_ret (v := .tuple #[txVN (0, 0, 0), .bool false]) (results_box2s Try.results20 _ _ (w.heap.size + 1) rfl rfl HR4.out Try.underlying33 rfl infoTx14) rfl ⟨rfl, HB4.out⟩
end
section
open Go.RowKit Classical

def k14 : List Int := [97, 0, 0, 0, 0, 0, 0, 0]
def sw14 : WrP := ⟨k14, ⟨1, [], ⟨1, 1, 1, [1, 0, 0, 0, 0, 0, 0, 0]⟩⟩⟩
def x14 : OnP := ⟨(0, 1, 1), (1, 1), [sw14]⟩
theorem k14_ok : KeyOk k14 := ⟨rfl, by decide⟩
theorem sw14_ok : KeyOk sw14.key ∧ ItOk sw14.it := ⟨k14_ok, ⟨by decide, (fun c hc => by cases hc), (show Cf.Ok ⟨1, 1, 1, [1, 0, 0, 0, 0, 0, 0, 0]⟩ from ⟨by decide, by decide, by decide, by decide, by decide⟩)⟩⟩
theorem x14_ok : OnOk x14 := ⟨⟨by decide, by decide, by decide⟩, ⟨by decide, by decide⟩, fun y hy => by
  simp only [x14, List.mem_singleton] at hy
  rw [hy]
  exact sw14_ok⟩
theorem x14_facts : pA [] x14 = 0 ∧ pS [] x14 = [x14] ∧ ownS [x14] k14 = some (0, 1, 1) ∧ tA [x14] (0, 1, 1) = 0 ∧ tW [x14] (0, 1, 1) = [sw14] ∧ dropS [x14] (0, 1, 1) = [] := ⟨by decide, rfl, rfl, by decide, rfl, rfl⟩
theorem info14Tx : (Try.prog.info? 33).map (·.size) = some 3 := by kernel_rfl
theorem build14k (w : World) : (Instr.build 53 #[(0, .int .u8 97)]).run Try.prog w = .ok (.agg #[.int .u8 97, .int .u8 0, .int .u8 0, .int .u8 0, .int .u8 0, .int .u8 0, .int .u8 0, .int .u8 0]) w := by kernel_rfl
theorem build14t (w : World) : (Instr.build 33 #[(1, .int .u32 1), (2, .int .u32 1)]).run Try.prog w = .ok (.agg #[.int .u8 0, .int .u32 1, .int .u32 1]) w := by kernel_rfl
theorem build14g (w : World) : (Instr.build 35 #[(0, .int .u32 1), (1, .int .u32 1)]).run Try.prog w = .ok (.agg #[.int .u32 1, .int .u32 1]) w := by kernel_rfl
set_option maxRecDepth 100000 in
theorem some14_any (w : World) : Calls Try.prog 29 #[] w fun e w' => e = .returned (.slice (some ⟨w.heap.size, 0, none⟩) 1 1) ∧ RSrc wrE w' (.slice (some ⟨w.heap.size, 0, none⟩) 1 1) [sw14] ∧ Below w.heap.size w w' := by
  go_enter Try.func29, Try.ntmps29
  go_wp2
  go_ret
  refine ⟨by simp, ⟨_, 1, rfl, Nat.le_refl _, by decide, (fun e => by cases e), fun _ => ⟨w.heap.size, 0, rfl, by simp, fun j u hu => ?_⟩⟩, (Below.refl _ _).alloc (Nat.le_refl _) _⟩
  rw [Nat.zero_add]
  exact (box_new w (wrA sw14) 59).cell j u (by simpa [flat] using hu)
section
variable {D : World → Nat → (Nat → Prop) → List OnP → Prop}
set_option maxRecDepth 100000 in
set_option maxHeartbeats 3200000 in
theorem alive_by14 (H : StageDo D) (w : World) : Calls Try.prog 8 #[] w fun e w' => e = .returned (.bool true) ∧ Below w.heap.size w w' := by
  have HF := hide x14_facts
  have hbk := build14k
  have hbt := build14t
  have hbg := build14g
  have CS := hide (fun W => some14_any W)
  go_enter Try.func8, Try.ntmps8
  go_wp2_with fail
  refine (H.new w).mono ?_
  rintro e w1 ⟨q, F1, rfl, hD1, hF1, hB1⟩
  have HS1 : Hid (Since14 D w q F1 [] w1) := hide ⟨hD1, hF1, hB1⟩
  have HNF : Hid (¬ F1 w1.heap.size) := hide (fun hf => Nat.lt_irrefl _ (H.lt hD1 _ hf))
  have hws := hB1.size
  have HZ := hide (box_new w1 #[.int .u8 0, .int .u32 0, .int .u32 0] 33)
  have HZS := hide (HS1.out.below H ((Below.refl w1.heap.size w1).alloc (Nat.le_refl _) (.cells #[.int .u8 0, .int .u32 0, .int .u32 0] 33)))
  clear hD1 hF1 hB1
  go_wp2_with (refine wp_store_box rfl rfl _ _ rfl w1.heap.size rfl (cs' := #[.int .u8 0, .int .u32 1, .int .u32 1]) rfl HZ.out rfl info14Tx (by simp [Value.oneCell']) ?_; intro w2 hb2 hk2; have HX2 := hide hb2; have HS2 : Hid (Since14 D w q F1 [] w2) := hide (HZS.out.keep H hk2 (fun k hf e => HNF.out (by rw [← e]; exact hf)) (fun k e => by omega)); clear hb2 hk2)
  obtain ⟨z0, z1, z2⟩ := HX2.out.three
  have HP : Hid (∀ W F v, D W q F [] → RSrc wrE W v [sw14] → Calls Try.prog 13 #[.pointer (some ⟨q, 0, none⟩), .agg #[.int .u8 0, .int .u32 1, .int .u32 1], .agg #[.int .u32 1, .int .u32 1], v] W fun e w' => e = .returned (.int .i64 0) ∧ SDid D W w' q F [x14]) := hide (fun W F v hD hv => by
    have h := H.put x14 v hD x14_ok hv
    rw [HF.out.1, HF.out.2.1] at h
    exact h)
  first | (go_region_held (fun w' => w'.cell? ⟨w1.heap.size, 0, none⟩ = some (.int .u8 0) ∧ w'.cell? ⟨w1.heap.size, 1, none⟩ = some (.int .u32 1) ∧ w'.cell? ⟨w1.heap.size, 2, none⟩ = some (.int .u32 1)) (go_keep) (first
    | (go_at_call 29; refine (CS.out _).mono ?_; rintro e w3 ⟨rfl, hs3, hB3⟩; have hB23 : Below w2.heap.size w2 w3 := (Below.refl w2.heap.size w2).drew.trans hB3; have HX3 := hide (HX2.out.belowI hB23); have HS3 := hide (HS2.out.below H hB23); have HV3 := hide hs3; obtain ⟨y0, y1, y2⟩ := HX3.out.three; clear hB3 hB23 hs3 HX2 HS2 z0 z1 z2)
    | (go_at_call 13; refine (HP.out _ _ _ HS3.out.d HV3.out).mono ?_; rintro e w4 ⟨rfl, hd4⟩; obtain ⟨F4, hs4, hk4, hf4⟩ := HS3.out.did hd4; have HS4 := hide hs4; have HX4 := hide (HX3.out.keep hk4 HNF.out); have HN4 : Hid (¬ F4 w1.heap.size) := hide (fun hf => (hf4 _ hf).elim HNF.out (fun h => by have := HX3.out.lt; omega)); obtain ⟨x0, x1, x2⟩ := HX4.out.three; clear hd4 hs4 hk4 hf4 HS3 HX3 HV3 y0 y1 y2))) | fail
  have HO : Hid (Calls Try.prog 20 #[.pointer (some ⟨q, 0, none⟩), .agg #[.int .u8 97, .int .u8 0, .int .u8 0, .int .u8 0, .int .u8 0, .int .u8 0, .int .u8 0, .int .u8 0]] w4 fun e w' => e = .returned (.tuple #[.agg #[.int .u8 0, .int .u32 1, .int .u32 1], .bool true]) ∧ Below w4.heap.size w4 w') := hide (by
    have h := H.owner k14 HS4.out.d k14_ok
    rw [HF.out.2.2.1] at h
    exact h)
  clear HP x0 x1 x2
  go_wp2_with fail
  refine HO.out.mono ?_
  rintro e w5 ⟨rfl, hB5⟩
  have HS5 := hide (HS4.out.below H hB5)
  have HX5 := hide (HX4.out.belowI hB5)
  have h45 := hB5.size
  have HZ5 := hide (box_new w5 #[.int .u8 0, .int .u32 0, .int .u32 0] 33)
  have hA5 : Below w5.heap.size w5 (w5.alloc (.cells #[.int .u8 0, .int .u32 0, .int .u32 0] 33)) := (Below.refl _ _).alloc (Nat.le_refl _) _
  have HZS5 := hide (HS5.out.below H hA5)
  have HZX5 := hide (HX5.out.belowI hA5)
  have HN5 : Hid (¬ F4 w5.heap.size) := hide (fun hf => Nat.lt_irrefl _ (H.lt HS5.out.d _ hf))
  have h5 := HS5.out.b.size
  have h15 := HX5.out.lt
  clear hB5 hA5 HO
  go_wp2_with (first | (refine wp_store_box rfl rfl _ _ rfl w5.heap.size rfl (cs' := #[.int .u8 0, .int .u32 1, .int .u32 1]) rfl HZ5.out rfl info14Tx (by simp [Value.oneCell']) ?_; intro w6 hb6 hk6; have HO6 := hide hb6; have HX6 := hide (HZX5.out.keep hk6 (by omega)); have HS6 : Hid (Since14 D w q F4 [x14] w6) := hide (HZS5.out.keep H hk6 (fun k hf e => HN5.out (by rw [← e]; exact hf)) (fun k e => by omega)); clear hb6 hk6) | (refine wp_load_box rfl _ rfl w1.heap.size rfl HX6.out Try.underlying33 rfl info14Tx ?_))
  have HT : Hid (Calls Try.prog 10 #[.pointer (some ⟨q, 0, none⟩), .agg #[.int .u8 0, .int .u32 1, .int .u32 1]] w6 fun e w' => ∃ v F', e = .returned (.tuple #[v, .int .i64 0]) ∧ D w' q F' [] ∧ KeepBut F4 w6 w' ∧ (∀ k, F' k → F4 k ∨ w6.heap.size ≤ k) ∧ RSrc wrE w' v [sw14] ∧ ∀ g, v.ownBlock = some g → F4 g ∧ ¬ F' g) := hide (by
    have h := H.take (0, 1, 1) HS6.out.d x14_ok.tx
    rw [HF.out.2.2.2.1, HF.out.2.2.2.2.1, HF.out.2.2.2.2.2] at h
    exact h)
  have HN6 : Hid (¬ F4 w1.heap.size) := HN4
  refine HT.out.mono ?_
  rintro e w7 ⟨v7, F7, rfl, hd7, hk7, hf7, hv7, _⟩
  have HS7 : Hid (Since14 D w q F7 [] w7) := hide ⟨hd7, fun k hk => (hf7 k hk).elim (HS6.out.new k) (fun h => Nat.le_trans HS6.out.b.size h), HS6.out.b.trans (hk7.below HS6.out.b.size HS6.out.new)⟩
  have HX7 := hide (HX6.out.keep hk7 HN6.out)
  have HO7 := hide (HO6.out.keep hk7 HN5.out)
  have HV7 := hide hv7
  obtain ⟨sa, sc, e7, _, _⟩ := hv7.shape
  subst e7
  have heq := eql_tx 0 1 1 0 1 1
  clear hd7 hk7 hf7 hv7 HT
  have CM : Hid (∀ W v u, RSrc wrE W v [sw14] → RSrc wrE W u [sw14] → Calls Try.prog 12 #[v, u] W fun e w' => e = .returned (.bool true) ∧ Below W.heap.size W w') := hide (fun W v u h1 h2 => by
    have h := rsameWrites_any v u [sw14] [sw14] W h1 h2 (fun x hx => by rw [List.mem_singleton.1 hx]; exact sw14_ok) (fun x hx => by rw [List.mem_singleton.1 hx]; exact sw14_ok)
    rw [decide_eq_true rfl] at h
    exact h)
  have CA := hide (fun W (h : Since14 D w q F7 [] W) => H.all h.d)
  go_wp2_with (first | (refine wp_load_box rfl _ rfl w5.heap.size rfl HO7.out Try.underlying33 rfl info14Tx ?_) | (refine wp_load_box rfl _ rfl w1.heap.size rfl HX7.out Try.underlying33 rfl info14Tx ?_) | (go_at_call 29; refine (CS.out _).mono ?_; rintro e w8 ⟨rfl, hs8, hB8⟩; have HS8 := hide (HS7.out.below H hB8); have HU8 := hide hs8; have HV8 := hide (HV7.out.below hB8); clear hs8 hB8) | (go_at_call 12; refine (CM.out _ _ _ HV8.out HU8.out).mono ?_; rintro e w9 ⟨rfl, hB9⟩; have HS9 := hide (HS8.out.below H hB9); clear hB9) | (go_at_call 18; refine (CA.out _ HS9.out).mono ?_; rintro e w10 ⟨v10, rfl, ho10, hB10⟩; have HB10 := hide (HS9.out.b.trans (hB10.mono HS9.out.b.size)); clear hB10; obtain ⟨_, ⟨rfl, _⟩ | ⟨g10, cap10, cur10, rfl, _⟩⟩ := ho10))
  all_goals go_ret
  all_goals exact ⟨rfl, HB10.out⟩
end
end
section
open Go.RowKit Classical

theorem SvOk.on {W : World} {a : SActV} (h : SvOk W a) : OnOk a.a.on := ⟨h.tx, h.rg, fun y hy => ⟨(h.wr y hy).1, (h.wr y hy).2.1⟩⟩
theorem SvOk.below {w w' : World} {a : SActV} (h : SvOk w a) (hB : Below w.heap.size w w') : SvOk w' a := ⟨h.tx, h.rg, h.src.below hB, h.wr⟩
theorem box_act {W : World} {b : Nat} {tk : Bool} {tx : TxN} {rg : Nat × Nat} {ws : List WrP} {p : Value} {t : TypeId} (h : Box W b (sactA ⟨⟨tk, ⟨tx, rg, ws⟩⟩, p⟩) t) : W.cell? ⟨b, 0, none⟩ = some (.bool tk) ∧ W.cell? ⟨b, 1, none⟩ = some (.int .u8 (tx.1 : Int)) ∧ W.cell? ⟨b, 2, none⟩ = some (.int .u32 (tx.2.1 : Int)) ∧ W.cell? ⟨b, 3, none⟩ = some (.int .u32 (tx.2.2 : Int)) ∧ W.cell? ⟨b, 4, none⟩ = some (.int .u32 (rg.1 : Int)) ∧ W.cell? ⟨b, 5, none⟩ = some (.int .u32 (rg.2 : Int)) ∧ W.cell? ⟨b, 6, none⟩ = some p :=
  ⟨h.cell 0 _ rfl, h.cell 1 _ rfl, h.cell 2 _ rfl, h.cell 3 _ rfl, h.cell 4 _ rfl, h.cell 5 _ rfl, h.cell 6 _ rfl⟩
theorem take_fold {α β : Type} (f : β → α → β) (b : β) (l : List α) {k : Nat} (h : k < l.length) : (l.take (k + 1)).foldl f b = f ((l.take k).foldl f b) l[k] := by
  rw [List.take_succ_eq_append_getElem h, List.foldl_append]
  rfl
theorem src_one14 (w : World) (a : SActV) : RSrc sactE (w.alloc (.cells (sactA a) 38)) (.slice (some ⟨w.heap.size, 0, none⟩) 1 1) [a] :=
  ⟨_, 1, rfl, Nat.le_refl _, by decide, (fun e => by cases e), fun _ => ⟨w.heap.size, 0, rfl, by simp, fun j u hu => by
    rw [Nat.zero_add]
    exact (box_new w (sactA a) 38).cell j u (by rw [flat_one] at hu; rw [← Array.getElem?_toList]; exact hu)⟩⟩
end
section
open Go.RowKit Go.Maps Classical

theorem src_row14 {w : World} {base : Nat} {v : Value} {xs : List WrP} (h : w.ownsRow base 59 21 v xs.length (flat wrE xs)) : RSrc wrE w v xs := by
  obtain ⟨hl, ⟨rfl, hz⟩ | ⟨g, cap, cur, rfl, hb, hh, h1, h2, h3, h4⟩⟩ := h
  · have : xs = [] := List.eq_nil_of_length_eq_zero hz
    subst this
    exact RSrc.nil w
  · refine ⟨some ⟨g, 0, none⟩, cap, rfl, h1, h2, (fun e => by cases e), fun _ => ⟨g, 0, rfl, (Array.getElem?_eq_some_iff.1 hh).1, fun j u hu => ?_⟩⟩
    rw [Nat.zero_add, cell_of_row w g j cur _ (0, 0) hh]
    have hj := (List.getElem?_eq_some_iff.1 hu).1
    rw [hl] at hj
    have : (cur.toList.take (xs.length * 21))[j]? = some u := by rw [h4]; exact hu
    rw [List.getElem?_take_of_lt hj] at this
    simpa using this
theorem info14Rg : (Try.prog.info? 35).map (·.size) = some 2 := by kernel_rfl
end
section
open Go.RowKit Go.Maps

/-- The cells of the name at place k. -/
theorem row_cells {w : World} {base : Nat} {v : Value} {L : List TxP} (h : w.ownsRow base 33 3 v L.length (rowOf L)) (k : Nat) (hk : k < L.length) :
    ∃ g c, v = .slice (some ⟨g, 0, none⟩) L.length c ∧ g < w.heap.size ∧ w.cell? ⟨g, k * 3, none⟩ = some (.int .u8 L[k].1) ∧ w.cell? ⟨g, k * 3 + 1, none⟩ = some (.int .u32 L[k].2.1) ∧ w.cell? ⟨g, k * 3 + 2, none⟩ = some (.int .u32 L[k].2.2) := by
  obtain ⟨h1, ⟨rfl, h2⟩ | ⟨g, cap, cur, rfl, hb, hc, r1, r2, r3, r4⟩⟩ := h
  · omega
  · have key : ∀ j, j < 3 → w.cell? ⟨g, k * 3 + j, none⟩ = (txCs L[k])[j]? := fun j hj => by
      have e1 : (rowOf L)[k * 3 + j]? = (txCs L[k])[j]? := by
        clear h1 hc r1 r2 r3 r4
        induction L generalizing k with
        | nil => simp at hk
        | cons x r ih =>
          have e : rowOf (x :: r) = txCs x ++ rowOf r := by simp [rowOf]
          rw [e]
          cases k with
          | zero => rw [List.getElem?_append_left (by simp; omega)]; simp
          | succ k =>
            rw [List.getElem?_append_right (by simp; omega)]
            have e3 : (k + 1) * 3 + j - (txCs x).length = k * 3 + j := by simp; omega
            rw [e3]
            have := ih k (by simpa using hk)
            simpa using this
      rw [← r4, List.getElem?_take_of_lt (by omega)] at e1
      rw [← e1]
      simp [World.cell?, hc]
    exact ⟨g, cap, rfl, (Array.getElem?_eq_some_iff.1 hc).1, key 0 (by omega), key 1 (by omega), key 2 (by omega)⟩
end
section
open Go.RowKit Go.Maps

theorem row_shape {w : World} {base : Nat} {v : Value} {L : List TxP} (h : w.ownsRow base 33 3 v L.length (rowOf L)) : ∃ a c, v = .slice a L.length c := by
  obtain ⟨_, ⟨rfl, h2⟩ | ⟨g, cap, cur, rfl, _⟩⟩ := h
  · exact ⟨none, 0, by rw [h2]⟩
  · exact ⟨_, _, rfl⟩
set_option maxRecDepth 100000 in
set_option maxHeartbeats 1600000 in
theorem same5_any (b1 b2 : Nat) (v1 v2 : Value) (L : List TxP) (w : World) (h1 : w.ownsRow b1 33 3 v1 L.length (rowOf L)) (h2 : w.ownsRow b2 33 3 v2 L.length (rowOf L)) (hl : L.length ≤ 1000) :
    Calls Try.prog 17 #[v1, v2] w fun e w' => e = .returned (.bool true) ∧ Below w.heap.size w w' := by
  have H1 := hide h1
  have H2 := hide h2
  obtain ⟨a1, c1, e1⟩ := row_shape h1
  obtain ⟨a2, c2, e2⟩ := row_shape h2
  subst e1
  subst e2
  clear h1 h2
  go_enter Try.func17, Try.ntmps17
  go_wp2_with fail
  go_loopw [5] (fun i wr => ∃ k n : Nat, k ≤ L.length ∧ i = .int .i64 k ∧ wr = w.drewN n) (fun i _ => L.length - (intOf i).toNat)
  case atStart => exact ⟨0, 0, by omega, rfl, rfl⟩
  case round =>
    obtain ⟨k, n, hk, rfl, rfl⟩ := hrel
    by_cases hlt : k < L.length
    · obtain ⟨g1, cg1, hv1, hg1, x0, x1, x2⟩ := row_cells H1.out k hlt
      obtain ⟨g2, cg2, hv2, hg2, y0, y1, y2⟩ := row_cells H2.out k hlt
      cases hv1
      cases hv2
      obtain ⟨ua, ub, uc, hu⟩ : ∃ a b c, L[k] = (a, b, c) := ⟨_, _, _, rfl⟩
      rw [hu] at x0 x1 x2 y0 y1 y2
      dsimp only at x0 x1 x2 y0 y1 y2
      have hne : ∀ w, (binOp .neq 33 (.agg #[.int .u8 ua, .int .u32 ub, .int .u32 uc]) (.agg #[.int .u8 ua, .int .u32 ub, .int .u32 uc])).run Try.prog w = .ok (.bool false) w := fun w => by rw [neq_tx]; simp
      have d1 : decide ((k : Int) < (L.length : Int)) = true := by simp; omega
      clear hu
      go_wp2_with fail
      go_quiet (fail)
      go_wp2_with fail
      go_roundw
      case rel => exact ⟨k + 1, _, hlt, by simp, rfl⟩
      case measure => simp [intOf]; omega
    · have d1 : decide ((k : Int) < (L.length : Int)) = false := by simp; omega
      go_wp2_with fail
      go_ret
      exact ⟨rfl, below_drewN (Below.refl _ _)⟩
end
section
open Go.RowKit Go.Maps Classical

/-- What is asked of stages that nobody made. -/
structure NobDo14 (N : World → Value → Prop) : Prop where
  below : ∀ {w w' : World} {v : Value}, N w v → Below w.heap.size w w' → N w' v
  nil : ∀ w, N w (.pointer none)
  zero : ∀ {w : World} {q : Nat}, Box w q #[.map none, .map none] 65 → N w (.pointer (some ⟨q, 0, none⟩))
  put : ∀ {w : World} {v : Value} (t : TxN) (g : Nat × Nat) (u : Value), N w v → Calls Try.prog 13 #[v, txVN t, rgV g, u] w fun e w' => e = .returned (.int .i64 2) ∧ Below w.heap.size w w'
  take : ∀ {w : World} {v : Value} (t : TxN), N w v → Calls Try.prog 10 #[v, txVN t] w fun e w' => e = .returned (.tuple #[.slice none 0 0, .int .i64 2]) ∧ Below w.heap.size w w'
  writes : ∀ {w : World} {v : Value} (t : TxN), N w v → Calls Try.prog 15 #[v, txVN t] w fun e w' => e = .returned (.tuple #[.slice none 0 0, rgV (0, 0), .bool false]) ∧ Below w.heap.size w w'
  owner : ∀ {w : World} {v : Value} (k : List Int), N w v → Calls Try.prog 20 #[v, .agg (eightA k)] w fun e w' => e = .returned (.tuple #[txVN (0, 0, 0), .bool false]) ∧ Below w.heap.size w w'
  all : ∀ {w : World} {v : Value}, N w v → Calls Try.prog 18 #[v] w fun e w' => e = .returned (.slice none 0 0) ∧ w' = w
/-- A row whose versions from i on can be written over. -/
def IncB (W : World) (g n i : Nat) : Prop := ∃ cur, Box W g cur 59 ∧ ∀ j, i ≤ j → j < n → ∃ ver : Int, cur[j * 21 + 8]? = some (.int .u32 ver)
theorem inc_start {w : World} {base n g cap : Nat} {xs : List WrP} (h : w.ownsRow base 59 21 (.slice (some ⟨g, 0, none⟩) n cap) xs.length (flat wrE xs)) : IncB w g xs.length 0 := by
  obtain ⟨hl, ⟨e, _⟩ | ⟨g', cap', cur, e, hb, hh, h1, h2, h3, h4⟩⟩ := h
  · cases e
  · cases e
    refine ⟨cur, hh, fun j _ hj => ⟨(xs[j].it.ver : Int), ?_⟩⟩
    have e1 : (flat wrE xs)[j * 21 + 8]? = (wrE xs[j])[8]? := flat_at (K := 21) (fun _ => rfl) hj (by omega)
    have e2 : (cur.toList.take (xs.length * 21))[j * 21 + 8]? = some (.int .u32 (xs[j].it.ver : Int)) := by rw [h4, e1]; rfl
    rw [List.getElem?_take_of_lt (by omega)] at e2
    simpa using e2
theorem inc_step {W : World} {g n i : Nat} (h : IncB W g n i) (hi : i < n) : ∃ ver : Int, W.cell? ⟨g, i * 21 + 8, none⟩ = some (.int .u32 ver) ∧ W.frozen? ⟨g, i * 21 + 8, none⟩ = false ∧ g < W.heap.size ∧ ∀ u : Int, IncB (W.setCell ⟨g, i * 21 + 8, none⟩ (.int .u32 u)) g n (i + 1) := by
  obtain ⟨cur, hb, hc⟩ := h
  obtain ⟨ver, hv⟩ := hc i (Nat.le_refl _) hi
  refine ⟨ver, hb.cell _ _ hv, hb.frozen _, hb.lt, fun u => ⟨_, hb.set, fun j hj hjn => ?_⟩⟩
  obtain ⟨v2, hv2⟩ := hc j (by omega) hjn
  refine ⟨v2, ?_⟩
  rw [Array.getElem?_setIfInBounds_ne (by omega)]
  exact hv2
theorem far_few {fs : List SActV} (h : farS fs = false) : ∀ a ∈ fs.take 100, a.a.on.wr.length ≤ 40 := fun a ha => by
  unfold farS at h
  rw [Bool.or_eq_false_iff] at h
  have h1 := List.any_eq_false.1 h.1 a ha
  unfold actB14 at h1
  simpa using h1
theorem keep_set {S : Nat → Prop} {a W : World} (h : KeepBut S a W) {g o : Nat} {u : Value} (hg : S g) : KeepBut S a (W.setCell ⟨g, o, none⟩ u) := h.setCell (p := ⟨g, o, none⟩) (.inl hg) u
def putV (l : List OnP) (a : SActV) : List OnP := pS l a.a.on
theorem grown_none {w w' : World} {B : Nat} (hB : B ≤ w.heap.size) (h : w.grownBy w' (Value.slice none 0 0).ownBlock) : Below B w w' := (Below.refl B w).grown h hB (fun j hj => by cases hj)
end
section
open Go.RowKit

theorem nob14_do : NobDo14 Nob14 where
  below := fun h hB => h.below hB
  nil := fun _ => .inl rfl
  zero := fun h => .inr ⟨_, rfl, h⟩
  put := fun t g u h => nobPut14 t g u h
  take := fun t h => nobTake14 t h
  writes := fun t h => nobWrites14 t h
  owner := fun k h => nobOwner14 k h
  all := fun h => nobAll14 h
end
end Go.Proofs.Ytodomdmmffooaaa
