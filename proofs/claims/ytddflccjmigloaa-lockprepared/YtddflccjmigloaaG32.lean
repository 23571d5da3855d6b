/-
  Own texts put together: LkSrt, FramePlain, RecsOpen, MgOpen, LkNob, LkNd. Own work.
-/
import Derived.Test.YtddflccjmigloaaG31
import Derived.Test.YtddflccjmigloaaG01
import Derived.Test.YtddflccjmigloaaG09
import Derived.Test.YtddflccjmigloaaG18
import Derived.Sort.WalkA14
import Derived.Test.YtddflccjmigloaaRows
import Derived.ChangeSlices
import Derived.ProofKit
import Derived.OpenShut
import Derived.ChangeOld
import Derived.Below
import Derived.Carry
import Derived.Deep.Slices
import Derived.ChangeArms
import Derived.SizedLaws
namespace Go.Proofs.Ytddflccjmigloaa
section
open Go.RowKit Go.Maps Go.Shelf Go.Sort Classical

theorem sortW {l : List (UsP KeyT)} {q g n : Nat} {w0 w : World} {d : Array TxN} (cap : Nat) (hC : AgeAt l q g w0) (h : RowAt l g w0 w n d) (hg : g < w0.heap.size) (hsz : n ≤ 100) :
    Calls Try.prog 29 #[.slice (some ⟨g, 0, none⟩) n cap, ageV q] w fun e w' => PdqR l g w0 n 0 n d e w' := by
  obtain ⟨bl, hbl⟩ : ∃ bl, bl = Lib.bitLen n := ⟨_, rfl⟩
  have hbl2 : bl ≤ 100 := by
    have h1 := bitLen_eq n (by omega)
    have h2 := (bitsLen_le_iff n 7).2 (by omega)
    omega
  have hl : ∀ W, Calls Try.prog 50 #[.int .u64 (n : Int)] W fun e w' => e = .returned (.int .i64 (bl : Int)) ∧ w' = W := fun W => by
    have h := Any.bits_Len (SlLaysF0.n15.bits (P := Try.prog) { Try.sortL with }) (n : Int) W (by omega) (by omega)
    rw [Int.toNat_natCast, ← hbl] at h
    exact h
  have CP := hide (pdqB cap hC hg hsz (n + 1) 0 n bl d w (by omega) h (Nat.zero_le _) (Nat.le_refl _) (.inl rfl) hbl2)
  have CL := hide hl
  clear hl hbl h hC
  go_enter Try.func29, Try.ntmps29
  go_wp2_with fail
  refine (CL.out _).mono ?_
  rintro e w1 ⟨rfl, rfl⟩
  go_wp2_with fail
  refine CP.out.mono ?_
  rintro e w2 ⟨⟨d', rfl, h1, h2, h3⟩⟩
  go_wp2_with fail
  go_end0
  exact ⟨⟨d', rfl, h1, h2, h3⟩⟩
theorem row_get {ss : List TxN} {i j : Nat} (hi : i < ss.length) (hj : j < 3) : (flat txCs (ss.map txI))[i * 3 + j]? = (txCs (txI ss.toArray[i]!))[j]? := by
  rw [flat_at (enc := txCs) (K := 3) (fun _ => rfl) (by rw [List.length_map]; exact hi) hj]
  congr 2
  simp [hi]
theorem trow_of {w : World} {g cap : Nat} {cur : Array Value} {ss : List TxN} (hb : Box w g cur 30) (hn : ss.length ≤ cap) (hs : cur.size = cap * 3) (ht : cur.toList.take (ss.length * 3) = flat txCs (ss.map txI)) : TRow w g ss.toArray := by
  refine ⟨⟨cur, hb, by rw [List.size_toArray]; omega⟩, fun i hi j v hv => ?_⟩
  rw [List.size_toArray] at hi
  have hj : j < 3 := (List.getElem?_eq_some_iff.1 hv).1
  rw [← row_get hi hj, ← ht, List.getElem?_take_of_lt (by omega)] at hv
  exact hb.cell _ _ (by simpa using hv)
theorem row_of {w : World} {g cap : Nat} {cur : Array Value} {d : Array TxN} (h : TRow w g d) (hb : Box w g cur 30) (hn : d.size ≤ cap) (hs : cur.size = cap * 3) : cur.toList.take (d.size * 3) = flat txCs (d.toList.map txI) := by
  refine List.ext_getElem? (fun k => ?_)
  by_cases hk : k < d.size * 3
  · obtain ⟨i, j, rfl, hj⟩ : ∃ i j, k = i * 3 + j ∧ j < 3 := ⟨k / 3, k % 3, by omega, Nat.mod_lt _ (by omega)⟩
    have hi : i < d.size := by omega
    rw [List.getElem?_take_of_lt hk, row_get (by simpa using hi) hj]
    obtain ⟨u, hu⟩ : ∃ u, cur.toList[i * 3 + j]? = some u := ⟨_, List.getElem?_eq_getElem (by simp; omega)⟩
    obtain ⟨v, hv⟩ : ∃ v, (txCs (txI d[i]!))[j]? = some v := ⟨_, List.getElem?_eq_getElem (by exact hj)⟩
    have c1 := hb.cell (i * 3 + j) u (by simpa using hu)
    have c2 := h.rd i hi j v hv
    have c3 : some u = some v := c1.symm.trans c2
    rw [hu, c3]
    exact hv.symm
  · rw [List.getElem?_eq_none (by rw [List.length_take]; omega), List.getElem?_eq_none (by rw [flat_len (enc := txCs) (K := 3) (fun _ => rfl)]; simp; omega)]
theorem old_sorted {l : List (UsP KeyT)} (hl : LkB l) {d' : Array TxN} (hu : AllU l d') (hnd : d'.toList.Nodup) (hs : SortedIn (ltOf (ageF l)) 0 d'.size d') : d'.toList.Pairwise (OldN l) := by
  rw [List.pairwise_iff_getElem]
  intro i j hi hj hij
  have hi' : i < d'.size := by simpa using hi
  have hj' : j < d'.size := by simpa using hj
  have h1 := hs i j (Nat.zero_le _) hij hj'
  have ei : d'[i]! = d'.toList[i] := by simp [hi']
  have ej : d'[j]! = d'.toList[j] := by simp [hj']
  rw [ei, ej, nlt_age] at h1
  obtain ⟨u, hu1, hu2⟩ := hu i hi'
  obtain ⟨v, hv1, hv2⟩ := hu j hj'
  rw [ei] at hu2
  rw [ej] at hv2
  have hne : d'.toList[i] ≠ d'.toList[j] := (List.pairwise_iff_getElem.1 (List.nodup_iff_pairwise_ne.1 hnd)) i j hi hj hij
  show Old (getU l d'.toList[i]) (getU l d'.toList[j])
  have gi : getU l d'.toList[i] = u := by rw [← hu2]; exact getU_of hl hu1
  have gj : getU l d'.toList[j] = v := by rw [← hv2]; exact getU_of hl hv1
  rw [gi, gj] at h1 ⊢
  rcases old_total (u := u) (v := v) (by rw [hu2, hv2]; exact hne) with h2 | h2
  · exact h2
  · exact absurd h2 h1
theorem sortB64 : SortB 64 := by
  intro W q b C p l base v ss h ho hss hnd hlen hvb
  by_cases h1 : ss.length ≤ 1
  · exact sortB1 W q b C p l base v ss h ho hss hnd h1 hvb
  obtain ⟨hl, h0 | ⟨g, cap, cur, rfl, hbg, hbk, hnc, hcm, hcs, hcut⟩⟩ := ho
  · omega
  have hb : Box W g cur 30 := hbk
  have hf : ¬ FLk q b p l g := hvb g rfl
  have hrow : RowAt l g W W ss.length ss.toArray := ⟨by simp, fun i hi => by
    have hi' : i < ss.length := by simpa using hi
    have e : ss.toArray[i]! = ss[i] := by simp [hi']
    rw [e]
    exact hss _ (List.getElem_mem hi'), trow_of hb hnc hcs hcut, KeepBut.refl _ _, fun c hc => ⟨c, hc, rfl⟩⟩
  refine (sortW cap (ageAt15 h hf) hrow hb.lt (by omega)).mono ?_
  rintro e w' ⟨⟨d', rfl, hr, hp, hs⟩⟩
  have hsz := hr.sz
  have hpm : d'.toList.Perm ss := by
    have h2 := hp.2.2
    have e1 : d'.extract 0 ss.length = d' := by rw [← hsz]; simp
    have e2 : ss.toArray.extract 0 ss.length = ss.toArray := by simp
    rw [e1, e2] at h2
    first | exact h2 | exact h2.symm | simpa using h2 | simpa using h2.symm
  have hln : d'.toList.length = ss.length := hpm.length_eq
  obtain ⟨cur', hb', hc'⟩ := hr.cz cur hb
  refine ⟨rfl, d'.toList, fun t => hpm.mem_iff, old_sorted h.ok hr.us (hpm.nodup_iff.2 hnd) (by rw [hsz]; exact hs), ?_, hr.kb.mono (fun k hk => by rw [hk]; rfl)⟩
  rw [hln]
  refine ⟨?_, .inr ⟨g, cap, cur', rfl, hbg, hb', hnc, hcm, by rw [hc', hcs], ?_⟩⟩
  · rw [flat_len (enc := txCs) (K := 3) (fun _ => rfl), List.length_map, hln]
  · have h3 := row_of hr.row hb' (by rw [hsz]; exact hnc) (by rw [hc', hcs])
    rw [hsz] at h3
    exact h3
end
section
open Go.ChangeShapes Go.WideShapes Go.ChangeAt Go.RowKit

theorem own : ownKnob Try.prog.godebug = none := by kernel_rfl
theorem laidOut : laidOutB Try.prog = true := by kernel_rfl
end
section
open Go.ChangeShapes Go.WideShapes Go.ChangeAt Go.RowKit Go.Deep

section
variable {H : Type} {enc : TypeId × Value → H} {W : World}
theorem choose_rec {α : Type} [Inhabited α] {n : Nat} {p : Nat → α → Prop} (h : ∀ i, i < n → ∃ x, p i x) : ∃ f : Nat → α, ∀ i, i < n → p i (f i) := by
  classical
  refine ⟨fun i => if hi : i < n then Classical.choose (h i hi) else default, fun i hi => ?_⟩
  simp only [dif_pos hi]
  exact Classical.choose_spec (h i hi)
/-- A slice of records as an argument, by what the cells of one of them are. -/
theorem recs_of_trod {α : Type} [Inhabited α] {t e : TypeId} {K : Nat} {encA : α → List Value} {ok : α → Prop} (R : Rec t e K encA) (hce : Try.prog.cellsOf e = K)
    (hone : ∀ (fuel : Nat) (cs : List Value) (x : DataW H × List MemPlace), DataW.trod enc Try.prog W 0 (fun _ => true) true fuel e cs = some x → ∃ a, cs = encA a ∧ ok a)
    {a0 : Option Addr} {len cap : Nat} {d : DataW H} {p : List MemPlace}
    (h : DataW.Trod enc Try.prog W 0 (fun _ => true) true t (.slice a0 len cap) d p) : ∃ fs, RSrc encA W (.slice a0 len cap) fs ∧ (∀ f ∈ fs, ok f) := by
  obtain ⟨fuel, hf⟩ := h
  rcases open_slice R.und hf with ⟨hcs, _⟩ | ⟨a, len', cap', m, n, D, Pl, hcs, _, hl, hm, hmm, hx, hel⟩
  · simp [Value.cells] at hcs
    obtain ⟨rfl, rfl, rfl⟩ := hcs
    exact ⟨[], RSrc.nil _, by simp⟩
  · simp [Value.cells] at hcs
    obtain ⟨rfl, rfl, rfl⟩ := hcs
    simp only [if_true] at hmm
    subst hmm
    have hch : ∀ i, i < len → ∃ f : α, W.cells? 0 (a.add (i * K)) K = some (encA f) ∧ ok f := by
      intro i hi
      obtain ⟨cs', h1, h2⟩ := hel i (by omega)
      rw [hce] at h1
      obtain ⟨f, rfl, r⟩ := hone _ _ _ h2
      exact ⟨f, h1, r⟩
    obtain ⟨f, hfi⟩ := choose_rec hch
    by_cases h0 : len = 0
    · subst h0
      exact ⟨[], ⟨_, _, rfl, Nat.zero_le _, hm, fun e => (by cases e), fun hne => absurd rfl hne⟩, by simp⟩
    · obtain ⟨b, off, spot⟩ := a
      have hcell : ∀ i, i < len → ∀ j, j < K → W.cell? (((⟨b, off, spot⟩ : Addr).add (i * K)).add j) = (encA (f i))[j]? := by
        intro i hi j hj
        have h1 := World.cells?_some (hfi i hi).1
        have h2 := h1.2.2 j hj
        exact h2
      have hpos := R.pos
      have hc0 := hcell 0 (by omega) 0 hpos
      have he0 : ∃ u, (encA (f 0))[0]? = some u := ⟨_, List.getElem?_eq_getElem (by rw [R.len]; exact hpos)⟩
      obtain ⟨u0, hu0⟩ := he0
      rw [hu0] at hc0
      have hspot : spot = none := by simpa [Addr.add] using World.cell?_spot hc0
      subst hspot
      have hb : b < W.heap.size := by
        rcases Nat.lt_or_ge b W.heap.size with h | h
        · exact h
        · have hn : W.heap[b]? = none := by simp [h]
          simp [Addr.add, World.cell?, hn] at hc0
      have hlen : ((List.range len).map f).length = len := by simp
      refine ⟨(List.range len).map f, ⟨_, _, by rw [hlen], by rw [hlen]; exact hl, hm, fun e => (by cases e), fun _ => ⟨b, off, rfl, hb, fun j u hu => ?_⟩⟩, fun g hg => ?_⟩
      · have hjl : j < len * K := by
          have := (List.getElem?_eq_some_iff.1 hu).1
          rw [flat_len R.len, hlen] at this
          exact this
        have hi : j / K < len := (Nat.div_lt_iff_lt_mul hpos).2 hjl
        have hr : j % K < K := Nat.mod_lt _ hpos
        have hj : j = (j / K) * K + j % K := by rw [Nat.mul_comm]; exact (Nat.div_add_mod j K).symm
        rw [hj, flat_at R.len (by rw [hlen]; exact hi) hr] at hu
        have hc := hcell (j / K) hi (j % K) hr
        rw [Addr.add_lit, Addr.add_lit] at hc
        rw [hj, ← Nat.add_assoc, hc]
        simpa using hu
      · rw [List.mem_map] at hg
        obtain ⟨i, hi, rfl⟩ := hg
        exact (hfi i (by simpa using hi)).2
end
end
section
open Go.ChangeShapes Go.WideShapes Go.ChangeAt Go.RowKit Go.Deep

theorem mKey : Try.prog.cellsOf 34 = 8 := by kernel_rfl
theorem mTx : Try.prog.cellsOf 30 = 3 := by kernel_rfl
theorem mU8 : Try.prog.cellsOf 5 = 1 := by kernel_rfl
theorem mU32 : Try.prog.cellsOf 28 = 1 := by kernel_rfl
section Opened
variable {H : Type} {enc : TypeId × Value → H} {W : World} {base fuel : Nat} {spare : Nat → Bool} {held : Bool}
theorem ints_of10 : ∀ (cs : List Value) (n : Nat), cs.length = n → (∀ i, i < n → ∃ k : Int, (cs.drop i).take 1 = [.int .u8 k] ∧ 0 ≤ k ∧ k < 256) → ∃ ks : List Int, ks.length = n ∧ cs = ks.map (Value.int .u8) ∧ ∀ c ∈ ks, 0 ≤ c ∧ c < 256
  | [], n, h, _ => ⟨[], by simpa using h, rfl, by simp⟩
  | c :: r, 0, h, _ => by simp at h
  | c :: r, n + 1, h, hc => by
    obtain ⟨ks, h1, h2, h3⟩ := ints_of10 r n (by simpa using h) (fun i hi => by
      obtain ⟨k, e, b⟩ := hc (i + 1) (by omega)
      exact ⟨k, by simpa using e, b⟩)
    obtain ⟨k, e, b⟩ := hc 0 (by omega)
    simp at e
    refine ⟨k :: ks, by simp [h1], by rw [e, h2]; rfl, fun c hc2 => ?_⟩
    rcases List.mem_cons.1 hc2 with rfl | hc2
    · exact b
    · exact h3 c hc2
theorem eight_cells (t : TypeId) (ht : Try.prog.underlying t = some (.array 8 5)) (hc : Try.prog.cellsOf t = 8) {cs : List Value} {x : DataW H × List MemPlace} (h : DataW.trod enc Try.prog W base spare held fuel t cs = some x) : ∃ ks : List Int, ks.length = 8 ∧ cs = ks.map (Value.int .u8) ∧ ∀ c ∈ ks, 0 ≤ c ∧ c < 256 := by
  obtain ⟨xs, m, _, _, hl, hn, hf⟩ := DataW.trod_array ht h
  rw [hc] at hl
  refine ints_of10 cs 8 hl (fun i hi => ?_)
  have h0 := hf i hi
  rw [mU8, Nat.mul_one] at h0
  obtain ⟨y, hy⟩ : ∃ y, xs[i]? = some y := ⟨xs[i]'(by omega), by simp⟩
  rw [hy] at h0
  obtain ⟨a0, e0, _, w0⟩ := DataW.trod_int Try.underlying5 h0
  have := bounds_u8 w0
  exact ⟨a0, e0, by omega, by omega⟩
theorem key_cells {cs : List Value} {x : DataW H × List MemPlace} (h : DataW.trod enc Try.prog W base spare held fuel 34 cs = some x) : ∃ k : List Int, cs = eightE k ∧ KeyOk k := by
  obtain ⟨ks, hl, e, hb⟩ := eight_cells 34 Try.underlying34 mKey h
  exact ⟨ks, by rw [e, eightE_map hl], ⟨hl, hb⟩⟩
set_option maxRecDepth 100000 in
theorem tx_cells10 {cs : List Value} {x : DataW H × List MemPlace} (h : DataW.trod enc Try.prog W base spare held fuel 30 cs = some x) : ∃ t : TxN, cs = txE t ∧ (t.1 < 256 ∧ t.2.1 < 4294967296 ∧ t.2.2 < 4294967296) := by
  obtain ⟨xs, n, _, rfl, hl, hlen, hf⟩ := DataW.trod_struct Try.underlying30 h
  rw [mTx] at hl
  match cs, hl, xs, hlen with
  | [c0, c1, c2], _, [y0, y1, y2], _ =>
    have h0 : DataW.trod enc Try.prog W base spare held n 5 (([c0, c1, c2].drop 0).take (Try.prog.cellsOf 5)) = some y0 := hf 0 _ rfl
    have h1 : DataW.trod enc Try.prog W base spare held n 28 (([c0, c1, c2].drop 1).take (Try.prog.cellsOf 28)) = some y1 := hf 1 _ rfl
    have h2 : DataW.trod enc Try.prog W base spare held n 28 (([c0, c1, c2].drop 2).take (Try.prog.cellsOf 28)) = some y2 := hf 2 _ rfl
    rw [mU8] at h0
    rw [mU32] at h1 h2
    obtain ⟨a0, e0, _, w0⟩ := DataW.trod_int Try.underlying5 h0
    obtain ⟨a1, e1, _, w1⟩ := DataW.trod_int Try.underlying28 h1
    obtain ⟨a2, e2, _, w2⟩ := DataW.trod_int Try.underlying28 h2
    have b0 := bounds_u8 w0
    have b1 := bounds_u32 w1
    have b2 := bounds_u32 w2
    obtain ⟨n0, rfl⟩ := Int.eq_ofNat_of_zero_le b0.1
    obtain ⟨n1, rfl⟩ := Int.eq_ofNat_of_zero_le b1.1
    obtain ⟨n2, rfl⟩ := Int.eq_ofNat_of_zero_le b2.1
    simp at e0 e1 e2
    subst e0
    subst e1
    subst e2
    exact ⟨(n0, n1, n2), rfl, by simp only; omega, by simp only; omega, by simp only; omega⟩
end Opened
end
section
open Go.RowKit Go.Maps Classical

/-- A nil table, or one that New did not give. -/
def Nob15 (w : World) (v : Value) : Prop := v = .pointer none ∨ ∃ q, v = .pointer (some ⟨q, 0, none⟩) ∧ Box w q #[.map none] 53
theorem Nob15.below {w w' : World} {v : Value} (h : Nob15 w v) (hB : Below w.heap.size w w') : Nob15 w' v := h.imp id (fun ⟨q, e, hb⟩ => ⟨q, e, hb.belowI hB⟩)
theorem nobMade15 {w : World} {v : Value} (h : Nob15 w v) : Calls Try.prog 22 #[v] w fun e w' => e = .returned (.bool false) ∧ w' = w := by
  rcases h with rfl | ⟨q, rfl, hb⟩
  · exact made15_nil w
  · exact made15_none q w hb
set_option maxRecDepth 100000 in
set_option maxHeartbeats 1600000 in
theorem nobFind15 (t : TxN) {w : World} {v : Value} (h : Nob15 w v) : Calls Try.prog 26 #[v, txVN t] w fun e w' => e = .returned (usV zE) ∧ Below w.heap.size w w' := by
  have hA := alloc_below14 w (.cells #[.int .u8 (t.1 : Int), .int .u32 (t.2.1 : Int), .int .u32 (t.2.2 : Int)] 30)
  have hA2 := alloc_below14 (w.alloc (.cells #[.int .u8 (t.1 : Int), .int .u32 (t.2.1 : Int), .int .u32 (t.2.2 : Int)] 30)) (.cells (usA zE) 66)
  have hB2 := hA.trans (hA2.mono hA.size)
  have HXR : Hid (Box ((w.alloc (.cells #[.int .u8 (t.1 : Int), .int .u32 (t.2.1 : Int), .int .u32 (t.2.2 : Int)] 30)).alloc (.cells (usA zE) 66)) (w.heap.size + 1) (usA zE) 66) := hide (by have := box_new (w.alloc (.cells #[.int .u8 (t.1 : Int), .int .u32 (t.2.1 : Int), .int .u32 (t.2.2 : Int)] 30)) (usA zE) 66; simpa using this)
  have CM := hide (nobMade15 (h.below hB2))
  have HB2 := hide hB2
  clear hA hA2 hB2 h
  go_enter Try.func26, Try.ntmps26
  go_wp2_with fail
  refine CM.out.mono ?_
  rintro e w1 ⟨rfl, hw1⟩
  rw [← hw1] at HXR HB2
  clear hw1 CM
  go_wp2_with (refine wp_store_box rfl rfl _ _ rfl (w.heap.size + 1) rfl (cs' := usA zE) rfl HXR.out rfl infoUs15 (by simp [Value.oneCell']) ?_; intro w5 hb5 hk5; have HX5 := hide hb5; have HB5 := hide (HB2.out.trans (hk5.below HB2.out.size (fun j e => by omega))); clear hb5 hk5)
  exact bodyPost_ret (v := usV zE) (results_box Try.results26 _ _ (w.heap.size + 1) rfl HX5.out Try.underlying66 rfl infoUs15) rfl ⟨rfl, HB5.out⟩
set_option maxRecDepth 100000 in
set_option maxHeartbeats 1600000 in
theorem nobWaits15 (t : TxN) {w : World} {v : Value} (h : Nob15 w v) : Calls Try.prog 16 #[v, txVN t] w fun e w' => e = .returned (.bool false) ∧ Below w.heap.size w w' := by
  have hA := alloc_below14 w (.cells #[.int .u8 (t.1 : Int), .int .u32 (t.2.1 : Int), .int .u32 (t.2.2 : Int)] 30)
  have HXT := hide (box_new w #[.int .u8 (t.1 : Int), .int .u32 (t.2.1 : Int), .int .u32 (t.2.2 : Int)] 30)
  have HB := hide hA
  have CF := hide (nobFind15 t (h.below hA))
  have hf3 : ∀ W, (Instr.field 66 (usV zE) 3).run Try.prog W = .ok (.map none) W := fun W => field3_us zE W
  have hlen0 : ∀ ty W, (Builtin.len_ #[64] ty #[.map none]).run Try.prog W = .ok (.int .i64 0) W := fun ty W => by simp [go_sem, Try.underlying64]
  clear h hA
  go_enter Try.func16, Try.ntmps16
  go_wp2_with (refine wp_load_box rfl _ rfl w.heap.size rfl HXT.out Try.underlying30 rfl infoTx15 ?_)
  refine CF.out.mono ?_
  rintro e w3 ⟨rfl, hB3⟩
  have HB3 := hide (HB.out.trans (hB3.mono HB.out.size))
  clear hB3 CF
  go_wp2_with fail
  go_ret
  exact ⟨rfl, HB3.out⟩
set_option maxRecDepth 100000 in
set_option maxHeartbeats 1600000 in
theorem nobPrepared15 (t : TxN) {w : World} {v : Value} (h : Nob15 w v) : Calls Try.prog 15 #[v, txVN t] w fun e w' => e = .returned (.bool false) ∧ Below w.heap.size w w' := by
  have hA := alloc_below14 w (.cells #[.int .u8 (t.1 : Int), .int .u32 (t.2.1 : Int), .int .u32 (t.2.2 : Int)] 30)
  have HXT := hide (box_new w #[.int .u8 (t.1 : Int), .int .u32 (t.2.1 : Int), .int .u32 (t.2.2 : Int)] 30)
  have HB := hide hA
  have CF := hide (nobFind15 t (h.below hA))
  have hf1 := field1_us zE
  clear h hA
  go_enter Try.func15, Try.ntmps15
  go_wp2_with (refine wp_load_box rfl _ rfl w.heap.size rfl HXT.out Try.underlying30 rfl infoTx15 ?_)
  refine CF.out.mono ?_
  rintro e w3 ⟨rfl, hB3⟩
  have HB3 := hide (HB.out.trans (hB3.mono HB.out.size))
  clear hB3 CF
  go_wp2_with fail
  go_ret
  exact ⟨rfl, HB3.out⟩
set_option maxRecDepth 100000 in
set_option maxHeartbeats 1600000 in
theorem nobUsers15 {w : World} {v : Value} (h : Nob15 w v) : Calls Try.prog 11 #[v] w fun e w' => e = .returned (.slice none 0 0) ∧ Below w.heap.size w w' := by
  have CM := hide (nobMade15 h)
  clear h
  go_enter Try.func11, Try.ntmps11
  go_wp2_with fail
  refine CM.out.mono ?_
  rintro e w1 ⟨rfl, rfl⟩
  go_wp2_with fail
  go_ret
  exact ⟨rfl, Below.refl _ _⟩
set_option maxRecDepth 100000 in
set_option maxHeartbeats 1600000 in
theorem nobQueue15 (k : KeyT) {w : World} {v : Value} (h : Nob15 w v) : Calls Try.prog 17 #[v, .agg (eightA k.1)] w fun e w' => e = .returned (.slice none 0 0) ∧ Below w.heap.size w w' := by
  have hA := alloc_below14 w (.cells (eightA k.1) 34)
  have CM := hide (nobMade15 (h.below hA))
  have HB := hide hA
  clear h hA
  go_enter Try.func17, Try.ntmps17
  go_wp2_with fail
  refine CM.out.mono ?_
  rintro e w1 ⟨rfl, hw1⟩
  rw [← hw1] at HB
  clear hw1 CM
  go_wp2_with fail
  go_ret
  exact ⟨rfl, HB.out⟩
set_option maxRecDepth 100000 in
set_option maxHeartbeats 1600000 in
theorem nobRestore15 (t : TxN) (u : Value) {w : World} {v : Value} (h : Nob15 w v) : Calls Try.prog 21 #[v, txVN t, u] w fun e w' => e = .returned (.int .i64 2) ∧ Below w.heap.size w w' := by
  have hA := alloc_below14 w (.cells #[.int .u8 (t.1 : Int), .int .u32 (t.2.1 : Int), .int .u32 (t.2.2 : Int)] 30)
  have CM := hide (nobMade15 (h.below hA))
  have HB := hide hA
  clear h hA
  go_enter Try.func21, Try.ntmps21
  go_wp2_with fail
  refine CM.out.mono ?_
  rintro e w1 ⟨rfl, hw1⟩
  rw [← hw1] at HB
  clear hw1 CM
  go_wp2_with fail
  go_ret
  exact ⟨rfl, HB.out⟩
set_option maxRecDepth 100000 in
set_option maxHeartbeats 1600000 in
theorem nobRelease15 (t : TxN) {w : World} {v : Value} (h : Nob15 w v) : Calls Try.prog 20 #[v, txVN t] w fun e w' => e = .returned (.tuple #[.agg zO, .int .i64 2]) ∧ Below w.heap.size w w' := by
  have hA := alloc_below14 w (.cells #[.int .u8 (t.1 : Int), .int .u32 (t.2.1 : Int), .int .u32 (t.2.2 : Int)] 30)
  have hA2 := alloc_below14 (w.alloc (.cells #[.int .u8 (t.1 : Int), .int .u32 (t.2.1 : Int), .int .u32 (t.2.2 : Int)] 30)) (.cells zO 41)
  have hB2 := hA.trans (hA2.mono hA.size)
  have HXO : Hid (Box ((w.alloc (.cells #[.int .u8 (t.1 : Int), .int .u32 (t.2.1 : Int), .int .u32 (t.2.2 : Int)] 30)).alloc (.cells zO 41)) (w.heap.size + 1) zO 41) := hide (by have := box_new (w.alloc (.cells #[.int .u8 (t.1 : Int), .int .u32 (t.2.1 : Int), .int .u32 (t.2.2 : Int)] 30)) zO 41; simpa using this)
  have CM := hide (nobMade15 (h.below hB2))
  have HB := hide hB2
  have hbu0 := buildOut0
  clear h hA hA2 hB2
  go_enter Try.func20, Try.ntmps20
  go_wp2_with fail
  refine CM.out.mono ?_
  rintro e w1 ⟨rfl, hw1⟩
  rw [← hw1] at HXO HB
  clear hw1 CM
  go_wp2_with (refine wp_store_box rfl rfl _ _ rfl (w.heap.size + 1) rfl (cs' := zO) rfl HXO.out rfl infoOut15 (by simp [Value.oneCell']) ?_; intro w5 hb5 hk5; have HX5 := hide hb5; have HB5 := hide (HB.out.trans (hk5.below HB.out.size (fun j e => by omega))); clear hb5 hk5)
  exact bodyPost_ret (v := .tuple #[.agg zO, .int .i64 2]) (results_box2s Try.results20 _ _ (w.heap.size + 1) rfl rfl HX5.out Try.underlying41 rfl infoOut15) rfl ⟨rfl, HB5.out⟩
set_option maxRecDepth 100000 in
set_option maxHeartbeats 1600000 in
theorem nobPrepare15 (t : TxN) {w : World} {v : Value} (h : Nob15 w v) : Calls Try.prog 13 #[v, txVN t] w fun e w' => e = .returned (.tuple #[.agg zO, .int .i64 2]) ∧ Below w.heap.size w w' := by
  have hA := alloc_below14 w (.cells #[.int .u8 (t.1 : Int), .int .u32 (t.2.1 : Int), .int .u32 (t.2.2 : Int)] 30)
  have hA2 := alloc_below14 (w.alloc (.cells #[.int .u8 (t.1 : Int), .int .u32 (t.2.1 : Int), .int .u32 (t.2.2 : Int)] 30)) (.cells zO 41)
  have hB2 := hA.trans (hA2.mono hA.size)
  have HXO : Hid (Box ((w.alloc (.cells #[.int .u8 (t.1 : Int), .int .u32 (t.2.1 : Int), .int .u32 (t.2.2 : Int)] 30)).alloc (.cells zO 41)) (w.heap.size + 1) zO 41) := hide (by have := box_new (w.alloc (.cells #[.int .u8 (t.1 : Int), .int .u32 (t.2.1 : Int), .int .u32 (t.2.2 : Int)] 30)) zO 41; simpa using this)
  have CM := hide (nobMade15 (h.below hB2))
  have HB := hide hB2
  have hbu0 := buildOut0
  clear h hA hA2 hB2
  go_enter Try.func13, Try.ntmps13
  go_wp2_with fail
  refine CM.out.mono ?_
  rintro e w1 ⟨rfl, hw1⟩
  rw [← hw1] at HXO HB
  clear hw1 CM
  go_wp2_with (refine wp_store_box rfl rfl _ _ rfl (w.heap.size + 1) rfl (cs' := zO) rfl HXO.out rfl infoOut15 (by simp [Value.oneCell']) ?_; intro w5 hb5 hk5; have HX5 := hide hb5; have HB5 := hide (HB.out.trans (hk5.below HB.out.size (fun j e => by omega))); clear hb5 hk5)
  exact bodyPost_ret (v := .tuple #[.agg zO, .int .i64 2]) (results_box2s Try.results13 _ _ (w.heap.size + 1) rfl rfl HX5.out Try.underlying41 rfl infoOut15) rfl ⟨rfl, HB5.out⟩
abbrev stN15 (tm : Nat) (t : TxN) : Array Value := #[.int .u32 (tm : Int), .int .u8 (t.1 : Int), .int .u32 (t.2.1 : Int), .int .u32 (t.2.2 : Int)]
set_option maxRecDepth 100000 in
set_option maxHeartbeats 1600000 in
theorem nobRefusal15 (tm : Nat) (t : TxN) (k : KeyT) (m : Nat) {w : World} {v : Value} (h : Nob15 w v) : Calls Try.prog 31 #[v, .agg (stN15 tm t), .agg (eightA k.1), .int .u8 (m : Int)] w fun e w' => e = .returned (.int .i64 2) ∧ Below w.heap.size w w' := by
  have hA := alloc_below14 w (.cells (stN15 tm t) 32)
  have hA2 := alloc_below14 (w.alloc (.cells (stN15 tm t) 32)) (.cells (eightA k.1) 34)
  have hB2 := hA.trans (hA2.mono hA.size)
  have CM := hide (nobMade15 (h.below hB2))
  have HB := hide hB2
  clear h hA hA2 hB2
  go_enter Try.func31, Try.ntmps31
  go_wp2_with fail
  refine CM.out.mono ?_
  rintro e w1 ⟨rfl, hw1⟩
  rw [← hw1] at HB
  clear hw1 CM
  go_wp2_with fail
  go_ret
  exact ⟨rfl, HB.out⟩
set_option maxRecDepth 100000 in
set_option maxHeartbeats 1600000 in
theorem nobAsk15 (tm : Nat) (t : TxN) (k : KeyT) (m : Nat) {w : World} {v : Value} (h : Nob15 w v) : Calls Try.prog 18 #[v, .agg (stN15 tm t), .agg (eightA k.1), .int .u8 (m : Int)] w fun e w' => e = .returned (.tuple #[.agg zO, .int .i64 2]) ∧ Below w.heap.size w w' := by
  have hA := alloc_below14 w (.cells (stN15 tm t) 32)
  have hA2 := alloc_below14 (w.alloc (.cells (stN15 tm t) 32)) (.cells (eightA k.1) 34)
  have hA3 := alloc_below14 ((w.alloc (.cells (stN15 tm t) 32)).alloc (.cells (eightA k.1) 34)) (.cells zO 41)
  have HXS := hide (((box_new w (stN15 tm t) 32).belowI hA2).belowI hA3)
  have HXK : Hid (Box (((w.alloc (.cells (stN15 tm t) 32)).alloc (.cells (eightA k.1) 34)).alloc (.cells zO 41)) (w.heap.size + 1) (eightA k.1) 34) := hide ((by have := box_new (w.alloc (.cells (stN15 tm t) 32)) (eightA k.1) 34; simpa using this : Box ((w.alloc (.cells (stN15 tm t) 32)).alloc (.cells (eightA k.1) 34)) (w.heap.size + 1) (eightA k.1) 34).belowI hA3)
  have HXO : Hid (Box (((w.alloc (.cells (stN15 tm t) 32)).alloc (.cells (eightA k.1) 34)).alloc (.cells zO 41)) (w.heap.size + 1 + 1) zO 41) := hide (by have := box_new ((w.alloc (.cells (stN15 tm t) 32)).alloc (.cells (eightA k.1) 34)) zO 41; simpa using this)
  have hB3 := hA.trans ((hA2.trans (hA3.mono hA2.size)).mono hA.size)
  obtain ⟨w1, hw1⟩ : ∃ w1, w1 = ((w.alloc (.cells (stN15 tm t) 32)).alloc (.cells (eightA k.1) 34)).alloc (.cells zO 41) := ⟨_, rfl⟩
  obtain ⟨p1, hp1⟩ : ∃ p1, p1 = w.heap.size := ⟨_, rfl⟩
  obtain ⟨p2, hp2⟩ : ∃ p2, p2 = p1 + 1 := ⟨_, rfl⟩
  obtain ⟨p3, hp3⟩ : ∃ p3, p3 = p2 + 1 := ⟨_, rfl⟩
  rw [← hw1, ← hp1] at HXS
  rw [← hw1, ← hp1, ← hp2] at HXK
  rw [← hw1, ← hp1, ← hp2, ← hp3] at HXO
  rw [← hw1] at hB3
  have hW1 := hw1.symm
  have hP1 := hp1.symm
  have hP2 := hp2.symm
  have hP3 := hp3.symm
  have HB := hide hB3
  have HNUM : Hid (w.heap.size ≤ p3) := hide (by omega)
  have CR := hide (nobRefusal15 tm t k m (h.below hB3))
  have hbu0 := buildOut0
  obtain ⟨x0, x1, x2, x3, x4, x5, x6, x7⟩ := box_eight14 HXK.out
  have s0 : w1.cell? ⟨p1, 0, none⟩ = some (.int .u32 (tm : Int)) := HXS.out.cell 0 _ rfl
  have s1 : w1.cell? ⟨p1, 1, none⟩ = some (.int .u8 (t.1 : Int)) := HXS.out.cell 1 _ rfl
  have s2 : w1.cell? ⟨p1, 2, none⟩ = some (.int .u32 (t.2.1 : Int)) := HXS.out.cell 2 _ rfl
  have s3 : w1.cell? ⟨p1, 3, none⟩ = some (.int .u32 (t.2.2 : Int)) := HXS.out.cell 3 _ rfl
  clear h hA hA2 hA3 hB3 hw1 hp1 hp2 hp3
  go_enter Try.func18, Try.ntmps18
  go_wp2_with fail
  refine CR.out.mono ?_
  rintro e w2 ⟨rfl, hB12⟩
  have HXO2 := hide (HXO.out.belowI hB12)
  have HB2 := hide (HB.out.trans (hB12.mono HB.out.size))
  clear hB12 CR x0 x1 x2 x3 x4 x5 x6 x7 s0 s1 s2 s3 hW1 hP1 hP2 hP3
  go_wp2_with (refine wp_store_box rfl rfl _ _ rfl p3 rfl (cs' := zO) rfl HXO2.out rfl infoOut15 (by simp [Value.oneCell']) ?_; intro w5 hb5 hk5; have HX5 := hide hb5; have HB5 := hide (HB2.out.trans (hk5.below HB2.out.size (fun j e => by rw [e]; exact HNUM.out))); clear hb5 hk5)
  exact bodyPost_ret (v := .tuple #[.agg zO, .int .i64 2]) (results_box2s Try.results18 _ _ p3 rfl rfl HX5.out Try.underlying41 rfl infoOut15) rfl ⟨rfl, HB5.out⟩
set_option maxRecDepth 100000 in
set_option maxHeartbeats 1600000 in
theorem nobMode15 (t : TxN) (k : KeyT) {w : World} {v : Value} (h : Nob15 w v) : Calls Try.prog 12 #[v, txVN t, .agg (eightA k.1)] w fun e w' => e = .returned (.int .u8 0) ∧ Below w.heap.size w w' := by
  have hA := alloc_below14 w (.cells #[.int .u8 (t.1 : Int), .int .u32 (t.2.1 : Int), .int .u32 (t.2.2 : Int)] 30)
  have hA2 := alloc_below14 (w.alloc (.cells #[.int .u8 (t.1 : Int), .int .u32 (t.2.1 : Int), .int .u32 (t.2.2 : Int)] 30)) (.cells (eightA k.1) 34)
  have hB2 := hA.trans (hA2.mono hA.size)
  have HXT := hide ((box_new w #[.int .u8 (t.1 : Int), .int .u32 (t.2.1 : Int), .int .u32 (t.2.2 : Int)] 30).belowI hA2)
  have HXK : Hid (Box ((w.alloc (.cells #[.int .u8 (t.1 : Int), .int .u32 (t.2.1 : Int), .int .u32 (t.2.2 : Int)] 30)).alloc (.cells (eightA k.1) 34)) (w.heap.size + 1) (eightA k.1) 34) := hide (by have := box_new (w.alloc (.cells #[.int .u8 (t.1 : Int), .int .u32 (t.2.1 : Int), .int .u32 (t.2.2 : Int)] 30)) (eightA k.1) 34; simpa using this)
  obtain ⟨w1, hw1⟩ : ∃ w1, w1 = (w.alloc (.cells #[.int .u8 (t.1 : Int), .int .u32 (t.2.1 : Int), .int .u32 (t.2.2 : Int)] 30)).alloc (.cells (eightA k.1) 34) := ⟨_, rfl⟩
  obtain ⟨p1, hp1⟩ : ∃ p1, p1 = w.heap.size := ⟨_, rfl⟩
  obtain ⟨p2, hp2⟩ : ∃ p2, p2 = p1 + 1 := ⟨_, rfl⟩
  rw [← hw1, ← hp1] at HXT
  rw [← hw1, ← hp1, ← hp2] at HXK
  rw [← hw1] at hB2
  have HW1 := hide hw1
  have HP1 := hide hp1
  have HP2 := hide hp2
  have H1 := hide (h.below hB2)
  have HB := hide hB2
  have hf2 : ∀ W, (Instr.field 66 (usV zE) 2).run Try.prog W = .ok (.map none) W := fun W => field2_us zE W
  have L3 : ∀ W, (Instr.lookup 64 (.map none) (kyV k.1) false).run Try.prog W = .ok (.int .u8 0) W := fun W => (MRead.look (.inl ⟨rfl, fun _ => rfl⟩ : MRead W none (fun _ => 0)) k)
  obtain ⟨k0, k1, k2⟩ := HXT.out.three
  obtain ⟨x0, x1, x2, x3, x4, x5, x6, x7⟩ := box_eight14 HXK.out
  clear h hA hA2 hB2 hw1 hp1 hp2
  go_enter Try.func12, Try.ntmps12
  go_wp2_with fail
  rw [← HW1.out, ← HP1.out, ← HP2.out]
  go_region_held (fun w' => w'.cell? ⟨p1, 0, none⟩ = some (.int .u8 (t.1 : Int)) ∧ w'.cell? ⟨p1, 1, none⟩ = some (.int .u32 (t.2.1 : Int)) ∧ w'.cell? ⟨p1, 2, none⟩ = some (.int .u32 (t.2.2 : Int)) ∧ w'.cell? ⟨p2, 0, none⟩ = some (.int .u8 (at8 k.1 0)) ∧ w'.cell? ⟨p2, 1, none⟩ = some (.int .u8 (at8 k.1 1)) ∧ w'.cell? ⟨p2, 2, none⟩ = some (.int .u8 (at8 k.1 2)) ∧ w'.cell? ⟨p2, 3, none⟩ = some (.int .u8 (at8 k.1 3)) ∧ w'.cell? ⟨p2, 4, none⟩ = some (.int .u8 (at8 k.1 4)) ∧ w'.cell? ⟨p2, 5, none⟩ = some (.int .u8 (at8 k.1 5)) ∧ w'.cell? ⟨p2, 6, none⟩ = some (.int .u8 (at8 k.1 6)) ∧ w'.cell? ⟨p2, 7, none⟩ = some (.int .u8 (at8 k.1 7))) (go_keep) (first
    | (go_at_call 26; refine (nobFind15 t (H1.out.below (below_drew14 w1))).mono ?_; rintro e w3 ⟨rfl, hB3⟩; have HB3 := hide (HB.out.trans (((below_drew14 w1).trans hB3).mono HB.out.size)); have ss : _ ∧ _ ∧ _ := (HXT.out.belowI ((below_drew14 w1).trans hB3)).three; have ss2 := box_eight14 (HXK.out.belowI ((below_drew14 w1).trans hB3)); clear hB3))
  all_goals go_wp2_with fail
  all_goals go_ret
  all_goals exact ⟨rfl, HB3.out⟩
end
section
open Go.RowKit Go.Maps Classical

/-- An act. -/
structure LAct where
  kd : Nat
  tm : Nat
  t : TxN
  k : KeyT
  m : Nat
  ks : List KeyT
abbrev lactA (a : LAct) (v : Value) : Array Value := #[.int .u8 (a.kd : Int), .int .u32 (a.tm : Int), .int .u8 (a.t.1 : Int), .int .u32 (a.t.2.1 : Int), .int .u32 (a.t.2.2 : Int), .int .u8 (at8 a.k.1 0), .int .u8 (at8 a.k.1 1), .int .u8 (at8 a.k.1 2), .int .u8 (at8 a.k.1 3), .int .u8 (at8 a.k.1 4), .int .u8 (at8 a.k.1 5), .int .u8 (at8 a.k.1 6), .int .u8 (at8 a.k.1 7), .int .u8 (a.m : Int), v]
set_option maxRecDepth 100000 in
set_option maxHeartbeats 3200000 in
theorem nobDoes15 (a : LAct) (u : Value) {w : World} {v : Value} (h : Nob15 w v) : Calls Try.prog 10 #[v, .agg (lactA a u)] w fun e w' => e = .returned (.tuple #[.agg zO, .int .i64 2]) ∧ Below w.heap.size w w' := by
  have hA := alloc_below14 w (.cells (lactA a u) 37)
  have hA2 := alloc_below14 (w.alloc (.cells (lactA a u) 37)) (.cells zO 41)
  have HXA := hide ((box_new w (lactA a u) 37).belowI hA2)
  have HXO : Hid (Box ((w.alloc (.cells (lactA a u) 37)).alloc (.cells zO 41)) (w.heap.size + 1) zO 41) := hide (by have := box_new (w.alloc (.cells (lactA a u) 37)) zO 41; simpa using this)
  have hB2 := hA.trans (hA2.mono hA.size)
  obtain ⟨w1, hw1⟩ : ∃ w1, w1 = (w.alloc (.cells (lactA a u) 37)).alloc (.cells zO 41) := ⟨_, rfl⟩
  obtain ⟨p1, hp1⟩ : ∃ p1, p1 = w.heap.size := ⟨_, rfl⟩
  obtain ⟨p2, hp2⟩ : ∃ p2, p2 = p1 + 1 := ⟨_, rfl⟩
  rw [← hw1, ← hp1] at HXA
  rw [← hw1, ← hp1, ← hp2] at HXO
  rw [← hw1] at hB2
  have hW1 := hw1.symm
  have hP1 := hp1.symm
  have hP2 := hp2.symm
  have HB := hide hB2
  have HNUM : Hid (w.heap.size ≤ p2) := hide (by omega)
  have hN := h.below hB2
  have CA := hide (nobAsk15 a.tm a.t a.k a.m hN)
  have CP := hide (nobPrepare15 a.t hN)
  have CR := hide (nobRelease15 a.t hN)
  have CS := hide (nobRestore15 a.t u hN)
  have hbu0 := buildOut0
  have c0 : w1.cell? ⟨p1, 0, none⟩ = some (.int .u8 (a.kd : Int)) := HXA.out.cell 0 _ rfl
  have c1 : w1.cell? ⟨p1, 1, none⟩ = some (.int .u32 (a.tm : Int)) := HXA.out.cell 1 _ rfl
  have c2 : w1.cell? ⟨p1, 2, none⟩ = some (.int .u8 (a.t.1 : Int)) := HXA.out.cell 2 _ rfl
  have c3 : w1.cell? ⟨p1, 3, none⟩ = some (.int .u32 (a.t.2.1 : Int)) := HXA.out.cell 3 _ rfl
  have c4 : w1.cell? ⟨p1, 4, none⟩ = some (.int .u32 (a.t.2.2 : Int)) := HXA.out.cell 4 _ rfl
  have c5 : w1.cell? ⟨p1, 5, none⟩ = some (.int .u8 (at8 a.k.1 0)) := HXA.out.cell 5 _ rfl
  have c6 : w1.cell? ⟨p1, 6, none⟩ = some (.int .u8 (at8 a.k.1 1)) := HXA.out.cell 6 _ rfl
  have c7 : w1.cell? ⟨p1, 7, none⟩ = some (.int .u8 (at8 a.k.1 2)) := HXA.out.cell 7 _ rfl
  have c8 : w1.cell? ⟨p1, 8, none⟩ = some (.int .u8 (at8 a.k.1 3)) := HXA.out.cell 8 _ rfl
  have c9 : w1.cell? ⟨p1, 9, none⟩ = some (.int .u8 (at8 a.k.1 4)) := HXA.out.cell 9 _ rfl
  have c10 : w1.cell? ⟨p1, 10, none⟩ = some (.int .u8 (at8 a.k.1 5)) := HXA.out.cell 10 _ rfl
  have c11 : w1.cell? ⟨p1, 11, none⟩ = some (.int .u8 (at8 a.k.1 6)) := HXA.out.cell 11 _ rfl
  have c12 : w1.cell? ⟨p1, 12, none⟩ = some (.int .u8 (at8 a.k.1 7)) := HXA.out.cell 12 _ rfl
  have c13 : w1.cell? ⟨p1, 13, none⟩ = some (.int .u8 (a.m : Int)) := HXA.out.cell 13 _ rfl
  have c14 : w1.cell? ⟨p1, 14, none⟩ = some u := HXA.out.cell 14 _ rfl
  obtain ⟨kd, tm, t, k, m, ks⟩ := a
  dsimp only at *
  have hrem : (kd : Int).tmod 5 = ((kd % 5 : Nat) : Int) := by
    rw [Int.tmod_eq_emod_of_nonneg (by omega)]; omega
  obtain ⟨r, hr⟩ : ∃ r, r = kd % 5 := ⟨_, rfl⟩
  rw [← hr] at hrem
  have hr5 : r < 5 := by omega
  clear h hN hA hA2 hB2 hw1 hp1 hp2 hr
  go_enter Try.func10, Try.ntmps10
  by_cases h2 : r = 2
  · have hz2 : (r : Int) = 2 := by omega
    subst h2
    clear hr5
    go_wp2_with fail
    refine CP.out.mono ?_
    rintro e w2 ⟨rfl, hb2⟩
    have HXO2 := hide (HXO.out.belowI hb2)
    have HB2 := hide (HB.out.trans (hb2.mono HB.out.size))
    clear hb2
    go_wp2_with (refine wp_store_box rfl rfl _ _ rfl p2 rfl (cs' := zO) rfl HXO2.out rfl infoOut15 (by simp [Value.oneCell']) ?_; intro w5 hb5 hk5; have HX5 := hide hb5; have HB5 := hide (HB2.out.trans (hk5.below HB2.out.size (fun j e => by rw [e]; exact HNUM.out))); clear hb5 hk5)
    exact bodyPost_ret (v := .tuple #[.agg zO, .int .i64 2]) (results_box2s Try.results10 _ _ p2 rfl rfl HX5.out Try.underlying41 rfl infoOut15) rfl ⟨rfl, HB5.out⟩
  · have hz2 : ¬ (r : Int) = 2 := by omega
    by_cases h3 : r = 3
    · have hz3 : (r : Int) = 3 := by omega
      subst h3
      clear hr5
      go_wp2_with fail
      refine CR.out.mono ?_
      rintro e w2 ⟨rfl, hb2⟩
      have HXO2 := hide (HXO.out.belowI hb2)
      have HB2 := hide (HB.out.trans (hb2.mono HB.out.size))
      clear hb2
      go_wp2_with (refine wp_store_box rfl rfl _ _ rfl p2 rfl (cs' := zO) rfl HXO2.out rfl infoOut15 (by simp [Value.oneCell']) ?_; intro w5 hb5 hk5; have HX5 := hide hb5; have HB5 := hide (HB2.out.trans (hk5.below HB2.out.size (fun j e => by rw [e]; exact HNUM.out))); clear hb5 hk5)
      exact bodyPost_ret (v := .tuple #[.agg zO, .int .i64 2]) (results_box2s Try.results10 _ _ p2 rfl rfl HX5.out Try.underlying41 rfl infoOut15) rfl ⟨rfl, HB5.out⟩
    · have hz3 : ¬ (r : Int) = 3 := by omega
      by_cases h4 : r = 4
      · have hz4 : (r : Int) = 4 := by omega
        subst h4
        clear hr5
        go_wp2_with fail
        refine CS.out.mono ?_
        rintro e w2 ⟨rfl, hb2⟩
        have HXO2 := hide (HXO.out.belowI hb2)
        have HB2 := hide (HB.out.trans (hb2.mono HB.out.size))
        clear hb2
        go_wp2_with (refine wp_store_box rfl rfl _ _ rfl p2 rfl (cs' := zO) rfl HXO2.out rfl infoOut15 (by simp [Value.oneCell']) ?_; intro w5 hb5 hk5; have HX5 := hide hb5; have HB5 := hide (HB2.out.trans (hk5.below HB2.out.size (fun j e => by rw [e]; exact HNUM.out))); clear hb5 hk5)
        exact bodyPost_ret (v := .tuple #[.agg zO, .int .i64 2]) (results_box2s Try.results10 _ _ p2 rfl rfl HX5.out Try.underlying41 rfl infoOut15) rfl ⟨rfl, HB5.out⟩
      · have hz4 : ¬ (r : Int) = 4 := by omega
        go_wp2_with fail
        refine CA.out.mono ?_
        rintro e w2 ⟨rfl, hb2⟩
        have HXO2 := hide (HXO.out.belowI hb2)
        have HB2 := hide (HB.out.trans (hb2.mono HB.out.size))
        clear hb2
        go_wp2_with (refine wp_store_box rfl rfl _ _ rfl p2 rfl (cs' := zO) rfl HXO2.out rfl infoOut15 (by simp [Value.oneCell']) ?_; intro w5 hb5 hk5; have HX5 := hide hb5; have HB5 := hide (HB2.out.trans (hk5.below HB2.out.size (fun j e => by rw [e]; exact HNUM.out))); clear hb5 hk5)
        exact bodyPost_ret (v := .tuple #[.agg zO, .int .i64 2]) (results_box2s Try.results10 _ _ p2 rfl rfl HX5.out Try.underlying41 rfl infoOut15) rfl ⟨rfl, HB5.out⟩
end
end Go.Proofs.Ytddflccjmigloaa
