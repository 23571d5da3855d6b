/-
  Arguments of the laws of layer 11, opened: a record of the reference's. Own work.
-/
import Derived.Test.YtencmgepffdodaaGreatG01
import Derived.Test.YtencmgepffdodaaGreatG10
import Derived.Test.YtencmgepffdodaaGreatG11
import Derived.Test.YtencmgepffdodaaGreatG29
import Derived.Test.YtencmgepffdodaaGreatRows
import Derived.ChangeSlices
import Derived.ProofKit
import Derived.OpenShut
import Derived.ChangeOld
import Derived.Below
import Derived.Carry
import Derived.Deep.Slices
import Derived.ChangeArms
import Derived.SizedLaws
namespace Go.Proofs.YtencmgepffdodaaGreat
section
open Go.ChangeShapes Go.WideShapes Go.ChangeAt Go.RowKit

theorem own : ownKnob Tryz.prog.godebug = none := by kernel_rfl
theorem laidOut : laidOutB Tryz.prog = true := by kernel_rfl
/-- An argument of type []byte, opened: it lies there as bytes. -/
theorem lies_of_trod {H : Type} {enc : TypeId × Value → H} {W : World} {a0 : Option Addr} {len cap : Nat} {d : DataW H} {p : List MemPlace}
    (h : DataW.Trod enc Tryz.prog W 0 (fun _ => true) true 45 (.slice a0 len cap) d p) : ∃ xs, Lies .u8 W (.slice a0 len cap) xs ∧ ∀ c ∈ xs, 0 ≤ c ∧ c < 256 := by
  obtain ⟨fuel, hf⟩ := h
  rcases open_ints Tryz.underlying45 Tryz.underlying5 (by kernel_rfl) hf with ⟨hcs, _⟩ | ⟨x, l, c, zs, hcs, _, hl, hm, hz, _, hcell, hwz⟩
  · simp [Value.cells] at hcs
    obtain ⟨rfl, rfl, rfl⟩ := hcs
    exact ⟨[], Lies.nil _ _, by simp⟩
  · simp [Value.cells] at hcs
    obtain ⟨rfl, rfl, rfl⟩ := hcs
    simp only [if_true] at hz
    refine ⟨zs.take len, ?_, fun c hc => ?_⟩
    · by_cases h0 : len = 0
      · subst h0
        exact .inl ⟨by simp, _, _, rfl, fun h => by cases h⟩
      · obtain ⟨b, off, spot⟩ := x
        have hc0 := hcell 0 (by omega)
        have hspot : spot = none := by simpa [Addr.add] using World.cell?_spot hc0
        subst hspot
        have hxl : (zs.take len).length = len := by simp; omega
        have hb : b < W.heap.size := by
          rcases Nat.lt_or_ge b W.heap.size with h | h
          · exact h
          · have hn : W.heap[b]? = none := by simp [h]
            simp [Addr.add, World.cell?, hn] at hc0
        refine .inr ⟨?_, b, off, cap, by rw [hxl], hb, by omega, hm, fun t ht => ?_⟩
        · intro e; rw [e] at hxl; simp at hxl; omega
        · have := hcell t (by omega)
          rw [Addr.add_lit] at this
          rw [this]
          have ht2 : t < len := by omega
          simp [List.getD, ht2]
    · have := bounds_u8 (hwz c (List.mem_of_mem_take hc))
      omega
end
section
open Go.ChangeShapes Go.WideShapes Go.ChangeAt Go.RowKit Go.Deep

section
variable {H : Type} {enc : TypeId × Value → H} {W : World}
theorem choose_rec {α : Type} [Inhabited α] {n : Nat} {p : Nat → α → Prop} (h : ∀ i, i < n → ∃ x, p i x) : ∃ f : Nat → α, ∀ i, i < n → p i (f i) := by
  classical
  refine ⟨fun i => if hi : i < n then Classical.choose (h i hi) else default, fun i hi => ?_⟩
  simp only [dif_pos hi]
  exact Classical.choose_spec (h i hi)
/-- A slice of records as an argument, by what the cells of one of them are. -/
theorem recs_of_trod {α : Type} [Inhabited α] {t e : TypeId} {K : Nat} {encA : α → List Value} {ok : α → Prop} (R : Rec t e K encA) (hce : Tryz.prog.cellsOf e = K)
    (hone : ∀ (fuel : Nat) (cs : List Value) (x : DataW H × List MemPlace), DataW.trod enc Tryz.prog W 0 (fun _ => true) true fuel e cs = some x → ∃ a, cs = encA a ∧ ok a)
    {a0 : Option Addr} {len cap : Nat} {d : DataW H} {p : List MemPlace}
    (h : DataW.Trod enc Tryz.prog W 0 (fun _ => true) true t (.slice a0 len cap) d p) : ∃ fs, RSrc encA W (.slice a0 len cap) fs ∧ (∀ f ∈ fs, ok f) := by
  obtain ⟨fuel, hf⟩ := h
  rcases open_slice R.und hf with ⟨hcs, _⟩ | ⟨a, len', cap', m, n, D, Pl, hcs, _, hl, hm, hmm, hx, hel⟩
  · simp [Value.cells] at hcs
    obtain ⟨rfl, rfl, rfl⟩ := hcs
    exact ⟨[], RSrc.nil _, by simp⟩
  · simp [Value.cells] at hcs
    obtain ⟨rfl, rfl, rfl⟩ := hcs
    simp only [if_true] at hmm
    subst hmm
    have hch : ∀ i, i < len → ∃ f : α, W.cells? 0 (a.add (i * K)) K = some (encA f) ∧ ok f := by
      intro i hi
      obtain ⟨cs', h1, h2⟩ := hel i (by omega)
      rw [hce] at h1
      obtain ⟨f, rfl, r⟩ := hone _ _ _ h2
      exact ⟨f, h1, r⟩
    obtain ⟨f, hfi⟩ := choose_rec hch
    by_cases h0 : len = 0
    · subst h0
      exact ⟨[], ⟨_, _, rfl, Nat.zero_le _, hm, fun e => (by cases e), fun hne => absurd rfl hne⟩, by simp⟩
    · obtain ⟨b, off, spot⟩ := a
      have hcell : ∀ i, i < len → ∀ j, j < K → W.cell? (((⟨b, off, spot⟩ : Addr).add (i * K)).add j) = (encA (f i))[j]? := by
        intro i hi j hj
        have h1 := World.cells?_some (hfi i hi).1
        have h2 := h1.2.2 j hj
        exact h2
      have hpos := R.pos
      have hc0 := hcell 0 (by omega) 0 hpos
      have he0 : ∃ u, (encA (f 0))[0]? = some u := ⟨_, List.getElem?_eq_getElem (by rw [R.len]; exact hpos)⟩
      obtain ⟨u0, hu0⟩ := he0
      rw [hu0] at hc0
      have hspot : spot = none := by simpa [Addr.add] using World.cell?_spot hc0
      subst hspot
      have hb : b < W.heap.size := by
        rcases Nat.lt_or_ge b W.heap.size with h | h
        · exact h
        · have hn : W.heap[b]? = none := by simp [h]
          simp [Addr.add, World.cell?, hn] at hc0
      have hlen : ((List.range len).map f).length = len := by simp
      refine ⟨(List.range len).map f, ⟨_, _, by rw [hlen], by rw [hlen]; exact hl, hm, fun e => (by cases e), fun _ => ⟨b, off, rfl, hb, fun j u hu => ?_⟩⟩, fun g hg => ?_⟩
      · have hjl : j < len * K := by
          have := (List.getElem?_eq_some_iff.1 hu).1
          rw [flat_len R.len, hlen] at this
          exact this
        have hi : j / K < len := (Nat.div_lt_iff_lt_mul hpos).2 hjl
        have hr : j % K < K := Nat.mod_lt _ hpos
        have hj : j = (j / K) * K + j % K := by rw [Nat.mul_comm]; exact (Nat.div_add_mod j K).symm
        rw [hj, flat_at R.len (by rw [hlen]; exact hi) hr] at hu
        have hc := hcell (j / K) hi (j % K) hr
        rw [Addr.add_lit, Addr.add_lit] at hc
        rw [hj, ← Nat.add_assoc, hc]
        simpa using hu
      · rw [List.mem_map] at hg
        obtain ⟨i, hi, rfl⟩ := hg
        exact (hfi i (by simpa using hi)).2
end
end
section
open Go.ChangeShapes Go.WideShapes Go.ChangeAt Go.RowKit Go.Deep

theorem mCfg : Tryz.prog.cellsOf 33 = 11 := by kernel_rfl
theorem mArr8 : Tryz.prog.cellsOf 30 = 8 := by kernel_rfl
theorem mKey : Tryz.prog.cellsOf 31 = 8 := by kernel_rfl
theorem mTx : Tryz.prog.cellsOf 24 = 3 := by kernel_rfl
theorem mReg : Tryz.prog.cellsOf 26 = 2 := by kernel_rfl
theorem mItem : Tryz.prog.cellsOf 35 = 13 := by kernel_rfl
theorem mWrite : Tryz.prog.cellsOf 61 = 21 := by kernel_rfl
theorem mWrites : Tryz.prog.cellsOf 28 = 1 := by kernel_rfl
theorem mStr : Tryz.prog.cellsOf 9 = 1 := by kernel_rfl
theorem mU8 : Tryz.prog.cellsOf 5 = 1 := by kernel_rfl
theorem mU32 : Tryz.prog.cellsOf 22 = 1 := by kernel_rfl
theorem strOf_strI10 (s : ByteArray) : strOfNums (strI s) = s := by
  unfold strOfNums strI
  obtain ⟨⟨l⟩⟩ := s
  simp [List.map_map, Function.comp_def]
section Opened
variable {H : Type} {enc : TypeId × Value → H} {W : World} {base fuel : Nat} {spare : Nat → Bool} {held : Bool}
theorem ints_of10 : ∀ (cs : List Value) (n : Nat), cs.length = n → (∀ i, i < n → ∃ k : Int, (cs.drop i).take 1 = [.int .u8 k] ∧ 0 ≤ k ∧ k < 256) → ∃ ks : List Int, ks.length = n ∧ cs = ks.map (Value.int .u8) ∧ ∀ c ∈ ks, 0 ≤ c ∧ c < 256
  | [], n, h, _ => ⟨[], by simpa using h, rfl, by simp⟩
  | c :: r, 0, h, _ => by simp at h
  | c :: r, n + 1, h, hc => by
    obtain ⟨ks, h1, h2, h3⟩ := ints_of10 r n (by simpa using h) (fun i hi => by
      obtain ⟨k, e, b⟩ := hc (i + 1) (by omega)
      exact ⟨k, by simpa using e, b⟩)
    obtain ⟨k, e, b⟩ := hc 0 (by omega)
    simp at e
    refine ⟨k :: ks, by simp [h1], by rw [e, h2]; rfl, fun c hc2 => ?_⟩
    rcases List.mem_cons.1 hc2 with rfl | hc2
    · exact b
    · exact h3 c hc2
theorem eight_cells (t : TypeId) (ht : Tryz.prog.underlying t = some (.array 8 5)) (hc : Tryz.prog.cellsOf t = 8) {cs : List Value} {x : DataW H × List MemPlace} (h : DataW.trod enc Tryz.prog W base spare held fuel t cs = some x) : ∃ ks : List Int, ks.length = 8 ∧ cs = ks.map (Value.int .u8) ∧ ∀ c ∈ ks, 0 ≤ c ∧ c < 256 := by
  obtain ⟨xs, m, _, _, hl, hn, hf⟩ := DataW.trod_array ht h
  rw [hc] at hl
  refine ints_of10 cs 8 hl (fun i hi => ?_)
  have h0 := hf i hi
  rw [mU8, Nat.mul_one] at h0
  obtain ⟨y, hy⟩ : ∃ y, xs[i]? = some y := ⟨xs[i]'(by omega), by simp⟩
  rw [hy] at h0
  obtain ⟨a0, e0, _, w0⟩ := DataW.trod_int Tryz.underlying5 h0
  have := bounds_u8 w0
  exact ⟨a0, e0, by omega, by omega⟩
theorem key_cells {cs : List Value} {x : DataW H × List MemPlace} (h : DataW.trod enc Tryz.prog W base spare held fuel 31 cs = some x) : ∃ k : List Int, cs = eightE k ∧ KeyOk k := by
  obtain ⟨ks, hl, e, hb⟩ := eight_cells 31 Tryz.underlying31 mKey h
  exact ⟨ks, by rw [e, eightE_map hl], ⟨hl, hb⟩⟩
set_option maxRecDepth 100000 in
theorem cfg_cells10 {cs : List Value} {x : DataW H × List MemPlace} (h : DataW.trod enc Tryz.prog W base spare held fuel 33 cs = some x) : ∃ c : Cf, cs = cfE c ∧ c.Ok := by
  obtain ⟨xs, n, _, rfl, hl, hlen, hf⟩ := DataW.trod_struct Tryz.underlying33 h
  rw [mCfg] at hl
  match cs, hl, xs, hlen with
  | c0 :: c1 :: c2 :: rest, hl, [y0, y1, y2, y3], _ =>
    have h0 : DataW.trod enc Tryz.prog W base spare held n 22 (((c0 :: c1 :: c2 :: rest).drop 0).take (Tryz.prog.cellsOf 22)) = some y0 := hf 0 _ rfl
    have h1 : DataW.trod enc Tryz.prog W base spare held n 5 (((c0 :: c1 :: c2 :: rest).drop 1).take (Tryz.prog.cellsOf 5)) = some y1 := hf 1 _ rfl
    have h2 : DataW.trod enc Tryz.prog W base spare held n 5 (((c0 :: c1 :: c2 :: rest).drop 2).take (Tryz.prog.cellsOf 5)) = some y2 := hf 2 _ rfl
    have h3 : DataW.trod enc Tryz.prog W base spare held n 30 (((c0 :: c1 :: c2 :: rest).drop 3).take (Tryz.prog.cellsOf 30)) = some y3 := hf 3 _ rfl
    rw [mU32] at h0
    rw [mU8] at h1 h2
    rw [mArr8] at h3
    obtain ⟨a0, e0, _, w0⟩ := DataW.trod_int Tryz.underlying22 h0
    obtain ⟨a1, e1, _, w1⟩ := DataW.trod_int Tryz.underlying5 h1
    obtain ⟨a2, e2, _, w2⟩ := DataW.trod_int Tryz.underlying5 h2
    obtain ⟨ks, kl, e3, kb⟩ := eight_cells 30 Tryz.underlying30 mArr8 h3
    have b0 := bounds_u32 w0
    have b1 := bounds_u8 w1
    have b2 := bounds_u8 w2
    have hr : rest.length = 8 := by simpa using hl
    simp at e0 e1 e2
    have e3' : rest = ks.map (Value.int .u8) := by
      have h8 : rest.take 8 = ks.map (Value.int .u8) := by simpa using e3
      rw [List.take_of_length_le (by omega)] at h8
      exact h8
    obtain ⟨n0, rfl⟩ := Int.eq_ofNat_of_zero_le b0.1
    obtain ⟨n1, rfl⟩ := Int.eq_ofNat_of_zero_le b1.1
    obtain ⟨n2, rfl⟩ := Int.eq_ofNat_of_zero_le b2.1
    have hv : (ks.map Int.toNat).map (fun (n : Nat) => Value.int .u8 (n : Int)) = ks.map (Value.int .u8) := by
      rw [List.map_map]
      refine List.map_congr_left fun c hc => ?_
      have := kb c hc
      simp only [Function.comp]
      rw [Int.toNat_of_nonneg this.1]
    have hOk : Cf.Ok ⟨n0, n1, n2, ks.map Int.toNat⟩ := ⟨by simp only; omega, by simp only; omega, by simp only; omega, by simp [kl], fun x hx => by
      obtain ⟨c, hc, rfl⟩ := List.mem_map.1 hx
      have := kb c hc
      omega⟩
    refine ⟨_, ?_, hOk⟩
    rw [cfE_cells hOk, e0, e1, e2, e3', ← hv]
    rfl
theorem weights_agg10 {t : TypeId} {fs : Array Field} {parts : List (DataW H)} (hu : Tryz.prog.underlying t = some (.struct fs)) {j : Nat} {ft : TypeId} {d : DataW H} (hj : (fs.toList.map (·.type))[j]? = some ft) (hd : parts[j]? = some d) {n : Nat} (hn : n ∈ d.weights Tryz.prog ft) :
    n ∈ DataW.weights Tryz.prog t (.agg parts) := by
  unfold DataW.weights
  rw [hu]
  exact DataW.weights_mem_each hj hd n hn
set_option maxRecDepth 100000 in
theorem item_cells {cs : List Value} {x : DataW H × List MemPlace} (h : DataW.trod enc Tryz.prog W base spare held fuel 35 cs = some x) : ∃ i : ItP, cs = itE i ∧ (ItOk i ∧ i.val.length ≤ 9223372036854775807) ∧ i.val.length ∈ x.1.weights Tryz.prog 35 := by
  obtain ⟨xs, n, _, rfl, hl, hlen, hf⟩ := DataW.trod_struct Tryz.underlying35 h
  rw [mItem] at hl
  match cs, hl, xs, hlen with
  | c0 :: c1 :: rest, hl, [y0, y1, y2], _ =>
    have h0 : DataW.trod enc Tryz.prog W base spare held n 22 (((c0 :: c1 :: rest).drop 0).take (Tryz.prog.cellsOf 22)) = some y0 := hf 0 _ rfl
    have h1 : DataW.trod enc Tryz.prog W base spare held n 9 (((c0 :: c1 :: rest).drop 1).take (Tryz.prog.cellsOf 9)) = some y1 := hf 1 _ rfl
    have h2 : DataW.trod enc Tryz.prog W base spare held n 33 (((c0 :: c1 :: rest).drop 2).take (Tryz.prog.cellsOf 33)) = some y2 := hf 2 _ rfl
    rw [mU32] at h0
    rw [mStr] at h1
    rw [mCfg] at h2
    obtain ⟨a0, e0, _, w0⟩ := DataW.trod_int Tryz.underlying22 h0
    obtain ⟨s, e1, r1, w1⟩ := DataW.trod_string Tryz.underlying9 h1
    obtain ⟨c, e2, ok⟩ := cfg_cells10 h2
    have b0 := bounds_u32 w0
    unfold maxLen at w1
    have hr : rest.length = 11 := by simpa using hl
    simp only [List.drop_zero, List.take_succ_cons, List.take_zero, List.cons.injEq, and_true, List.drop_succ_cons] at e0 e1 e2
    rw [List.take_of_length_le (by omega)] at e2
    obtain ⟨n0, rfl⟩ := Int.eq_ofNat_of_zero_le b0.1
    refine ⟨⟨n0, strI s, c⟩, ?_, ⟨⟨by simp only; omega, strI_byte s, ok⟩, by simp only [strI_length]; omega⟩, ?_⟩
    · rw [e0, e1, e2]
      show _ = Value.int .u32 (n0 : Int) :: .string (strOfNums (strI s)) :: cfE c
      rw [strOf_strI10]
    · show (strI s).length ∈ DataW.weights Tryz.prog 35 (.agg [y0.1, y1.1, y2.1])
      rw [strI_length]
      refine weights_agg10 Tryz.underlying35 (j := 1) (ft := 9) rfl rfl ?_
      rw [r1]
      simp [DataW.weights]
set_option maxRecDepth 100000 in
theorem write_cells {cs : List Value} {x : DataW H × List MemPlace} (h : DataW.trod enc Tryz.prog W base spare held fuel 61 cs = some x) : ∃ a : WrP, cs = wrE a ∧ (KeyOk a.key ∧ ItOk a.it ∧ a.it.val.length ≤ 9223372036854775807) := by
  obtain ⟨xs, n, _, rfl, hl, hlen, hf⟩ := DataW.trod_struct Tryz.underlying61 h
  rw [mWrite] at hl
  match xs, hlen with
  | [y0, y1], _ =>
    have h0 : DataW.trod enc Tryz.prog W base spare held n 31 ((cs.drop 0).take (Tryz.prog.cellsOf 31)) = some y0 := hf 0 _ rfl
    have h1 : DataW.trod enc Tryz.prog W base spare held n 35 ((cs.drop 8).take (Tryz.prog.cellsOf 35)) = some y1 := hf 1 _ rfl
    rw [mKey, List.drop_zero] at h0
    rw [mItem, List.take_of_length_le (by rw [List.length_drop]; omega)] at h1
    obtain ⟨k, e0, ok0⟩ := key_cells h0
    obtain ⟨i, e1, ok1, _⟩ := item_cells h1
    refine ⟨⟨k, i⟩, ?_, ok0, ok1⟩
    rw [← List.take_append_drop 8 cs, e0, e1]
set_option maxRecDepth 100000 in
theorem tx_cells10 {cs : List Value} {x : DataW H × List MemPlace} (h : DataW.trod enc Tryz.prog W base spare held fuel 24 cs = some x) : ∃ t : TxN, cs = txE t ∧ (t.1 < 256 ∧ t.2.1 < 4294967296 ∧ t.2.2 < 4294967296) := by
  obtain ⟨xs, n, _, rfl, hl, hlen, hf⟩ := DataW.trod_struct Tryz.underlying24 h
  rw [mTx] at hl
  match cs, hl, xs, hlen with
  | [c0, c1, c2], _, [y0, y1, y2], _ =>
    have h0 : DataW.trod enc Tryz.prog W base spare held n 5 (([c0, c1, c2].drop 0).take (Tryz.prog.cellsOf 5)) = some y0 := hf 0 _ rfl
    have h1 : DataW.trod enc Tryz.prog W base spare held n 22 (([c0, c1, c2].drop 1).take (Tryz.prog.cellsOf 22)) = some y1 := hf 1 _ rfl
    have h2 : DataW.trod enc Tryz.prog W base spare held n 22 (([c0, c1, c2].drop 2).take (Tryz.prog.cellsOf 22)) = some y2 := hf 2 _ rfl
    rw [mU8] at h0
    rw [mU32] at h1 h2
    obtain ⟨a0, e0, _, w0⟩ := DataW.trod_int Tryz.underlying5 h0
    obtain ⟨a1, e1, _, w1⟩ := DataW.trod_int Tryz.underlying22 h1
    obtain ⟨a2, e2, _, w2⟩ := DataW.trod_int Tryz.underlying22 h2
    have b0 := bounds_u8 w0
    have b1 := bounds_u32 w1
    have b2 := bounds_u32 w2
    obtain ⟨n0, rfl⟩ := Int.eq_ofNat_of_zero_le b0.1
    obtain ⟨n1, rfl⟩ := Int.eq_ofNat_of_zero_le b1.1
    obtain ⟨n2, rfl⟩ := Int.eq_ofNat_of_zero_le b2.1
    simp at e0 e1 e2
    subst e0
    subst e1
    subst e2
    exact ⟨(n0, n1, n2), rfl, by simp only; omega, by simp only; omega, by simp only; omega⟩
set_option maxRecDepth 100000 in
theorem reg_cells10 {cs : List Value} {x : DataW H × List MemPlace} (h : DataW.trod enc Tryz.prog W base spare held fuel 26 cs = some x) : ∃ t : Nat × Nat, cs = rgE t ∧ (t.1 < 4294967296 ∧ t.2 < 4294967296) := by
  obtain ⟨xs, n, _, rfl, hl, hlen, hf⟩ := DataW.trod_struct Tryz.underlying26 h
  rw [mReg] at hl
  match cs, hl, xs, hlen with
  | [c0, c1], _, [y0, y1], _ =>
    have h0 : DataW.trod enc Tryz.prog W base spare held n 22 (([c0, c1].drop 0).take (Tryz.prog.cellsOf 22)) = some y0 := hf 0 _ rfl
    have h1 : DataW.trod enc Tryz.prog W base spare held n 22 (([c0, c1].drop 1).take (Tryz.prog.cellsOf 22)) = some y1 := hf 1 _ rfl
    rw [mU32] at h0 h1
    obtain ⟨a0, e0, _, w0⟩ := DataW.trod_int Tryz.underlying22 h0
    obtain ⟨a1, e1, _, w1⟩ := DataW.trod_int Tryz.underlying22 h1
    have b0 := bounds_u32 w0
    have b1 := bounds_u32 w1
    obtain ⟨n0, rfl⟩ := Int.eq_ofNat_of_zero_le b0.1
    obtain ⟨n1, rfl⟩ := Int.eq_ofNat_of_zero_le b1.1
    simp at e0 e1
    subst e0
    subst e1
    exact ⟨(n0, n1), rfl, by simp only; omega, by simp only; omega⟩
end Opened
section
variable {H : Type} {enc : TypeId × Value → H} {W : World} {fuel : Nat}
/-- Writes as a cell. -/
theorem writes_cell {cs : List Value} {x : DataW H × List MemPlace} (h : DataW.trod enc Tryz.prog W 0 (fun _ => true) true fuel 28 cs = some x) : ∃ p ws, cs = [p] ∧ RSrc wrE W p ws ∧ ∀ a ∈ ws, KeyOk a.key ∧ ItOk a.it ∧ a.it.val.length ≤ 9223372036854775807 := by
  have hs : ∃ a l c, cs = [.slice a l c] := by
    rcases open_slice Tryz.underlying28 h with ⟨e, _⟩ | ⟨a, l, c, m, n, D, Pl, e, _⟩
    · exact ⟨_, _, _, e⟩
    · exact ⟨_, _, _, e⟩
  obtain ⟨a, l, c, rfl⟩ := hs
  haveI : Inhabited WrP := ⟨zeroWr⟩
  obtain ⟨ws, h1, h2⟩ := recs_of_trod (a0 := a) (len := l) (cap := c) (d := x.1) (p := x.2) recWR mWrite (fun _ _ _ h => write_cells h) ⟨fuel, h⟩
  exact ⟨_, ws, rfl, h1, h2⟩
end
end
section
open Go.ChangeShapes Go.WideShapes Go.ChangeAt Go.RowKit Go.Deep

theorem mU64 : Tryz.prog.cellsOf 27 = 1 := by kernel_rfl
theorem mU64s : Tryz.prog.cellsOf 29 = 1 := by kernel_rfl
theorem mRRec : Tryz.prog.cellsOf 37 = 31 := by kernel_rfl
abbrev u64E (n : Nat) : List Value := [.int .u64 (n : Int)]
theorem recU64 : Rec 29 27 1 u64E := ⟨Tryz.underlying29, rec_info (z := .int .u64 0) (K := 1) (B := 8) (by kernel_rfl) rfl (by decide), by decide, fun _ => rfl⟩
theorem lies_sets {w : World} {v : Value} {xs : List Nat} (h : RSrc u64E w v xs) : Lies .u64 w v (misI xs) := by
  by_cases hx : xs = []
  · subst hx
    obtain ⟨ao, c, e, h1, h2, h3, _⟩ := h
    exact .inl ⟨rfl, ao, c, e, fun e0 => (h3 e0).2⟩
  · obtain ⟨ao, c, rfl, h1, h2⟩ := h.shape
    obtain ⟨b, off, c2, e2, hb, hc⟩ := h.block hx
    cases e2
    refine .inr ⟨fun e => hx (by unfold misI at e; exact List.map_eq_nil_iff.1 e), b, off, c, by rw [misI_len], hb, by rw [misI_len]; exact h1, h2, fun t ht => ?_⟩
    rw [misI_len] at ht
    obtain ⟨_, b3, off3, e3, _, hcl⟩ := h.at (K := 1) (fun _ => rfl) ht
    cases e3
    have := hcl 0 (.int .u64 ((xs[t] : Nat) : Int)) rfl
    rw [Nat.mul_one, Nat.add_zero] at this
    rw [this]
    simp [misI, List.getD, ht]
section
variable {H : Type} {enc : TypeId × Value → H} {W : World} {fuel : Nat}
theorem sets_cell {cs : List Value} {x : DataW H × List MemPlace} (h : DataW.trod enc Tryz.prog W 0 (fun _ => true) true fuel 29 cs = some x) : ∃ p l, cs = [p] ∧ Lies .u64 W p (misI l) ∧ ∀ a ∈ l, a < 18446744073709551616 := by
  have hs : ∃ a l c, cs = [.slice a l c] := by
    rcases open_slice Tryz.underlying29 h with ⟨e, _⟩ | ⟨a, l, c, m, n, D, Pl, e, _⟩
    · exact ⟨_, _, _, e⟩
    · exact ⟨_, _, _, e⟩
  obtain ⟨a, l, c, rfl⟩ := hs
  obtain ⟨ws, h1, h2⟩ := recs_of_trod (a0 := a) (len := l) (cap := c) (d := x.1) (p := x.2) (ok := fun n : Nat => n < 18446744073709551616) recU64 mU64 (fun _ cs _ h => by
    obtain ⟨a0, e0, _, w0⟩ := DataW.trod_int Tryz.underlying27 h
    have b0 := bounds_u64 w0
    obtain ⟨n0, rfl⟩ := Int.eq_ofNat_of_zero_le b0.1
    exact ⟨n0, e0, by omega⟩) ⟨fuel, h⟩
  exact ⟨_, ws, rfl, lies_sets h1, h2⟩
set_option maxRecDepth 100000 in
theorem rrec_cells {cs : List Value} {x : DataW H × List MemPlace} (h : DataW.trod enc Tryz.prog W 0 (fun _ => true) true fuel 37 cs = some x) : ∃ (m : RecP) (p q : Value), cs = recE m p q ∧ RecOk m ∧ RSrc wrE W p m.wr ∧ Lies .u64 W q (misI m.mis) ∧ m.item.val.length ∈ x.1.weights Tryz.prog 37 ∧ ∀ a ∈ m.wr, a.it.val.length ≤ 9223372036854775807 := by
  obtain ⟨xs, n, _, rfl, hl, hlen, hf⟩ := DataW.trod_struct Tryz.underlying37 h
  rw [mRRec] at hl
  match xs, hlen with
  | [y0, y1, y2, y3, y4, y5, y6, y7, y8], _ =>
    have h0 : DataW.trod enc Tryz.prog W 0 (fun _ => true) true n 5 ((cs.drop 0).take (Tryz.prog.cellsOf 5)) = some y0 := hf 0 _ rfl
    rw [mU8] at h0
    have h1 : DataW.trod enc Tryz.prog W 0 (fun _ => true) true n 22 ((cs.drop 1).take (Tryz.prog.cellsOf 22)) = some y1 := hf 1 _ rfl
    rw [mU32] at h1
    have h2 : DataW.trod enc Tryz.prog W 0 (fun _ => true) true n 24 ((cs.drop 2).take (Tryz.prog.cellsOf 24)) = some y2 := hf 2 _ rfl
    rw [mTx] at h2
    have h3 : DataW.trod enc Tryz.prog W 0 (fun _ => true) true n 26 ((cs.drop 5).take (Tryz.prog.cellsOf 26)) = some y3 := hf 3 _ rfl
    rw [mReg] at h3
    have h4 : DataW.trod enc Tryz.prog W 0 (fun _ => true) true n 27 ((cs.drop 7).take (Tryz.prog.cellsOf 27)) = some y4 := hf 4 _ rfl
    rw [mU64] at h4
    have h5 : DataW.trod enc Tryz.prog W 0 (fun _ => true) true n 28 ((cs.drop 8).take (Tryz.prog.cellsOf 28)) = some y5 := hf 5 _ rfl
    rw [mWrites] at h5
    have h6 : DataW.trod enc Tryz.prog W 0 (fun _ => true) true n 29 ((cs.drop 9).take (Tryz.prog.cellsOf 29)) = some y6 := hf 6 _ rfl
    rw [mU64s] at h6
    have h7 : DataW.trod enc Tryz.prog W 0 (fun _ => true) true n 31 ((cs.drop 10).take (Tryz.prog.cellsOf 31)) = some y7 := hf 7 _ rfl
    rw [mKey] at h7
    have h8 : DataW.trod enc Tryz.prog W 0 (fun _ => true) true n 35 ((cs.drop 18).take (Tryz.prog.cellsOf 35)) = some y8 := hf 8 _ rfl
    rw [mItem] at h8
    obtain ⟨a0, e0, _, w0⟩ := DataW.trod_int Tryz.underlying5 h0
    have b0 := bounds_u8 w0
    obtain ⟨n0, rfl⟩ := Int.eq_ofNat_of_zero_le b0.1
    obtain ⟨a1, e1, _, w1⟩ := DataW.trod_int Tryz.underlying22 h1
    have b1 := bounds_u32 w1
    obtain ⟨n1, rfl⟩ := Int.eq_ofNat_of_zero_le b1.1
    obtain ⟨a2, e2, b2⟩ := tx_cells10 h2
    obtain ⟨a3, e3, b3⟩ := reg_cells10 h3
    obtain ⟨a4, e4, _, w4⟩ := DataW.trod_int Tryz.underlying27 h4
    have b4 := bounds_u64 w4
    obtain ⟨n4, rfl⟩ := Int.eq_ofNat_of_zero_le b4.1
    obtain ⟨p, ws, e5, b5, v5⟩ := writes_cell h5
    obtain ⟨q, ms, e6, b6, v6⟩ := sets_cell h6
    obtain ⟨a7, e7, b7⟩ := key_cells h7
    obtain ⟨a8, e8, ⟨b8, _⟩, wt8⟩ := item_cells h8
    have step : ∀ o k, cs.drop o = (cs.drop o).take k ++ cs.drop (o + k) := fun o k => by rw [← List.drop_drop, List.take_append_drop]
    have q0 : cs.drop 0 = [.int .u8 (n0 : Int)] ++ cs.drop 1 := by have q := step 0 1; rw [e0] at q; exact q
    have q1 : cs.drop 1 = [.int .u32 (n1 : Int)] ++ cs.drop 2 := by have q := step 1 1; rw [e1] at q; exact q
    have q2 : cs.drop 2 = txE a2 ++ cs.drop 5 := by have q := step 2 3; rw [e2] at q; exact q
    have q3 : cs.drop 5 = rgE a3 ++ cs.drop 7 := by have q := step 5 2; rw [e3] at q; exact q
    have q4 : cs.drop 7 = [.int .u64 (n4 : Int)] ++ cs.drop 8 := by have q := step 7 1; rw [e4] at q; exact q
    have q5 : cs.drop 8 = [p] ++ cs.drop 9 := by have q := step 8 1; rw [e5] at q; exact q
    have q6 : cs.drop 9 = [q] ++ cs.drop 10 := by have q := step 9 1; rw [e6] at q; exact q
    have q7 : cs.drop 10 = eightE a7 ++ cs.drop 18 := by have q := step 10 8; rw [e7] at q; exact q
    have q8 : cs.drop 18 = itE a8 ++ cs.drop 31 := by have q := step 18 13; rw [e8] at q; exact q
    have q9 : cs.drop 31 = [] := List.drop_eq_nil_of_le (by omega)
    refine ⟨⟨n0, n1, a2, a3, n4, ws, ms, a7, a8⟩, p, q, ?_, ⟨by simp only; omega, by simp only; omega, b2, b3, by simp only; omega, fun x hx => ⟨(v5 x hx).1, (v5 x hx).2.1⟩, v6, b7, b8⟩, b5, b6, ?_, fun a ha => (v5 a ha).2.2⟩
    · show cs.drop 0 = _
      rw [q0, q1, q2, q3, q4, q5, q6, q7, q8, q9]
      rfl
    · exact weights_agg10 Tryz.underlying37 (j := 8) (ft := 35) rfl rfl wt8
set_option maxRecDepth 100000 in
theorem rrec_of_trod {r : Reach} {b0 : Nat} {v : Value} {d : DataW H} {p : List MemPlace} (hv : Value.okWide Tryz.prog W r b0 37 v) (h : DataW.Trod enc Tryz.prog W 0 (fun _ => true) true 37 v d p) : ∃ (m : RecP) (p q : Value), v = .agg (recA m p q) ∧ RecOk m ∧ RSrc wrE W p m.wr ∧ Lies .u64 W q (misI m.mis) ∧ m.item.val.length ∈ d.weights Tryz.prog 37 ∧ ∀ a ∈ m.wr, a.it.val.length ≤ 9223372036854775807 := by
  obtain ⟨cs, rfl, _⟩ := okWide_struct Tryz.underlying37 hv
  obtain ⟨fuel, hf⟩ := h
  obtain ⟨m, p, q, e, ok⟩ := rrec_cells hf
  have e2 : cs.toList = (recA m p q).toList := e
  exact ⟨m, p, q, by rw [Array.toList_inj.1 e2], ok⟩
end
end
end Go.Proofs.YtencmgepffdodaaGreat
