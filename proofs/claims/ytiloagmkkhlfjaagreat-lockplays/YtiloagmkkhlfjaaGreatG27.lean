/-
  Own texts put together: LkSrt, FramePlain, RecsOpen, MgOpen, LkNob, LkNd, LkOpen. Own work.
-/
import Derived.Test.YtiloagmkkhlfjaaGreatG26
import Derived.Test.YtiloagmkkhlfjaaGreatG01
import Derived.Test.YtiloagmkkhlfjaaGreatG07
import Derived.Test.YtiloagmkkhlfjaaGreatG14
import Derived.Sort.WalkA14
import Derived.Test.YtiloagmkkhlfjaaGreatRows
import Derived.ChangeSlices
import Derived.ProofKit
import Derived.OpenShut
import Derived.ChangeOld
import Derived.Below
import Derived.Carry
import Derived.Deep.Slices
import Derived.ChangeArms
import Derived.SizedLaws
namespace Go.Proofs.YtiloagmkkhlfjaaGreat
set_option maxRecDepth 100000
section
open Go.RowKit Go.Maps Go.Shelf Go.Sort Classical
theorem sortW {l : List (aS KeyT)} {q g n : Nat} {w0 w : World} {d : Array TxN} (cap : Nat) (hC : iB l q g w0) (h : bJ l g w0 w n d) (hg : g < w0.heap.size) (hsz : n ≤ 100) :
  Calls Tryz.prog 36 #[.slice (some ⟨g, 0, none⟩) n cap, ageV q] w fun e w' => PdqR l g w0 n 0 n d e w' := by
 obtain ⟨bl, hbl⟩ : ∃ bl, bl = Lib.bitLen n := ⟨_, rfl⟩
 have hbl2 : bl ≤ 100 := by
  have h1 := bitLen_eq n (by omega)
  have h2 := (bitsLen_le_iff n 7).2 (by omega)
  omega
 have hl : ∀ W, Calls Tryz.prog 67 #[.int .u64 (n : Int)] W fun e w' => e = .returned (.int .i64 (bl : Int)) ∧ w' = W := fun W => by
  have h := Any.bits_Len (SlLaysF0.n15.bits (P := Tryz.prog) { Tryz.sortL with }) (n : Int) W (by omega) (by omega)
  rw [Int.toNat_natCast, ← hbl] at h
  exact h
 have CP := aA (pdqB cap hC hg hsz (n + 1) 0 n bl d w (by omega) h (Nat.zero_le _) (Nat.le_refl _) (.inl rfl) hbl2)
 have CL := aA hl
 clear hl hbl h hC
 go_enter Tryz.func36, Tryz.ntmps36
 go_wp2_with fail
 refine (CL.out _).mono ?_
 rintro e w1 ⟨rfl, rfl⟩
 go_wp2_with fail
 refine CP.out.mono ?_
 rintro e w2 ⟨⟨d', rfl, h1, h2, h3⟩⟩
 go_wp2_with fail
 go_end0
 exact ⟨⟨d', rfl, h1, h2, h3⟩⟩
theorem row_get {ss : List TxN} {i j : Nat} (hi : i < ss.length) (hj : j < 3) : (bR txCs (ss.map txI))[i * 3 + j]? = (txCs (txI ss.toArray[i]!))[j]? := by
 rw [jO (enc := txCs) (K := 3) (fun _ => rfl) (by rw [List.length_map]; exact hi) hj]
 congr 2
 simp [hi]
theorem trow_of {w : World} {g cap : Nat} {cur : Array Value} {ss : List TxN} (hb : bZ w g cur 34) (hn : ss.length ≤ cap) (hs : cur.size = cap * 3) (ht : cur.toList.take (ss.length * 3) = bR txCs (ss.map txI)) : kW w g ss.toArray := by
 refine ⟨⟨cur, hb, by rw [List.size_toArray]; omega⟩, fun i hi j v hv => ?_⟩
 rw [List.size_toArray] at hi
 have hj : j < 3 := (List.getElem?_eq_some_iff.1 hv).1
 rw [← row_get hi hj, ← ht, List.getElem?_take_of_lt (by omega)] at hv
 exact hb.cell _ _ (by simpa using hv)
theorem row_of {w : World} {g cap : Nat} {cur : Array Value} {d : Array TxN} (h : kW w g d) (hb : bZ w g cur 34) (hn : d.size ≤ cap) (hs : cur.size = cap * 3) : cur.toList.take (d.size * 3) = bR txCs (d.toList.map txI) := by
 refine List.ext_getElem? (fun k => ?_)
 by_cases hk : k < d.size * 3
 ·obtain ⟨i, j, rfl, hj⟩ : ∃ i j, k = i * 3 + j ∧ j < 3 := ⟨k / 3, k % 3, by omega, Nat.mod_lt _ (by omega)⟩
  have hi : i < d.size := by omega
  rw [List.getElem?_take_of_lt hk, row_get (by simpa using hi) hj]
  obtain ⟨u, hu⟩ : ∃ u, cur.toList[i * 3 + j]? = some u := ⟨_, List.getElem?_eq_getElem (by simp; omega)⟩
  obtain ⟨v, hv⟩ : ∃ v, (txCs (txI d[i]!))[j]? = some v := ⟨_, List.getElem?_eq_getElem (by exact hj)⟩
  have c1 := hb.cell (i * 3 + j) u (by simpa using hu)
  have c2 := h.rd i hi j v hv
  have c3 : some u = some v := c1.symm.trans c2
  rw [hu, c3]
  exact hv.symm
 ·rw [List.getElem?_eq_none (by rw [List.length_take]; omega), List.getElem?_eq_none (by rw [gY (enc := txCs) (K := 3) (fun _ => rfl)]; simp; omega)]
theorem old_sorted {l : List (aS KeyT)} (hl : dD l) {d' : Array TxN} (hu : AllU l d') (hnd : d'.toList.Nodup) (hs : SortedIn (ltOf (bA l)) 0 d'.size d') : d'.toList.Pairwise (dI l) := by
 rw [List.pairwise_iff_getElem]
 intro i j hi hj hij
 have hi' : i < d'.size := by simpa using hi
 have hj' : j < d'.size := by simpa using hj
 have h1 := hs i j (Nat.zero_le _) hij hj'
 have ei : d'[i]! = d'.toList[i] := by simp [hi']
 have ej : d'[j]! = d'.toList[j] := by simp [hj']
 rw [ei, ej, nlt_age] at h1
 obtain ⟨u, hu1, hu2⟩ := hu i hi'
 obtain ⟨v, hv1, hv2⟩ := hu j hj'
 rw [ei] at hu2
 rw [ej] at hv2
 have hne : d'.toList[i] ≠ d'.toList[j] := (List.pairwise_iff_getElem.1 (List.nodup_iff_pairwise_ne.1 hnd)) i j hi hj hij
 show Old (aT l d'.toList[i]) (aT l d'.toList[j])
 have gi : aT l d'.toList[i] = u := by rw [← hu2]; exact bH hl hu1
 have gj : aT l d'.toList[j] = v := by rw [← hv2]; exact bH hl hv1
 rw [gi, gj] at h1 ⊢
 rcases f5 (u := u) (v := v) (by rw [hu2, hv2]; exact hne) with h2 | h2
 ·exact h2
 ·exact absurd h2 h1
theorem sortB64 : SortB 64 := by
 intro W q b C p l base v ss h ho hss hnd hlen hvb
 by_cases h1 : ss.length ≤ 1
 ·exact sortB1 W q b C p l base v ss h ho hss hnd h1 hvb
 obtain ⟨hl, h0 | ⟨g, cap, cur, rfl, hbg, hbk, hnc, hcm, hcs, hcut⟩⟩ := ho
 ·omega
 have hb : bZ W g cur 34 := hbk
 have hf : ¬ eP q b p l g := hvb g rfl
 have hrow : bJ l g W W ss.length ss.toArray := ⟨by simp, fun i hi => by
  have hi' : i < ss.length := by simpa using hi
  have e : ss.toArray[i]! = ss[i] := by simp [hi']
  rw [e]
  exact hss _ (List.getElem_mem hi'), trow_of hb hnc hcs hcut, aC.refl _ _, fun c hc => ⟨c, hc, rfl⟩⟩
 refine (sortW cap (ageAt15 h hf) hrow hb.lt (by omega)).mono ?_
 rintro e w' ⟨⟨d', rfl, hr, hp, hs⟩⟩
 have hsz := hr.sz
 have hpm : d'.toList.Perm ss := by
  have h2 := hp.2.2
  have e1 : d'.extract 0 ss.length = d' := by rw [← hsz]; simp
  have e2 : ss.toArray.extract 0 ss.length = ss.toArray := by simp
  rw [e1, e2] at h2
  first | exact h2 | exact h2.symm | simpa using h2 | simpa using h2.symm
 have hln : d'.toList.length = ss.length := hpm.length_eq
 obtain ⟨cur', hb', hc'⟩ := hr.cz cur hb
 refine ⟨rfl, d'.toList, fun t => hpm.mem_iff, old_sorted h.ok hr.us (hpm.nodup_iff.2 hnd) (by rw [hsz]; exact hs), ?_, hr.kb.mono (fun k hk => by rw [hk]; rfl)⟩
 rw [hln]
 refine ⟨?_, .inr ⟨g, cap, cur', rfl, hbg, hb', hnc, hcm, by rw [hc', hcs], ?_⟩⟩
 ·rw [gY (enc := txCs) (K := 3) (fun _ => rfl), List.length_map, hln]
 ·have h3 := row_of hr.row hb' (by rw [hsz]; exact hnc) (by rw [hc', hcs])
  rw [hsz] at h3
  exact h3
end
section
open Go.ChangeShapes Go.WideShapes Go.ChangeAt Go.RowKit
theorem own : ownKnob Tryz.prog.godebug = none := by kernel_rfl
theorem laidOut : laidOutB Tryz.prog = true := by kernel_rfl
end
section
open Go.ChangeShapes Go.WideShapes Go.ChangeAt Go.RowKit Go.Deep
section
variable {H : Type} {enc : TypeId × Value → H} {W : World}
theorem choose_rec {α : Type} [Inhabited α] {n : Nat} {p : Nat → α → Prop} (h : ∀ i, i < n → ∃ x, p i x) : ∃ f : Nat → α, ∀ i, i < n → p i (f i) := by
 classical
 refine ⟨fun i => if hi : i < n then Classical.choose (h i hi) else default, fun i hi => ?_⟩
 simp only [dif_pos hi]
 exact Classical.choose_spec (h i hi)
theorem recs_of_trod {α : Type} [Inhabited α] {t e : TypeId} {K : Nat} {encA : α → List Value} {ok : α → Prop} (R : Rec t e K encA) (hce : Tryz.prog.cellsOf e = K)
  (hone : ∀ (fuel : Nat) (cs : List Value) (x : DataW H × List MemPlace), DataW.trod enc Tryz.prog W 0 (fun _ => true) true fuel e cs = some x → ∃ a, cs = encA a ∧ ok a)
  {a0 : Option Addr} {len cap : Nat} {d : DataW H} {p : List MemPlace}
  (h : DataW.Trod enc Tryz.prog W 0 (fun _ => true) true t (.slice a0 len cap) d p) : ∃ fs, bI encA W (.slice a0 len cap) fs ∧ (∀ f ∈ fs, ok f) := by
 obtain ⟨fuel, hf⟩ := h
 rcases open_slice R.und hf with ⟨hcs, _⟩ | ⟨a, len', cap', m, n, D, Pl, hcs, _, hl, hm, hmm, hx, hel⟩
 ·simp [Value.cells] at hcs
  obtain ⟨rfl, rfl, rfl⟩ := hcs
  exact ⟨[], bI.nil _, by simp⟩
 ·simp [Value.cells] at hcs
  obtain ⟨rfl, rfl, rfl⟩ := hcs
  simp only [if_true] at hmm
  subst hmm
  have hch : ∀ i, i < len → ∃ f : α, W.cells? 0 (a.add (i * K)) K = some (encA f) ∧ ok f := by
   intro i hi
   obtain ⟨cs', h1, h2⟩ := hel i (by omega)
   rw [hce] at h1
   obtain ⟨f, rfl, r⟩ := hone _ _ _ h2
   exact ⟨f, h1, r⟩
  obtain ⟨f, hfi⟩ := choose_rec hch
  by_cases h0 : len = 0
  ·subst h0
   exact ⟨[], ⟨_, _, rfl, Nat.zero_le _, hm, fun e => (by cases e), fun hne => absurd rfl hne⟩, by simp⟩
  ·obtain ⟨b, off, spot⟩ := a
   have hcell : ∀ i, i < len → ∀ j, j < K → W.cell? (((⟨b, off, spot⟩ : Addr).add (i * K)).add j) = (encA (f i))[j]? := by
    intro i hi j hj
    have h1 := World.cells?_some (hfi i hi).1
    have h2 := h1.2.2 j hj
    exact h2
   have hpos := R.pos
   have hc0 := hcell 0 (by omega) 0 hpos
   have he0 : ∃ u, (encA (f 0))[0]? = some u := ⟨_, List.getElem?_eq_getElem (by rw [R.len]; exact hpos)⟩
   obtain ⟨u0, hu0⟩ := he0
   rw [hu0] at hc0
   have hspot : spot = none := by simpa [Addr.add] using World.cell?_spot hc0
   subst hspot
   have hb : b < W.heap.size := by
    rcases Nat.lt_or_ge b W.heap.size with h | h
    ·exact h
    ·have hn : W.heap[b]? = none := by simp [h]
     simp [Addr.add, World.cell?, hn] at hc0
   have hlen : ((List.range len).map f).length = len := by simp
   refine ⟨(List.range len).map f, ⟨_, _, by rw [hlen], by rw [hlen]; exact hl, hm, fun e => (by cases e), fun _ => ⟨b, off, rfl, hb, fun j u hu => ?_⟩⟩, fun g hg => ?_⟩
   ·have hjl : j < len * K := by
     have := (List.getElem?_eq_some_iff.1 hu).1
     rw [gY R.len, hlen] at this
     exact this
    have hi : j / K < len := (Nat.div_lt_iff_lt_mul hpos).2 hjl
    have hr : j % K < K := Nat.mod_lt _ hpos
    have hj : j = (j / K) * K + j % K := by rw [Nat.mul_comm]; exact (Nat.div_add_mod j K).symm
    rw [hj, jO R.len (by rw [hlen]; exact hi) hr] at hu
    have hc := hcell (j / K) hi (j % K) hr
    rw [Addr.add_lit, Addr.add_lit] at hc
    rw [hj, ← Nat.add_assoc, hc]
    simpa using hu
   ·rw [List.mem_map] at hg
    obtain ⟨i, hi, rfl⟩ := hg
    exact (hfi i (by simpa using hi)).2
end
end
section
open Go.ChangeShapes Go.WideShapes Go.ChangeAt Go.RowKit Go.Deep
theorem mKey : Tryz.prog.cellsOf 38 = 8 := by kernel_rfl
theorem mTx : Tryz.prog.cellsOf 34 = 3 := by kernel_rfl
theorem mU8 : Tryz.prog.cellsOf 5 = 1 := by kernel_rfl
theorem mU32 : Tryz.prog.cellsOf 32 = 1 := by kernel_rfl
section Opened
variable {H : Type} {enc : TypeId × Value → H} {W : World} {base fuel : Nat} {spare : Nat → Bool} {held : Bool}
theorem ints_of10 : ∀ (cs : List Value) (n : Nat), cs.length = n → (∀ i, i < n → ∃ k : Int, (cs.drop i).take 1 = [.int .u8 k] ∧ 0 ≤ k ∧ k < 256) → ∃ ks : List Int, ks.length = n ∧ cs = ks.map (Value.int .u8) ∧ ∀ c ∈ ks, 0 ≤ c ∧ c < 256
 | [], n, h, _ => ⟨[], by simpa using h, rfl, by simp⟩
 | c :: r, 0, h, _ => by simp at h
 | c :: r, n + 1, h, hc => by
  obtain ⟨ks, h1, h2, h3⟩ := ints_of10 r n (by simpa using h) (fun i hi => by
   obtain ⟨k, e, b⟩ := hc (i + 1) (by omega)
   exact ⟨k, by simpa using e, b⟩)
  obtain ⟨k, e, b⟩ := hc 0 (by omega)
  simp at e
  refine ⟨k :: ks, by simp [h1], by rw [e, h2]; rfl, fun c hc2 => ?_⟩
  rcases List.mem_cons.1 hc2 with rfl | hc2
  ·exact b
  ·exact h3 c hc2
theorem eight_cells (t : TypeId) (ht : Tryz.prog.underlying t = some (.array 8 5)) (hc : Tryz.prog.cellsOf t = 8) {cs : List Value} {x : DataW H × List MemPlace} (h : DataW.trod enc Tryz.prog W base spare held fuel t cs = some x) : ∃ ks : List Int, ks.length = 8 ∧ cs = ks.map (Value.int .u8) ∧ ∀ c ∈ ks, 0 ≤ c ∧ c < 256 := by
 obtain ⟨xs, m, _, _, hl, hn, hf⟩ := DataW.trod_array ht h
 rw [hc] at hl
 refine ints_of10 cs 8 hl (fun i hi => ?_)
 have h0 := hf i hi
 rw [mU8, Nat.mul_one] at h0
 obtain ⟨y, hy⟩ : ∃ y, xs[i]? = some y := ⟨xs[i]'(by omega), by simp⟩
 rw [hy] at h0
 obtain ⟨a0, e0, _, w0⟩ := DataW.trod_int Tryz.underlying5 h0
 have := bounds_u8 w0
 exact ⟨a0, e0, by omega, by omega⟩
theorem key_cells {cs : List Value} {x : DataW H × List MemPlace} (h : DataW.trod enc Tryz.prog W base spare held fuel 38 cs = some x) : ∃ k : List Int, cs = bP k ∧ gX k := by
 obtain ⟨ks, hl, e, hb⟩ := eight_cells 38 Tryz.underlying38 mKey h
 exact ⟨ks, by rw [e, fY hl], ⟨hl, hb⟩⟩
theorem tx_cells10 {cs : List Value} {x : DataW H × List MemPlace} (h : DataW.trod enc Tryz.prog W base spare held fuel 34 cs = some x) : ∃ t : TxN, cs = txE t ∧ (t.1 < 256 ∧ t.2.1 < 4294967296 ∧ t.2.2 < 4294967296) := by
 obtain ⟨xs, n, _, rfl, hl, hlen, hf⟩ := DataW.trod_struct Tryz.underlying34 h
 rw [mTx] at hl
 match cs, hl, xs, hlen with
 | [c0, c1, c2], _, [y0, y1, y2], _ =>
  have h0 : DataW.trod enc Tryz.prog W base spare held n 5 (([c0, c1, c2].drop 0).take (Tryz.prog.cellsOf 5)) = some y0 := hf 0 _ rfl
  have h1 : DataW.trod enc Tryz.prog W base spare held n 32 (([c0, c1, c2].drop 1).take (Tryz.prog.cellsOf 32)) = some y1 := hf 1 _ rfl
  have h2 : DataW.trod enc Tryz.prog W base spare held n 32 (([c0, c1, c2].drop 2).take (Tryz.prog.cellsOf 32)) = some y2 := hf 2 _ rfl
  rw [mU8] at h0
  rw [mU32] at h1 h2
  obtain ⟨a0, e0, _, w0⟩ := DataW.trod_int Tryz.underlying5 h0
  obtain ⟨a1, e1, _, w1⟩ := DataW.trod_int Tryz.underlying32 h1
  obtain ⟨a2, e2, _, w2⟩ := DataW.trod_int Tryz.underlying32 h2
  have b0 := bounds_u8 w0
  have b1 := bounds_u32 w1
  have b2 := bounds_u32 w2
  obtain ⟨n0, rfl⟩ := Int.eq_ofNat_of_zero_le b0.1
  obtain ⟨n1, rfl⟩ := Int.eq_ofNat_of_zero_le b1.1
  obtain ⟨n2, rfl⟩ := Int.eq_ofNat_of_zero_le b2.1
  simp at e0 e1 e2
  subst e0
  subst e1
  subst e2
  exact ⟨(n0, n1, n2), rfl, by simp only; omega, by simp only; omega, by simp only; omega⟩
end Opened
end
section
open Go.RowKit Go.Maps Classical
def Nob15 (w : World) (v : Value) : Prop := v = .pointer none ∨ ∃ q, v = .pointer (some ⟨q, 0, none⟩) ∧ bZ w q #[.map none] 65
theorem Nob15.below {w w' : World} {v : Value} (h : Nob15 w v) (hB : Below w.heap.size w w') : Nob15 w' v := h.imp id (fun ⟨q, e, hb⟩ => ⟨q, e, hb.belowI hB⟩)
end
section
open Go.RowKit Go.Maps Classical
structure LAct where
 kd : Nat
 tm : Nat
 t : TxN
 k : KeyT
 m : Nat
 ks : List KeyT
abbrev eO (a : LAct) (v : Value) : Array Value := #[.int .u8 (a.kd : Int), .int .u32 (a.tm : Int), .int .u8 (a.t.1 : Int), .int .u32 (a.t.2.1 : Int), .int .u32 (a.t.2.2 : Int), .int .u8 (aZ a.k.1 0), .int .u8 (aZ a.k.1 1), .int .u8 (aZ a.k.1 2), .int .u8 (aZ a.k.1 3), .int .u8 (aZ a.k.1 4), .int .u8 (aZ a.k.1 5), .int .u8 (aZ a.k.1 6), .int .u8 (aZ a.k.1 7), .int .u8 (a.m : Int), v]
end
section
open Go.ChangeShapes Go.WideShapes Go.ChangeAt Go.RowKit Go.Deep
theorem mStamp15 : Tryz.prog.cellsOf 36 = 4 := by kernel_rfl
theorem mKeys15 : Tryz.prog.cellsOf 39 = 1 := by kernel_rfl
theorem mLAct : Tryz.prog.cellsOf 41 = 15 := by kernel_rfl
structure LActV where
 a : LAct
 p : Value
abbrev lactE (x : LActV) : List Value := (eO x.a x.p).toList
structure LvOk (W : World) (x : LActV) : Prop where
 kd : x.a.kd < 256
 tm : x.a.tm < 4294967296
 tx : kJ x.a.t
 m : x.a.m < 256
 src : bI kyCs W x.p x.a.ks
def zeroK15 : KeyT := ⟨[0, 0, 0, 0, 0, 0, 0, 0], by
 refine ⟨rfl, fun c hc => ?_⟩
 simp at hc
 omega⟩
def jG : LActV := ⟨⟨0, 0, (0, 0, 0), zeroK15, 0, []⟩, .slice none 0 0⟩
theorem recLA : Rec 22 41 15 lactE := ⟨Tryz.underlying22, jC (z := .agg (eO jG.a jG.p)) (K := 15) (B := 56) (by kernel_rfl) rfl (by decide), by decide, fun _ => rfl⟩
section
variable {H : Type} {enc : TypeId × Value → H} {W : World} {fuel : Nat}
theorem keys_cell15 {cs : List Value} {x : DataW H × List MemPlace} (h : DataW.trod enc Tryz.prog W 0 (fun _ => true) true fuel 39 cs = some x) : ∃ p l, cs = [p] ∧ bI kyCs W p l := by
 have hs : ∃ a l c, cs = [.slice a l c] := by
  rcases open_slice Tryz.underlying39 h with ⟨e, _⟩ | ⟨a, l, c, m, n, D, Pl, e, _⟩
  ·exact ⟨_, _, _, e⟩
  ·exact ⟨_, _, _, e⟩
 obtain ⟨a, l, c, rfl⟩ := hs
 haveI : Inhabited KeyT := ⟨zeroK15⟩
 obtain ⟨ws, h1, _⟩ := recs_of_trod (ok := fun _ : KeyT => True) (a0 := a) (len := l) (cap := c) (d := x.1) (p := x.2) eU mKey (fun _ _ _ h => by
  obtain ⟨k, e, ok⟩ := key_cells h
  exact ⟨⟨k, ok⟩, e, trivial⟩) ⟨fuel, h⟩
 exact ⟨_, ws, rfl, h1⟩
theorem stamp_cells15 {cs : List Value} {x : DataW H × List MemPlace} (h : DataW.trod enc Tryz.prog W 0 (fun _ => true) true fuel 36 cs = some x) : ∃ (tm : Nat) (t : TxN), cs = [.int .u32 (tm : Int), .int .u8 (t.1 : Int), .int .u32 (t.2.1 : Int), .int .u32 (t.2.2 : Int)] ∧ tm < 4294967296 ∧ kJ t := by
 obtain ⟨xs, n, _, rfl, hl, hlen, hf⟩ := DataW.trod_struct Tryz.underlying36 h
 rw [mStamp15] at hl
 match cs, hl, xs, hlen with
 | [c0, c1, c2, c3], _, [y0, y1], _ =>
  have h0 : DataW.trod enc Tryz.prog W 0 (fun _ => true) true n 32 (([c0, c1, c2, c3].drop 0).take (Tryz.prog.cellsOf 32)) = some y0 := hf 0 _ rfl
  have h1 : DataW.trod enc Tryz.prog W 0 (fun _ => true) true n 34 (([c0, c1, c2, c3].drop 1).take (Tryz.prog.cellsOf 34)) = some y1 := hf 1 _ rfl
  rw [mU32] at h0
  rw [mTx] at h1
  obtain ⟨a0, e0, _, w0⟩ := DataW.trod_int Tryz.underlying32 h0
  have b0 := bounds_u32 w0
  obtain ⟨n0, rfl⟩ := Int.eq_ofNat_of_zero_le b0.1
  obtain ⟨a1, e1, o1⟩ := tx_cells10 h1
  simp at e0 e1
  obtain ⟨e11, e12, e13⟩ := e1
  subst e0; subst e11; subst e12; subst e13
  exact ⟨n0, a1, rfl, by omega, o1⟩
theorem lact_cells {cs : List Value} {x : DataW H × List MemPlace} (h : DataW.trod enc Tryz.prog W 0 (fun _ => true) true fuel 41 cs = some x) : ∃ a : LActV, cs = lactE a ∧ LvOk W a := by
 obtain ⟨xs, n, _, rfl, hl, hlen, hf⟩ := DataW.trod_struct Tryz.underlying41 h
 rw [mLAct] at hl
 match cs, hl, xs, hlen with
 | [c0, c1, c2, c3, c4, c5, c6, c7, c8, c9, c10, c11, c12, c13, c14], _, [y0, y1, y2, y3, y4], _ =>
  have h0 : DataW.trod enc Tryz.prog W 0 (fun _ => true) true n 5 (([c0, c1, c2, c3, c4, c5, c6, c7, c8, c9, c10, c11, c12, c13, c14].drop 0).take (Tryz.prog.cellsOf 5)) = some y0 := hf 0 _ rfl
  have h1 : DataW.trod enc Tryz.prog W 0 (fun _ => true) true n 36 (([c0, c1, c2, c3, c4, c5, c6, c7, c8, c9, c10, c11, c12, c13, c14].drop 1).take (Tryz.prog.cellsOf 36)) = some y1 := hf 1 _ rfl
  have h2 : DataW.trod enc Tryz.prog W 0 (fun _ => true) true n 38 (([c0, c1, c2, c3, c4, c5, c6, c7, c8, c9, c10, c11, c12, c13, c14].drop 5).take (Tryz.prog.cellsOf 38)) = some y2 := hf 2 _ rfl
  have h3 : DataW.trod enc Tryz.prog W 0 (fun _ => true) true n 5 (([c0, c1, c2, c3, c4, c5, c6, c7, c8, c9, c10, c11, c12, c13, c14].drop 13).take (Tryz.prog.cellsOf 5)) = some y3 := hf 3 _ rfl
  have h4 : DataW.trod enc Tryz.prog W 0 (fun _ => true) true n 39 (([c0, c1, c2, c3, c4, c5, c6, c7, c8, c9, c10, c11, c12, c13, c14].drop 14).take (Tryz.prog.cellsOf 39)) = some y4 := hf 4 _ rfl
  rw [mU8] at h0 h3
  rw [mStamp15] at h1
  rw [mKey] at h2
  rw [mKeys15] at h4
  obtain ⟨a0, e0, _, w0⟩ := DataW.trod_int Tryz.underlying5 h0
  obtain ⟨a1, t1, e1, o1, o1b⟩ := stamp_cells15 h1
  obtain ⟨k2, e2, o2⟩ := key_cells h2
  obtain ⟨a3, e3, _, w3⟩ := DataW.trod_int Tryz.underlying5 h3
  obtain ⟨p4, l4, e4, s4⟩ := keys_cell15 h4
  have b0 := bounds_u8 w0
  have b3 := bounds_u8 w3
  obtain ⟨n0, rfl⟩ := Int.eq_ofNat_of_zero_le b0.1
  obtain ⟨n3, rfl⟩ := Int.eq_ofNat_of_zero_le b3.1
  simp at e0 e1 e2 e3 e4
  obtain ⟨e11, e12, e13, e14⟩ := e1
  obtain ⟨e21, e22, e23, e24, e25, e26, e27, e28⟩ := e2
  subst e0; subst e11; subst e12; subst e13; subst e14; subst e3; subst e4
  subst e21; subst e22; subst e23; subst e24; subst e25; subst e26; subst e27; subst e28
  exact ⟨⟨⟨n0, a1, t1, ⟨k2, o2⟩, n3, l4⟩, c14⟩, rfl, ⟨by simp only; omega, o1, o1b, by simp only; omega, s4⟩⟩
theorem lacts_of_trod {a0 : Option Addr} {len cap : Nat} {d : DataW H} {p : List MemPlace}
  (h : DataW.Trod enc Tryz.prog W 0 (fun _ => true) true 22 (.slice a0 len cap) d p) : ∃ fs, bI lactE W (.slice a0 len cap) fs ∧ ∀ f ∈ fs, LvOk W f :=
 haveI : Inhabited LActV := ⟨jG⟩
 recs_of_trod (ok := LvOk W) recLA mLAct (fun _ _ _ h => lact_cells h) h
end
end
end Go.Proofs.YtiloagmkkhlfjaaGreat
