/-
  Own texts put together: MgOpen, TbOpen, TbKit, TbLastP, TbFullP. Own work.
-/
import Derived.Test.YtlngejmojpkdkaaG19
import Derived.Test.YtlngejmojpkdkaaG08
import Derived.Test.YtlngejmojpkdkaaG15
import Derived.Test.YtlngejmojpkdkaaG16
import Derived.Deep.Slices
import Derived.ChangeArms
import Derived.SizedLaws
namespace Go.Proofs.Ytlngejmojpkdkaa
section
open Go.ChangeShapes Go.WideShapes Go.ChangeAt Go.RowKit Go.Deep

theorem mCfg : Try.prog.cellsOf 34 = 11 := by kernel_rfl
theorem mArr8 : Try.prog.cellsOf 30 = 8 := by kernel_rfl
theorem mKey : Try.prog.cellsOf 31 = 8 := by kernel_rfl
theorem mItem : Try.prog.cellsOf 36 = 13 := by kernel_rfl
theorem mWrite : Try.prog.cellsOf 38 = 21 := by kernel_rfl
theorem mStr : Try.prog.cellsOf 9 = 1 := by kernel_rfl
theorem mU8 : Try.prog.cellsOf 5 = 1 := by kernel_rfl
theorem mU32 : Try.prog.cellsOf 32 = 1 := by kernel_rfl
theorem strOf_strI10 (s : ByteArray) : strOfNums (strI s) = s := by
  unfold strOfNums strI
  obtain ⟨⟨l⟩⟩ := s
  simp [List.map_map, Function.comp_def]
section Opened
variable {H : Type} {enc : TypeId × Value → H} {W : World} {base fuel : Nat} {spare : Nat → Bool} {held : Bool}
theorem ints_of10 : ∀ (cs : List Value) (n : Nat), cs.length = n → (∀ i, i < n → ∃ k : Int, (cs.drop i).take 1 = [.int .u8 k] ∧ 0 ≤ k ∧ k < 256) → ∃ ks : List Int, ks.length = n ∧ cs = ks.map (Value.int .u8) ∧ ∀ c ∈ ks, 0 ≤ c ∧ c < 256
  | [], n, h, _ => ⟨[], by simpa using h, rfl, by simp⟩
  | c :: r, 0, h, _ => by simp at h
  | c :: r, n + 1, h, hc => by
    obtain ⟨ks, h1, h2, h3⟩ := ints_of10 r n (by simpa using h) (fun i hi => by
      obtain ⟨k, e, b⟩ := hc (i + 1) (by omega)
      exact ⟨k, by simpa using e, b⟩)
    obtain ⟨k, e, b⟩ := hc 0 (by omega)
    simp at e
    refine ⟨k :: ks, by simp [h1], by rw [e, h2]; rfl, fun c hc2 => ?_⟩
    rcases List.mem_cons.1 hc2 with rfl | hc2
    · exact b
    · exact h3 c hc2
theorem eight_cells (t : TypeId) (ht : Try.prog.underlying t = some (.array 8 5)) (hc : Try.prog.cellsOf t = 8) {cs : List Value} {x : DataW H × List MemPlace} (h : DataW.trod enc Try.prog W base spare held fuel t cs = some x) : ∃ ks : List Int, ks.length = 8 ∧ cs = ks.map (Value.int .u8) ∧ ∀ c ∈ ks, 0 ≤ c ∧ c < 256 := by
  obtain ⟨xs, m, _, _, hl, hn, hf⟩ := DataW.trod_array ht h
  rw [hc] at hl
  refine ints_of10 cs 8 hl (fun i hi => ?_)
  have h0 := hf i hi
  rw [mU8, Nat.mul_one] at h0
  obtain ⟨y, hy⟩ : ∃ y, xs[i]? = some y := ⟨xs[i]'(by omega), by simp⟩
  rw [hy] at h0
  obtain ⟨a0, e0, _, w0⟩ := DataW.trod_int Try.underlying5 h0
  have := bounds_u8 w0
  exact ⟨a0, e0, by omega, by omega⟩
theorem key_cells {cs : List Value} {x : DataW H × List MemPlace} (h : DataW.trod enc Try.prog W base spare held fuel 31 cs = some x) : ∃ k : List Int, cs = eightE k ∧ KeyOk k := by
  obtain ⟨ks, hl, e, hb⟩ := eight_cells 31 Try.underlying31 mKey h
  exact ⟨ks, by rw [e, eightE_map hl], ⟨hl, hb⟩⟩
set_option maxRecDepth 100000 in
theorem cfg_cells10 {cs : List Value} {x : DataW H × List MemPlace} (h : DataW.trod enc Try.prog W base spare held fuel 34 cs = some x) : ∃ c : Cf, cs = cfE c ∧ c.Ok := by
  obtain ⟨xs, n, _, rfl, hl, hlen, hf⟩ := DataW.trod_struct Try.underlying34 h
  rw [mCfg] at hl
  match cs, hl, xs, hlen with
  | c0 :: c1 :: c2 :: rest, hl, [y0, y1, y2, y3], _ =>
    have h0 : DataW.trod enc Try.prog W base spare held n 32 (((c0 :: c1 :: c2 :: rest).drop 0).take (Try.prog.cellsOf 32)) = some y0 := hf 0 _ rfl
    have h1 : DataW.trod enc Try.prog W base spare held n 5 (((c0 :: c1 :: c2 :: rest).drop 1).take (Try.prog.cellsOf 5)) = some y1 := hf 1 _ rfl
    have h2 : DataW.trod enc Try.prog W base spare held n 5 (((c0 :: c1 :: c2 :: rest).drop 2).take (Try.prog.cellsOf 5)) = some y2 := hf 2 _ rfl
    have h3 : DataW.trod enc Try.prog W base spare held n 30 (((c0 :: c1 :: c2 :: rest).drop 3).take (Try.prog.cellsOf 30)) = some y3 := hf 3 _ rfl
    rw [mU32] at h0
    rw [mU8] at h1 h2
    rw [mArr8] at h3
    obtain ⟨a0, e0, _, w0⟩ := DataW.trod_int Try.underlying32 h0
    obtain ⟨a1, e1, _, w1⟩ := DataW.trod_int Try.underlying5 h1
    obtain ⟨a2, e2, _, w2⟩ := DataW.trod_int Try.underlying5 h2
    obtain ⟨ks, kl, e3, kb⟩ := eight_cells 30 Try.underlying30 mArr8 h3
    have b0 := bounds_u32 w0
    have b1 := bounds_u8 w1
    have b2 := bounds_u8 w2
    have hr : rest.length = 8 := by simpa using hl
    simp at e0 e1 e2
    have e3' : rest = ks.map (Value.int .u8) := by
      have h8 : rest.take 8 = ks.map (Value.int .u8) := by simpa using e3
      rw [List.take_of_length_le (by omega)] at h8
      exact h8
    obtain ⟨n0, rfl⟩ := Int.eq_ofNat_of_zero_le b0.1
    obtain ⟨n1, rfl⟩ := Int.eq_ofNat_of_zero_le b1.1
    obtain ⟨n2, rfl⟩ := Int.eq_ofNat_of_zero_le b2.1
    have hv : (ks.map Int.toNat).map (fun (n : Nat) => Value.int .u8 (n : Int)) = ks.map (Value.int .u8) := by
      rw [List.map_map]
      refine List.map_congr_left fun c hc => ?_
      have := kb c hc
      simp only [Function.comp]
      rw [Int.toNat_of_nonneg this.1]
    have hOk : Cf.Ok ⟨n0, n1, n2, ks.map Int.toNat⟩ := ⟨by simp only; omega, by simp only; omega, by simp only; omega, by simp [kl], fun x hx => by
      obtain ⟨c, hc, rfl⟩ := List.mem_map.1 hx
      have := kb c hc
      omega⟩
    refine ⟨_, ?_, hOk⟩
    rw [cfE_cells hOk, e0, e1, e2, e3', ← hv]
    rfl
theorem weights_agg10 {t : TypeId} {fs : Array Field} {parts : List (DataW H)} (hu : Try.prog.underlying t = some (.struct fs)) {j : Nat} {ft : TypeId} {d : DataW H} (hj : (fs.toList.map (·.type))[j]? = some ft) (hd : parts[j]? = some d) {n : Nat} (hn : n ∈ d.weights Try.prog ft) :
    n ∈ DataW.weights Try.prog t (.agg parts) := by
  unfold DataW.weights
  rw [hu]
  exact DataW.weights_mem_each hj hd n hn
set_option maxRecDepth 100000 in
theorem item_cells {cs : List Value} {x : DataW H × List MemPlace} (h : DataW.trod enc Try.prog W base spare held fuel 36 cs = some x) : ∃ i : ItP, cs = itE i ∧ (ItOk i ∧ i.val.length ≤ 9223372036854775807) ∧ i.val.length ∈ x.1.weights Try.prog 36 := by
  obtain ⟨xs, n, _, rfl, hl, hlen, hf⟩ := DataW.trod_struct Try.underlying36 h
  rw [mItem] at hl
  match cs, hl, xs, hlen with
  | c0 :: c1 :: rest, hl, [y0, y1, y2], _ =>
    have h0 : DataW.trod enc Try.prog W base spare held n 32 (((c0 :: c1 :: rest).drop 0).take (Try.prog.cellsOf 32)) = some y0 := hf 0 _ rfl
    have h1 : DataW.trod enc Try.prog W base spare held n 9 (((c0 :: c1 :: rest).drop 1).take (Try.prog.cellsOf 9)) = some y1 := hf 1 _ rfl
    have h2 : DataW.trod enc Try.prog W base spare held n 34 (((c0 :: c1 :: rest).drop 2).take (Try.prog.cellsOf 34)) = some y2 := hf 2 _ rfl
    rw [mU32] at h0
    rw [mStr] at h1
    rw [mCfg] at h2
    obtain ⟨a0, e0, _, w0⟩ := DataW.trod_int Try.underlying32 h0
    obtain ⟨s, e1, r1, w1⟩ := DataW.trod_string Try.underlying9 h1
    obtain ⟨c, e2, ok⟩ := cfg_cells10 h2
    have b0 := bounds_u32 w0
    unfold maxLen at w1
    have hr : rest.length = 11 := by simpa using hl
    simp only [List.drop_zero, List.take_succ_cons, List.take_zero, List.cons.injEq, and_true, List.drop_succ_cons] at e0 e1 e2
    rw [List.take_of_length_le (by omega)] at e2
    obtain ⟨n0, rfl⟩ := Int.eq_ofNat_of_zero_le b0.1
    refine ⟨⟨n0, strI s, c⟩, ?_, ⟨⟨by simp only; omega, strI_byte s, ok⟩, by simp only [strI_length]; omega⟩, ?_⟩
    · rw [e0, e1, e2]
      show _ = Value.int .u32 (n0 : Int) :: .string (strOfNums (strI s)) :: cfE c
      rw [strOf_strI10]
    · show (strI s).length ∈ DataW.weights Try.prog 36 (.agg [y0.1, y1.1, y2.1])
      rw [strI_length]
      refine weights_agg10 Try.underlying36 (j := 1) (ft := 9) rfl rfl ?_
      rw [r1]
      simp [DataW.weights]
set_option maxRecDepth 100000 in
theorem write_cells {cs : List Value} {x : DataW H × List MemPlace} (h : DataW.trod enc Try.prog W base spare held fuel 38 cs = some x) : ∃ a : WrP, cs = wrE a ∧ (KeyOk a.key ∧ ItOk a.it ∧ a.it.val.length ≤ 9223372036854775807) := by
  obtain ⟨xs, n, _, rfl, hl, hlen, hf⟩ := DataW.trod_struct Try.underlying38 h
  rw [mWrite] at hl
  match xs, hlen with
  | [y0, y1], _ =>
    have h0 : DataW.trod enc Try.prog W base spare held n 31 ((cs.drop 0).take (Try.prog.cellsOf 31)) = some y0 := hf 0 _ rfl
    have h1 : DataW.trod enc Try.prog W base spare held n 36 ((cs.drop 8).take (Try.prog.cellsOf 36)) = some y1 := hf 1 _ rfl
    rw [mKey, List.drop_zero] at h0
    rw [mItem, List.take_of_length_le (by rw [List.length_drop]; omega)] at h1
    obtain ⟨k, e0, ok0⟩ := key_cells h0
    obtain ⟨i, e1, ok1, _⟩ := item_cells h1
    refine ⟨⟨k, i⟩, ?_, ok0, ok1⟩
    rw [← List.take_append_drop 8 cs, e0, e1]
end Opened
end
section
open Go.ChangeShapes Go.WideShapes Go.ChangeAt Go.RowKit Go.Deep

section
variable {H : Type} {enc : TypeId × Value → H} {W : World}
theorem awrites_of_trod {a0 : Option Addr} {len cap : Nat} {d : DataW H} {p : List MemPlace}
    (h : DataW.Trod enc Try.prog W 0 (fun _ => true) true 22 (.slice a0 len cap) d p) : ∃ fs, RSrc wrE W (.slice a0 len cap) fs ∧ ∀ a ∈ fs, KeyOk a.key ∧ ItOk a.it ∧ a.it.val.length ≤ 9223372036854775807 :=
  haveI : Inhabited WrP := ⟨zeroWr⟩
  recs_of_trod recWR mWrite (fun _ _ _ h => write_cells h) h
set_option maxRecDepth 100000 in
theorem awrite_of_trod {r : Reach} {b0 : Nat} {v : Value} {d : DataW H} {p : List MemPlace} (hv : Value.okWide Try.prog W r b0 38 v) (h : DataW.Trod enc Try.prog W 0 (fun _ => true) true 38 v d p) : ∃ a : WrP, v = .agg (wrA a) ∧ KeyOk a.key ∧ ItOk a.it ∧ a.it.val.length ≤ 9223372036854775807 := by
  obtain ⟨cs, rfl, _⟩ := okWide_struct Try.underlying38 hv
  obtain ⟨fuel, hf⟩ := h
  obtain ⟨a, e, ok⟩ := write_cells hf
  have e2 : cs.toList = (wrA a).toList := e
  exact ⟨a, by rw [Array.toList_inj.1 e2], ok⟩
theorem okWide_arrayT {P : Program} {w : World} {r : Reach} {b0 : Nat} {t e : TypeId} {n : Nat} {v : Value} (ht : P.underlying t = some (.array n e)) (h : Value.okWide P w r b0 t v) : ∃ cs, v = .agg cs := by
  simp only [Value.okWide, ht] at h
  obtain ⟨cs, h1, _⟩ := h
  exact ⟨cs, h1⟩
set_option maxRecDepth 100000 in
theorem akey_of_trod {r : Reach} {b0 : Nat} {v : Value} {d : DataW H} {p : List MemPlace} (hv : Value.okWide Try.prog W r b0 31 v) (h : DataW.Trod enc Try.prog W 0 (fun _ => true) true 31 v d p) : ∃ k : List Int, v = .agg (eightA k) ∧ KeyOk k := by
  obtain ⟨cs, rfl⟩ := okWide_arrayT Try.underlying31 hv
  obtain ⟨fuel, hf⟩ := h
  obtain ⟨k, e, ok⟩ := key_cells hf
  have e2 : cs.toList = (eightA k).toList := e
  exact ⟨k, by rw [Array.toList_inj.1 e2], ok⟩
end
end
section
open Go.RowKit Classical

theorem wp_load_mid_g {ops : Array Oper} {rest : List Oper} {op : Oper} {a : Act} {w : World} {Q : Exit → Act → World → Prop} (hgd : Region.wanted op (yielded ops a.tmps) = true) (ty : TypeId) (x : Operand) (ho : op.op = .load ty x)
    (b o : Nat) (hx : a.eval x = .pointer (some ⟨b, o, none⟩)) (cs : List Value) (d : TypeDesc) (hc : w.rangeAt b o cs)
    (hu : Try.prog.underlying ty = some d) (hd : d.isRow = true) (hi : (Try.prog.info? ty).map (·.size) = some cs.length)
    (h : wpList Try.prog ops Q rest (a.put op.dst (.agg cs.toArray)) w) : wpList Try.prog ops Q (op :: rest) a w :=
  wpList_wanted hgd fun _ hK => wp_load_mid ty x ho b o hx cs d hc hu hd hi (hK _ _ h)
theorem wr_key {w : World} {p : Nat} {x : WrP} {t : TypeId} (h : Box w p (wrA x) t) : w.rangeAt p 0 (eightE x.key) := box_range h 0 _ (fun j u hu => by
  match j, hu with
  | 0, hu => exact hu
  | 1, hu => exact hu
  | 2, hu => exact hu
  | 3, hu => exact hu
  | 4, hu => exact hu
  | 5, hu => exact hu
  | 6, hu => exact hu
  | 7, hu => exact hu
  | j + 8, hu => simp at hu)
theorem wr_it {w : World} {p : Nat} {x : WrP} {t : TypeId} (h : Box w p (wrA x) t) : w.rangeAt p 8 (itE x.it) := box_range h 8 _ (fun j u hu => by
  match j, hu with
  | 0, hu => exact hu
  | 1, hu => exact hu
  | 2, hu => exact hu
  | 3, hu => exact hu
  | 4, hu => exact hu
  | 5, hu => exact hu
  | 6, hu => exact hu
  | 7, hu => exact hu
  | 8, hu => exact hu
  | 9, hu => exact hu
  | 10, hu => exact hu
  | 11, hu => exact hu
  | 12, hu => exact hu
  | j + 13, hu => simp at hu)
theorem neq_ky13 {a b : List Int} (ha : KeyOk a) (hb : KeyOk b) (w : World) : (binOp .neq 31 (.agg (eightA a)) (.agg (eightA b))).run Try.prog w = .ok (.bool (!decide (a = b))) w := by
  have h := eq8 31 Try.underlying31 9998 (at8 a 0) (at8 a 1) (at8 a 2) (at8 a 3) (at8 a 4) (at8 a 5) (at8 a 6) (at8 a 7) (at8 b 0) (at8 b 1) (at8 b 2) (at8 b 3) (at8 b 4) (at8 b 5) (at8 b 6) (at8 b 7) w
  rw [eight_dec ha.l hb.l] at h
  rw [run_neq_struct]
  have h2 : (Op.equalIn 10000 31 (.agg (eightA a)) (.agg (eightA b))).run Try.prog w = .ok (decide (a = b)) w := h
  rw [h2]
  rfl
theorem neq_it14 {a b : ItP} (ha : ItOk a) (hb : ItOk b) (w : World) : (binOp .neq 36 (.agg (itA a)) (.agg (itA b))).run Try.prog w = .ok (.bool (!decide (a = b))) w := by
  rw [run_neq_struct, show (10000 : Nat) = 9996 + 4 from rfl, eq_it 9996 ha hb]
  rfl
/-- What an Install leaves of the items that were there. -/
theorem ins_get {t : List WrP} (h : TbOk t) {k : List Int} (hk : k.length = 8) {i : ItP} (hA : insA t k i = 0) {x : WrP} (hx : x ∈ t) : ∃ j, getT (insD t k i) x.key = some j ∧ x.it.ver ≤ j.ver ∧ (x.key ≠ k → j = x.it) ∧ (x.key = k → j = i) := by
  have hg : getT t x.key = some x.it := (get_iff h x.key x.it).2 hx
  unfold insD
  rw [if_pos hA, get_put h hk hA]
  by_cases e : x.key = k
  · rw [if_pos e]
    have := insA_rise hA (o := x.it) (by rw [← e]; exact hg)
    exact ⟨i, rfl, this.1, fun h => absurd e h, fun _ => rfl⟩
  · rw [if_neg e]
    exact ⟨x.it, hg, Nat.le_refl _, fun _ => rfl, fun h => absurd h e⟩
theorem get_ok13 {t : List WrP} (h : ∀ x ∈ t, KeyOk x.key ∧ ItOk x.it) (hT : TbOk t) {k : List Int} {i : ItP} (hg : getT t k = some i) : ItOk i := (h _ ((get_iff hT k i).1 hg)).2
theorem ins_same {t : List WrP} {k : List Int} {i : ItP} (hA : insA t k i ≠ 0) : insD t k i = t := by unfold insD; rw [if_neg hA]
theorem ins_own {t : List WrP} (h : TbOk t) {k : List Int} (hk : k.length = 8) {i : ItP} (hA : insA t k i = 0) : getT (insD t k i) k = some i := by
  unfold insD
  rw [if_pos hA, get_put h hk hA, if_pos rfl]
end
section
open Go.RowKit Classical

/-- The law's item of a byte. -/
def obI (n : Nat) : ItP := oneI n [(n : Int)]
def topN (l : List Nat) : Nat := l.foldl max 0
theorem topN_app (l : List Nat) (n : Nat) : topN (l ++ [n]) = max (topN l) n := by unfold topN; rw [List.foldl_append]; rfl
theorem foldl_max (l : List Nat) : ∀ a, l.foldl max a = max a (topN l) := by
  induction l with
  | nil => intro a; simp [topN]
  | cons x l ih =>
    intro a
    rw [List.foldl_cons, ih]
    have : topN (x :: l) = max x (topN l) := by unfold topN; rw [List.foldl_cons, ih]; unfold topN; omega
    rw [this]
    omega
theorem topN_cons (x : Nat) (l : List Nat) : topN (x :: l) = max x (topN l) := by
  have h := foldl_max l (max 0 x)
  have e : topN (x :: l) = l.foldl max (max 0 x) := rfl
  rw [e, h]
  omega
theorem topN_rev (l : List Nat) : topN l.reverse = topN l := by
  induction l with
  | nil => rfl
  | cons x l ih => rw [List.reverse_cons, topN_app, ih, topN_cons]; omega
def faI (l : List Nat) : ItP := if topN l = 0 then oneI 0 [] else obI (topN l)
theorem faI_ver (l : List Nat) : (faI l).ver = topN l := by
  unfold faI
  split
  · rename_i h; rw [h]; rfl
  · rfl
theorem faI_app (l : List Nat) (n : Nat) : faI (l ++ [n]) = if (faI l).ver < n then obI n else faI l := by
  rw [faI_ver]
  by_cases h : topN l < n
  · rw [if_pos h]
    unfold faI
    rw [topN_app, show max (topN l) n = n by omega, if_neg (by omega)]
  · rw [if_neg h]
    unfold faI
    rw [topN_app, show max (topN l) n = topN l by omega]
theorem obI_may (n : Nat) (h : n < 256) : itMayB (obI n) = true := by
  unfold itMayB
  have h1 : decide ((obI n).ver ≤ mxN) = true := decide_eq_true (by show n ≤ 2147483647; omega)
  have h2 : decide ((obI n).val.length ≤ 64) = true := rfl
  have h3 : mayB (obI n).cf = true := (by decide : mayB ⟨1, 1, 1, [1, 0, 0, 0, 0, 0, 0, 0]⟩ = true)
  rw [h1, h2, h3]
  rfl
theorem one_may (n : Nat) (s : List Int) (h : n ≤ 2147483647) (hs : s.length ≤ 64) : itMayB (oneI n s) = true := by
  unfold itMayB
  have h1 : decide ((oneI n s).ver ≤ mxN) = true := decide_eq_true h
  have h2 : decide ((oneI n s).val.length ≤ 64) = true := decide_eq_true hs
  have h3 : mayB (oneI n s).cf = true := (by decide : mayB ⟨1, 1, 1, [1, 0, 0, 0, 0, 0, 0, 0]⟩ = true)
  rw [h1, h2, h3]
  rfl
theorem obI_ok (n : Nat) (h : n < 256) : ItOk (obI n) := one_ok n _ (by omega) (fun c hc => by
  have : c = (n : Int) := by simpa using hc
  omega)
theorem lex_self (k : List Int) : lexF k k = 0 := (lexF_zero k k rfl).2 rfl
theorem dn_one (k : List Int) (i : ItP) : upT [⟨k, i⟩] k = [] ∧ dnT [⟨k, i⟩] k = [⟨k, i⟩] := by
  unfold upT dnT
  simp [lex_self]
theorem get_one (k : List Int) (i : ItP) : getT [⟨k, i⟩] k = some i := by
  unfold getT
  rw [(dn_one k i).2]
  simp
theorem put_one (k : List Int) (i j : ItP) : putT [⟨k, i⟩] k j = [⟨k, j⟩] := by
  unfold putT reT
  rw [(dn_one k i).1, (dn_one k i).2]
  simp
theorem ins_none {k : List Int} {j : ItP} (hk : (nameF k).2 = true) (hj : itMayB j = true) : insA [] k j = 0 ∧ insD [] k j = [⟨k, j⟩] := by
  have h : insA [] k j = 0 := by unfold insA; rw [hk, hj]; rfl
  refine ⟨h, ?_⟩
  unfold insD
  rw [if_pos h]
  rfl
theorem ins_arg {t : List WrP} {k : List Int} {j : ItP} (hk : (nameF k).2 = false) : insA t k j = 1 ∧ insD t k j = t := by
  have h : insA t k j = 1 := by unfold insA; rw [hk]; rfl
  exact ⟨h, ins_same (by rw [h]; decide)⟩
theorem ins_one {k : List Int} {i j : ItP} (hk : (nameF k).2 = true) (hj : itMayB j = true) : insD [⟨k, i⟩] k j = [⟨k, if i.ver < j.ver then j else i⟩] := by
  have hA : insA [⟨k, i⟩] k j = if j.ver < i.ver then 13 else if i.ver = j.ver ∧ itEqB i j = false then 7 else 0 := by
    unfold insA
    rw [hk, hj, get_one]
    rfl
  by_cases h1 : j.ver < i.ver
  · rw [ins_same (by rw [hA, if_pos h1]; decide), if_neg (by omega)]
  · by_cases h2 : i.ver = j.ver
    · rw [if_neg (by omega)]
      by_cases h3 : itEqB i j = false
      · rw [ins_same (by rw [hA, if_neg h1, if_pos ⟨h2, h3⟩]; decide)]
      · have e : i = j := (itEqB_iff i j).1 (by simpa using h3)
        unfold insD
        rw [if_pos (by rw [hA, if_neg h1, if_neg (fun h => h3 h.2)]), put_one, e]
    · rw [if_pos (by omega)]
      unfold insD
      rw [if_pos (by rw [hA, if_neg h1, if_neg (fun h => h2 h.1)]), put_one]
/-- What the second table has. -/
def fbT (k : List Int) (l : List Nat) : List WrP := if l = [] then [] else [⟨k, obI (topN l)⟩]
theorem fa_ins {k : List Int} (hk : (nameF k).2 = true) (l : List Nat) {n : Nat} (hn : n < 256) : insD [⟨k, faI l⟩] k (obI n) = [⟨k, faI (l ++ [n])⟩] := by
  rw [ins_one hk (obI_may n hn), faI_app]
  rfl
theorem fb_ins {k : List Int} (hk : (nameF k).2 = true) (l : List Nat) {n : Nat} (hn : n < 256) : insD (fbT k l) k (obI n) = fbT k (l ++ [n]) := by
  have e : fbT k (l ++ [n]) = [⟨k, obI (topN (l ++ [n]))⟩] := by unfold fbT; rw [if_neg (by simp)]
  rw [e]
  unfold fbT
  by_cases h : l = []
  · subst h
    rw [if_pos rfl, (ins_none hk (obI_may n hn)).2]
    rw [topN_app]
    show _ = [(⟨k, obI (max 0 n)⟩ : WrP)]
    rw [Nat.max_eq_right (Nat.zero_le _)]
  · rw [if_neg h, ins_one hk (obI_may n hn), topN_app]
    have hv : ∀ m, (obI m).ver = m := fun _ => rfl
    rw [hv, hv]
    by_cases h2 : topN l < n
    · rw [if_pos h2, Nat.max_eq_right (by omega)]
    · rw [if_neg h2, Nat.max_eq_left (by omega)]
theorem fb_get (k : List Int) (l : List Nat) : getT (fbT k l) k = if l = [] then none else some (obI (topN l)) := by
  unfold fbT
  by_cases h : l = []
  · rw [if_pos h, if_pos h]; rfl
  · rw [if_neg h, if_neg h, get_one]
section
variable {D : World → Nat → (Nat → Prop) → List WrP → Prop}
/-- Two tables side by side, and nothing below w turned since. -/
structure Two13 (D : World → Nat → (Nat → Prop) → List WrP → Prop) (w : World) (p q : Nat) (F G : Nat → Prop) (s t : List WrP) (W : World) : Prop where
  a : D W p F s
  b : D W q G t
  fa : ∀ k, F k → w.heap.size ≤ k
  fb : ∀ k, G k → w.heap.size ≤ k
  ap : ∀ k, F k → ¬ G k
  B : Below w.heap.size w W
theorem Two13.below (H : TableDo D) {w W W' : World} {p q : Nat} {F G : Nat → Prop} {s t : List WrP} (h : Two13 D w p q F G s t W) (hB : Below W.heap.size W W') : Two13 D w p q F G s t W' :=
  ⟨H.below h.a hB, H.below h.b hB, h.fa, h.fb, h.ap, h.B.trans (hB.mono h.B.size)⟩
theorem Two13.swap {w W : World} {p q : Nat} {F G : Nat → Prop} {s t : List WrP} (h : Two13 D w p q F G s t W) : Two13 D w q p G F t s W := ⟨h.b, h.a, h.fb, h.fa, fun k hg hf => h.ap k hf hg, h.B⟩
theorem Two13.did (H : TableDo D) {w W W' : World} {p q : Nat} {F G : Nat → Prop} {s s' t : List WrP} (h : Two13 D w p q F G s t W) (h2 : TDid D W W' p F s') : ∃ F', Two13 D w p q F' G s' t W' := by
  obtain ⟨F', h1, hk, hF⟩ := h2
  refine ⟨F', h1, H.keep h.b hk (fun k hg hf => h.ap k hf hg), fun k hk' => ?_, h.fb, fun k hf hg => ?_, h.B.trans (hk.below h.B.size h.fa)⟩
  · rcases hF k hk' with e | e
    · exact h.fa k e
    · exact Nat.le_trans h.B.size e
  · rcases hF k hf with e | e
    · exact h.ap k e hg
    · have := H.lt h.b k hg; omega
end
end
section
open Go.RowKit Classical

def kk (j : Nat) : List Int := [107, (j : Int) + 1, 0, 0, 0, 0, 0, 0]
theorem kk_ok {j : Nat} (h : j < 200) : KeyOk (kk j) := ⟨rfl, fun c hc => by
  have : c = 107 ∨ c = (j : Int) + 1 ∨ c = 0 := by simpa [kk, or_assoc] using hc
  omega⟩
theorem kk_may {j : Nat} (h : j < 200) : (nameF (kk j)).2 = true := by
  have h1 : ((j : Int) + 1 = 0) = False := by simp; omega
  have ha : aheadF (kk j) = [107, (j : Int) + 1] := by simp [kk, aheadF, h1]
  unfold nameF
  rw [ha, if_neg]
  simp [kk]
theorem kk_lt {i j : Nat} (h : i < j) : lexF (kk i) (kk j) < 0 := by
  have h1 : cmpF 107 107 = 0 := by decide
  have h2 : cmpF ((i : Int) + 1) ((j : Int) + 1) = -1 := by unfold cmpF; rw [if_pos (by omega)]
  show orF (cmpF 107 107) (orF (cmpF ((i : Int) + 1) ((j : Int) + 1)) _) < 0
  rw [h1, h2]
  unfold orF
  simp
/-- So many of them. -/
def kT (j : Nat) : List WrP := (List.range j).map fun i => ⟨kk i, oneI 1 []⟩
theorem kT_succ (j : Nat) : kT (j + 1) = kT j ++ [⟨kk j, oneI 1 []⟩] := by
  unfold kT
  rw [List.range_succ, List.map_append]
  rfl
theorem kT_len (j : Nat) : (kT j).length = j := by simp [kT]
theorem kT_mem {j : Nat} {x : WrP} : x ∈ kT j ↔ ∃ i, i < j ∧ x = ⟨kk i, oneI 1 []⟩ := by
  unfold kT
  rw [List.mem_map]
  constructor
  · rintro ⟨i, hi, rfl⟩
    exact ⟨i, by simpa using hi, rfl⟩
  · rintro ⟨i, hi, rfl⟩
    exact ⟨i, by simpa using hi, rfl⟩
theorem all_up {t : List WrP} {k : List Int} (h : ∀ x ∈ t, lexF x.key k < 0) : upT t k = t ∧ dnT t k = [] := by
  induction t with
  | nil => exact ⟨rfl, rfl⟩
  | cons x l ih =>
    have hx := h x List.mem_cons_self
    have := ih (fun y hy => h y (List.mem_cons_of_mem _ hy))
    unfold upT dnT at this ⊢
    rw [List.takeWhile_cons, List.dropWhile_cons]
    simp [hx, this.1, this.2]
theorem kT_up (j : Nat) : upT (kT j) (kk j) = kT j ∧ dnT (kT j) (kk j) = [] := all_up (fun x hx => by
  obtain ⟨i, hi, rfl⟩ := kT_mem.1 hx
  exact kk_lt hi)
theorem kT_add {j : Nat} (h : j < 64) : insA (kT j) (kk j) (oneI 1 []) = 0 ∧ insD (kT j) (kk j) (oneI 1 []) = kT (j + 1) := by
  have hg : getT (kT j) (kk j) = none := by unfold getT; rw [(kT_up j).2]
  have hA : insA (kT j) (kk j) (oneI 1 []) = 0 := by
    unfold insA
    rw [kk_may (by omega), one_may 1 [] (by decide) (by decide), hg, kT_len]
    simp
    omega
  refine ⟨hA, ?_⟩
  unfold insD
  rw [if_pos hA, kT_succ]
  unfold putT reT
  rw [(kT_up j).1, (kT_up j).2]
theorem kT_full {j : Nat} (h : 64 ≤ j) (h2 : j < 200) : insA (kT 64) (kk j) (oneI 1 []) = 5 ∧ insD (kT 64) (kk j) (oneI 1 []) = kT 64 := by
  have hg : getT (kT 64) (kk j) = none := by
    unfold getT
    rw [(all_up (t := kT 64) (k := kk j) (fun x hx => by
      obtain ⟨i, hi, rfl⟩ := kT_mem.1 hx
      exact kk_lt (by omega))).2]
  have hA : insA (kT 64) (kk j) (oneI 1 []) = 5 := by
    unfold insA
    rw [kk_may h2, one_may 1 [] (by decide) (by decide), hg, kT_len]
    rfl
  exact ⟨hA, ins_same (by rw [hA]; decide)⟩
theorem kT_rise (j : Nat) : (kT j).Pairwise fun a b => lexF a.key b.key < 0 := by
  induction j with
  | zero => exact List.Pairwise.nil
  | succ j ih =>
    rw [kT_succ, List.pairwise_append]
    refine ⟨ih, List.pairwise_singleton _ _, fun a ha b hb => ?_⟩
    obtain ⟨i, hi, rfl⟩ := kT_mem.1 ha
    obtain rfl := List.mem_singleton.1 hb
    exact kk_lt hi
theorem kT_ok {j : Nat} (h : j ≤ 64) : TbOk (kT j) := ⟨kT_rise j, fun x hx => by obtain ⟨i, _, rfl⟩ := kT_mem.1 hx; rfl, by rw [kT_len]; exact h⟩
theorem kT_again {j : Nat} (h0 : 0 < j) (h : j ≤ 64) : insA (kT j) (kk 0) (oneI 2 []) = 0 ∧ (insD (kT j) (kk 0) (oneI 2 [])).length = j := by
  have hg : getT (kT j) (kk 0) = some (oneI 1 []) := (get_iff (kT_ok h) _ _).2 (kT_mem.2 ⟨0, h0, rfl⟩)
  have hA : insA (kT j) (kk 0) (oneI 2 []) = 0 := by
    unfold insA
    rw [kk_may (by omega), one_may 2 [] (by decide) (by decide), hg]
    rfl
  refine ⟨hA, ?_⟩
  unfold insD
  rw [if_pos hA, put_len, hg]
  simp [kT_len]
end
end Go.Proofs.Ytlngejmojpkdkaa
