/-
  Own texts put together: CopyAt, IdKey, IdName, CWriter, CReader. Own work.
-/
import Derived.Test.YtlegliimgjmphaaGreatG01
import Derived.Test.YtlegliimgjmphaaGreatG15
import Derived.Test.YtlegliimgjmphaaGreatG05
import Derived.Test.YtlegliimgjmphaaGreatG07
import Derived.Test.YtlegliimgjmphaaGreatG10
import Derived.Test.YtlegliimgjmphaaGreatG02
import Derived.Laws.CopyRow
import Derived.Laws.IdiomCopy
import Derived.Lib.BufferWrite
import Derived.Shelf.Abstract
import Derived.Lib.BytesEntry
import Derived.Deep.QuietTactic
import Derived.BigQuiet
import Derived.Laws.IdiomStrings
namespace Go.Proofs.YtlegliimgjmphaaGreat
section
open Go.RowKit
def cells8 (xs : List Int) : Array Value := (xs.map (Value.int .u8)).toArray
theorem cells8_size (xs : List Int) : (cells8 xs).size = xs.length := by simp [cells8]
theorem cells8_one (xs : List Int) : (cells8 xs).all (·.oneCell') = true := by simp [cells8, Value.oneCell']
theorem run_copy_at (w : World) (ty : TypeId) (p off n cap : Nat) (t : TypeId) (cs ys zs : List Int) (hb : Box w p (cells8 cs) t) (vx : Value) (hL : Lies .u8 w vx ys) (m : Nat) (hm : Nat.min ys.length n = m) (hfit : off + m ≤ cs.length)
  (hz : zs = cs.take off ++ ys.take m ++ cs.drop (off + m)) :
  ∃ w', (Builtin.copy_ #[29, 29] ty #[.slice (some ⟨p, off, none⟩) n cap, vx]).run Tryz.prog w = .ok (.int .i64 m) w' ∧ Box w' p (cells8 zs) t ∧ KeepBut (fun k => k = p) w w' := by
 obtain ⟨i0, hi, hz0, hz1, hz2⟩ := info_parts info5
 by_cases h0 : m = 0
 ·subst h0
  obtain ⟨ao, c, rfl⟩ := hL.shape
  have e : zs = cs := by rw [hz]; simp
  rw [e]
  exact ⟨w, run_copy_none (P := Tryz.prog) w 29 29 ty 5 _ _ _ _ _ _ Tryz.underlying29 (by simp [hi, hz1]) hm, hb, KeepBut.refl _ _⟩
 ·rcases hL with ⟨rfl, _⟩ | ⟨hne, b, o2, c2, rfl, hlt, hl, hmx, hc⟩
  ·simp at hm; omega
  ·have hmy : m ≤ ys.length := by rw [← hm]; exact Nat.min_le_left _ _
   have hlen : ((ys.take m).map (Value.int .u8)).length = m := by simp; omega
   have hr := run_copy_row (P := Tryz.prog) w 29 29 ty 5 p off n cap ⟨b, o2, none⟩ ys.length c2 (cells8 cs) t ((ys.take m).map (Value.int .u8)) Tryz.underlying29 (by simp [hi, hz1]) hb
    (by rw [hlen]; exact hm.symm) (fun j v hj => by
     have hjl : j < m := by have := (List.getElem?_eq_some_iff.1 hj).1; omega
     rw [Addr.add_lit, hc j (by omega)]
     rw [List.getElem?_map, List.getElem?_take_of_lt hjl] at hj
     simp [List.getD] at hj ⊢
     obtain ⟨x, h1, h2⟩ := hj
     simp [h1, h2]) (by rw [hlen, cells8_size]; exact hfit) (ints_oneCell _ _)
   rw [hlen] at hr
   have e : ((cells8 cs).toList.take off ++ (ys.take m).map (Value.int .u8) ++ (cells8 cs).toList.drop (off + m)).toArray = cells8 zs := by
    rw [hz]; simp [cells8]
   rw [e] at hr
   exact ⟨_, hr, setRow_heap w p _ _ t (0, 0) hb, ⟨rfl, rfl, rfl, by simp [World.setRow], fun k _ hS => setRow_other w p k _ hS⟩⟩
theorem wp_copy_at {ops : Array Oper} {rest : List Oper} {o : Oper} {a : Act} {Q : Exit → Act → World → Prop} (w : World) (hgd : o.guard = none) (d s : Operand)
  (ho : o.op = .call { callee := .builtin .copy, args := #[d, s], argTypes := #[29, 29] }) (p off n cap : Nat) (t : TypeId) (cs ys zs : List Int) (hb : Box w p (cells8 cs) t) (hd : a.eval d = .slice (some ⟨p, off, none⟩) n cap)
  (vx : Value) (hs : a.eval s = vx) (hL : Lies .u8 w vx ys) (m : Nat) (hm : Nat.min ys.length n = m) (hfit : off + m ≤ cs.length) (hz : zs = cs.take off ++ ys.take m ++ cs.drop (off + m))
  (h : ∀ w', Box w' p (cells8 zs) t → KeepBut (fun k => k = p) w w' → wpList Tryz.prog ops Q rest (a.put o.dst (.int .i64 m)) w') : wpList Tryz.prog ops Q (o :: rest) a w := by
 obtain ⟨w', hr, h1, h2⟩ := run_copy_at w o.type p off n cap t cs ys zs hb vx hL m hm hfit hz
 refine wpList_plain hgd fun K hK => ?_
 unfold Oper.wp execOp
 simp only [ho, resolve, invoke, builtin, Sem.run_bind, Sem.run_pure, Result.andThen_ok, List.map_toArray, List.map_cons, List.map_nil, hd, hs, hr]
 exact hK _ _ (h _ h1 h2)
theorem step_copy_at {ops : Array Oper} {o : Oper} {a : Act} {K : Act → World → Prop} {Q : Exit → Act → World → Prop} {E : Prop} (w : World) (hgd : o.guard = none) (d s : Operand)
  (ho : o.op = .call { callee := .builtin .copy, args := #[d, s], argTypes := #[29, 29] }) (p off n cap : Nat) (t : TypeId) (cs ys zs : List Int) (hb : Box w p (cells8 cs) t) (hd : a.eval d = .slice (some ⟨p, off, none⟩) n cap)
  (vx : Value) (hs : a.eval s = vx) (hL : Lies .u8 w vx ys) (m : Nat) (hm : Nat.min ys.length n = m) (hfit : off + m ≤ cs.length) (hz : zs = cs.take off ++ ys.take m ++ cs.drop (off + m))
  (h : ∀ w', Box w' p (cells8 zs) t → KeepBut (fun k => k = p) w w' → K (a.put o.dst (.int .i64 m)) w') : if Region.wanted o (yielded ops a.tmps) = true then Oper.wp Tryz.prog o a w K Q else E := by
 have hw : Region.wanted o (yielded ops a.tmps) = true := by simp [Region.wanted, hgd]
 rw [if_pos hw]
 obtain ⟨w', hr, h1, h2⟩ := run_copy_at w o.type p off n cap t cs ys zs hb vx hL m hm hfit hz
 unfold Oper.wp execOp
 simp only [ho, resolve, invoke, builtin, Sem.run_bind, Sem.run_pure, Result.andThen_ok, List.map_toArray, List.map_cons, List.map_nil, hd, hs, hr]
 exact h _ h1 h2
theorem wp_copy_str {ops : Array Oper} {rest : List Oper} {o : Oper} {a : Act} {Q : Exit → Act → World → Prop} (w : World) (hgd : o.guard = none) (d s : Operand)
  (ho : o.op = .call { callee := .builtin .copy, args := #[d, s], argTypes := #[29, 9] }) (p off n cap : Nat) (t : TypeId) (cs zs : List Int) (hb : Box w p (cells8 cs) t) (hd : a.eval d = .slice (some ⟨p, off, none⟩) n cap)
  (st : ByteArray) (hs : a.eval s = .string st) (hle : st.size ≤ n) (hfit : off + st.size ≤ cs.length) (hz : zs = cs.take off ++ (st.data.toList.map fun b => (b.toNat : Int)) ++ cs.drop (off + st.size))
  (h : ∀ w', Box w' p (cells8 zs) t → KeepBut (fun k => k = p) w w' → wpList Tryz.prog ops Q rest (a.put o.dst (.int .i64 st.size)) w') : wpList Tryz.prog ops Q (o :: rest) a w := by
 obtain ⟨i0, hi, hz0, hz1, hz2⟩ := info_parts info5
 have hr := Lib.run_copy_row_string (P := Tryz.prog) w 29 9 o.type 5 p off n cap st (cells8 cs) t Tryz.underlying29 (by simp [hi, hz1]) hb hle (by rw [cells8_size]; exact hfit)
 have e : ((cells8 cs).toList.take off ++ Lib.byteCells st.data.toList ++ (cells8 cs).toList.drop (off + st.size)).toArray = cells8 zs := by
  rw [hz]; simp [cells8, Lib.byteCells]
 rw [e] at hr
 refine wpList_plain hgd fun K hK => ?_
 unfold Oper.wp execOp
 simp only [ho, resolve, invoke, builtin, Sem.run_bind, Sem.run_pure, Result.andThen_ok, List.map_toArray, List.map_cons, List.map_nil, hd, hs, hr]
 exact hK _ _ (h _ (setRow_heap w p _ _ t (0, 0) hb) ⟨rfl, rfl, rfl, by simp [World.setRow], fun k _ hS => setRow_other w p k _ hS⟩)
end
section
open Go.RowKit
def numsS (s : ByteArray) : List Int := s.data.toList.map fun b => (b.toNat : Int)
theorem numsS_length (s : ByteArray) : (numsS s).length = s.size := by
 obtain ⟨d⟩ := s
 simp [numsS, ByteArray.size]
theorem numsS_byte (s : ByteArray) : ∀ c ∈ numsS s, 0 ≤ c ∧ c < 256 := by
 intro c hc
 simp only [numsS, List.mem_map] at hc
 obtain ⟨b, _, rfl⟩ := hc
 have := b.toNat_lt
 omega
theorem bytesOf_numsS (s : ByteArray) : Lib.bytesOf (numsS s) = s.data.toList := by
 unfold Lib.bytesOf numsS
 rw [List.map_map]
 conv => rhs; rw [← List.map_id s.data.toList]
 apply List.map_congr_left
 intro b _
 simp
theorem infoKeyI : (Tryz.prog.info? 81).map (·.size) = some 8 := by kernel_rfl
theorem results_box2 {P : Program} {fn : Func} {q t1 : Tmp} {t t0 : TypeId} {d : TypeDesc} (h : fn.results = #[.cell q t, .tmp t1]) (tmps : Array Value) (w : World) (p : Nat) (hq : tmps.getD q undef = .pointer (some ⟨p, 0, none⟩)) {v1 : Value} (h1 : tmps.getD t1 undef = v1) {cs : Array Value} (hb : Box w p cs t0)
  (hu : P.underlying t = some d) (hd : d.isRow = true) (hi : (P.info? t).map (·.size) = some cs.size) : (results fn tmps).run P w = .ok (.tuple #[.agg cs, v1]) w := by
 subst h1
 have hr : w.rangeAt p 0 cs.toList := fun j v hv => by
  rw [Nat.zero_add]; exact hb.cell j v (by simpa using hv)
 have hl := run_loadVar_mid (P := P) w p 0 t cs.toList d hr hu hd (by simpa using hi)
 have hq' : tmps[q]?.getD undef = .pointer (some ⟨p, 0, none⟩) := by rw [← Array.getD_eq_getD_getElem?]; exact hq
 simp only [results, h]
 simp [hq', asAddr, hl]
set_option maxRecDepth 100000 in
theorem slidx_any (s : ByteArray) (c : Int) (w : World) : Calls Tryz.prog 263 #[.string s, .int .u8 c] w fun e w' => e = .returned (.int .i64 (Lib.indexByte s.data.toList c.toNat.toUInt8)) ∧ w' = w := by
 go_enter Tryz.func263, Tryz.ntmps263
 go_wp2
 rw [run_callFunc_extern Tryz.func267 (by kernel_rfl) (by kernel_rfl) (by kernel_rfl) (e := Extern.BytealgIndexByte.indexByte) (by kernel_rfl), Lib.run_indexByteString]
 simp only [Result.andThen]
 rw [Oper.upon_value]
 go_wp2
 go_ret
 exact ⟨rfl, rfl⟩
theorem stidx_any (s : ByteArray) (c : Int) (w : World) : Calls Tryz.prog 252 #[.string s, .int .u8 c] w fun e w' => e = .returned (.int .i64 (Lib.indexByte s.data.toList c.toNat.toUInt8)) ∧ w' = w := by
 go_enter Tryz.func252, Tryz.ntmps252
 go_wp2_with (go_at_call 263; refine (slidx_any _ _ _).mono ?_; rintro e w' ⟨rfl, rfl⟩)
 go_ret
 exact ⟨rfl, rfl⟩
abbrev zeroC : Array Value := #[.int .u8 0, .int .u8 0, .int .u8 0, .int .u8 0, .int .u8 0, .int .u8 0, .int .u8 0, .int .u8 0]
theorem drop_zero8 (n : Nat) : zero8i.drop n = List.replicate (8 - n) 0 := by
 rw [show zero8i = List.replicate 8 (0 : Int) from rfl, List.drop_replicate]
theorem keyOfF_bad {xs : List Int} (h : xs.length = 0 ∨ 8 < xs.length ∨ 0 ∈ xs) : keyOfF xs = (zero8i, 1) := by unfold keyOfF; rw [if_pos h]
set_option maxRecDepth 100000 in
set_option maxHeartbeats 1600000 in
theorem keyOf_any (s : ByteArray) (hs : s.size ≤ maxLen) (w : World) :
  Calls Tryz.prog 239 #[.string s] w fun e w' => e = .returned (.tuple #[.agg (cells8 (keyOfF (numsS s)).1), .int .i64 (keyOfF (numsS s)).2]) ∧ Below w.heap.size w w' := by
 unfold maxLen at hs
 have hlen := numsS_length s
 have hix := index_zero (numsS s) (numsS_byte s)
 rw [bytesOf_numsS] at hix
 have HI := hide infoKeyI
 have hbA := (Below.refl w.heap.size w).alloc (Nat.le_refl _) (.cells zeroC 81)
 have hbB := hbA.alloc (by simp) (.cells zeroC 81)
 have HB := hide hbB
 have HBR : Hid (Box ((w.alloc (.cells zeroC 81)).alloc (.cells zeroC 81)) w.heap.size zeroC 81) := hide ((box_new w zeroC 81).keep (KeepBut.of_below (fun _ => False) ((Below.refl _ _).alloc (Nat.le_refl _) _)) id)
 have HBK : Hid (Box ((w.alloc (.cells zeroC 81)).alloc (.cells zeroC 81)) (w.heap.size + 1) (cells8 zero8i) 81) := hide (by
  have := box_new (w.alloc (.cells zeroC 81)) zeroC 81
  rw [show cells8 zero8i = zeroC from rfl]
  simpa using this)
 have HZS : Hid ((zeroC).size = (cells8 (numsS s ++ List.replicate (8 - s.size) 0)).size ∨ ¬ s.size ≤ 8) := hide (by
  by_cases h8 : s.size ≤ 8
  ·left; rw [cells8_size]; simp [hlen]; omega
  ·exact .inr h8)
 clear hbA hbB
 have he0 : ∀ z : Int, z = 0 → Lib.indexByte s.data.toList z.toNat.toUInt8 = Lib.indexByte s.data.toList 0 := fun z hz => by rw [hz]; rfl
 have HCI : Hid (∀ w, Calls Tryz.prog 252 #[.string s, .int .u8 0] w fun e w' => e = .returned (.int .i64 (Lib.indexByte s.data.toList 0)) ∧ w' = w) := hide (fun w => stidx_any s 0 w)
 clear he0
 generalize hxs : numsS s = xs at *
 generalize Lib.indexByte s.data.toList 0 = ix at *
 by_cases hbad : xs.length = 0 ∨ 8 < xs.length ∨ 0 ∈ xs
 ·rw [keyOfF_bad hbad]
  have HCE : Hid (cells8 zero8i = zeroC) := hide rfl
  by_cases h1 : s.size = 0
  ·have h1' : (s.size : Int) = 0 := by omega
   clear hbad hix hlen HZS
   go_enter Tryz.func239, Tryz.ntmps239
   go_wp2_with fail
   exact bodyPost_ret (v := .tuple #[.agg zeroC, .int .i64 1]) (results_box2 (v1 := .int .i64 1) Tryz.results239 _ _ w.heap.size rfl rfl HBR.out Tryz.underlying81 rfl HI.out) rfl ⟨rfl, HB.out⟩
  ·by_cases h2 : 8 < s.size
   ·have h1' : ((s.size : Int) == 0) = false := beq_eq_false_iff_ne.2 (by omega)
    have h2' : (8 : Int) < (s.size : Int) := by omega
    clear hbad hix hlen HZS
    go_enter Tryz.func239, Tryz.ntmps239
    go_wp2_with fail
    exact bodyPost_ret (v := .tuple #[.agg zeroC, .int .i64 1]) (results_box2 (v1 := .int .i64 1) Tryz.results239 _ _ w.heap.size rfl rfl HBR.out Tryz.underlying81 rfl HI.out) rfl ⟨rfl, HB.out⟩
   ·have h0 : (0 : Int) ∈ xs := by
     rcases hbad with h | h | h
     ·omega
     ·omega
     ·exact h
    rw [if_pos h0] at hix
    have hix0 : 0 ≤ ix := by omega
    have h1' : ((s.size : Int) == 0) = false := beq_eq_false_iff_ne.2 (by omega)
    have h2' : decide ((8 : Int) < (s.size : Int)) = false := decide_eq_false (by omega)
    clear hbad hix hlen HZS h0 h1 h2
    go_enter Tryz.func239, Tryz.ntmps239
    go_wp2_with (go_at_call 252; refine (HCI.out _).mono ?_; rintro e w' ⟨rfl, rfl⟩)
    exact bodyPost_ret (v := .tuple #[.agg zeroC, .int .i64 1]) (results_box2 (v1 := .int .i64 1) Tryz.results239 _ _ w.heap.size rfl rfl HBR.out Tryz.underlying81 rfl HI.out) rfl ⟨rfl, HB.out⟩
 ·have hE : keyOfF xs = (xs ++ List.replicate (8 - xs.length) 0, 0) := by unfold keyOfF; rw [if_neg hbad]
  simp only [not_or] at hbad
  rw [if_neg hbad.2.2] at hix
  have h1' : ((s.size : Int) == 0) = false := beq_eq_false_iff_ne.2 (by omega)
  have h2' : decide ((8 : Int) < (s.size : Int)) = false := decide_eq_false (by omega)
  have hs8 : s.size ≤ 8 := by omega
  have HZ : Hid (xs ++ List.replicate (8 - xs.length) 0 = zero8i.take 0 ++ (s.data.toList.map fun b => (b.toNat : Int)) ++ zero8i.drop (0 + s.size)) := hide (by
   have : (s.data.toList.map fun b => (b.toNat : Int)) = xs := hxs
   rw [this, ← hlen, Nat.zero_add, drop_zero8]
   rfl)
  rw [hE]
  have HL8 : Hid ((xs ++ List.replicate (8 - xs.length) 0).length = 8) := hide (by simp; omega)
  generalize xs ++ List.replicate (8 - xs.length) 0 = ks at *
  have HS8 : Hid ((cells8 ks).size = 8) := hide (by rw [cells8_size]; exact HL8.out)
  have HI2 : Hid ((Tryz.prog.info? 81).map (·.size) = some (cells8 ks).size) := hide (by rw [HS8.out]; exact HI.out)
  have HZZ : Hid ((zeroC : Array Value).size = (cells8 ks).size) := hide (by rw [HS8.out]; rfl)
  have HO : Hid ((cells8 ks).all (·.oneCell') = true) := hide (cells8_one ks)
  obtain ⟨h0a, h0b, h0c⟩ := hbad
  clear hlen HZS h0a h0b h0c hE hxs
  subst hix
  go_enter Tryz.func239, Tryz.ntmps239
  go_wp2_with (first
   | (go_at_call 252; refine (HCI.out _).mono ?_; rintro e w' ⟨rfl, rfl⟩)
   | (refine wp_copy_str _ rfl _ _ rfl (w.heap.size + 1) 0 8 8 81 zero8i ks HBK.out rfl s rfl hs8 (by simp [zero8i]; omega) HZ.out ?_; intro w2 hb2 hk2; have HB2 := hide hb2; have HK2 := hide hk2; have HR2 := hide (HBR.out.keep hk2 (fun e => absurd e (by omega))); clear hb2 hk2)
   | (refine wp_load_box rfl _ rfl _ rfl HB2.out Tryz.underlying81 rfl HI2.out ?_)
   | (refine wp_store_box rfl rfl _ _ rfl _ rfl rfl HR2.out HZZ.out HI2.out HO.out ?_; intro w3 hb3 hk3; have HB3 := hide hb3; have HK3 := hide hk3; clear hb3 hk3))
  refine bodyPost_ret (v := .tuple #[.agg (cells8 ks), .int .i64 0]) (results_box2 (v1 := .int .i64 0) Tryz.results239 _ _ w.heap.size rfl rfl HB3.out Tryz.underlying81 rfl HI2.out) rfl ⟨rfl, ?_⟩
  exact (HB.out.trans (HK2.out.below HB.out.size (fun k hk => by omega))).trans (HK3.out.below (Nat.le_trans HB.out.size HK2.out.size) (fun k hk => by omega))
end
section
open Go.RowKit
set_option maxRecDepth 100000 in
theorem bindex_any (w : World) (b off c : Nat) (xs : List Int) (hc : ∀ t, t < xs.length → w.cell? ⟨b, off + t, none⟩ = some (.int .u8 (xs.getD t 0))) (hx : ∀ c ∈ xs, 0 ≤ c ∧ c < 256) :
  Calls Tryz.prog 258 #[.slice (some ⟨b, off, none⟩) xs.length c, .int .u8 0] w fun e w' => e = .returned (.int .i64 (if 0 ∈ xs then ((aheadF xs).length : Int) else -1)) ∧ w' = w := by
 have hr := Lib.run_indexByteSlice (P := Tryz.prog) w b off xs.length c xs rfl hc 0
 have h0 : Lib.indexByte (Lib.bytesOf xs) (0 : Int).toNat.toUInt8 = if 0 ∈ xs then ((aheadF xs).length : Int) else -1 := index_zero xs hx
 rw [h0] at hr
 generalize (if 0 ∈ xs then ((aheadF xs).length : Int) else -1) = r at *
 generalize xs.length = n at *
 clear hc hx h0
 go_enter Tryz.func258, Tryz.ntmps258
 go_wp2
 rw [run_callFunc_extern Tryz.func265 (by kernel_rfl) (by kernel_rfl) (by kernel_rfl) (e := Extern.BytealgIndexByte.indexByte) (by kernel_rfl), hr]
 simp only [Result.andThen]
 rw [Oper.upon_value]
 go_wp2
 go_ret
 exact ⟨rfl, rfl⟩
set_option maxRecDepth 100000 in
set_option maxHeartbeats 1600000 in
theorem index1_any (w : World) (b off c b2 c2 : Nat) (xs : List Int) (hc : ∀ t, t < xs.length → w.cell? ⟨b, off + t, none⟩ = some (.int .u8 (xs.getD t 0))) (hx : ∀ c ∈ xs, 0 ≤ c ∧ c < 256) (hs : w.cell? ⟨b2, 0, none⟩ = some (.int .u8 0)) :
  Calls Tryz.prog 251 #[.slice (some ⟨b, off, none⟩) xs.length c, .slice (some ⟨b2, 0, none⟩) 1 c2] w fun e w' => e = .returned (.int .i64 (if 0 ∈ xs then ((aheadF xs).length : Int) else -1)) ∧ w' = w := by
 have C := hide (bindex_any w b off c xs hc hx)
 generalize (if 0 ∈ xs then ((aheadF xs).length : Int) else -1) = r at *
 generalize xs.length = n at *
 clear hc hx
 go_enter Tryz.func251, Tryz.ntmps251
 go_wp2_with (go_at_call 258; refine C.out.mono ?_; rintro e w' ⟨rfl, rfl⟩)
 go_ret
 exact ⟨rfl, rfl⟩
set_option maxRecDepth 100000 in
set_option maxHeartbeats 1600000 in
theorem cut_any (w : World) (b b2 : Nat) (ks : List Int) (hl : ks.length = 8) (hc : ∀ t, t < ks.length → w.cell? ⟨b, 0 + t, none⟩ = some (.int .u8 (ks.getD t 0))) (hx : ∀ c ∈ ks, 0 ≤ c ∧ c < 256) (hs : w.cell? ⟨b2, 0, none⟩ = some (.int .u8 0)) :
  Calls Tryz.prog 238 #[.slice (some ⟨b, 0, none⟩) 8 8, .slice (some ⟨b2, 0, none⟩) 1 1] w fun e w' => ∃ x y n, e = .returned (.tuple #[.slice (some ⟨b, 0, none⟩) (aheadF ks).length 8, x, y]) ∧ w' = w.drewN n := by
 have hC := index1_any w b 0 8 b2 1 ks hc hx hs
 rw [hl] at hC
 have hle := aheadF_le ks
 rw [hl] at hle
 by_cases h0 : (0 : Int) ∈ ks
 ·rw [if_pos h0] at hC
  have hlt : (aheadF ks).length < 8 := by
   rcases Nat.lt_or_ge (aheadF ks).length 8 with h | h
   ·exact h
   ·have e : aheadF ks = ks := by
     have := aheadF_take ks
     rw [List.take_of_length_le (by omega)] at this
     exact this
    have h1 := aheadF_no ks
    rw [e] at h1
    exact absurd h0 h1
  have C := hide hC
  have HTO := fun w => run_to w .i64 (some ⟨b, 0, none⟩) 8 8 (aheadF ks).length (by omega)
  have HFR := fun w => run_from w (some ⟨b, 0, none⟩) 8 8 ((aheadF ks).length + 1) (by omega)
  generalize (aheadF ks).length = n at *
  have hnat : (((n + 1 : Nat)) : Int) = (n : Int) + 1 := by omega
  rw [hnat] at HFR
  generalize (if 8 = n + 1 then (some ⟨b, 0, none⟩ : Option Addr) else (some ⟨b, 0, none⟩ : Option Addr).map (·.add ((n + 1) * 1))) = ao at *
  have hn0 : (0 : Int) ≤ (n : Int) := by omega
  have hnlt : (n : Int) < 8 := by omega
  clear hC hc hx hle hnat
  go_enter Tryz.func238, Tryz.ntmps238
  go_wp2_with (go_at_call 251; refine C.out.mono ?_; rintro e w' ⟨rfl, rfl⟩)
  go_quiet (fail)
  go_wp2
  go_ret3
  exact ⟨_, _, _, rfl, rfl⟩
 ·rw [if_neg h0] at hC
  have C := hide hC
  have HE : Hid ((aheadF ks).length = 8) := hide (by rw [aheadF_all ks h0, hl])
  rw [HE.out]
  clear hC hc hx hle
  go_enter Tryz.func238, Tryz.ntmps238
  go_wp2_with (go_at_call 251; refine C.out.mono ?_; rintro e w' ⟨rfl, rfl⟩)
  go_ret3
  exact ⟨_, _, 0, rfl, rfl⟩
theorem strOf_len (l : List Int) : (strOfNums l).size = l.length := by simp [strOfNums, ByteArray.size]
theorem numsS_strOf (l : List Int) (hl : ∀ c ∈ l, 0 ≤ c ∧ c < 256) : numsS (strOfNums l) = l := by
 unfold numsS
 show (l.map fun n : Int => UInt8.ofNat n.toNat).map _ = l
 rw [List.map_map]
 conv => rhs; rw [← List.map_id l]
 apply List.map_congr_left
 intro c hc
 have := hl c hc
 show ((UInt8.ofNat c.toNat).toNat : Int) = c
 rw [UInt8.toNat_ofNat']
 omega
theorem eight8 (l : List Int) (h : l.length = 8) : ∃ a b c d e f g i, l = [a, b, c, d, e, f, g, i] := by
 match l, h with
 | [a, b, c, d, e, f, g, i], _ => exact ⟨a, b, c, d, e, f, g, i, rfl⟩
set_option maxRecDepth 100000 in
set_option maxHeartbeats 1600000 in
theorem name_any (ks : List Int) (hl : ks.length = 8) (hx : ∀ c ∈ ks, 0 ≤ c ∧ c < 256) (w : World) :
  Calls Tryz.prog 204 #[.agg (cells8 ks)] w fun e w' => e = .returned (.tuple #[.string (strOfNums (nameF ks).1), .bool (nameF ks).2]) ∧ Below w.heap.size w w' := by
 have HE := hide (nameF_by_key ks hl)
 have hbx : ∀ c ∈ aheadF ks, 0 ≤ c ∧ c < 256 := fun c hc => hx c (aheadF_sub ks c hc)
 have hle := aheadF_le ks
 have HK8 := hide (keyOfF_fst (aheadF ks))
 have hK := fun w => keyOf_any (strOfNums (aheadF ks)) (by rw [strOf_len]; unfold maxLen; omega) w
 rw [numsS_strOf _ hbx] at hK
 have CK := hide hK
 have HA0 : Hid (Box ((w.alloc (.cells (cells8 ks) 81)).alloc (.cells #[.int .u8 0] 5)) w.heap.size (cells8 ks) 81) := hide ((box_new w _ _).belowI ((Below.refl _ _).alloc (Nat.le_refl _) _))
 have HS0 : Hid (Box ((w.alloc (.cells (cells8 ks) 81)).alloc (.cells #[.int .u8 0] 5)) (w.heap.size + 1) #[.int .u8 0] 5) := hide (by
  have := box_new (w.alloc (.cells (cells8 ks) 81)) #[.int .u8 0] 5
  rw [World.size_alloc] at this
  exact this)
 have HB0 := hide (((Below.refl w.heap.size w).alloc (Nat.le_refl _) (.cells (cells8 ks) 81)).alloc (by simp) (.cells #[.int .u8 0] 5))
 have CC := hide (cut_any _ w.heap.size (w.heap.size + 1) ks hl (fun t ht => by rw [Nat.zero_add]; exact HA0.out.cell t _ (by simp [cells8, List.getD, ht])) hx (HS0.out.cell 0 _ rfl))
 have HI := hide infoKeyI
 have HS8 : Hid ((cells8 ks).size = 8) := hide (by rw [cells8_size]; exact hl)
 have HI2 : Hid ((Tryz.prog.info? 81).map (·.size) = some (cells8 ks).size) := hide (by rw [HS8.out]; exact HI.out)
 have HL := hide hl
 have HX := hide hx
 have HLIE : Hid (∀ W, Box W w.heap.size (cells8 ks) 81 → Lies .u8 W (.slice (some ⟨w.heap.size, 0, none⟩) (aheadF ks).length 8) (aheadF ks)) := hide (fun W hW => by
  have h8 : Lies .u8 W (.slice (some ⟨w.heap.size, 0, none⟩) ks.length 8) ks := .inr ⟨fun e => by rw [e] at hl; simp at hl, w.heap.size, 0, 8, rfl, hW.lt, by omega, by unfold maxLen; omega, fun t ht => by rw [Nat.zero_add]; exact hW.cell t _ (by simp [cells8, List.getD, ht])⟩
  have h9 := h8.take (n := (aheadF ks).length) hle
  rw [← aheadF_take ks] at h9
  exact h9)
 clear hl hx hbx hle hK
 have HEE : Hid ((keyOfF (aheadF ks)).2 = (keyOfF (aheadF ks)).2) := hide rfl
 obtain ⟨k0, k1, k2, k3, k4, k5, k6, k7, hkk⟩ := eight8 _ HK8.out
 have HEK := hide hkk
 rw [hkk] at CK
 have hcc : cells8 [k0, k1, k2, k3, k4, k5, k6, k7] = #[.int .u8 k0, .int .u8 k1, .int .u8 k2, .int .u8 k3, .int .u8 k4, .int .u8 k5, .int .u8 k6, .int .u8 k7] := rfl
 rw [hcc] at CK
 clear hkk hcc HK8
 generalize (keyOfF (aheadF ks)).2 = E at *
 generalize hca : cells8 ks = ca at *
 have HCA := hide hca
 clear hca
 go_enter Tryz.func204, Tryz.ntmps204
 go_wp2_with fail
 refine CC.out.mono ?_
 rintro e w1 ⟨x, y, n1, rfl, hw1⟩
 have hA1 : Box w1 w.heap.size ca 81 := by rw [hw1]; exact HA0.out
 have HB1 : Hid (Below w.heap.size w w1) := hide (by rw [hw1]; exact below_drewN HB0.out)
 have hcv := (HLIE.out w1 hA1).convert
 have HA1 := hide hA1
 clear hw1 hA1 HA0 HS0 HB0 CC
 generalize (aheadF ks).length = n at *
 go_wp2_with fail
 refine (CK.out _).mono ?_
 rintro e w2 ⟨rfl, hB2⟩
 have HA2 := hide (HA1.out.belowI hB2)
 have HB2 := hide (HB1.out.trans (hB2.mono HB1.out.size))
 clear hB2 hcv
 have HKE : Hid (nameF ks = if E ≠ 0 ∨ [k0, k1, k2, k3, k4, k5, k6, k7] ≠ ks then ([], false) else (aheadF ks, true)) := hide (by rw [HE.out, HEK.out])
 obtain ⟨j0, j1, j2, j3, j4, j5, j6, j7, hj⟩ := eight8 ks HL.out
 have hcj : ca = #[.int .u8 j0, .int .u8 j1, .int .u8 j2, .int .u8 j3, .int .u8 j4, .int .u8 j5, .int .u8 j6, .int .u8 j7] := by rw [← HCA.out, hj]; rfl
 rw [hcj] at HA2
 obtain ⟨y0, y1, y2, y3, y4, y5, y6, y7⟩ := HA2.out.eight
 have hylt := HA2.out.lt
 have hneq := neqi_key k0 k1 k2 k3 k4 k5 k6 k7 j0 j1 j2 j3 j4 j5 j6 j7
 have HEQ : Hid ([k0, k1, k2, k3, k4, k5, k6, k7] = ks ↔ [k0, k1, k2, k3, k4, k5, k6, k7] = [j0, j1, j2, j3, j4, j5, j6, j7]) := hide (by rw [hj])
 have HB3 := hide (HB2.out.trans (((Below.refl w2.heap.size w2).alloc (Nat.le_refl _) (.cells #[.int .u8 k0, .int .u8 k1, .int .u8 k2, .int .u8 k3, .int .u8 k4, .int .u8 k5, .int .u8 k6, .int .u8 k7] 81)).mono HB2.out.size))
 clear hcj hj CK HA1 HA2 HE
 have hst : strOfNums (aheadF ks) = strOfNums (aheadF ks) := rfl
 generalize hst0 : strOfNums (aheadF ks) = st at *
 have HST := hide hst0
 clear hst hst0
 by_cases hE : E = 0
 ·subst hE
  by_cases hq : [k0, k1, k2, k3, k4, k5, k6, k7] = [j0, j1, j2, j3, j4, j5, j6, j7]
  ·have hn : ∀ w, (binOp .neq 81 (.agg #[.int .u8 k0, .int .u8 k1, .int .u8 k2, .int .u8 k3, .int .u8 k4, .int .u8 k5, .int .u8 k6, .int .u8 k7]) (.agg #[.int .u8 j0, .int .u8 j1, .int .u8 j2, .int .u8 j3, .int .u8 j4, .int .u8 j5, .int .u8 j6, .int .u8 j7])).run Tryz.prog w = .ok (.bool false) w := fun w => by rw [hneq, decide_eq_true hq]; rfl
   have HF : Hid (nameF ks = (aheadF ks, true)) := hide (by rw [HKE.out, if_neg]; simp only [not_or, Classical.not_not]; exact ⟨by trivial, HEQ.out.2 hq⟩)
   clear hneq hq
   go_wp2_with fail
   go_ret2
   exact ⟨by rw [HF.out, HST.out]; rfl, HB3.out⟩
  ·have hn : ∀ w, (binOp .neq 81 (.agg #[.int .u8 k0, .int .u8 k1, .int .u8 k2, .int .u8 k3, .int .u8 k4, .int .u8 k5, .int .u8 k6, .int .u8 k7]) (.agg #[.int .u8 j0, .int .u8 j1, .int .u8 j2, .int .u8 j3, .int .u8 j4, .int .u8 j5, .int .u8 j6, .int .u8 j7])).run Tryz.prog w = .ok (.bool true) w := fun w => by rw [hneq, decide_eq_false hq]; rfl
   have HF : Hid (nameF ks = ([], false)) := hide (by rw [HKE.out, if_pos]; exact .inr (fun h => hq (HEQ.out.1 h)))
   clear hneq hq
   go_wp2_with fail
   go_ret2
   exact ⟨by rw [HF.out]; rfl, HB3.out⟩
 ·have hE' : (E != 0) = true := bne_iff_ne.2 hE
  have HF : Hid (nameF ks = ([], false)) := hide (by rw [HKE.out, if_pos (.inl hE)])
  clear hneq hE
  go_wp2_with fail
  go_ret2
  exact ⟨by rw [HF.out]; rfl, HB3.out⟩
end
section
open Go.RowKit
theorem append_lies_at {ops : Array Oper} {rest : List Oper} {o : Oper} {a : Act} {Q : Exit → Act → World → Prop} (w : World) (hgd : o.guard = none) (s x : Operand)
  (ho : o.op = .call { callee := .builtin .append, args := #[s, x], argTypes := #[29, 29] })
  (base : Nat) (v vx : Value) (n : Nat) (ys xs : List Int) (hs : a.eval s = v) (hown : w.ownsRow base 5 1 v n (ys.map (Value.int .u8))) (hx : a.eval x = vx) (hL : Lies .u8 w vx xs)
  (hb : n + xs.length ≤ 140737488355328) (hbase : base ≤ w.heap.size)
  (h : ∀ v' w', w'.ownsRow base 5 1 v' (n + xs.length) ((ys ++ xs).map (Value.int .u8)) → w.grownBy w' v.ownBlock → (v'.ownBlock = v.ownBlock ∨ v'.ownBlock = some w.heap.size) → wpList Tryz.prog ops Q rest (a.put o.dst v') w') :
  wpList Tryz.prog ops Q (o :: rest) a w := by
 obtain ⟨i0, hi, hz0, hz1, hz2⟩ := info_parts info5
 rcases hL with ⟨rfl, ao, cap, rfl, h0⟩ | ⟨_, b, off, cap, rfl, _, _, _, hc⟩
 ·cases ao with
  | none =>
   obtain rfl := h0 rfl
   exact wpList_append_own_none hgd s x 29 ho base 5 i0 1 Tryz.underlying29 hi v n _ hs hown hx (h v w (by simpa using hown) (World.grownBy.refl _ _) (.inl rfl))
  | some ad =>
   exact wpList_append_own_at w hgd s x 29 ho base 5 i0 (.int .u8 0) 1 1 Tryz.underlying29 hi hz0 hz1 hz2 rfl (by decide) v n _ hs hown ad 0 cap [] hx rfl (fun j u hj => by simp at hj) (fun u hu => by simp at hu)
    (by unfold maxLen; simp at hb; omega) (by simp at hb; omega) hbase (fun v' w' h1 h2 _ h4 => h v' w' (by simpa using h1) h2 h4)
 ·exact wpList_append_own_at w hgd s x 29 ho base 5 i0 (.int .u8 0) 1 1 Tryz.underlying29 hi hz0 hz1 hz2 rfl (by decide) v n _ hs hown ⟨b, off, none⟩ xs.length cap (xs.map (Value.int .u8)) hx (by simp)
    (fun j u hu => by
     have hj : j < xs.length := by
      have := (List.getElem?_eq_some_iff.1 hu).1
      simpa using this
     rw [Addr.add_lit, hc j hj]
     simp [hj] at hu ⊢
     exact hu) (ints_oneCell _ _)
    (by unfold maxLen; omega) (by omega) hbase (fun v' w' h1 h2 _ h4 => h v' w' (by simpa using h1) h2 h4)
theorem wp_bytes_of_str {ops : Array Oper} {rest : List Oper} {o : Oper} {a : Act} {Q : Exit → Act → World → Prop} (w : World) (hgd : o.guard = none) (x : Operand) (ho : o.op = .convert 9 29 x) (s : ByteArray)
  (hx : a.eval x = .string s) (hs : s.size ≤ 140737488355328) (h : ∀ v' w', Lies .u8 w' v' (strI s) → Below w.heap.size w w' → wpList Tryz.prog ops Q rest (a.put o.dst v') w') : wpList Tryz.prog ops Q (o :: rest) a w := by
 refine wpList_plain hgd fun K hK => ?_
 have hr := run_bytes_of_string (P := Tryz.prog) w 9 29 5 s Tryz.underlying9 Tryz.underlying29 Tryz.underlying5
 have hcm : grownCap w s.size 0 5 ≤ maxLen := grownCap_le_maxLen w _ _ _ (by unfold maxLen; omega)
 have hge := grownCap_ge w s.size 0 5
 unfold Oper.wp execOp
 simp only [ho, hx, Sem.run_bind, hr, Result.andThen_ok]
 refine hK _ _ (h _ _ ?_ (((Below.refl _ _).drew).alloc (Nat.le_refl _) _))
 by_cases h0 : s.size = 0
 ·refine .inl ⟨List.eq_nil_of_length_eq_zero (by rw [strI_length]; exact h0), _, _, by rw [h0], fun h => by cases h⟩
 ·refine .inr ⟨fun e => h0 (by rw [← strI_length, e]; rfl), w.heap.size, 0, _, by rw [strI_length], ?_, by rw [strI_length]; exact hge, hcm, fun t ht => ?_⟩
  ·show w.heap.size < (w.heap.push _).size
   simp
  ·rw [strI_length] at ht
   have hb : (w.drew.alloc (.cells (bytesRow s (grownCap w s.size 0 5)) 5 ((bytesRow s (grownCap w s.size 0 5)).size, (bytesRow s (grownCap w s.size 0 5)).size + 1))).heap[w.heap.size]? = some (.cells (bytesRow s (grownCap w s.size 0 5)) 5 ((bytesRow s (grownCap w s.size 0 5)).size, (bytesRow s (grownCap w s.size 0 5)).size + 1)) := heap_alloc_new w.drew _
   rw [Nat.zero_add, cell_of_row _ w.heap.size t _ _ _ hb, bytesRow_at s _ t ht]
   have : (strI s)[t]? = some ((s.data[t]'ht).toNat : Int) := by unfold strI; simp [ht]
   simp [List.getD, this]
theorem lies_one (w : World) (c : Int) (t : TypeId) : Lies .u8 (w.alloc (.cells #[.int .u8 c] t)) (.slice (some ⟨w.heap.size, 0, none⟩) 1 1) [c] :=
 .inr ⟨by simp, w.heap.size, 0, 1, rfl, by simp, by simp, by unfold maxLen; omega, fun i hi => by
  have : i = 0 := by simpa using hi
  subst this
  simp [List.getD]⟩
theorem lies_box {w : World} {p : Nat} {t : TypeId} (ks : List Int) (hne : ks ≠ []) (hb : Box w p (ks.map (Value.int .u8)).toArray t) (hl : ks.length ≤ maxLen) : Lies .u8 w (.slice (some ⟨p, 0, none⟩) ks.length ks.length) ks :=
 .inr ⟨hne, p, 0, ks.length, rfl, hb.lt, Nat.le_refl _, hl, fun i hi => by
  rw [Nat.zero_add]
  exact hb.cell i _ (by simp [List.getD, hi])⟩
structure CW (w : World) (p : Nat) (v : Value) (xs : List Int) : Prop where
 box : Box w p #[v] 128
 own : w.ownsRow 0 5 1 v xs.length (xs.map (Value.int .u8))
theorem CW.apart {w : World} {p : Nat} {v : Value} {xs : List Int} (h : CW w p v xs) : v.ownBlock ≠ some p := by
 intro e
 obtain ⟨_, ⟨rfl, _⟩ | ⟨g, cap, cur, rfl, _, hh, _⟩⟩ := h.own
 ·cases e
 ·cases e
  have := h.box
  unfold Box at this
  rw [hh] at this
  cases this
structure CWrote (w w' : World) (p : Nat) (v v' : Value) (ys : List Int) : Prop where
 wr : CW w' p v' ys
 keep : KeepBut (fun k => k = p ∨ v.ownBlock = some k) w w'
 place : v'.ownBlock = v.ownBlock ∨ ∃ g, v'.ownBlock = some g ∧ w.heap.size ≤ g
theorem CW.keep {S : Nat → Prop} {w w' : World} {p : Nat} {v : Value} {xs : List Int} (h : CW w p v xs) (hk : KeepBut S w w') (hp : ¬ S p) (hg : ∀ g, v.ownBlock = some g → ¬ S g) : CW w' p v xs :=
 ⟨h.box.keep hk hp, owns_keep h.own hk hg⟩
theorem CW.below {w w' : World} {p : Nat} {v : Value} {xs : List Int} (h : CW w p v xs) (hB : Below w.heap.size w w') : CW w' p v xs :=
 h.keep (KeepBut.of_below (fun _ => False) hB) (fun h => h) (fun _ _ h => h)
theorem CWrote.trans {w w1 w2 : World} {p : Nat} {v v1 v2 : Value} {ys zs : List Int} (h : CWrote w w1 p v v1 ys) (h' : CWrote w1 w2 p v1 v2 zs) : CWrote w w2 p v v2 zs := by
 refine ⟨h'.wr, h.keep.trans h'.keep ?_, ?_⟩
 ·intro k hk hS
  rcases hS with hS | hS
  ·exact .inl hS
  ·rcases h.place with e | ⟨g, e, hg⟩
   ·exact .inr (e ▸ hS)
   ·rw [e] at hS; cases hS; omega
 ·rcases h'.place with e | ⟨g, e, hg⟩
  ·rcases h.place with e2 | ⟨g, e2, hg⟩
   ·exact .inl (e.trans e2)
   ·exact .inr ⟨g, e.trans e2, hg⟩
  ·exact .inr ⟨g, e, Nat.le_trans h.keep.size hg⟩
theorem CWrote.before {w w1 w2 : World} {p : Nat} {v v2 : Value} {zs : List Int} (hB : Below w.heap.size w w1) (h' : CWrote w1 w2 p v v2 zs) : CWrote w w2 p v v2 zs :=
 ⟨h'.wr, (KeepBut.of_below _ hB).trans h'.keep (fun _ _ h => h), h'.place.imp id (fun ⟨g, e, hg⟩ => ⟨g, e, Nat.le_trans hB.size hg⟩)⟩
theorem CW.put_at {w w1 : World} {p : Nat} {v v' : Value} {xs ys : List Int} (h : CW w p v xs) (hg : w.grownBy w1 v.ownBlock) (ho : w1.ownsRow 0 5 1 v' ys.length (ys.map (Value.int .u8))) (hpl : v'.ownBlock = v.ownBlock ∨ v'.ownBlock = some w.heap.size) :
  Box w1 p #[v] 128 ∧ CWrote w (w1.setCell ⟨p, 0, none⟩ v') p v v' ys := by
 have hk : KeepBut (fun k => v.ownBlock = some k) w w1 := grown_keep hg (fun _ e => e)
 have hb1 : Box w1 p #[v] 128 := h.box.keep hk h.apart
 refine ⟨hb1, ⟨?_, ?_⟩, ?_, ?_⟩
 ·have := hb1.set (i := 0) (v := v')
  simpa using this
 ·refine owns_keep ho ((KeepBut.refl (fun k => k = p) w1).setCell (.inl rfl) _) ?_
  intro g e hgp
  subst hgp
  rcases hpl with e2 | e2
  ·rw [e2] at e; exact h.apart e
  ·rw [e2] at e; cases e; exact Nat.lt_irrefl _ h.box.lt
 ·exact (hk.mono (fun _ hk => .inr hk)).setCell (.inl (.inl rfl)) _
 ·rcases hpl with e | e
  ·exact .inl e
  ·exact .inr ⟨_, e, Nat.le_refl _⟩
set_option maxHeartbeats 800000 in
theorem put_any (p : Nat) (v vx : Value) (xs ys : List Int) (w : World) (h : CW w p v xs) (hL : Lies .u8 w vx ys) (hr : xs.length + ys.length ≤ 140737488355328) :
  Calls Tryz.prog 107 #[.pointer (some ⟨p, 0, none⟩), vx] w fun e w' => e = .returned (.tuple #[]) ∧ ∃ v', CWrote w w' p v v' (xs ++ ys) := by
 have HH := hide h
 have hcell := h.box.cell 0 v rfl
 have HL := hide hL
 obtain ⟨a0, c0, rfl⟩ := (Lies.of_own h.own).shape
 obtain ⟨ax, cx, rfl⟩ := hL.shape
 clear h hL
 go_enter Tryz.func107, Tryz.ntmps107
 go_wp2_with (at_builtin; refine append_lies_at _ rfl _ _ rfl 0 _ _ _ xs ys rfl HH.out.own rfl HL.out hr (Nat.zero_le _) ?_; intro v1 w1 hown1 hgrow1 hpl1; have hown2 : w1.ownsRow 0 5 1 v1 (xs ++ ys).length ((xs ++ ys).map (Value.int .u8)) := (by rw [List.length_append]; exact hown1); have H1 := hide (HH.out.put_at hgrow1 hown2 hpl1); have hc1 := H1.out.1.cell 0 _ rfl; have hf1 := H1.out.1.frozen 0; obtain ⟨a1, c1, hv1⟩ := (Lies.of_own hown2).shape; rw [List.length_append] at hv1; subst hv1; clear hown1 hown2 hgrow1 hpl1)
 go_end0
 exact ⟨rfl, _, H1.out.2⟩
set_option maxHeartbeats 800000 in
theorem cwnum_any (p : Nat) (v : Value) (xs : List Int) (n : Nat) (w : World) (h : CW w p v xs) (hr : roomFor xs.length) (hn : n < 18446744073709551616) :
  Calls Tryz.prog 126 #[.pointer (some ⟨p, 0, none⟩), .int .u64 n] w fun e w' => e = .returned (.tuple #[]) ∧ ∃ v', CWrote w w' p v v' (xs ++ shortS n) := by
 unfold roomFor at hr
 have hl10 := shortS_len10 hn
 have HH := hide h
 have HS := hide (short_any (.slice none 0 0) [] n w (Lies.nil _ _) (by simp) hn)
 clear h
 go_enter Tryz.func126, Tryz.ntmps126
 go_wp2_with fail
 refine HS.out.mono ?_
 rintro e w1 ⟨v1, rfl, hown, hB⟩
 rw [List.nil_append] at hown
 have HP := hide (put_any p v v1 xs (shortS n) w1 (HH.out.below hB) (Lies.of_own hown) (by omega))
 have HB := hide hB
 clear hown hB HS
 go_wp2_with fail
 refine HP.out.mono ?_
 rintro e w2 ⟨rfl, v2, h2⟩
 have H2 := hide h2
 clear h2 HP
 go_wp2_with fail
 go_end0
 exact ⟨rfl, v2, H2.out.before HB.out⟩
set_option maxHeartbeats 800000 in
theorem cwbyte_any (p : Nat) (v : Value) (xs : List Int) (c : Int) (w : World) (h : CW w p v xs) (hr : roomFor xs.length) :
  Calls Tryz.prog 79 #[.pointer (some ⟨p, 0, none⟩), .int .u8 c] w fun e w' => e = .returned (.tuple #[]) ∧ ∃ v', CWrote w w' p v v' (xs ++ [c]) := by
 unfold roomFor at hr
 have hB := hide ((Below.refl w.heap.size w).alloc (Nat.le_refl _) (.cells #[.int .u8 c] 5))
 have HP := hide (put_any p v _ xs [c] _ (h.below hB.out) (lies_one w c 5) (by simp; omega))
 clear h
 go_enter Tryz.func79, Tryz.ntmps79
 go_wp2_with fail
 refine HP.out.mono ?_
 rintro e w2 ⟨rfl, v2, h2⟩
 have H2 := hide h2
 clear h2 HP
 go_wp2_with fail
 go_end0
 exact ⟨rfl, v2, H2.out.before hB.out⟩
set_option maxHeartbeats 800000 in
theorem cwtext_any (p : Nat) (v : Value) (xs : List Int) (s : ByteArray) (w : World) (h : CW w p v xs) (hr : roomFor (xs.length + s.size)) :
  Calls Tryz.prog 214 #[.pointer (some ⟨p, 0, none⟩), .string s] w fun e w' => e = .returned (.tuple #[]) ∧ ∃ v', CWrote w w' p v v' (xs ++ shortS s.size ++ strI s) := by
 unfold roomFor at hr
 have C := hide (cwnum_any p v xs s.size w h (by unfold roomFor; omega) (by omega))
 have hl10 := shortS_len10 (n := s.size) (by omega)
 have hlen : (xs ++ shortS s.size).length ≤ xs.length + 10 := by rw [List.length_append]; omega
 clear h hl10
 generalize xs ++ shortS s.size = ys at *
 have HSL := hide (strI_length s)
 go_enter Tryz.func214, Tryz.ntmps214
 go_wp2_with fail
 refine C.out.mono ?_
 rintro e w1 ⟨rfl, v1, h1⟩
 have H1 := hide h1
 clear h1 C
 go_wp2_with (refine wp_bytes_of_str _ rfl _ rfl s rfl (by omega) ?_; intro v2 w2 hL2 hB2; have HP := hide (put_any p v1 v2 ys (strI s) w2 (H1.out.wr.below hB2) hL2 (by rw [HSL.out]; omega)); have HB2 := hide hB2; clear hL2 hB2)
 refine HP.out.mono ?_
 rintro e w3 ⟨rfl, v3, h3⟩
 have H3 := hide h3
 clear h3 HP
 go_wp2_with fail
 go_end0
 exact ⟨rfl, v3, H1.out.trans (H3.out.before HB2.out)⟩
set_option maxHeartbeats 800000 in
theorem cwkey_any (p : Nat) (v : Value) (xs : List Int) (ks : List Int) (w : World) (h : CW w p v xs) (hr : roomFor xs.length) (hk8 : ks.length = 8) :
  Calls Tryz.prog 132 #[.pointer (some ⟨p, 0, none⟩), .agg (ks.map (Value.int .u8)).toArray] w fun e w' => e = .returned (.tuple #[]) ∧ ∃ v', CWrote w w' p v v' (xs ++ ks) := by
 unfold roomFor at hr
 have hB := hide ((Below.refl w.heap.size w).alloc (Nat.le_refl _) (.cells (ks.map (Value.int .u8)).toArray 81))
 have hbx := hide (box_new w (ks.map (Value.int .u8)).toArray 81)
 have hL := lies_box ks (by intro e; rw [e] at hk8; simp at hk8) hbx.out (by unfold maxLen; omega)
 rw [hk8] at hL
 have HP := hide (put_any p v _ xs ks _ (h.below hB.out) hL (by omega))
 have hsz : (ks.map (Value.int .u8)).toArray.size = 8 := by simp [hk8]
 clear h hL
 generalize (ks.map (Value.int .u8)).toArray = C at *
 go_enter Tryz.func132, Tryz.ntmps132
 go_wp2_with fail
 refine HP.out.mono ?_
 rintro e w2 ⟨rfl, v2, h2⟩
 have H2 := hide h2
 clear h2 HP
 go_wp2_with fail
 go_end0
 exact ⟨rfl, v2, H2.out.before hB.out⟩
theorem eql_nil (a : Option Addr) (l c : Nat) (w : World) : (binOp .eql 29 (.slice a l c) (.slice none 0 0)).run Tryz.prog w = .ok (.bool a.isNone) w := by
 have h1 : ∀ d, (Op.equalIn (d + 1) 29 (.slice a l c) (.slice none 0 0)).run Tryz.prog w = .ok a.isNone w := by
  intro d
  cases a <;> simp [Op.equalIn, run_underlying Tryz.underlying29]
 have h2 : (Op.equal 29 (.slice a l c) (.slice none 0 0)).run Tryz.prog w = .ok a.isNone w := h1 9999
 simp [binOp, h2]
set_option maxRecDepth 100000 in
set_option maxHeartbeats 800000 in
theorem clone_any (v : Value) (xs : List Int) (w : World) (h : Lies .u8 w v xs) (hr : xs.length ≤ 200000000000000) :
  Calls Tryz.prog 60 #[v] w fun e w' => ∃ v', e = .returned v' ∧ w'.ownsRow w.heap.size 5 1 v' xs.length (xs.map (Value.int .u8)) ∧ Below w.heap.size w w' := by
 obtain ⟨ao, cap, hv, hn, _⟩ := h.appendable
 subst hv
 cases ao with
 | none =>
  obtain ⟨h0, rfl⟩ := hn rfl
  rw [h0]
  obtain rfl : xs = [] := List.eq_nil_of_length_eq_zero h0
  clear h hn hr h0
  have hq := fun (w : World) => eql_nil none 0 0 w
  go_enter Tryz.func60, Tryz.ntmps60
  go_wp2_with fail
  go_ret
  exact ⟨_, rfl, World.ownsRow_nil _ _ _ _, Below.refl _ _⟩
 | some ad =>
  have HL := hide (h.below ((Below.refl w.heap.size w).alloc (Nat.le_refl _) (.cells #[] 5)))
  have HO := hide (World.ownsRow_made (base := w.heap.size) (e := 5) (size := 1) w #[] 0 (Nat.le_refl _) (by unfold maxLen; omega) rfl)
  have HB := hide ((Below.refl w.heap.size w).alloc (Nat.le_refl _) (.cells #[] 5))
  clear h hn
  have hq := fun (w : World) (n c : Nat) => eql_nil (some ad) n c w
  have HS : Hid (w.heap.size ≤ (w.alloc (.cells #[] 5)).heap.size) := hide (HB.out.size)
  go_enter Tryz.func60, Tryz.ntmps60
  go_wp2_with (at_builtin; refine append_lies _ rfl _ _ rfl w.heap.size _ _ 0 [] xs rfl HO.out rfl HL.out (by omega) HS.out ?_; intro v0 w0 hown0 hgrow0; simp only [Nat.zero_add, List.nil_append] at hown0; have H0 := hide hown0; have H1 := hide hgrow0; clear hown0 hgrow0)
  go_ret
  exact ⟨_, rfl, H0.out, HB.out.grown H1.out HS.out (fun k hk => by cases hk; exact Nat.le_refl _)⟩
theorem cwbytes_any (p : Nat) (v : Value) (xs : List Int) (w : World) (h : CW w p v xs) (hr : xs.length ≤ 200000000000000) :
  Calls Tryz.prog 81 #[.pointer (some ⟨p, 0, none⟩)] w fun e w' => ∃ v', e = .returned v' ∧ w'.ownsRow w.heap.size 5 1 v' xs.length (xs.map (Value.int .u8)) ∧ Below w.heap.size w w' := by
 have C := hide (clone_any v xs w (Lies.of_own h.own) hr)
 have hcell := h.box.cell 0 v rfl
 clear h
 go_enter Tryz.func81, Tryz.ntmps81
 go_wp2_with (go_at_call 60; refine C.out.mono ?_; rintro e w1 ⟨v1, rfl, ho, hB⟩; have HO := hide ho; have HB := hide hB; clear ho hB)
 go_ret
 exact ⟨v1, rfl, HO.out, HB.out⟩
end
section
open Go.RowKit
structure CR (w : World) (p : Nat) (vb : Value) (all : List Int) (r : RS) : Prop where
 box : Box w p #[vb, .int .i64 (r.went : Nat), .int .i64 r.why, .int .i64 (r.fat : Nat)] 218
 own : w.ownsRow 0 5 1 vb all.length (all.map (Value.int .u8))
 byte : ∀ c ∈ all, 0 ≤ c ∧ c < 256
 le : r.went ≤ all.length
 bs : r.bs = all.drop r.went
 room : all.length ≤ 200000000000000
theorem CR.apart {w : World} {p : Nat} {vb : Value} {all : List Int} {r : RS} (h : CR w p vb all r) : vb.ownBlock ≠ some p := by
 intro e
 obtain ⟨_, ⟨rfl, _⟩ | ⟨g, cap, cur, rfl, _, hh, _⟩⟩ := h.own
 ·cases e
 ·cases e
  have := h.box
  unfold Box at this
  rw [hh] at this
  cases this
theorem CR.keep {S : Nat → Prop} {w w' : World} {p : Nat} {vb : Value} {all : List Int} {r : RS} (h : CR w p vb all r) (hk : KeepBut S w w') (hp : ¬ S p) (hg : ∀ g, vb.ownBlock = some g → ¬ S g) : CR w' p vb all r :=
 ⟨h.box.keep hk hp, owns_keep h.own hk hg, h.byte, h.le, h.bs, h.room⟩
theorem CR.below {w w' : World} {p : Nat} {vb : Value} {all : List Int} {r : RS} (h : CR w p vb all r) (hB : Below w.heap.size w w') : CR w' p vb all r :=
 h.keep (KeepBut.of_below (fun _ => False) hB) (fun h => h) (fun _ _ h => h)
theorem CR.set {w w' : World} {p : Nat} {vb : Value} {all : List Int} {r r' : RS} (h : CR w p vb all r) (hk : KeepBut (fun k => k = p) w w') (hb : Box w' p #[vb, .int .i64 (r'.went : Nat), .int .i64 r'.why, .int .i64 (r'.fat : Nat)] 218)
  (hle : r'.went ≤ all.length) (hbs : r'.bs = all.drop r'.went) : CR w' p vb all r' :=
 ⟨hb, owns_keep h.own hk (fun _ hg e => h.apart (e ▸ hg)), h.byte, hle, hbs, h.room⟩
theorem CR.len {w : World} {p : Nat} {vb : Value} {all : List Int} {r : RS} (h : CR w p vb all r) : r.bs.length = all.length - r.went := by rw [h.bs]; simp
set_option maxHeartbeats 800000 in
theorem fault_any (p : Nat) (vb : Value) (all : List Int) (r : RS) (w : World) (h : CR w p vb all r) :
  Calls Tryz.prog 93 #[.pointer (some ⟨p, 0, none⟩)] w fun e w' => e = .returned (.agg #[.int .i64 r.why, .int .i64 (r.fat : Nat)]) ∧ Below w.heap.size w w' := by
 have m2 := h.box.cell 2 _ rfl
 have m3 := h.box.cell 3 _ rfl
 have hlt := h.box.lt
 clear h
 go_enter Tryz.func93, Tryz.ntmps93
 go_wp2_with fail
 exact bodyPost_ret (v := .agg #[.int .i64 r.why, .int .i64 (r.fat : Nat)]) (by simp [results, Tryz.results93, go_sem]) rfl ⟨rfl, (Below.refl _ _).alloc (Nat.le_refl _) _⟩
theorem fld_why (a b : Int) (w : World) : (Instr.field 118 (.agg #[.int .i64 a, .int .i64 b]) 0).run Tryz.prog w = .ok (.int .i64 a) w := by kernel_rfl
set_option maxRecDepth 100000 in
set_option maxHeartbeats 800000 in
theorem left_any (p : Nat) (vb : Value) (all : List Int) (r : RS) (w : World) (h : CR w p vb all r) :
  Calls Tryz.prog 150 #[.pointer (some ⟨p, 0, none⟩)] w fun e w' => e = .returned (.int .i64 (leftS r : Nat)) ∧ Below w.heap.size w w' := by
 have C := hide (fault_any p vb all r w h)
 have HH := hide h
 have hle := h.le
 have hroom := h.room
 have hlen := hide h.len
 obtain ⟨ao, cap, rfl⟩ := (Lies.of_own h.own).shape
 have hfl := fld_why
 clear h
 by_cases hw : r.why = 0
 ·have HE : Hid (leftS r = all.length - r.went) := hide (by unfold leftS; rw [if_neg (by simp [hw]), hlen.out])
  rw [HE.out]
  rw [hw] at C
  go_enter Tryz.func150, Tryz.ntmps150
  go_wp2_with fail
  refine C.out.mono ?_
  rintro e w1 ⟨rfl, hB⟩
  have HB := hide hB
  have h1 := HH.out.below hB
  have m0 := h1.box.cell 0 _ rfl
  have m1 := h1.box.cell 1 _ rfl
  clear h1 hB C
  go_wp2_with fail
  go_quiet (fail)
  go_wp2_with fail
  go_ret
  exact ⟨ret_int (by omega), ⟨HB.out.os, HB.out.tape, HB.out.output, HB.out.size, HB.out.block⟩⟩
 ·have HE : Hid (leftS r = 0) := hide (by unfold leftS; rw [if_pos hw])
  rw [HE.out]
  have hn : (r.why != 0) = true := by simpa using hw
  clear HH
  go_enter Tryz.func150, Tryz.ntmps150
  go_wp2_with fail
  refine C.out.mono ?_
  rintro e w1 ⟨rfl, hB⟩
  have HB := hide hB
  clear hB C
  go_wp2_with fail
  go_ret
  exact ⟨rfl, HB.out⟩
theorem infoFault : (Tryz.prog.info? 118).map (fun i => (i.zero, i.size)) = some (some (.agg #[.int .i64 0, .int .i64 0]), 2) := by kernel_rfl
theorem CR.failed {w : World} {p : Nat} {vb : Value} {all : List Int} {r : RS} (h : CR w p vb all r) (e : Int) :
  CR ((w.setCell ⟨p, 2, none⟩ (.int .i64 e)).setCell ⟨p, 3, none⟩ (.int .i64 (r.went : Nat))) p vb all (r.fail e) ∧ KeepBut (fun k => k = p) w ((w.setCell ⟨p, 2, none⟩ (.int .i64 e)).setCell ⟨p, 3, none⟩ (.int .i64 (r.went : Nat))) := by
 have hk := ((KeepBut.refl (fun k => k = p) w).setCell (p := ⟨p, 2, none⟩) (.inl rfl) (.int .i64 e)).setCell (p := ⟨p, 3, none⟩) (.inl rfl) (.int .i64 (r.went : Nat))
 refine ⟨h.set hk ?_ h.le h.bs, hk⟩
 have := (h.box.set (i := 2) (v := .int .i64 e)).set (i := 3) (v := .int .i64 (r.went : Nat))
 simpa [RS.fail] using this
theorem CR.gone {w : World} {p : Nat} {vb : Value} {all : List Int} {r : RS} (h : CR w p vb all r) (k : Nat) (hk : k ≤ r.bs.length) :
  CR (w.setCell ⟨p, 1, none⟩ (.int .i64 ((r.went + k : Nat) : Int))) p vb all (r.go k) ∧ KeepBut (fun k => k = p) w (w.setCell ⟨p, 1, none⟩ (.int .i64 ((r.went + k : Nat) : Int))) := by
 have hkk := (KeepBut.refl (fun k => k = p) w).setCell (p := ⟨p, 1, none⟩) (.inl rfl) (.int .i64 ((r.went + k : Nat) : Int))
 have hlen := h.len
 refine ⟨h.set hkk ?_ (by have := h.le; simp only [RS.go]; omega) (by simp only [RS.go]; rw [h.bs, List.drop_drop]), hkk⟩
 have := h.box.set (i := 1) (v := .int .i64 ((r.went + k : Nat) : Int))
 simpa [RS.go] using this
set_option maxRecDepth 100000 in
set_option maxHeartbeats 800000 in
theorem end_any (p : Nat) (vb : Value) (all : List Int) (r : RS) (w : World) (h : CR w p vb all r) :
  Calls Tryz.prog 94 #[.pointer (some ⟨p, 0, none⟩)] w fun e w' => e = .returned (.agg #[.int .i64 (endS r).why, .int .i64 ((endS r).fat : Nat)]) ∧ CR w' p vb all (endS r) ∧ KeepBut (fun k => k = p) w w' := by
 have hB0 := (Below.refl w.heap.size w).alloc (Nat.le_refl _) (.cells #[.int .i64 0, .int .i64 0] 118)
 have HH := hide (h.below hB0)
 have HB0 := hide hB0
 have C := hide (left_any p vb all r _ (h.below hB0))
 have hlt := h.box.lt
 have hlen := hide h.len
 have hle := hide h.le
 have hbs := hide h.bs
 have hroom := h.room
 have hleft : leftS r ≤ 200000000000000 := by
  unfold leftS
  split
  ·omega
  ·rw [hlen.out]; omega
 have HG : Hid (vb.ownBlock ≠ some w.heap.size) := hide (fun e => Nat.lt_irrefl _ (owns_lt h.own e))
 clear h hB0
 generalize hl : leftS r = L at *
 have HLF := hide hl
 clear hl
 have HBX := hide (box_new w #[.int .i64 0, .int .i64 0] 118)
 have hpn : Hid (¬ w.heap.size = p) := hide (by omega)
 have HI := hide ((zero_of_info infoFault).2)
 by_cases hz : 0 < L
 ·have hI : (0 : Int) < (L : Int) := by omega
  have HE : Hid (endS r = r.fail 3) := hide (by
   have h1 := HLF.out
   unfold leftS at h1
   unfold endS
   by_cases hw : r.why ≠ 0
   ·rw [if_pos hw] at h1; omega
   ·rw [if_neg hw] at h1 ⊢
    rw [if_neg (by intro e; rw [e] at h1; simp at h1; omega)])
  rw [HE.out]
  go_enter Tryz.func94, Tryz.ntmps94
  go_wp2_with fail
  refine C.out.mono ?_
  rintro e w1 ⟨rfl, hB⟩
  have HB := hide hB
  have h1 := HH.out.below hB
  have hx1 := hide (HBX.out.keep (KeepBut.of_below (fun _ => False) hB) (fun h => h))
  have m1 := h1.box.cell 1 _ rfl
  have f2 := h1.box.frozen 2
  have f3 := h1.box.frozen 3
  have m2 := h1.box.cell 2 _ rfl
  have m3 := h1.box.cell 3 _ rfl
  have H1 := hide (h1.failed 3)
  clear h1 hB C HH
  go_wp2_with fail
  refine (fault_any p vb all (r.fail 3) _ H1.out.1).mono ?_
  rintro e w2 ⟨rfl, hB2⟩
  have H2 := hide (H1.out.1.below hB2)
  have hx2 := hide ((hx1.out.keep H1.out.2 hpn.out).keep (KeepBut.of_below (fun _ => False) hB2) (fun h => h))
  have HK2 : Hid (KeepBut (fun k => k = p) w w2) := hide ((((KeepBut.of_below (fun k => k = p) HB0.out).trans (KeepBut.of_below (fun k => k = p) HB.out) (fun _ _ h => h)).trans H1.out.2 (fun _ _ h => h)).trans (KeepBut.of_below (fun k => k = p) hB2) (fun _ _ h => h))
  clear hB2 m1 m2 m3 f2 f3 H1
  go_wp2_with (refine wp_store_box rfl rfl _ _ rfl w.heap.size rfl rfl hx2.out rfl HI.out (by simp [Value.oneCell']) ?_; intro w3 hb3 hk3; have HB3 := hide hb3; have HK3 := hide hk3; clear hb3 hk3)
  refine bodyPost_ret (v := .agg #[.int .i64 (r.fail 3).why, .int .i64 ((r.fail 3).fat : Nat)]) (results_box rfl _ _ w.heap.size rfl HB3.out Tryz.underlying118 rfl HI.out) rfl ⟨rfl, H2.out.keep HK3.out (fun e => hpn.out e.symm) (fun g hg e => ?_), HK2.out.trans HK3.out (fun k hk e => absurd hk (by omega))⟩
  subst e
  exact absurd hg HG.out
 ·have hI : (L : Int) ≤ 0 := by omega
  have HE : Hid (endS r = r) := hide (by
   have h1 := HLF.out
   unfold leftS at h1
   unfold endS
   by_cases hw : r.why ≠ 0
   ·rw [if_pos hw]
   ·rw [if_neg hw] at h1 ⊢
    rw [if_pos (List.eq_nil_of_length_eq_zero (by omega))])
  rw [HE.out]
  go_enter Tryz.func94, Tryz.ntmps94
  go_wp2_with fail
  refine C.out.mono ?_
  rintro e w1 ⟨rfl, hB⟩
  have HB := hide hB
  have H1 := hide (HH.out.below hB)
  have hx1 := hide (HBX.out.keep (KeepBut.of_below (fun _ => False) hB) (fun h => h))
  clear hB C HH
  go_wp2_with fail
  refine (fault_any p vb all r _ H1.out).mono ?_
  rintro e w2 ⟨rfl, hB2⟩
  have H2 := hide (H1.out.below hB2)
  have hx2 := hide (hx1.out.keep (KeepBut.of_below (fun _ => False) hB2) (fun h => h))
  have HK2 : Hid (KeepBut (fun k => k = p) w w2) := hide (((KeepBut.of_below (fun k => k = p) HB0.out).trans (KeepBut.of_below (fun k => k = p) HB.out) (fun _ _ h => h)).trans (KeepBut.of_below (fun k => k = p) hB2) (fun _ _ h => h))
  clear hB2 H1
  go_wp2_with (refine wp_store_box rfl rfl _ _ rfl w.heap.size rfl rfl hx2.out rfl HI.out (by simp [Value.oneCell']) ?_; intro w3 hb3 hk3; have HB3 := hide hb3; have HK3 := hide hk3; clear hb3 hk3)
  refine bodyPost_ret (v := .agg #[.int .i64 r.why, .int .i64 (r.fat : Nat)]) (results_box rfl _ _ w.heap.size rfl HB3.out Tryz.underlying118 rfl HI.out) rfl ⟨rfl, H2.out.keep HK3.out (fun e => hpn.out e.symm) (fun g hg e => ?_), HK2.out.trans HK3.out (fun k hk e => absurd hk (by omega))⟩
  subst e
  exact absurd hg HG.out
theorem new_any (v : Value) (xs : List Int) (w : World) (h : Lies .u8 w v xs) (hx : ∀ c ∈ xs, 0 ≤ c ∧ c < 256) (hr : xs.length ≤ 200000000000000) :
  Calls Tryz.prog 90 #[v] w fun e w' => ∃ p vb, e = .returned (.pointer (some ⟨p, 0, none⟩)) ∧ CR w' p vb xs ⟨xs, 0, 0, 0⟩ ∧ w.heap.size ≤ p ∧ (∀ g, vb.ownBlock = some g → w.heap.size ≤ g) ∧ Below w.heap.size w w' := by
 have C := hide (clone_any v xs w h hr)
 clear h
 go_enter Tryz.func90, Tryz.ntmps90
 go_wp2_with fail
 refine C.out.mono ?_
 rintro e w1 ⟨vb, rfl, ho, hB⟩
 obtain ⟨ao, cap, rfl⟩ := (Lies.of_own ho).shape
 have HO := hide ho
 have HB := hide hB
 clear ho hB C
 go_wp2_with fail
 go_ret
 refine ⟨_, _, rfl, ⟨box_new w1 _ _, (owns_any HO.out).alloc _, hx, Nat.zero_le _, by simp, hr⟩, HB.out.size, fun g hg => (HO.out.lt g hg).1, HB.out.alloc HB.out.size _⟩
end
end Go.Proofs.YtlegliimgjmphaaGreat
