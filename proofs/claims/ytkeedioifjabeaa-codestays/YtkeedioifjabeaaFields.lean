/-
  Fields as the laws of layer 3 take them: a slice of structs that lies there; short, long, key. Own work.
-/
import Derived.Test.YtkeedioifjabeaaRWriter
import Derived.Lib.IndexBytes
namespace Go.Proofs.Ytkeedioifjabeaa
open Go.RowKit

structure Fld where
  kind : Nat
  n : Nat
  s : ByteArray
  most : Int
def fld0 : Fld := ⟨0, 0, ⟨#[]⟩, 0⟩
def fcells (f : Fld) : Array Value := #[.int .u8 (f.kind : Nat), .int .u64 (f.n : Nat), .string f.s, .int .i64 f.most]
/-- Numbers that fit their kinds. -/
structure Fld.ok (f : Fld) : Prop where
  kind : f.kind < 256
  n : f.n < 18446744073709551616
  lo : -9223372036854775808 ≤ f.most
  hi : f.most ≤ 9223372036854775807
  s : f.s.size ≤ 9223372036854775807
/-- A slice of fields lies there. -/
def FLies (w : World) (v : Value) (fs : List Fld) : Prop :=
  (fs = [] ∧ ∃ (ao : Option Addr) (cap : Nat), v = .slice ao 0 cap ∧ (ao = none → cap = 0)) ∨
  (fs ≠ [] ∧ ∃ b off cap : Nat, v = .slice (some ⟨b, off, none⟩) fs.length cap ∧ b < w.heap.size ∧ fs.length ≤ cap ∧ cap ≤ maxLen ∧
    ∀ t, t < fs.length → ∀ j, j < 4 → w.cell? ⟨b, off + t * 4 + j, none⟩ = (fcells (fs.getD t fld0))[j]?)
theorem FLies.below {w w' : World} {v : Value} {fs : List Fld} {B : Nat} (hB : Below B w w') (hs : w.heap.size ≤ B) (h : FLies w v fs) : FLies w' v fs := by
  rcases h with h | ⟨hx, b, off, cap, rfl, hb, hl, hm, hc⟩
  · exact .inl h
  · exact .inr ⟨hx, b, off, cap, rfl, Nat.lt_of_lt_of_le hb hB.size, hl, hm, fun t ht j hj => (hB.cell (p := ⟨b, off + t * 4 + j, none⟩) (Nat.lt_of_lt_of_le hb hs)).trans (hc t ht j hj)⟩
theorem FLies.shape {w : World} {v : Value} {fs : List Fld} (h : FLies w v fs) : ∃ (ao : Option Addr) (cap : Nat), v = .slice ao fs.length cap ∧ fs.length ≤ cap ∧ fs.length ≤ maxLen := by
  rcases h with ⟨rfl, ao, cap, rfl, _⟩ | ⟨_, b, off, cap, rfl, _, hl, hm, _⟩
  · exact ⟨ao, cap, rfl, by simp, by simp⟩
  · exact ⟨_, cap, rfl, hl, Nat.le_trans hl hm⟩
theorem FLies.take {w : World} {ao : Option Addr} {cap k : Nat} {fs : List Fld} (h : FLies w (.slice ao fs.length cap) fs) (hk : k ≤ fs.length) : FLies w (.slice ao k cap) (fs.take k) := by
  rcases h with ⟨rfl, ao', cap', e, hn⟩ | ⟨hne, b, off, cap', e, hb, hl, hm, hc⟩
  · cases e
    obtain rfl : k = 0 := by simpa using hk
    exact .inl ⟨by simp, ao, cap, rfl, hn⟩
  · cases e
    by_cases h0 : k = 0
    · subst h0
      exact .inl ⟨by simp, _, _, rfl, fun h => by cases h⟩
    · have hlen : (fs.take k).length = k := by simp; omega
      refine .inr ⟨?_, b, off, cap, by rw [hlen], hb, by omega, hm, fun t ht j hj => ?_⟩
      · intro e; rw [e] at hlen; simp at hlen; omega
      · rw [hc t (by omega) j hj]
        have : t < k := by omega
        simp [List.getD, this]
theorem short_any' (ao : Option Addr) (n cap : Nat) (w : World) (hn : n ≤ cap) (hc : n ≤ 9223372036854775807) :
    Calls Try.prog 10 #[.slice ao n cap] w fun e w' => e = .returned (.slice ao (min n 200) cap) ∧ w' = w := by
  by_cases h : n ≤ 200
  · have e : min n 200 = n := by omega
    rw [e]
    by_cases h2 : n = 200
    · subst h2
      go_enter Try.func10, Try.ntmps10
      go_wp2
      go_ret
      exact ⟨by simp, rfl⟩
    · have h3 : (n : Int) < 200 := by omega
      go_enter Try.func10, Try.ntmps10
      go_wp2
      go_ret
      exact ⟨by simp, rfl⟩
  · have e : min n 200 = 200 := by omega
    rw [e]
    have h3 : (200 : Int) < (n : Int) := by omega
    have h4 : (200 : Int) ≤ (cap : Int) := by omega
    go_enter Try.func10, Try.ntmps10
    go_wp2
    go_ret
    exact ⟨by simp, rfl⟩
/-- How long the texts are, each counted up to 65536. -/
def total (fs : List Fld) : Nat := (fs.map fun f => min f.s.size 65536).sum
theorem total_snoc (fs : List Fld) (k : Nat) (h : k < fs.length) : total (fs.take (k + 1)) = total (fs.take k) + min (fs.getD k fld0).s.size 65536 := by
  unfold total
  rw [List.take_add_one, List.map_append, List.sum_append]
  congr 1
  simp [List.getD, h]
theorem total_len : ∀ fs : List Fld, total fs ≤ fs.length * 65536
  | [] => Nat.le_refl _
  | f :: fs => by
    have ih := total_len fs
    unfold total at ih ⊢
    rw [List.map_cons, List.sum_cons, List.length_cons, Nat.succ_mul]
    have := Nat.min_le_right f.s.size 65536
    omega
theorem total_le (fs : List Fld) (k : Nat) : total (fs.take k) ≤ k * 65536 :=
  Nat.le_trans (total_len _) (Nat.mul_le_mul_right _ (by rw [List.length_take]; exact Nat.min_le_left _ _))

set_option maxRecDepth 100000 in
set_option maxHeartbeats 1600000 in
theorem flong_any (v : Value) (fs : List Fld) (w : World) (h : FLies w v fs) (hok : ∀ f ∈ fs, f.ok) :
    Calls Try.prog 8 #[v] w fun e w' => e = .returned (.bool (decide (65536 < ((total (fs.take 200) : Nat) : Int)))) ∧ Below w.heap.size w w' := by
  obtain ⟨ao, cap, rfl, hcap, hmax⟩ := h.shape
  have HS := hide (short_any' ao fs.length cap w hcap (by unfold maxLen at hmax; omega))
  have HF := hide (h.take (Nat.min_le_left fs.length 200))
  have hm : (fs.take (min fs.length 200)) = fs.take 200 := by
    rw [Nat.min_comm]; exact (List.take_eq_take_min).symm
  rw [hm] at HF
  have HO : Hid (∀ f ∈ fs.take 200, f.ok) := hide (fun f hf => hok f (List.mem_of_mem_take hf))
  have hlen : Hid ((fs.take 200).length = min fs.length 200) := hide (by simp [Nat.min_comm])
  have HT := hide (total_le fs 200)
  have hml : min fs.length 200 ≤ 200 := Nat.min_le_right _ _
  clear h hok hm hmax hcap
  generalize min fs.length 200 = m at *
  generalize fs.take 200 = gs at *
  rcases HF.out with ⟨rfl, _⟩ | ⟨hne, b, off, cap', e, hb, hl, hm2, hc⟩
  · obtain rfl : m = 0 := by have := hlen.out; simpa using this.symm
    clear HF HO
    go_enter Try.func8, Try.ntmps8
    go_wp2_with (go_at_call 10; refine HS.out.mono ?_; rintro e w1 ⟨rfl, h1⟩; rw [h1]; clear h1)
    go_rounds 1
    go_ret
    exact ⟨by simp [total], Below.refl _ _⟩
  · cases e
    have HC := hide hc
    clear HF hc hl hm2 hne
    go_enter Try.func8, Try.ntmps8
    go_wp2_with (go_at_call 10; refine HS.out.mono ?_; rintro e w1 ⟨rfl, h1⟩; rw [h1]; clear h1)
    go_loopw [3, 9] (fun x i wr => ∃ k : Nat, k ≤ gs.length ∧ i = .int .i64 k ∧ x = .int .i64 (total (gs.take k) : Nat) ∧ Hid (Below w.heap.size w wr)) (fun _ i _ => gs.length - (intOf i).toNat)
    case atStart => exact ⟨0, by omega, rfl, by simp [total], hide (Below.refl _ _)⟩
    case round =>
      obtain ⟨k, hk, rfl, rfl, HB⟩ := hrel
      by_cases hlt : k < gs.length
      · have c0 := (HB.out.cell (p := ⟨b, off + k * 4 + 0, none⟩) hb).trans (HC.out k hlt 0 (by decide))
        have c1 := (HB.out.cell (p := ⟨b, off + k * 4 + 1, none⟩) hb).trans (HC.out k hlt 1 (by decide))
        have c2 := (HB.out.cell (p := ⟨b, off + k * 4 + 2, none⟩) hb).trans (HC.out k hlt 2 (by decide))
        have c3 := (HB.out.cell (p := ⟨b, off + k * 4 + 3, none⟩) hb).trans (HC.out k hlt 3 (by decide))
        have HN := hide (total_snoc gs k hlt)
        have hkk := total_le gs k
        obtain ⟨f, hf⟩ : ∃ f, gs.getD k fld0 = f := ⟨_, rfl⟩
        have hfo := HO.out f (by rw [← hf]; simp [List.getD, hlt])
        rw [hf] at c0 c1 c2 c3 HN
        obtain ⟨kd, nn, st, mo⟩ := f
        simp only [fcells, List.getElem?_toArray, List.getElem?_cons_zero, List.getElem?_cons_succ, Nat.add_zero] at c0 c1 c2 c3 HN
        have hss := hfo.s
        simp only at hss
        have hk200 : k ≤ 200 := by omega
        have hkb : total (gs.take k) ≤ 13107200 := Nat.le_trans hkk (Nat.mul_le_mul_right 65536 hk200)
        clear hf hfo hkk
        generalize total (gs.take k) = T at *
        by_cases hmn : st.size < 65536
        · have hI : (st.size : Int) < 65536 := by omega
          have HN2 : Hid (total (gs.take (k + 1)) = T + st.size) := hide (by rw [HN.out, Nat.min_eq_left (by omega)])
          clear HN
          go_wp2_with fail
          go_roundw
          case rel => exact ⟨k + 1, by omega, by go_num, by rw [HN2.out]; go_num, hide (HB.out.alloc HB.out.size _)⟩
          case measure => simp [intOf]; omega
        by_cases heq : st.size = 65536
        · have hI : (st.size : Int) = 65536 := by omega
          have HN2 : Hid (total (gs.take (k + 1)) = T + 65536) := hide (by rw [HN.out, Nat.min_eq_right (by omega)])
          clear HN heq hmn
          go_wp2_with fail
          go_roundw
          case rel => exact ⟨k + 1, by omega, by go_num, by rw [HN2.out]; go_num, hide (HB.out.alloc HB.out.size _)⟩
          case measure => simp [intOf]; omega
        · have hI : (65536 : Int) < (st.size : Int) := by omega
          have HN2 : Hid (total (gs.take (k + 1)) = T + 65536) := hide (by rw [HN.out, Nat.min_eq_right (by omega)])
          clear HN heq hmn
          go_wp2_with fail
          go_roundw
          case rel => exact ⟨k + 1, by omega, by go_num, by rw [HN2.out]; go_num, hide (HB.out.alloc HB.out.size _)⟩
          case measure => simp [intOf]; omega
      · have HE : Hid (gs.take k = gs) := hide (List.take_of_length_le (by omega))
        rw [HE.out]
        have HT2 : total gs ≤ 13107200 := HT.out
        go_wp2_with fail
        go_ret
        exact ⟨by rfl, HB.out⟩

/-- A text's first eight bytes, zeros behind. -/
def keyI (s : ByteArray) : List Int := (strI s).take 8 ++ List.replicate (8 - s.size) 0
theorem keyI_length (s : ByteArray) : (keyI s).length = 8 := by simp [keyI, strI_length]; omega
/-- So far filled. -/
def keyTo (s : ByteArray) (k : Nat) : List Int := (strI s).take k ++ List.replicate (8 - k) 0
theorem keyTo_zero (s : ByteArray) : keyTo s 0 = List.replicate 8 0 := by simp [keyTo]
theorem keyTo_end (s : ByteArray) (k : Nat) (h : k = 8 ∨ k = s.size) (h8 : k ≤ 8) (hs : k ≤ s.size) : keyTo s k = keyI s := by
  unfold keyTo keyI
  rcases h with rfl | rfl
  · rw [show 8 - s.size = 0 by omega]
  · congr 1
    rw [List.take_of_length_le (by rw [strI_length]; exact Nat.le_refl _), List.take_of_length_le (by rw [strI_length]; exact h8)]
theorem keyTo_next (s : ByteArray) (k : Nat) (h8 : k < 8) (hs : k < s.size) (c : UInt8) (hc : s.data.toList[k]? = some c) :
    ((keyTo s k).map (Value.int .u8)).toArray.setIfInBounds k (.int .u8 (c.toNat : Nat)) = ((keyTo s (k + 1)).map (Value.int .u8)).toArray := by
  have hl : (strI s).length = s.size := strI_length s
  rw [List.setIfInBounds_toArray]
  congr 1
  apply List.ext_getElem?
  intro i
  have h1 : ((keyTo s k).map (Value.int .u8)).length = 8 := by simp [keyTo, hl]; omega
  rw [List.getElem?_set, h1]
  have hsk : (strI s)[k]? = some (c.toNat : Int) := by unfold strI; rw [List.getElem?_map, hc]; rfl
  by_cases hi : k = i
  · subst hi
    rw [if_pos rfl, if_pos h8]
    simp only [keyTo, List.getElem?_map, List.getElem?_append, List.length_take, hl]
    rw [if_pos (by omega)]
    simp [hsk]
  · rw [if_neg hi]
    simp only [keyTo, List.getElem?_map, List.getElem?_append, List.length_take, hl]
    by_cases h2 : i < k
    · rw [if_pos (by omega), if_pos (by omega)]
      simp [h2, show i < k + 1 by omega]
    · rw [if_neg (by omega), if_neg (by omega)]
      simp only [List.getElem?_replicate]
      congr 1
      by_cases h3 : i < 8
      · rw [if_pos (by omega), if_pos (by omega)]
      · rw [if_neg (by omega), if_neg (by omega)]
theorem infoKey : (Try.prog.info? 45).map (fun i => (i.zero, i.size)) = some (some (.agg (Array.replicate 8 (.int .u8 0))), 8) := by kernel_rfl

set_option maxRecDepth 100000 in
set_option maxHeartbeats 1600000 in
theorem key_any (s : ByteArray) (w : World) (hs : s.size ≤ 140737488355328) :
    Calls Try.prog 20 #[.string s] w fun e w' => e = .returned (.agg ((keyI s).map (Value.int .u8)).toArray) ∧ Below w.heap.size w w' := by
  have hz0 : ((keyTo s 0).map (Value.int .u8)).toArray = #[.int .u8 0, .int .u8 0, .int .u8 0, .int .u8 0, .int .u8 0, .int .u8 0, .int .u8 0, .int .u8 0] := by rw [keyTo_zero]; rfl
  have HSZ : Hid (∀ k, k ≤ 8 → k ≤ s.size → ((keyTo s k).map (Value.int .u8)).toArray.size = 8) := hide (fun k h8 hk => by simp [keyTo, strI_length]; omega)
  have HI := hide ((zero_of_info infoKey).2)
  go_enter Try.func20, Try.ntmps20
  go_wp2_with fail
  rw [← hz0]
  have HZ0 := hide hz0
  clear hz0
  go_loopw [4] (fun i wr => ∃ k : Nat, k ≤ 8 ∧ k ≤ s.size ∧ i = .int .i64 k ∧ wr = (w.alloc (.cells ((keyTo s 0).map (Value.int .u8)).toArray 45)).alloc (.cells ((keyTo s k).map (Value.int .u8)).toArray 45)) (fun i _ => 8 - (intOf i).toNat)
  case atStart => exact ⟨0, by omega, by omega, rfl, rfl⟩
  case round =>
    obtain ⟨k, hk8, hks, rfl, rfl⟩ := hrel
    have hsz := HSZ.out k hk8 hks
    by_cases hlt : k < 8 ∧ k < s.size
    · obtain ⟨h8, hsk⟩ := hlt
      obtain ⟨c, hc⟩ : ∃ c : UInt8, s[k]'hsk = c := ⟨_, rfl⟩
      have hcl : s.data.toList[k]? = some c := by rw [← hc]; exact Lib.data_getElem? s k hsk
      have HN := hide (keyTo_next s k h8 hsk c hcl)
      have hI8 : (k : Int) < 8 := by omega
      have hIs : (k : Int) < (s.size : Int) := by omega
      clear hcl
      generalize ((keyTo s k).map (Value.int .u8)).toArray = C at *
      go_wp2_with fail
      go_roundw
      case rel => exact ⟨k + 1, by omega, by omega, by go_num, by rw [← HN.out]⟩
      case measure => simp [intOf]; omega
    · have HE := hide (keyTo_end s k (by omega) hk8 hks)
      rw [HE.out] at hsz ⊢
      have hd : decide ((k : Int) < 8) = false ∨ decide ((k : Int) < 8) = true ∧ decide (k < s.size) = false := by
        by_cases h : k < 8
        · exact .inr ⟨by simp; omega, by simp; omega⟩
        · exact .inl (by simp; omega)
      have h1 : Box ((w.alloc (.cells ((keyTo s 0).map (Value.int .u8)).toArray 45)).alloc (.cells ((keyI s).map (Value.int .u8)).toArray 45)) (w.heap.size + 1) ((keyI s).map (Value.int .u8)).toArray 45 := by
        have := box_new (w.alloc (.cells ((keyTo s 0).map (Value.int .u8)).toArray 45)) ((keyI s).map (Value.int .u8)).toArray 45
        simpa using this
      have h0 : Box ((w.alloc (.cells ((keyTo s 0).map (Value.int .u8)).toArray 45)).alloc (.cells ((keyI s).map (Value.int .u8)).toArray 45)) w.heap.size ((keyTo s 0).map (Value.int .u8)).toArray 45 :=
        (box_new w _ 45).keep ((KeepBut.refl (fun _ => False) _).alloc _) (fun h => h)
      have hB : Below w.heap.size w ((w.alloc (.cells ((keyTo s 0).map (Value.int .u8)).toArray 45)).alloc (.cells ((keyI s).map (Value.int .u8)).toArray 45)) := ((Below.refl _ _).alloc (Nat.le_refl _) _).alloc (by simp) _
      have hz := HSZ.out 0 (by omega) (by omega)
      have hone : (((keyI s).map (Value.int .u8)).toArray).all (·.oneCell') = true := by simp [Value.oneCell']
      have H1 := hide h1
      have H0 := hide h0
      have HB := hide hB
      have HZ := hide (hz.trans hsz.symm)
      have HO := hide hone
      have HI2 := HI.out
      rw [← hsz] at HI2
      have HI3 := hide HI2
      clear h1 h0 hB hz hone HI2 HE hsz
      generalize (w.alloc (.cells ((keyTo s 0).map (Value.int .u8)).toArray 45)).alloc (.cells ((keyI s).map (Value.int .u8)).toArray 45) = W at *
      generalize ((keyTo s 0).map (Value.int .u8)).toArray = C0 at *
      obtain ⟨C, hC⟩ : ∃ C, ((keyI s).map (Value.int .u8)).toArray = C := ⟨_, rfl⟩
      rw [hC] at H1 HZ HO HI3
      have HC := hide hC
      clear hC
      rcases hd with hd | ⟨hd, hd2⟩
      all_goals
        go_wp2_with (first
          | (refine wp_load_box rfl _ rfl _ rfl H1.out Try.underlying45 rfl HI3.out ?_)
          | (refine wp_store_box rfl rfl _ _ rfl _ rfl rfl H0.out HZ.out HI3.out HO.out ?_; intro w2 hb2 hk2; have HB2 := hide hb2; have HK2 := hide hk2; clear hb2 hk2))
        refine bodyPost_ret (v := .agg C) (results_box rfl _ _ w.heap.size rfl HB2.out Try.underlying45 rfl HI3.out) rfl ⟨by rw [HC.out], ?_⟩
        exact HB.out.trans (HK2.out.below HB.out.size (fun k hk => by omega))
end Go.Proofs.Ytkeedioifjabeaa
