/-
  Layer 8's small things: a wire as a value, 'ours', the reference's Same and Ints, two results the first of which lies in a variable. Own work.
-/
import Derived.Test.YteehkjdolmmapaaNtActs
import Derived.BigQuiet
import Derived.Deep.QuietTactic
namespace Go.Proofs.Yteehkjdolmmapaa
open Go.RowKit

theorem results_two8 {P : Program} {fn : Func} {q t1 : Tmp} {t t0 : TypeId} {d : TypeDesc} (h : fn.results = #[.cell q t, .tmp t1]) (tmps : Array Value) (w : World) (p : Nat) (hq : tmps.getD q undef = .pointer (some ⟨p, 0, none⟩)) {v1 : Value} (h1 : tmps.getD t1 undef = v1) {cs : Array Value} (hb : Box w p cs t0)
    (hu : P.underlying t = some d) (hd : d.isRow = true) (hi : (P.info? t).map (·.size) = some cs.size) : (results fn tmps).run P w = .ok (.tuple #[.agg cs, v1]) w := by
  subst h1
  have hr : w.rangeAt p 0 cs.toList := fun j v hv => by
    rw [Nat.zero_add]; exact hb.cell j v (by simpa using hv)
  have hl := run_loadVar_mid (P := P) w p 0 t cs.toList d hr hu hd (by simpa using hi)
  have hq' : tmps[q]?.getD undef = .pointer (some ⟨p, 0, none⟩) := by rw [← Array.getD_eq_getD_getElem?]; exact hq
  simp only [results, h]
  simp [hq', asAddr, hl]
theorem alloc_below8 (w : World) (o : Obj) : Below w.heap.size w (w.alloc o) := (Below.refl _ _).alloc (Nat.le_refl _) o
theorem below_drewN8 (w : World) (n : Nat) : Below w.heap.size w (w.drewN n) := ⟨rfl, rfl, rfl, Nat.le_refl _, fun _ _ => rfl⟩
theorem Box.below8 {w w' : World} {p : Nat} {cs : Array Value} {t : TypeId} (h : Box w p cs t) (hB : Below w.heap.size w w') : Box w' p cs t := h.keep (KeepBut.of_below (fun _ => False) hB) id
/-- A wire's cells. -/
def wcs (x : Wr) (sv : Value) : Array Value := #[.int .u8 (x.fr : Int), .int .u8 (x.to : Int), sv]
theorem infoW : (Try.prog.info? 50).map (·.size) = some 3 := by kernel_rfl
theorem infoRW : (Try.prog.info? 39).map (·.size) = some 3 := by kernel_rfl
theorem wcs_one (x : Wr) (ao : Option Addr) (l c : Nat) : (wcs x (.slice ao l c)).all (·.oneCell') = true := by
  simp [wcs, Value.oneCell']
set_option maxHeartbeats 800000 in
theorem ints_any (v1 v2 : Value) (xs : List Int) (w : World) (h1 : Lies .i64 w v1 xs) (h2 : Lies .i64 w v2 xs) :
    Calls Try.prog 18 #[v1, v2] w fun e w' => e = .returned (.bool true) ∧ ∃ n, w' = w.drewN n := by
  have hlen := h1.len
  unfold maxLen at hlen
  have hne : ((xs.length : Int) != (xs.length : Int)) = false := by simp
  rcases h1 with ⟨rfl, ao, cap, rfl, _⟩ | ⟨hx, b, off, cap, rfl, _, _, _, hc⟩
  · rcases h2 with ⟨_, ao2, cap2, rfl, _⟩ | ⟨hx, _⟩
    · go_enter Try.func18, Try.ntmps18
      go_wp2
      go_rounds 1
      go_ret
      exact ⟨rfl, 0, rfl⟩
    · exact absurd rfl hx
  · rcases h2 with ⟨hx2, _⟩ | ⟨_, b2, off2, cap2, rfl, _, _, _, hc2⟩
    · exact absurd hx2 hx
    · clear hx
      have hc' : Hid (∀ k, k < xs.length → w.cell? ⟨b, off + k, none⟩ = some (.int .i64 (xs.getD k 0))) := hc
      have hc2' : Hid (∀ k, k < xs.length → w.cell? ⟨b2, off2 + k, none⟩ = some (.int .i64 (xs.getD k 0))) := hc2
      clear hc hc2
      generalize hL : xs.length = L at *
      clear hL
      go_enter Try.func18, Try.ntmps18
      go_wp2
      go_loopw [5] (fun i wr => ∃ k : Nat, k ≤ L ∧ i = .int .i64 k ∧ ∃ n, wr = w.drewN n) (fun i _ => L - (intOf i).toNat)
      case atStart => exact ⟨0, Nat.zero_le _, rfl, 0, rfl⟩
      case round =>
        obtain ⟨k, hk, rfl, nd, rfl⟩ := hrel
        by_cases hlt : k < L
        · have c1 : w.cell? ⟨b, off + k, none⟩ = some (.int .i64 (xs.getD k 0)) := hc'.out k hlt
          have c2 : w.cell? ⟨b2, off2 + k, none⟩ = some (.int .i64 (xs.getD k 0)) := hc2'.out k hlt
          generalize xs.getD k 0 = c at *
          have hcc : (c != c) = false := by simp
          have hltI : (k : Int) < (L : Int) := by omega
          go_wp2
          go_quiet (fail)
          go_wp2
          go_roundw
          case rel => exact ⟨k + 1, by omega, by go_num, nd + nq, by simp⟩
          case measure => simp [intOf]; omega
        · go_wp2
          go_ret
          exact ⟨rfl, _, rfl⟩

set_option maxRecDepth 100000 in
theorem ours_any (x : Wr) (ao : Option Addr) (l c : Nat) (w : World) :
    Calls Try.prog 22 #[.agg (wcs x (.slice ao l c))] w fun e w' => e = .returned (.agg (wcs x (.slice ao l c))) ∧ Below w.heap.size w w' := by
  unfold wcs
  have HB1 := hide (alloc_below8 w (.cells #[.int .u8 (x.fr : Int), .int .u8 (x.to : Int), .slice ao l c] 50))
  have hx1 := box_new w #[.int .u8 (x.fr : Int), .int .u8 (x.to : Int), .slice ao l c] 50
  go_enter Try.func22, Try.ntmps22
  go_wp2
  refine bodyPost_ret (results_box rfl _ _ (w.heap.size + 1) rfl (cs := #[.int .u8 (x.fr : Int), .int .u8 (x.to : Int), .slice ao l c]) (t0 := 39) ?_ Try.underlying39 rfl (by kernel_rfl)) rfl ?_
  · have := box_new (w.alloc (.cells #[.int .u8 (x.fr : Int), .int .u8 (x.to : Int), .slice ao l c] 50)) #[.int .u8 (x.fr : Int), .int .u8 (x.to : Int), .slice ao l c] 39
    simpa using this
  · exact ⟨rfl, ((Below.refl _ _).alloc (Nat.le_refl _) _).alloc (by simp) _⟩
/-- Two wires with the same numbers and bytes. -/
theorem same8_any (x : Wr) (s1 s2 : Value) (w : World) (h1 : Lies .u8 w s1 x.b) (h2 : Lies .u8 w s2 x.b) :
    Calls Try.prog 15 #[.agg (wcs x s1), .agg (wcs x s2)] w fun e w' => e = .returned (.bool true) ∧ Below w.heap.size w w' := by
  obtain ⟨a1, c1, rfl⟩ := h1.shape
  obtain ⟨a2, c2, rfl⟩ := h2.shape
  unfold wcs
  have hB1 := alloc_below8 w (.cells #[.int .u8 (x.fr : Int), .int .u8 (x.to : Int), .slice a1 x.b.length c1] 39)
  have hB2 := alloc_below8 (w.alloc (.cells #[.int .u8 (x.fr : Int), .int .u8 (x.to : Int), .slice a1 x.b.length c1] 39)) (.cells #[.int .u8 (x.fr : Int), .int .u8 (x.to : Int), .slice a2 x.b.length c2] 39)
  have hB := hB1.trans (hB2.mono hB1.size)
  have k1 := (h1.below hB).convert
  have k2 := (h2.below hB).convert
  have HB := hide hB
  clear h1 h2 hB1 hB2 hB
  generalize strOfNums x.b = s at *
  go_enter Try.func15, Try.ntmps15
  go_wp2
  go_ret
  exact ⟨ret_bool (by simp), HB.out⟩
end Go.Proofs.Yteehkjdolmmapaa
