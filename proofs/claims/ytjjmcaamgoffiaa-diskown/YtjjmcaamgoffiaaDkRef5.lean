/-
  The reference's disk: New; a call of a script done on it ('would'). Own work.
-/
import Derived.Test.YtjjmcaamgoffiaaDkRef4
namespace Go.Proofs.Ytjjmcaamgoffiaa
open Go.RowKit

theorem results_two7 {P : Program} {fn : Func} {q t1 : Tmp} {t t0 : TypeId} {d : TypeDesc} (h : fn.results = #[.cell q t, .tmp t1]) (tmps : Array Value) (w : World) (p : Nat) (hq : tmps.getD q undef = .pointer (some ⟨p, 0, none⟩)) {v1 : Value} (h1 : tmps.getD t1 undef = v1) {cs : Array Value} (hb : Box w p cs t0)
    (hu : P.underlying t = some d) (hd : d.isRow = true) (hi : (P.info? t).map (·.size) = some cs.size) : (results fn tmps).run P w = .ok (.tuple #[.agg cs, v1]) w := by
  subst h1
  have hr : w.rangeAt p 0 cs.toList := fun j v hv => by
    rw [Nat.zero_add]; exact hb.cell j v (by simpa using hv)
  have hl := run_loadVar_mid (P := P) w p 0 t cs.toList d hr hu hd (by simpa using hi)
  have hq' : tmps[q]?.getD undef = .pointer (some ⟨p, 0, none⟩) := by rw [← Array.getD_eq_getD_getElem?]; exact hq
  simp only [results, h]
  simp [hq', asAddr, hl]
theorem infoRD : (Try.prog.info? 31).map (·.size) = some 8 := by kernel_rfl
def newOk (room : Int) : Bool := decide (1 ≤ room) && decide (room ≤ 65536)
def newR (room : Int) : Dk := newD (if newOk room then room.toNat else 0)
def newA (room : Int) : Int := if newOk room then 0 else 1
theorem rcells_one (d : Dk) (vb : Value) (h : vb.oneCell' = true) : (rcells d vb).all (·.oneCell') = true := by
  simp [rcells, Value.oneCell']
  exact h
set_option maxRecDepth 100000 in
set_option maxHeartbeats 800000 in
theorem rnew_any (room : Int) (w : World) :
    Calls Try.prog 11 #[.int .i64 room] w fun e w' => e = .returned (.tuple #[.agg (rcells (newR room) (.slice none 0 0)), .int .i64 (newA room)]) ∧ Below w.heap.size w w' := by
  have HB := hide (alloc_below7 w (.cells #[.int .i64 0, .slice none 0 0, .int .i64 0, .int .i64 0, .int .i64 0, .bool false, .bool false, .int .i64 0] 31))
  have HX : Hid (Box (w.alloc (.cells #[.int .i64 0, .slice none 0 0, .int .i64 0, .int .i64 0, .int .i64 0, .bool false, .bool false, .int .i64 0] 31)) w.heap.size (rcells (newD 0) (.slice none 0 0)) 31) := hide (box_new w (rcells (newD 0) (.slice none 0 0)) 31)
  by_cases h1 : room < 1
  · have HO : Hid (newOk room = false) := hide (by unfold newOk; rw [decide_eq_false (by omega)]; rfl)
    have HR : Hid (newR room = newD 0) := hide (by unfold newR; rw [HO.out]; rfl)
    have HA : Hid (newA room = 1) := hide (by unfold newA; rw [HO.out]; rfl)
    have d1 : decide (room < 1) = true := decide_eq_true h1
    clear h1
    go_enter Try.func11, Try.ntmps11
    go_wp2_with (refine wp_store_box (cs' := rcells (newD 0) (.slice none 0 0)) rfl rfl _ _ rfl _ rfl rfl HX.out rfl infoRD (rcells_one _ _ rfl) ?_; intro w5 hb5 hk5; have HR5 := hide hb5; have HB5 := hide (HB.out.trans (hk5.below HB.out.size (fun k hk => by omega))); clear hb5 hk5)
    refine bodyPost_ret (v := .tuple #[.agg (rcells (newD 0) (.slice none 0 0)), .int .i64 1]) (results_two7 Try.results11 _ _ w.heap.size rfl rfl HR5.out Try.underlying31 rfl infoRD) rfl ⟨by rw [HR.out, HA.out], HB5.out⟩
  · have d1 : decide (room < 1) = false := decide_eq_false h1
    by_cases h2 : room > 65536
    · have HO : Hid (newOk room = false) := hide (by unfold newOk; rw [decide_eq_false (show ¬ room ≤ 65536 by omega), Bool.and_false])
      have HR : Hid (newR room = newD 0) := hide (by unfold newR; rw [HO.out]; rfl)
      have HA : Hid (newA room = 1) := hide (by unfold newA; rw [HO.out]; rfl)
      have d2 : decide (room > 65536) = true := decide_eq_true h2
      clear h1 h2
      go_enter Try.func11, Try.ntmps11
      go_wp2_with (refine wp_store_box (cs' := rcells (newD 0) (.slice none 0 0)) rfl rfl _ _ rfl _ rfl rfl HX.out rfl infoRD (rcells_one _ _ rfl) ?_; intro w5 hb5 hk5; have HR5 := hide hb5; have HB5 := hide (HB.out.trans (hk5.below HB.out.size (fun k hk => by omega))); clear hb5 hk5)
      refine bodyPost_ret (v := .tuple #[.agg (rcells (newD 0) (.slice none 0 0)), .int .i64 1]) (results_two7 Try.results11 _ _ w.heap.size rfl rfl HR5.out Try.underlying31 rfl infoRD) rfl ⟨by rw [HR.out, HA.out], HB5.out⟩
    · have d2 : decide (room > 65536) = false := decide_eq_false h2
      have HO : Hid (newOk room = true) := hide (by unfold newOk; rw [decide_eq_true (show 1 ≤ room by omega), decide_eq_true (show room ≤ 65536 by omega)]; rfl)
      have HR : Hid (newR room = newD room.toNat) := hide (by unfold newR; rw [HO.out]; rfl)
      have HA : Hid (newA room = 0) := hide (by unfold newA; rw [HO.out]; rfl)
      have HN : Hid (Value.agg #[.int .i64 room, .slice none 0 0, .int .i64 0, .int .i64 0, .int .i64 0, .bool false, .bool false, .int .i64 0] = .agg (rcells (newD room.toNat) (.slice none 0 0))) := hide (by
        have e : ((room.toNat : Nat) : Int) = room := by omega
        unfold rcells newD
        simp only
        rw [e]
        rfl)
      clear h1 h2
      go_enter Try.func11, Try.ntmps11
      go_wp2_with (refine wp_store_box (cs' := rcells (newD room.toNat) (.slice none 0 0)) rfl rfl _ _ rfl _ rfl HN.out HX.out rfl infoRD (rcells_one _ _ rfl) ?_; intro w5 hb5 hk5; have HR5 := hide hb5; have HB5 := hide (HB.out.trans (hk5.below HB.out.size (fun k hk => by omega))); clear hb5 hk5)
      refine bodyPost_ret (v := .tuple #[.agg (rcells (newD room.toNat) (.slice none 0 0)), .int .i64 0]) (results_two7 Try.results11 _ _ w.heap.size rfl rfl HR5.out Try.underlying31 rfl infoRD) rfl ⟨by rw [HR.out, HA.out], HB5.out⟩
theorem RDid.before {w w1 w2 : World} {p : Nat} {vb : Value} {d' : Dk} (hB : Below w.heap.size w w1) (h : RDid w1 w2 p vb d') : RDid w w2 p vb d' := by
  obtain ⟨⟨vb', h1, h2⟩, hk⟩ := h
  refine ⟨⟨vb', h1, ?_⟩, (KeepBut.of_below (fun k => k = p) hB).trans hk (fun _ _ h => h)⟩
  rcases h2 with h2 | h2
  · exact .inl h2
  · exact .inr (fun g hg => Nat.le_trans hB.size (h2 g hg))
set_option maxRecDepth 100000 in
set_option maxHeartbeats 3200000 in
theorem would_any (p : Nat) (vb : Value) (d : Dk) (a : DAct) (sv : Value) (w : World) (h : RD w p vb d) (hok : d.Ok) (ha : a.Ok) (hL : Lies .u8 w sv a.b) (hd : d.bs.length ≤ 100000000) (hxl : a.b.length ≤ 100000000000000) :
    Calls Try.prog 14 #[.pointer (some ⟨p, 0, none⟩), .agg #[.int .u8 (a.kind : Int), .int .i64 a.n, sv, .bool a.cut]] w fun e w' => e = .returned (.tuple #[.int .i64 (actA d a).1, .int .i64 (actA d a).2]) ∧ RDid w w' p vb (actD d a) := by
  obtain ⟨ao, cap, hsv⟩ := hL.shape
  subst hsv
  have hk := ha.k
  have hB0 := alloc_below7 w (.cells #[.int .u8 (a.kind : Int), .int .i64 a.n, .slice ao a.b.length cap, .bool a.cut] 36)
  have HB0 := hide hB0
  have HD0 := hide (h.below hB0)
  have HL0 := hide (hL.below hB0)
  have hrem : (a.kind : Int).tmod 8 = ((a.kind % 8 : Nat) : Int) := by
    rw [Int.tmod_eq_emod_of_nonneg (by omega)]; omega
  have hn2 := ha.n2
  have HAK : Hid (actA d a = if a.kind % 8 = 1 then (0, forA d) else if a.kind % 8 = 2 then (0, cutA d a.n) else if a.kind % 8 = 7 then (0, cutA d a.n) else if a.kind % 8 = 3 then (0, 0) else if a.kind % 8 = 4 then (0, faiA d) else if a.kind % 8 = 5 then (0, staA d a.b) else appA d a.b) := rfl
  have HDK : Hid (actD d a = if a.kind % 8 = 1 then forD d else if a.kind % 8 = 2 then cutD d a.n else if a.kind % 8 = 7 then triD d a.n else if a.kind % 8 = 3 then armD d a.n else if a.kind % 8 = 4 then faiD d else if a.kind % 8 = 5 then staD d a.n a.cut a.b else appD d a.b) := rfl
  have hr8 : a.kind % 8 < 8 := Nat.mod_lt _ (by decide)
  generalize a.kind % 8 = r at *
  have hcs : r = 0 ∨ r = 1 ∨ r = 2 ∨ r = 3 ∨ r = 4 ∨ r = 5 ∨ r = 6 ∨ r = 7 := by omega
  clear h hL hB0 hr8
  rcases hcs with rfl | rfl | rfl | rfl | rfl | rfl | rfl | rfl
  · have HA : Hid (actA d a = appA d a.b) := hide (by rw [HAK.out]; simp)
    have HD : Hid (actD d a = appD d a.b) := hide (by rw [HDK.out]; simp)
    have C := hide (rappend_any p vb d _ a.b _ HD0.out hok HL0.out hd hxl)
    clear HAK HDK
    go_enter Try.func14, Try.ntmps14
    go_wp2_with fail
    refine C.out.mono ?_
    rintro e w1 ⟨rfl, h1⟩
    have H1 := hide (RDid.before HB0.out h1)
    clear h1 C
    go_wp2_with fail
    go_ret2
    rw [HA.out, HD.out]
    exact ⟨rfl, H1.out⟩
  · have HA : Hid (actA d a = (0, forA d)) := hide (by rw [HAK.out]; simp)
    have HD : Hid (actD d a = forD d) := hide (by rw [HDK.out]; simp)
    have C := hide (rforce_any p vb d _ HD0.out hok)
    clear HAK HDK
    go_enter Try.func14, Try.ntmps14
    go_wp2_with fail
    refine C.out.mono ?_
    rintro e w1 ⟨rfl, h1⟩
    have H1 := hide (RDid.before HB0.out h1)
    clear h1 C
    go_wp2_with fail
    go_ret2
    rw [HA.out, HD.out]
    exact ⟨rfl, H1.out⟩
  · have HA : Hid (actA d a = (0, cutA d a.n)) := hide (by rw [HAK.out]; simp)
    have HD : Hid (actD d a = cutD d a.n) := hide (by rw [HDK.out]; simp)
    have C := hide (rcut_any p vb d a.n _ HD0.out)
    clear HAK HDK
    go_enter Try.func14, Try.ntmps14
    go_wp2_with fail
    refine C.out.mono ?_
    rintro e w1 ⟨rfl, h1⟩
    have H1 := hide (RDid.before HB0.out h1)
    clear h1 C
    go_wp2_with fail
    go_ret2
    rw [HA.out, HD.out]
    exact ⟨rfl, H1.out⟩
  · have HA : Hid (actA d a = (0, 0)) := hide (by rw [HAK.out]; simp)
    have HD : Hid (actD d a = armD d a.n) := hide (by rw [HDK.out]; simp)
    have C := hide (rarm_any p vb d a.n _ HD0.out)
    clear HAK HDK
    go_enter Try.func14, Try.ntmps14
    go_wp2_with fail
    refine C.out.mono ?_
    rintro e w1 ⟨rfl, h1⟩
    have H1 := hide (RDid.before HB0.out h1)
    clear h1 C
    go_wp2_with fail
    go_ret2
    rw [HA.out, HD.out]
    exact ⟨rfl, H1.out⟩
  · have HA : Hid (actA d a = (0, faiA d)) := hide (by rw [HAK.out]; simp)
    have HD : Hid (actD d a = faiD d) := hide (by rw [HDK.out]; simp)
    have C := hide (rfail_any p vb d _ HD0.out)
    clear HAK HDK
    go_enter Try.func14, Try.ntmps14
    go_wp2_with fail
    refine C.out.mono ?_
    rintro e w1 ⟨rfl, h1⟩
    have H1 := hide (RDid.before HB0.out h1)
    clear h1 C
    go_wp2_with fail
    go_ret2
    rw [HA.out, HD.out]
    exact ⟨rfl, H1.out⟩
  · have HA : Hid (actA d a = (0, staA d a.b)) := hide (by rw [HAK.out]; simp)
    have HD : Hid (actD d a = staD d a.n a.cut a.b) := hide (by rw [HDK.out]; simp)
    have C := hide (rstart_any p vb d a.n a.cut _ a.b _ HD0.out hok HL0.out hd hxl hn2)
    clear HAK HDK
    go_enter Try.func14, Try.ntmps14
    go_wp2_with fail
    refine C.out.mono ?_
    rintro e w1 ⟨rfl, h1⟩
    have H1 := hide (RDid.before HB0.out h1)
    clear h1 C
    go_wp2_with fail
    go_ret2
    rw [HA.out, HD.out]
    exact ⟨rfl, H1.out⟩
  · have HA : Hid (actA d a = appA d a.b) := hide (by rw [HAK.out]; simp)
    have HD : Hid (actD d a = appD d a.b) := hide (by rw [HDK.out]; simp)
    have C := hide (rappend_any p vb d _ a.b _ HD0.out hok HL0.out hd hxl)
    clear HAK HDK
    go_enter Try.func14, Try.ntmps14
    go_wp2_with fail
    refine C.out.mono ?_
    rintro e w1 ⟨rfl, h1⟩
    have H1 := hide (RDid.before HB0.out h1)
    clear h1 C
    go_wp2_with fail
    go_ret2
    rw [HA.out, HD.out]
    exact ⟨rfl, H1.out⟩
  · have HA : Hid (actA d a = (0, cutA d a.n)) := hide (by rw [HAK.out]; simp)
    have HD : Hid (actD d a = triD d a.n) := hide (by rw [HDK.out]; simp)
    have C := hide (rtrim_any p vb d a.n _ HD0.out hd)
    clear HAK HDK
    go_enter Try.func14, Try.ntmps14
    go_wp2_with fail
    refine C.out.mono ?_
    rintro e w1 ⟨rfl, h1⟩
    have H1 := hide (RDid.before HB0.out h1)
    clear h1 C
    go_wp2_with fail
    go_ret2
    rw [HA.out, HD.out]
    exact ⟨rfl, H1.out⟩
end Go.Proofs.Ytjjmcaamgoffiaa
