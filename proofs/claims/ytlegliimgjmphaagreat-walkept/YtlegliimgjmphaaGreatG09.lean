/-
  Own texts put together: FrPlain, FrScan, MgLaw, RcLaw, MgDo, RcDo, E10One, E11One, DkPlain, WlPlain. Own work.
-/
import Derived.Test.YtlegliimgjmphaaGreatG08
import Derived.Test.YtlegliimgjmphaaGreatG06
import Derived.Test.YtlegliimgjmphaaGreatG07
import Derived.Test.YtlegliimgjmphaaGreatG01
import Derived.BigQuiet
import Derived.Deep.QuietTactic
import Derived.Deep.LoopGhost
import Derived.Laws.BitsAllLaws
namespace Go.Proofs.YtlegliimgjmphaaGreat
section
open Go
def sumF (ls load : List Int) : Nat := moreI (moreI 0 ls) load
def lenB (load : List Int) : List Int := putS load.length 2
def headF (load : List Int) : List Int := [167, 94] ++ lenB load ++ putS (sumF (lenB load) load) 4
def frameF (load : List Int) : List Int := headF load ++ load
theorem headF_length (load : List Int) : (headF load).length = 8 := by simp [headF, lenB, putS_len]
theorem frameF_length (load : List Int) : (frameF load).length = 8 + load.length := by simp [frameF, headF_length]
def lenF (bs : List Int) : Nat := valB ((bs.drop 2).take 2)
def nextF (bs : List Int) : List Int × Nat × Int :=
 if bs.length = 0 then ([], 0, 4)
 else if bs.getD 0 0 ≠ 167 then ([], 0, 3)
 else if bs.length = 1 then ([], 0, 4)
 else if bs.getD 1 0 ≠ 94 then ([], 0, 3)
 else if bs.length < 4 then ([], 0, 4)
 else if 4096 < lenF bs then ([], 0, 3)
 else if bs.length < 8 + lenF bs then ([], 0, 4)
 else if valB ((bs.drop 4).take 4) ≠ sumF ((bs.drop 2).take 2) ((bs.drop 8).take (lenF bs)) then ([], 0, 8)
 else ((bs.drop 8).take (lenF bs), 8 + lenF bs, 0)
theorem sumF_lt {ls load : List Int} (h1 : ∀ c ∈ ls, 0 ≤ c ∧ c < 256) (h2 : ∀ c ∈ load, 0 ≤ c ∧ c < 256) : sumF ls load < 4294967296 := moreI_lt (moreI_lt (by decide) h1) h2
theorem parts (load xs : List Int) (hl : load.length ≤ 4096) (hb : ∀ c ∈ load, 0 ≤ c ∧ c < 256) :
  (frameF load ++ xs).getD 0 0 = 167 ∧ (frameF load ++ xs).getD 1 0 = 94 ∧ ((frameF load ++ xs).drop 2).take 2 = lenB load ∧ lenF (frameF load ++ xs) = load.length ∧ valB (((frameF load ++ xs).drop 4).take 4) = sumF (lenB load) load ∧
   ((frameF load ++ xs).drop 8).take load.length = load ∧ (frameF load ++ xs).drop (8 + load.length) = xs := by
 have h2 : (lenB load).length = 2 := putS_len _ _
 have h4 : (putS (sumF (lenB load) load) 4).length = 4 := putS_len _ _
 have hlen : valB (lenB load) = load.length := by
  unfold lenB
  rw [valB_putS]
  exact Nat.mod_eq_of_lt (by omega)
 have hsum : valB (putS (sumF (lenB load) load) 4) = sumF (lenB load) load := by
  rw [valB_putS]
  exact Nat.mod_eq_of_lt (sumF_lt (putS_bytes _ _) hb)
 have e : frameF load ++ xs = 167 :: 94 :: (lenB load ++ (putS (sumF (lenB load) load) 4 ++ (load ++ xs))) := by simp [frameF, headF]
 have d2 : ((frameF load ++ xs).drop 2).take 2 = lenB load := by
  rw [e]
  show (lenB load ++ _).take 2 = _
  rw [List.take_append_of_le_length (by omega), List.take_of_length_le (by omega)]
 have d4 : (frameF load ++ xs).drop 4 = putS (sumF (lenB load) load) 4 ++ (load ++ xs) := by
  rw [e]
  show (lenB load ++ (putS (sumF (lenB load) load) 4 ++ (load ++ xs))).drop 2 = _
  have z : (lenB load).drop 2 = [] := List.drop_eq_nil_of_le (by omega)
  rw [List.drop_append_of_le_length (by omega), z, List.nil_append]
 have d8 : (frameF load ++ xs).drop 8 = load ++ xs := by
  have : (frameF load ++ xs).drop 8 = ((frameF load ++ xs).drop 4).drop 4 := by rw [List.drop_drop]
  have z : (putS (sumF (lenB load) load) 4).drop 4 = [] := List.drop_eq_nil_of_le (by omega)
  rw [this, d4, List.drop_append_of_le_length (by omega), z, List.nil_append]
 refine ⟨by rw [e]; rfl, by rw [e]; rfl, d2, by unfold lenF; rw [d2, hlen], ?_, ?_, ?_⟩
 ·rw [d4, List.take_append_of_le_length (by omega), List.take_of_length_le (by omega), hsum]
 ·rw [d8]; simp
 ·have : (frameF load ++ xs).drop (8 + load.length) = ((frameF load ++ xs).drop 8).drop load.length := by rw [List.drop_drop]
  rw [this, d8]; simp
theorem next_put (load xs : List Int) (hl : load.length ≤ 4096) (hb : ∀ c ∈ load, 0 ≤ c ∧ c < 256) : nextF (frameF load ++ xs) = (load, 8 + load.length, 0) := by
 obtain ⟨p0, p1, p2, p3, p4, p5, _⟩ := parts load xs hl hb
 have hlen : (frameF load ++ xs).length = 8 + load.length + xs.length := by rw [List.length_append, frameF_length]
 unfold nextF
 rw [if_neg (by omega), if_neg (by rw [p0]; simp), if_neg (by omega), if_neg (by rw [p1]; simp), if_neg (by omega), if_neg (by rw [p3]; omega), if_neg (by rw [p3]; omega), if_neg (by rw [p3, p4, p2, p5]; simp), p3, p5]
theorem take_getD (xs : List Int) (n k : Nat) (h : k < n) : (xs.take n).getD k 0 = xs.getD k 0 := by
 simp [List.getD, h]
theorem next_cut (load : List Int) (hl : load.length ≤ 4096) (hb : ∀ c ∈ load, 0 ≤ c ∧ c < 256) (n : Nat) (hn : n < 8 + load.length) : nextF ((frameF load).take n) = ([], 0, 4) := by
 obtain ⟨p0, p1, p2, p3, _⟩ := parts load [] hl hb
 rw [List.append_nil] at p0 p1 p2 p3
 have hlen : ((frameF load).take n).length = n := by rw [List.length_take, frameF_length]; omega
 unfold nextF
 by_cases h0 : n = 0
 ·rw [if_pos (by omega)]
 rw [if_neg (by omega), if_neg (by rw [take_getD _ _ _ (by omega), p0]; simp)]
 by_cases h1 : n = 1
 ·rw [if_pos (by omega)]
 rw [if_neg (by omega), if_neg (by rw [take_getD _ _ _ (by omega), p1]; simp)]
 by_cases h4 : n < 4
 ·rw [if_pos (by omega)]
 have hlf : lenF ((frameF load).take n) = load.length := by
  unfold lenF at p3 ⊢
  rw [List.drop_take, List.take_take, Nat.min_eq_left (by omega), p3]
 rw [if_neg (by omega), if_neg (by rw [hlf]; omega), if_pos (by rw [hlf, hlen]; omega)]
end
section
open Go
theorem next_ok (bs : List Int) (h : (nextF bs).2.2 = 0) : 8 ≤ (nextF bs).2.1 ∧ (nextF bs).2.1 ≤ bs.length := by
 unfold nextF at h ⊢
 repeat' split at h
 all_goals first
  | (exfalso; revert h; decide)
  | skip
 rename_i h1 h2 h3 h4 h5 h6 h7 h8
 rw [if_neg h1, if_neg h2, if_neg h3, if_neg h4, if_neg h5, if_neg h6, if_neg h7, if_neg h8]
 exact ⟨Nat.le_add_right _ _, Nat.le_of_not_lt h7⟩
theorem next_small (bs : List Int) : (nextF bs).1.length ≤ 4096 ∧ (nextF bs).1.length ≤ bs.length := by
 unfold nextF
 repeat' split
 all_goals first
  | exact ⟨Nat.zero_le _, Nat.zero_le _⟩
  | skip
 rename_i h1 h2 h3 h4 h5 h6 h7 h8
 constructor
 ·simp; omega
 ·simp; omega
theorem next_bytes (bs : List Int) (hx : ∀ c ∈ bs, 0 ≤ c ∧ c < 256) : ∀ c ∈ (nextF bs).1, 0 ≤ c ∧ c < 256 := by
 unfold nextF
 repeat' split
 all_goals first
  | exact fun c hc => hx c (List.mem_of_mem_drop (List.mem_of_mem_take hc))
  | exact fun c hc => absurd hc List.not_mem_nil
def scanN : Nat → List Int → List (List Int) × Nat
 | 0, _ => ([], 0)
 | f + 1, bs => if (nextF bs).2.2 ≠ 0 then ([], 0) else ((nextF bs).1 :: (scanN f (bs.drop (nextF bs).2.1)).1, (nextF bs).2.1 + (scanN f (bs.drop (nextF bs).2.1)).2)
def scanF (bs : List Int) : List (List Int) × Nat := scanN (bs.length + 1) bs
theorem scan_fuel : ∀ (f g : Nat) (bs : List Int), bs.length < f → bs.length < g → scanN f bs = scanN g bs
 | 0, _, _, h, _ => by omega
 | _ + 1, 0, _, _, h => by omega
 | f + 1, g + 1, bs, hf, hg => by
  unfold scanN
  by_cases h : (nextF bs).2.2 ≠ 0
  ·rw [if_pos h, if_pos h]
  ·rw [if_neg h, if_neg h]
   have h' : (nextF bs).2.2 = 0 := Classical.byContradiction h
   have hk := next_ok bs h'
   have hl : (bs.drop (nextF bs).2.1).length = bs.length - (nextF bs).2.1 := by simp
   rw [scan_fuel f g _ (by omega) (by omega)]
theorem scan_no (bs : List Int) (h : (nextF bs).2.2 ≠ 0) : scanF bs = ([], 0) := by
 unfold scanF scanN
 rw [if_pos h]
theorem scan_ok (bs : List Int) (h : (nextF bs).2.2 = 0) : scanF bs = ((nextF bs).1 :: (scanF (bs.drop (nextF bs).2.1)).1, (nextF bs).2.1 + (scanF (bs.drop (nextF bs).2.1)).2) := by
 have hk := next_ok bs h
 have hl : (bs.drop (nextF bs).2.1).length = bs.length - (nextF bs).2.1 := by simp
 have e : scanF bs = scanN (bs.length + 1) bs := rfl
 rw [e, scanN, if_neg (by rw [h]; simp)]
 unfold scanF
 rw [scan_fuel bs.length ((bs.drop (nextF bs).2.1).length + 1) _ (by omega) (by omega)]
end
section
open Go.RowKit
theorem alloc_below10 (w : World) (o : Obj) : Below w.heap.size w (w.alloc o) := (Below.refl _ _).alloc (Nat.le_refl _) o
theorem strOf_size10 (xs : List Int) : (strOfNums xs).size = xs.length := by simp [strOfNums, ByteArray.size]
end
section
open Go.RowKit Classical
def MgLies (w : World) (v : Value) (m : MsgP) : Prop := ∃ (ao : Option Addr) (cap : Nat), v = .agg (msgA m (.slice ao m.wr.length cap)) ∧ RSrc wrE w (.slice ao m.wr.length cap) m.wr
theorem MgLies.below {w w' : World} {v : Value} {m : MsgP} (h : MgLies w v m) (hB : Below w.heap.size w w') : MgLies w' v m := by
 obtain ⟨ao, cap, rfl, hs⟩ := h
 exact ⟨ao, cap, rfl, hs.below hB⟩
theorem infoFlt : (Tryz.prog.info? 118).map (·.size) = some 2 := by kernel_rfl
end
section
open Go.RowKit Classical
theorem it_ok_of {i : ItP} (h : itRng i) : ItOk i := ⟨by have := h.1; show i.ver < 4294967296; have : i.ver ≤ 2147483647 := this; omega, h.2.1.2, ⟨by have : i.cf.e ≤ 2147483647 := h.2.2.1; omega, by have := h.2.2.2.1; omega, by have := h.2.2.2.2.1; omega, h.2.2.2.2.2.1, h.2.2.2.2.2.2⟩⟩
def AllB (l : List Int) : Prop := ∀ c ∈ l, 0 ≤ c ∧ c < 256
theorem AllB.app {a b : List Int} (ha : AllB a) (hb : AllB b) : AllB (a ++ b) := fun c hc => (List.mem_append.1 hc).elim (ha c) (hb c)
theorem allB_short (n : Nat) : AllB (shortS n) := fun c hc => shortS_bytes n c hc
theorem allB_one {n : Nat} (h : n < 256) : AllB [(n : Int)] := fun c hc => by simp at hc; subst hc; omega
theorem allB_votes : ∀ {l : List Nat}, (∀ x ∈ l, x < 256) → AllB (repEnc byteN l)
 | [], _ => fun c hc => by simp [repEnc] at hc
 | x :: l, h => by
  have e : repEnc byteN (x :: l) = [(x : Int)] ++ repEnc byteN l := by simp [repEnc, byteN]
  rw [e]
  exact (allB_one (h x List.mem_cons_self)).app (allB_votes (fun y hy => h y (List.mem_cons_of_mem _ hy)))
theorem allB_it {i : ItP} (h : ItOk i) : AllB (itC.enc i) := by
 have e : itC.enc i = shortS i.ver ++ ((shortS i.val.length ++ i.val) ++ (shortS i.cf.e ++ (shortS i.cf.r ++ (shortS i.cf.w ++ repEnc byteN i.cf.vs)))) := rfl
 rw [e]
 exact (allB_short _).app (((allB_short _).app h.s).app ((allB_short _).app ((allB_short _).app ((allB_short _).app (allB_votes h.c.v)))))
theorem allB_ws : ∀ {l : List WrP}, (∀ x ∈ l, KeyOk x.key ∧ ItOk x.it) → AllB (repEnc wrC l)
 | [], _ => fun c hc => by simp [repEnc] at hc
 | x :: l, h => by
  have e : repEnc wrC (x :: l) = (x.key ++ itC.enc x.it) ++ repEnc wrC l := by show (x :: l).flatMap wrC.enc = _; rw [List.flatMap_cons]; rfl
  rw [e]
  have hx := h x List.mem_cons_self
  exact (AllB.app hx.1.b (allB_it hx.2)).app (allB_ws (fun y hy => h y (List.mem_cons_of_mem _ hy)))
theorem flt_one2 (a b : Int) : (#[.int .i64 a, .int .i64 b] : Array Value).all (·.oneCell') = true := by simp [Value.oneCell']
end
section
open Go.RowKit Classical
theorem rec_ok_of {m : RecP} (hk : m.kind < 256) (h : ∀ g, g < 8 → rngR g m) : RecOk m := by
 have h0 : m.n ≤ 2147483647 := h 0 (by decide)
 have h1 : m.tx.1 < 256 ∧ m.tx.2.1 ≤ 2147483647 ∧ m.tx.2.2 ≤ 2147483647 := h 1 (by decide)
 have h2 : m.reg.1 ≤ 2147483647 ∧ m.reg.2 ≤ 2147483647 := h 2 (by decide)
 have h3 : m.mem ≤ 255 := h 3 (by decide)
 have h4 : m.wr.length ≤ 16 ∧ ∀ x ∈ m.wr, wrRng x := h 4 (by decide)
 have h5 : ∀ x ∈ m.mis, x ≤ 255 := h 5 (by decide)
 have h6 : m.key.length = 8 ∧ ∀ c ∈ m.key, 0 ≤ c ∧ c < 256 := h 6 (by decide)
 have h7 : itRng m.item := h 7 (by decide)
 exact ⟨hk, by omega, ⟨h1.1, by omega, by omega⟩, ⟨by omega, by omega⟩, by omega, fun x hx => ⟨⟨(h4.2 x hx).1.1, (h4.2 x hx).1.2⟩, it_ok_of (h4.2 x hx).2⟩, fun x hx => by have := h5 x hx; omega, ⟨h6.1, h6.2⟩, it_ok_of h7⟩
theorem zeroR_rng (k : Nat) {g : Nat} (hg : g < 8) : rngR g (zeroR k) := by
 refine byEight (P := fun g => rngR g (zeroR k)) hg ?_ ?_ ?_ ?_ ?_ ?_ ?_ ?_
 ·show (0 : Nat) ≤ mxN; decide
 ·show (0 : Nat) < 256 ∧ (0 : Nat) ≤ mxN ∧ (0 : Nat) ≤ mxN; decide
 ·show (0 : Nat) ≤ mxN ∧ (0 : Nat) ≤ mxN; decide
 ·show (0 : Nat) ≤ 255; decide
 ·exact ⟨Nat.zero_le _, fun x hx => by cases hx⟩
 ·exact fun x hx => by cases hx
 ·show [(0 : Int), 0, 0, 0, 0, 0, 0, 0].length = 8 ∧ ∀ c ∈ [(0 : Int), 0, 0, 0, 0, 0, 0, 0], 0 ≤ c ∧ c < 256; decide
 ·show itRng zeroIt
  exact ⟨by decide, ⟨by decide, by decide⟩, by decide, by decide, by decide, rfl, by decide⟩
theorem zeroR_okE (k : Nat) (hk : k < 256) : RecOk (zeroR k) := rec_ok_of hk (fun _ hg => zeroR_rng k hg)
theorem mayR_kept {m : RecP} (h : mayR m = true) : fieldsR m.kind ≠ [] ∧ keptR m = true := by
 unfold mayR at h
 simp only [Bool.and_eq_true] at h
 exact ⟨fun e => by rw [e] at h; simp at h, h.1.2⟩
theorem dec_okR {b : List Int} (hx : ∀ c ∈ b, 0 ≤ c ∧ c < 256) : RecOk (decRec b).1 := by
 by_cases h : (decRec b).2.1 = 0
 ·obtain ⟨hm, _, hr⟩ := enc_decR hx h
  obtain ⟨hne, hk⟩ := mayR_kept hm
  have hkind : (decRec b).1.kind < 256 := by rcases fieldsR_kind hne with e | e | e | e | e | e | e <;> omega
  refine rec_ok_of hkind (fun g hg => ?_)
  by_cases hin : g ∈ fieldsR (decRec b).1.kind
  ·exact hr g hin
  ·unfold keptR at hk
   rw [List.all_eq_true] at hk
   have := hk g (List.mem_range.2 hg)
   rw [Bool.or_eq_true] at this
   rcases this with e | e
   ·exact absurd (by simpa using e) hin
   ·exact (eqR_rng hg ((zeroRB_eq hg _ 0).1 e)).2 (zeroR_rng 0 hg)
 ·rw [(dec_faultR hx h).1]
  exact zeroR_okE 0 (by decide)
theorem allB_mis : ∀ (l : List Nat), AllB (repEnc (numC 255) l)
 | [] => fun c hc => by simp [repEnc] at hc
 | x :: l => by
  have e : repEnc (numC 255) (x :: l) = shortS x ++ repEnc (numC 255) l := by show (x :: l).flatMap (numC 255).enc = _; rw [List.flatMap_cons]; rfl
  rw [e]
  exact (allB_short _).app (allB_mis l)
theorem encR_bytes {m : RecP} (h : RecOk m) {f : Nat} (hf : f < 8) : AllB (encR f m) := by
 refine byEight (P := fun f => AllB (encR f m)) hf ?_ ?_ ?_ ?_ ?_ ?_ ?_ ?_
 ·exact allB_short _
 ·show AllB ([(m.tx.1 : Int)] ++ (shortS m.tx.2.1 ++ shortS m.tx.2.2))
  exact (allB_one h.tx.1).app ((allB_short _).app (allB_short _))
 ·show AllB (shortS m.reg.1 ++ shortS m.reg.2)
  exact (allB_short _).app (allB_short _)
 ·exact allB_short _
 ·show AllB (shortS m.wr.length ++ repEnc wrC m.wr)
  exact (allB_short _).app (allB_ws h.wr)
 ·exact allB_mis m.mis
 ·exact h.key.b
 ·exact allB_it h.item
theorem encRs_bytes {m : RecP} (h : RecOk m) : ∀ {fs : List Nat}, (∀ f ∈ fs, f < 8) → AllB (encRs fs m)
 | [], _ => fun c hc => by simp [encRs] at hc
 | f :: fs, hf => by
  have e : encRs (f :: fs) m = encR f m ++ encRs fs m := by simp [encRs]
  rw [e]
  exact (encR_bytes h (hf f List.mem_cons_self)).app (encRs_bytes h (fun g hg => hf g (List.mem_cons_of_mem _ hg)))
theorem enc_bytesR {m : RecP} (h : RecOk m) : ∀ c ∈ encRec m, 0 ≤ c ∧ c < 256 := by
 show AllB ([(m.kind : Int)] ++ encRs (fieldsR m.kind) m)
 exact (allB_one h.kind).app (encRs_bytes h (fieldsR_facts m.kind).2)
end
section
open Go
structure Dk where
 room : Nat
 bs : List Int
 base : Nat
 fbase : Nat
 fend : Nat
 off : Bool
 armed : Bool
 fuse : Nat
structure Dk.Ok (d : Dk) : Prop where
 r1 : 1 ≤ d.room
 r2 : d.room ≤ 65536
 b1 : d.fbase ≤ d.base
 b2 : d.base ≤ d.bs.length
 f1 : d.fbase ≤ d.fend
 f2 : d.fend ≤ d.bs.length
 full : d.bs.length ≤ d.fbase + d.room
 fu : d.fuse < 9223372036854775808
 by8 : ∀ c ∈ d.bs, 0 ≤ c ∧ c < 256
def newD (room : Nat) : Dk := ⟨room, [], 0, 0, 0, false, false, 0⟩
theorem newD_ok (room : Nat) (h1 : 1 ≤ room) (h2 : room ≤ 65536) : (newD room).Ok := ⟨h1, h2, Nat.le_refl _, Nat.le_refl _, Nat.le_refl _, Nat.le_refl _, by simp [newD], by simp [newD], by simp [newD]⟩
def Dk.left (d : Dk) : Nat := d.fbase + d.room - d.bs.length
def appA (d : Dk) (b : List Int) : Int × Int := if d.off then (0, 10) else if d.left < b.length then (0, 9) else ((d.bs.length : Int), 0)
def appD (d : Dk) (b : List Int) : Dk := if d.off then d else if d.left < b.length then d else { d with bs := d.bs ++ b }
def forA (d : Dk) : Int := if d.off then 10 else if d.armed && d.fuse == 0 then 10 else 0
def forD (d : Dk) : Dk := if d.off then d else if d.armed && d.fuse == 0 then { d with off := true } else { d with fuse := if d.armed then d.fuse - 1 else d.fuse, fbase := d.base, fend := d.bs.length }
def Dk.inB (d : Dk) (to : Int) : Bool := decide ((d.base : Int) ≤ to) && decide (to ≤ (d.bs.length : Int))
def cutA (d : Dk) (to : Int) : Int := if d.off then 10 else if d.inB to then 0 else 1
def cutD (d : Dk) (to : Int) : Dk := if d.off then d else if d.inB to then { d with base := to.toNat } else d
def triD (d : Dk) (to : Int) : Dk := if d.off then d else if d.inB to then { d with bs := d.bs.take to.toNat, fend := min d.fend to.toNat } else d
def reaA (d : Dk) : Int := if d.off then 10 else 0
def reaB (d : Dk) : List Int := if d.off then [] else d.bs.drop d.base
def armD (d : Dk) (n : Int) : Dk := { d with armed := decide (0 ≤ n), fuse := n.toNat }
def faiA (d : Dk) : Int := if d.off then 11 else 0
def faiD (d : Dk) : Dk := { d with off := true }
def staB (d : Dk) (keep : Int) (tail : List Int) : List Int := if tail = [] then d.bs.take (d.fend + min keep.toNat (d.bs.length - d.fend)) else d.bs.take d.fend ++ tail
def staA (d : Dk) (tail : List Int) : Int := if !d.off then 11 else if d.room - (d.fend - d.fbase) < tail.length then 9 else 0
def staE (d : Dk) (keep : Int) (cut : Bool) (tail : List Int) : Nat := if cut && decide (d.base ≤ (staB d keep tail).length) then d.base else d.fbase
def staD (d : Dk) (keep : Int) (cut : Bool) (tail : List Int) : Dk :=
 if !d.off then d else if d.room - (d.fend - d.fbase) < tail.length then d
 else ⟨d.room, staB d keep tail, staE d keep cut tail, staE d keep cut tail, (staB d keep tail).length, false, false, 0⟩
theorem appD_ok {d : Dk} (h : d.Ok) (b : List Int) (hb : ∀ c ∈ b, 0 ≤ c ∧ c < 256) : (appD d b).Ok := by
 unfold appD
 split
 ·exact h
 ·split
  ·exact h
  ·rename_i h1 h2
   have := h.full
   have := h.b2
   have := h.f2
   unfold Dk.left at h2
   refine ⟨h.r1, h.r2, h.b1, ?_, h.f1, ?_, ?_, h.fu, fun c hc => ?_⟩
   ·simp; omega
   ·simp; omega
   ·simp; omega
   ·rcases List.mem_append.1 hc with hc | hc
    ·exact h.by8 c hc
    ·exact hb c hc
theorem forD_ok {d : Dk} (h : d.Ok) : (forD d).Ok := by
 have h1 := h.b1
 have h2 := h.full
 have h3 := h.b2
 have h4 := h.fu
 unfold forD
 split
 ·exact h
 ·split
  ·exact ⟨h.r1, h.r2, h.b1, h.b2, h.f1, h.f2, h.full, h.fu, h.by8⟩
  ·refine ⟨h.r1, h.r2, Nat.le_refl _, h.b2, h.b2, Nat.le_refl _, ?_, ?_, h.by8⟩
   ·show d.bs.length ≤ d.base + d.room; omega
   ·show (if d.armed then d.fuse - 1 else d.fuse) < _
    split <;> omega
theorem inB_nat {d : Dk} {to : Int} (h : d.inB to = true) : ∃ n : Nat, to = (n : Int) ∧ d.base ≤ n ∧ n ≤ d.bs.length := by
 unfold Dk.inB at h
 simp only [Bool.and_eq_true, decide_eq_true_eq] at h
 exact ⟨to.toNat, by omega, by omega, by omega⟩
theorem cutD_ok {d : Dk} (h : d.Ok) (to : Int) : (cutD d to).Ok := by
 unfold cutD
 split
 ·exact h
 ·split
  ·rename_i h1 h2
   obtain ⟨n, rfl, e1, e2⟩ := inB_nat h2
   have := h.b1
   exact ⟨h.r1, h.r2, by simp; omega, by simpa using e2, h.f1, h.f2, h.full, h.fu, h.by8⟩
  ·exact h
theorem triD_ok {d : Dk} (h : d.Ok) (to : Int) : (triD d to).Ok := by
 unfold triD
 split
 ·exact h
 ·split
  ·rename_i h1 h2
   obtain ⟨n, rfl, e1, e2⟩ := inB_nat h2
   have := h.b1
   have := h.f1
   have := h.full
   rw [Int.toNat_natCast]
   refine ⟨h.r1, h.r2, h.b1, ?_, ?_, ?_, ?_, h.fu, fun c hc => h.by8 c (List.mem_of_mem_take hc)⟩
   ·simp; omega
   ·simp; omega
   ·simp; omega
   ·simp; omega
  ·exact h
theorem armD_ok {d : Dk} (h : d.Ok) (n : Int) (hn : n ≤ 9223372036854775807) : (armD d n).Ok := ⟨h.r1, h.r2, h.b1, h.b2, h.f1, h.f2, h.full, by show n.toNat < _; omega, h.by8⟩
theorem faiD_ok {d : Dk} (h : d.Ok) : (faiD d).Ok := ⟨h.r1, h.r2, h.b1, h.b2, h.f1, h.f2, h.full, h.fu, h.by8⟩
theorem staB_len {d : Dk} (h : d.Ok) (keep : Int) (tail : List Int) (ht : tail.length ≤ d.room - (d.fend - d.fbase)) : d.fend ≤ (staB d keep tail).length ∧ (staB d keep tail).length ≤ d.fbase + d.room := by
 have := h.f1
 have := h.f2
 have := h.full
 have := h.r2
 unfold staB
 split
 ·simp; omega
 ·simp; omega
theorem staD_ok {d : Dk} (h : d.Ok) (keep : Int) (cut : Bool) (tail : List Int) (hb : ∀ c ∈ tail, 0 ≤ c ∧ c < 256) : (staD d keep cut tail).Ok := by
 unfold staD
 split
 ·exact h
 ·split
  ·exact h
  ·rename_i h1 h2
   obtain ⟨e1, e2⟩ := staB_len h keep tail (by omega)
   have := h.b1
   have := h.f1
   have hE : d.fbase ≤ staE d keep cut tail ∧ staE d keep cut tail ≤ (staB d keep tail).length := by
    unfold staE
    split
    ·rename_i h3
     simp only [Bool.and_eq_true, decide_eq_true_eq] at h3
     omega
    ·omega
   refine ⟨h.r1, h.r2, Nat.le_refl _, hE.2, hE.2, Nat.le_refl _, ?_, by show 0 < 9223372036854775808; decide, fun c hc => ?_⟩
   ·show (staB d keep tail).length ≤ staE d keep cut tail + d.room
    omega
   ·have hc : c ∈ staB d keep tail := hc
    unfold staB at hc
    split at hc
    ·exact h.by8 c (List.mem_of_mem_take hc)
    ·rcases List.mem_append.1 hc with hc | hc
     ·exact h.by8 c (List.mem_of_mem_take hc)
     ·exact hb c hc
structure DAct where
 kind : Nat
 n : Int
 b : List Int
 cut : Bool
structure DAct.Ok (a : DAct) : Prop where
 k : a.kind < 256
 n1 : -9223372036854775808 ≤ a.n
 n2 : a.n ≤ 9223372036854775807
 b : ∀ c ∈ a.b, 0 ≤ c ∧ c < 256
end
section
open Go
def frR (m : RecP) : List Int := frameF (encRec m)
def framesR (l : List RecP) : List Int := (l.map frR).flatten
def GoodR (l : List RecP) : Prop := ∀ m ∈ l, RecOk m ∧ mayR m = true
theorem framesR_cons (m : RecP) (l : List RecP) : framesR (m :: l) = frR m ++ framesR l := by simp [framesR]
theorem framesR_app (a b : List RecP) : framesR (a ++ b) = framesR a ++ framesR b := by simp [framesR]
theorem framesR_nil : framesR [] = [] := rfl
theorem GoodR.app {a b : List RecP} (h : GoodR a) (h' : GoodR b) : GoodR (a ++ b) := fun m hm => by
 rcases List.mem_append.1 hm with h1 | h1
 ·exact h m h1
 ·exact h' m h1
theorem GoodR.left {a b : List RecP} (h : GoodR (a ++ b)) : GoodR a := fun m hm => h m (List.mem_append.2 (.inl hm))
theorem GoodR.right {a b : List RecP} (h : GoodR (a ++ b)) : GoodR b := fun m hm => h m (List.mem_append.2 (.inr hm))
theorem GoodR.take {a : List RecP} (h : GoodR a) (n : Nat) : GoodR (a.take n) := fun m hm => h m (List.mem_of_mem_take hm)
theorem frR_len {m : RecP} : (frR m).length = 8 + (encRec m).length := frameF_length _
theorem frR_next {m : RecP} (hm : RecOk m) (h : mayR m = true) (xs : List Int) : nextF (frR m ++ xs) = (encRec m, 8 + (encRec m).length, 0) := next_put (encRec m) xs (encRec_len hm h) (enc_bytesR hm)
def recsN : Nat → List Int → List RecP × Nat
 | 0, _ => ([], 0)
 | f + 1, bs => if (nextF bs).2.2 ≠ 0 then ([], 0) else if (decRec (nextF bs).1).2.1 ≠ 0 then ([], 0) else ((decRec (nextF bs).1).1 :: (recsN f (bs.drop (nextF bs).2.1)).1, (nextF bs).2.1 + (recsN f (bs.drop (nextF bs).2.1)).2)
def recsF (bs : List Int) : List RecP × Nat := recsN (bs.length + 1) bs
theorem recs_fuel : ∀ (f g : Nat) (bs : List Int), bs.length < f → bs.length < g → recsN f bs = recsN g bs
 | 0, _, _, h, _ => by omega
 | _ + 1, 0, _, _, h => by omega
 | f + 1, g + 1, bs, hf, hg => by
  unfold recsN
  by_cases h : (nextF bs).2.2 ≠ 0
  ·rw [if_pos h, if_pos h]
  ·rw [if_neg h, if_neg h]
   have h' : (nextF bs).2.2 = 0 := Classical.byContradiction h
   have hk := next_ok bs h'
   have hl : (bs.drop (nextF bs).2.1).length = bs.length - (nextF bs).2.1 := by simp
   rw [recs_fuel f g _ (by omega) (by omega)]
theorem recs_no (bs : List Int) (h : (nextF bs).2.2 ≠ 0) : recsF bs = ([], 0) := by
 unfold recsF recsN
 rw [if_pos h]
theorem recs_bad (bs : List Int) (h : (nextF bs).2.2 = 0) (h2 : (decRec (nextF bs).1).2.1 ≠ 0) : recsF bs = ([], 0) := by
 unfold recsF recsN
 rw [if_neg (by rw [h]; simp), if_pos h2]
theorem recs_ok (bs : List Int) (h : (nextF bs).2.2 = 0) (h2 : (decRec (nextF bs).1).2.1 = 0) : recsF bs = ((decRec (nextF bs).1).1 :: (recsF (bs.drop (nextF bs).2.1)).1, (nextF bs).2.1 + (recsF (bs.drop (nextF bs).2.1)).2) := by
 have hk := next_ok bs h
 have hl : (bs.drop (nextF bs).2.1).length = bs.length - (nextF bs).2.1 := by simp
 have e : recsF bs = recsN (bs.length + 1) bs := rfl
 rw [e, recsN, if_neg (by rw [h]; simp), if_neg (by rw [h2]; simp)]
 unfold recsF
 rw [recs_fuel bs.length ((bs.drop (nextF bs).2.1).length + 1) _ (by omega) (by omega)]
theorem recs_le (bs : List Int) : (recsF bs).2 ≤ bs.length := by
 suffices h : ∀ n (bs : List Int), bs.length < n → (recsF bs).2 ≤ bs.length from h _ bs (Nat.lt_succ_self _)
 intro n
 induction n with
 | zero => intro bs h; omega
 | succ n ih =>
  intro bs hn
  by_cases h : (nextF bs).2.2 = 0
  ·by_cases h2 : (decRec (nextF bs).1).2.1 = 0
   ·have hk := next_ok bs h
    have hl : (bs.drop (nextF bs).2.1).length = bs.length - (nextF bs).2.1 := by simp
    have hi := ih (bs.drop (nextF bs).2.1) (by omega)
    rw [recs_ok bs h h2]
    show (nextF bs).2.1 + _ ≤ _
    omega
   ·rw [recs_bad bs h h2]; exact Nat.zero_le _
  ·rw [recs_no bs h]; exact Nat.zero_le _
theorem recs_good (bs : List Int) (hx : ∀ c ∈ bs, 0 ≤ c ∧ c < 256) : GoodR (recsF bs).1 := by
 suffices h : ∀ n (bs : List Int), bs.length < n → (∀ c ∈ bs, 0 ≤ c ∧ c < 256) → GoodR (recsF bs).1 from h _ bs (Nat.lt_succ_self _) hx
 intro n
 induction n with
 | zero => intro bs h; omega
 | succ n ih =>
  intro bs hn hx
  by_cases h : (nextF bs).2.2 = 0
  ·by_cases h2 : (decRec (nextF bs).1).2.1 = 0
   ·have hk := next_ok bs h
    have hl : (bs.drop (nextF bs).2.1).length = bs.length - (nextF bs).2.1 := by simp
    have hi := ih (bs.drop (nextF bs).2.1) (by omega) (fun c hc => hx c (List.mem_of_mem_drop hc))
    rw [recs_ok bs h h2]
    intro m hm
    rcases List.mem_cons.1 hm with rfl | hm
    ·have hb := next_bytes bs hx
     exact ⟨dec_okR hb, (enc_decR hb h2).1⟩
    ·exact hi m hm
   ·rw [recs_bad bs h h2]; exact fun m hm => by cases hm
  ·rw [recs_no bs h]; exact fun m hm => by cases hm
theorem recs_nil : recsF [] = ([], 0) := recs_no [] (by decide)
theorem recs_frames (xs : List Int) : ∀ (l : List RecP), GoodR l → recsF (framesR l ++ xs) = (l ++ (recsF xs).1, (framesR l).length + (recsF xs).2)
 | [], _ => by simp [framesR]
 | m :: l, h => by
  have hm := h m List.mem_cons_self
  have hl : GoodR l := fun x hx => h x (List.mem_cons_of_mem _ hx)
  have e : framesR (m :: l) ++ xs = frR m ++ (framesR l ++ xs) := by rw [framesR_cons, List.append_assoc]
  have hn := frR_next hm.1 hm.2 (framesR l ++ xs)
  have hd := dec_encR hm.1 hm.2
  have hdr : (frR m ++ (framesR l ++ xs)).drop (8 + (encRec m).length) = framesR l ++ xs := by
   rw [← frR_len]
   simp
  rw [e, recs_ok _ (by rw [hn]) (by rw [hn, hd]), hn]
  show ((decRec (encRec m)).1 :: (recsF (List.drop (8 + (encRec m).length) _)).1, 8 + (encRec m).length + (recsF (List.drop (8 + (encRec m).length) _)).2) = _
  rw [hdr, recs_frames xs l hl, hd, framesR_cons, List.length_append, frR_len]
  simp
  omega
theorem recs_whole {l : List RecP} (h : GoodR l) : recsF (framesR l) = (l, (framesR l).length) := by
 have := recs_frames [] l h
 rw [List.append_nil, recs_nil] at this
 simpa using this
theorem recs_part : ∀ (l : List RecP), GoodR l → ∀ n, ∃ j, j ≤ l.length ∧ recsF ((framesR l).take n) = (l.take j, (framesR (l.take j)).length) ∧ ((framesR l).take n).take (framesR (l.take j)).length = framesR (l.take j)
 | [], _, n => ⟨0, Nat.le_refl _, by simp [framesR, recs_nil], by simp [framesR]⟩
 | m :: l, h, n => by
  have hm := h m List.mem_cons_self
  have hl : GoodR l := fun x hx => h x (List.mem_cons_of_mem _ hx)
  rw [framesR_cons]
  by_cases hn : n < (frR m).length
  ·refine ⟨0, Nat.zero_le _, ?_, by simp [framesR]⟩
   have ht : (frR m ++ framesR l).take n = (frR m).take n := List.take_append_of_le_length (by omega)
   rw [ht]
   have hc := next_cut (encRec m) (encRec_len hm.1 hm.2) (enc_bytesR hm.1) n (by rw [← frR_len]; exact hn)
   have := recs_no ((frR m).take n) (by rw [show (frR m).take n = (frameF (encRec m)).take n from rfl, hc]; decide)
   rw [this]
   rfl
  ·obtain ⟨j, hj, e, e2⟩ := recs_part l hl (n - (frR m).length)
   have ht : (frR m ++ framesR l).take n = frR m ++ (framesR l).take (n - (frR m).length) := by
    rw [List.take_append, List.take_of_length_le (by omega)]
   refine ⟨j + 1, by simpa using hj, ?_, ?_⟩
   ·rw [ht]
    have h1 := recs_frames ((framesR l).take (n - (frR m).length)) [m] (fun x hx => by
     have : x = m := by simpa using hx
     rw [this]; exact hm)
    have h2 : framesR [m] = frR m := by simp [framesR]
    rw [h2] at h1
    rw [h1, e, List.take_succ_cons, framesR_cons, List.length_append]
    rfl
   ·rw [ht, List.take_succ_cons, framesR_cons, List.length_append, List.take_append, List.take_of_length_le (by omega)]
    congr 1
    have : (frR m).length + (framesR (l.take j)).length - (frR m).length = (framesR (l.take j)).length := by omega
    rw [this]
    exact e2
theorem framesR_bytes {l : List RecP} (h : GoodR l) : ∀ c ∈ framesR l, 0 ≤ c ∧ c < 256 := by
 intro c hc
 unfold framesR at hc
 rw [List.mem_flatten] at hc
 obtain ⟨f, hf, hcf⟩ := hc
 rw [List.mem_map] at hf
 obtain ⟨m, hm, rfl⟩ := hf
 have hb := enc_bytesR (h m hm).1
 unfold frR frameF headF at hcf
 simp only [List.mem_append] at hcf
 rcases hcf with ((h1 | h1) | h1) | h1
 ·simp at h1
  omega
 ·exact putS_bytes _ _ c h1
 ·exact putS_bytes _ _ c h1
 ·exact hb c h1
def opnD (d : Dk) : Dk := if (recsF (reaB d)).2 < (reaB d).length then triD d (((d.base + (recsF (reaB d)).2 : Nat)) : Int) else d
def wapA (d : Dk) (l : List RecP) : Int := if l.all mayR then (appA d (framesR l)).2 else 1
def wapD (d : Dk) (l : List RecP) : Dk := if l.all mayR then appD d (framesR l) else d
structure LogI (d : Dk) (forced pending : List RecP) : Prop where
 ok : d.Ok
 on : d.off = false
 b : d.base = 0
 fb : d.fbase = 0
 arm : d.armed = false
 bs : d.bs = framesR (forced ++ pending)
 fe : d.fend = (framesR forced).length
 good : GoodR (forced ++ pending)
theorem logI_new : LogI (newD 65536) [] [] := ⟨newD_ok _ (by decide) (by decide), rfl, rfl, rfl, rfl, rfl, rfl, fun m hm => by cases hm⟩
theorem logI_app {d : Dk} {f p : List RecP} (h : LogI d f p) {l : List RecP} (hl : ∀ m ∈ l, RecOk m) (hA : wapA d l = 0) : LogI (wapD d l) f (p ++ l) := by
 unfold wapA at hA
 by_cases hm : l.all mayR = true
 ·rw [if_pos hm] at hA
  have hg : GoodR l := fun m hx => ⟨hl m hx, List.all_eq_true.1 hm m hx⟩
  unfold wapD
  rw [if_pos hm]
  unfold appA at hA
  rw [h.on] at hA
  simp only [Bool.false_eq_true, if_false] at hA
  have hfit : ¬ d.left < (framesR l).length := fun hh => by rw [if_pos hh] at hA; cases hA
  have e : appD d (framesR l) = { d with bs := d.bs ++ framesR l } := by
   unfold appD
   rw [h.on]
   simp only [Bool.false_eq_true, if_false]
   rw [if_neg hfit]
  have hok := appD_ok h.ok (framesR l) (framesR_bytes hg)
  rw [e] at hok ⊢
  refine ⟨hok, h.on, h.b, h.fb, h.arm, ?_, h.fe, ?_⟩
  ·show d.bs ++ framesR l = _
   rw [h.bs, ← framesR_app, List.append_assoc]
  ·rw [← List.append_assoc]
   exact h.good.app hg
 ·rw [if_neg hm] at hA
  cases hA
theorem logI_app_no {d : Dk} {f p : List RecP} (h : LogI d f p) {l : List RecP} (hA : wapA d l ≠ 0) : wapD d l = d := by
 unfold wapA at hA
 unfold wapD
 by_cases hm : l.all mayR = true
 ·rw [if_pos hm] at hA ⊢
  unfold appA at hA
  unfold appD
  rw [h.on] at hA ⊢
  simp only [Bool.false_eq_true, if_false] at hA ⊢
  by_cases hh : d.left < (framesR l).length
  ·rw [if_pos hh]
  ·rw [if_neg hh] at hA
   exact absurd rfl hA
 ·rw [if_neg hm]
theorem logI_force {d : Dk} {f p : List RecP} (h : LogI d f p) : forA d = 0 ∧ LogI (forD d) (f ++ p) [] := by
 have hA : forA d = 0 := by
  unfold forA
  rw [h.on, h.arm]
  rfl
 refine ⟨hA, ?_⟩
 have hok := forD_ok h.ok
 have e : forD d = { d with fuse := d.fuse, fbase := d.base, fend := d.bs.length } := by
  unfold forD
  rw [h.on, h.arm]
  rfl
 rw [e] at hok ⊢
 refine ⟨hok, h.on, h.b, h.b, h.arm, ?_, ?_, ?_⟩
 ·show d.bs = _
  rw [List.append_nil]
  exact h.bs
 ·show d.bs.length = _
  rw [h.bs]
 ·rw [List.append_nil]
  exact h.good
theorem logI_loss {d : Dk} {f p : List RecP} (h : LogI d f p) (keep : Int) (cut : Bool) :
  staA (faiD d) [] = 0 ∧ ∃ j, j ≤ p.length ∧ (recsF (reaB (staD (faiD d) keep cut []))).1 = f ++ p.take j ∧ LogI (opnD (staD (faiD d) keep cut [])) (f ++ p.take j) [] ∧ (recsF (reaB (opnD (staD (faiD d) keep cut [])))).1 = f ++ p.take j ∧ opnD (opnD (staD (faiD d) keep cut [])) = opnD (staD (faiD d) keep cut []) := by
 have hA : staA (faiD d) [] = 0 := by
  unfold staA faiD
  simp
 refine ⟨hA, ?_⟩
 obtain ⟨D, hD⟩ : ∃ D, D = staD (faiD d) keep cut [] := ⟨_, rfl⟩
 have hok : D.Ok := by rw [hD]; exact staD_ok (faiD_ok h.ok) keep cut [] (fun c hc => by cases hc)
 obtain ⟨n, hn⟩ : ∃ n, n = (framesR f).length + min keep.toNat (d.bs.length - (framesR f).length) := ⟨_, rfl⟩
 have hB : staB (faiD d) keep [] = d.bs.take n := by
  unfold staB faiD
  rw [if_pos rfl, hn]
  show d.bs.take (d.fend + _) = _
  rw [h.fe]
 have hb0 : staE (faiD d) keep cut [] = 0 := by
  unfold staE
  show (if cut && decide (d.base ≤ (staB (faiD d) keep []).length) then d.base else d.fbase) = 0
  rw [h.b, h.fb]
  split <;> rfl
 have e : D = ⟨d.room, d.bs.take n, 0, 0, (d.bs.take n).length, false, false, 0⟩ := by
  rw [hD]
  unfold staD
  rw [hB, hb0]
  unfold faiD
  simp
 have hr : reaB D = (framesR (f ++ p)).take n := by
  rw [e]
  unfold reaB
  simp [h.bs]
 have hsplit : (framesR (f ++ p)).take n = framesR f ++ (framesR p).take (n - (framesR f).length) := by
  rw [framesR_app, List.take_append, List.take_of_length_le (by omega)]
 obtain ⟨j, hj, ej, ej2⟩ := recs_part p h.good.right (n - (framesR f).length)
 have hrec : recsF (reaB D) = (f ++ p.take j, (framesR (f ++ p.take j)).length) := by
  rw [hr, hsplit, recs_frames _ f h.good.left, ej, framesR_app, List.length_append]
 have hgj : GoodR (f ++ p.take j) := h.good.left.app (h.good.right.take j)
 have htake : ((framesR (f ++ p)).take n).take (framesR (f ++ p.take j)).length = framesR (f ++ p.take j) := by
  rw [hsplit, framesR_app, List.length_append, List.take_append, List.take_of_length_le (by omega)]
  congr 1
  have : (framesR f).length + (framesR (p.take j)).length - (framesR f).length = (framesR (p.take j)).length := by omega
  rw [this]
  exact ej2
 have hbsD : D.bs = (framesR (f ++ p)).take n := by rw [e, h.bs]
 have hlen : (reaB D).length = D.bs.length := by rw [hr, hbsD]
 have hO : opnD D = { D with bs := framesR (f ++ p.take j), fend := (framesR (f ++ p.take j)).length } := by
  unfold opnD
  rw [hrec]
  by_cases hlt : (framesR (f ++ p.take j)).length < (reaB D).length
  ·rw [if_pos hlt]
   have hoff : D.off = false := by rw [e]
   have hbase : D.base = 0 := by rw [e]
   have hin : D.inB (((D.base + (framesR (f ++ p.take j)).length : Nat)) : Int) = true := by
    unfold Dk.inB
    rw [hbase, Bool.and_eq_true, decide_eq_true_eq, decide_eq_true_eq]
    omega
   unfold triD
   rw [hoff]
   simp only [Bool.false_eq_true, if_false]
   rw [if_pos hin]
   have ht : ((((D.base + (framesR (f ++ p.take j)).length : Nat)) : Int)).toNat = (framesR (f ++ p.take j)).length := by rw [hbase]; omega
   rw [ht]
   have hfe : D.fend = D.bs.length := by rw [e]
   have h1 : D.bs.take (framesR (f ++ p.take j)).length = framesR (f ++ p.take j) := by rw [hbsD]; exact htake
   have h2 : min D.fend (framesR (f ++ p.take j)).length = (framesR (f ++ p.take j)).length := by
    rw [hfe]
    omega
   rw [h1, h2]
  ·rw [if_neg hlt]
   have hall : D.bs = framesR (f ++ p.take j) := by
    have h1 := htake
    rw [← hbsD, List.take_of_length_le (by omega)] at h1
    exact h1
   have hfe : D.fend = D.bs.length := by rw [e]
   rw [← hall]
   cases D
   simp only at hfe
   rw [hfe]
 have hIO : LogI (opnD D) (f ++ p.take j) [] := by
  have hok2 : (opnD D).Ok := by
   unfold opnD
   split
   ·exact triD_ok hok _
   ·exact hok
  rw [hO] at hok2 ⊢
  rw [e] at hok2 ⊢
  exact ⟨hok2, rfl, rfl, rfl, rfl, by simp, rfl, by rw [List.append_nil]; exact hgj⟩
 have hrec2 : recsF (reaB (opnD D)) = (f ++ p.take j, (framesR (f ++ p.take j)).length) := by
  have : reaB (opnD D) = framesR (f ++ p.take j) := by
   unfold reaB
   rw [hIO.on, hIO.b, hIO.bs, List.append_nil]
   simp
  rw [this]
  exact recs_whole hgj
 rw [← hD]
 refine ⟨j, hj, by rw [hrec], hIO, by rw [hrec2], ?_⟩
 have hr2 : (reaB (opnD D)).length = (framesR (f ++ p.take j)).length := by
  unfold reaB
  rw [hIO.on, hIO.b, hIO.bs, List.append_nil]
  simp
 have : opnD (opnD D) = if (recsF (reaB (opnD D))).2 < (reaB (opnD D)).length then triD (opnD D) ((((opnD D).base + (recsF (reaB (opnD D))).2 : Nat)) : Int) else opnD D := rfl
 rw [this, hrec2, hr2, if_neg (Nat.lt_irrefl _)]
end
end Go.Proofs.YtlegliimgjmphaaGreat
