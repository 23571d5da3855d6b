/-
  Own texts put together: WlAgain, WlMore, WlScan, FrMore, PutGet, Gets, Cuts. Own work.
-/
import Derived.Test.YtlegliimgjmphaaGreatG09
import Derived.Test.YtlegliimgjmphaaGreatG01
import Derived.Test.YtlegliimgjmphaaGreatG08
import Derived.Laws.AppendOwnNone
namespace Go.Proofs.YtlegliimgjmphaaGreat
section
open Go
def agnA (d : Dk) (l : List RecP) : Int := if wapA d l ≠ 0 then wapA d l else if forA (wapD d l) ≠ 0 then forA (wapD d l) else forA (cutD (forD (wapD d l)) (d.bs.length : Int))
def agnD (d : Dk) (l : List RecP) : Dk := if wapA d l ≠ 0 then wapD d l else if forA (wapD d l) ≠ 0 then forD (wapD d l) else forD (cutD (forD (wapD d l)) (d.bs.length : Int))
theorem read_started {d : Dk} (hoff : d.off = true) (keep : Int) (cut : Bool) : staA d [] = 0 ∧ reaB (staD d keep cut []) = (d.bs.take (d.fend + min keep.toNat (d.bs.length - d.fend))).drop (if cut && decide (d.base ≤ (d.bs.take (d.fend + min keep.toNat (d.bs.length - d.fend))).length) then d.base else d.fbase) := by
 have hA : staA d [] = 0 := by
  unfold staA
  rw [hoff]
  simp
 refine ⟨hA, ?_⟩
 unfold staD
 rw [hoff]
 have h1 : ¬ (d.room - (d.fend - d.fbase) < ([] : List Int).length) := Nat.not_lt_zero _
 simp only [Bool.not_true, Bool.false_eq_true, if_false]
 rw [if_neg h1]
 unfold reaB staE staB
 simp only [Bool.false_eq_true, if_false, if_true]
def fuseD (d : Dk) (n : Int) : Dk := if 0 ≤ n then armD d n else d
theorem again_loss {d : Dk} {old young : List RecP} (h : LogI d old []) (hy : ∀ m ∈ young, RecOk m) (hfit : young.all mayR = true → (framesR old).length + (framesR young).length ≤ 65536) (hroom : d.room = 65536) (n : Int) (keep : Int) (cut : Bool) :
  staA (faiD (armD (agnD (fuseD d n) young) (-1))) [] = 0 ∧
  ((agnA (fuseD d n) young = 0 ∧ (recsF (reaB (staD (faiD (armD (agnD (fuseD d n) young) (-1))) keep cut []))).1 = young) ∨
   (agnA (fuseD d n) young = 10 ∧ ((∃ j, j ≤ young.length ∧ (recsF (reaB (staD (faiD (armD (agnD (fuseD d n) young) (-1))) keep cut []))).1 = old ++ young.take j) ∨ (recsF (reaB (staD (faiD (armD (agnD (fuseD d n) young) (-1))) keep cut []))).1 = young)) ∨
   (agnA (fuseD d n) young = 1 ∧ (recsF (reaB (staD (faiD (armD (agnD (fuseD d n) young) (-1))) keep cut []))).1 = old)) := by
 have hbs : d.bs = framesR old := by rw [h.bs, List.append_nil]
 have hgo : GoodR old := by have := h.good; rwa [List.append_nil] at this
 obtain ⟨c, hc⟩ : ∃ c, c = fuseD d n := ⟨_, rfl⟩
 have cbs : c.bs = framesR old := by rw [hc]; unfold fuseD armD; split <;> exact hbs
 have cb : c.base = 0 := by rw [hc]; unfold fuseD armD; split <;> exact h.b
 have cfb : c.fbase = 0 := by rw [hc]; unfold fuseD armD; split <;> exact h.fb
 have cfe : c.fend = (framesR old).length := by rw [hc]; unfold fuseD armD; split <;> exact h.fe
 have con : c.off = false := by rw [hc]; unfold fuseD armD; split <;> exact h.on
 have crm : c.room = 65536 := by rw [hc]; unfold fuseD armD; split <;> exact hroom
 rw [← hc]
 clear hc
 by_cases hm : young.all mayR = true
 ·have hfit := hfit hm
  have hgy : GoodR young := fun m hx => ⟨hy m hx, List.all_eq_true.1 hm m hx⟩
  have hgb : GoodR (old ++ young) := hgo.app hgy
  have hleft : ¬ c.left < (framesR young).length := by
   unfold Dk.left
   rw [cfb, crm, cbs]
   omega
  have hA : wapA c young = 0 := by
   unfold wapA
   rw [if_pos hm]
   unfold appA
   rw [con]
   simp only [Bool.false_eq_true, if_false]
   rw [if_neg hleft]
  obtain ⟨e, he⟩ : ∃ e, e = wapD c young := ⟨_, rfl⟩
  have e0 : e = { c with bs := c.bs ++ framesR young } := by
   rw [he]
   unfold wapD
   rw [if_pos hm]
   unfold appD
   rw [con]
   simp only [Bool.false_eq_true, if_false]
   rw [if_neg hleft]
  have ebs : e.bs = framesR (old ++ young) := by rw [e0, framesR_app]; show c.bs ++ _ = _; rw [cbs]
  have eb : e.base = 0 := by rw [e0]; exact cb
  have efb : e.fbase = 0 := by rw [e0]; exact cfb
  have efe : e.fend = (framesR old).length := by rw [e0]; exact cfe
  have eon : e.off = false := by rw [e0]; exact con
  have hcl : c.bs.length = (framesR old).length := by rw [cbs]
  by_cases hF : forA e = 0
  ·-- the first Force is done
   obtain ⟨g, hg⟩ : ∃ g, g = cutD (forD e) (c.bs.length : Int) := ⟨_, rfl⟩
   have hnf : ¬ (e.armed && e.fuse == 0) = true := by
    intro hh
    unfold forA at hF
    rw [eon] at hF
    simp only [Bool.false_eq_true, if_false] at hF
    rw [if_pos hh] at hF
    cases hF
   have f0 : forD e = { e with fuse := if e.armed then e.fuse - 1 else e.fuse, fbase := e.base, fend := e.bs.length } := by
    unfold forD
    rw [eon]
    simp only [Bool.false_eq_true, if_false]
    rw [if_neg hnf]
   have hin : (forD e).inB (c.bs.length : Int) = true := by
    unfold Dk.inB
    rw [f0]
    show (decide ((e.base : Int) ≤ _) && decide (_ ≤ (e.bs.length : Int))) = true
    rw [eb, ebs, hcl, Bool.and_eq_true, decide_eq_true_eq, decide_eq_true_eq, framesR_app, List.length_append]
    omega
   have g0 : g = { forD e with base := c.bs.length } := by
    rw [hg]
    unfold cutD
    have foff : (forD e).off = false := by rw [f0]; exact eon
    rw [foff]
    simp only [Bool.false_eq_true, if_false]
    rw [if_pos hin]
    simp [foff]
   have gbs : g.bs = framesR (old ++ young) := by rw [g0, f0]; exact ebs
   have gb : g.base = (framesR old).length := by rw [g0]; exact hcl
   have gfb : g.fbase = 0 := by rw [g0, f0]; exact eb
   have gfe : g.fend = (framesR (old ++ young)).length := by rw [g0, f0]; show e.bs.length = _; rw [ebs]
   have gon : g.off = false := by rw [g0, f0]; exact eon
   have hAA : agnA c young = forA g := by
    unfold agnA
    rw [if_neg (by rw [hA]; simp), ← he, if_neg (by rw [hF]; simp), ← hg]
   have hDD : agnD c young = forD g := by
    unfold agnD
    rw [if_neg (by rw [hA]; simp), ← he, if_neg (by rw [hF]; simp), ← hg]
   rw [hAA, hDD]
   have hfr : ∀ k, (framesR (old ++ young)).take ((framesR (old ++ young)).length + min k ((framesR (old ++ young)).length - (framesR (old ++ young)).length)) = framesR (old ++ young) := fun k => List.take_of_length_le (by omega)
   by_cases hG : forA g = 0
   ·have hng : ¬ (g.armed && g.fuse == 0) = true := by
     intro hh
     unfold forA at hG
     rw [gon] at hG
     simp only [Bool.false_eq_true, if_false] at hG
     rw [if_pos hh] at hG
     cases hG
    have k0 : forD g = { g with fuse := if g.armed then g.fuse - 1 else g.fuse, fbase := g.base, fend := g.bs.length } := by
     unfold forD
     rw [gon]
     simp only [Bool.false_eq_true, if_false]
     rw [if_neg hng]
    obtain ⟨s1, s2⟩ := read_started (d := faiD (armD (forD g) (-1))) rfl keep cut
    refine ⟨s1, .inl ⟨hG, ?_⟩⟩
    rw [s2, k0]
    show (recsF ((g.bs.take (g.bs.length + min keep.toNat (g.bs.length - g.bs.length))).drop (if cut && decide (g.base ≤ (g.bs.take (g.bs.length + min keep.toNat (g.bs.length - g.bs.length))).length) then g.base else g.base))).1 = young
    have hb : ∀ q : Bool, (if q = true then g.base else g.base) = g.base := fun q => by split <;> rfl
    rw [hb, gbs, hfr, gb, framesR_app]
    simp [recs_whole hgy]
   ·have hbl : (g.armed && g.fuse == 0) = true := by
     unfold forA at hG
     rw [gon] at hG
     simp only [Bool.false_eq_true, if_false] at hG
     by_cases hh : (g.armed && g.fuse == 0) = true
     ·exact hh
     ·rw [if_neg hh] at hG
      exact absurd rfl hG
    have hG10 : forA g = 10 := by
     unfold forA
     rw [gon]
     simp only [Bool.false_eq_true, if_false]
     rw [if_pos hbl]
    have k0 : forD g = { g with off := true } := by
     unfold forD
     rw [gon]
     simp only [Bool.false_eq_true, if_false]
     rw [if_pos hbl]
    obtain ⟨s1, s2⟩ := read_started (d := faiD (armD (forD g) (-1))) rfl keep cut
    refine ⟨s1, .inr (.inl ⟨hG10, ?_⟩)⟩
    rw [s2, k0]
    show (∃ j, j ≤ young.length ∧ (recsF ((g.bs.take (g.fend + min keep.toNat (g.bs.length - g.fend))).drop (if cut && decide (g.base ≤ (g.bs.take (g.fend + min keep.toNat (g.bs.length - g.fend))).length) then g.base else g.fbase))).1 = _) ∨ (recsF ((g.bs.take (g.fend + min keep.toNat (g.bs.length - g.fend))).drop (if cut && decide (g.base ≤ (g.bs.take (g.fend + min keep.toNat (g.bs.length - g.fend))).length) then g.base else g.fbase))).1 = _
    rw [gbs, gfe, hfr, gb, gfb]
    by_cases hq : (cut && decide ((framesR old).length ≤ (framesR (old ++ young)).length)) = true
    ·right
     rw [if_pos hq, framesR_app]
     simp [recs_whole hgy]
    ·left
     rw [if_neg hq]
     refine ⟨young.length, Nat.le_refl _, ?_⟩
     rw [List.drop_zero, recs_whole hgb, List.take_length]
  ·-- the first Force is not done
   have hbl : (e.armed && e.fuse == 0) = true := by
    unfold forA at hF
    rw [eon] at hF
    simp only [Bool.false_eq_true, if_false] at hF
    by_cases hh : (e.armed && e.fuse == 0) = true
    ·exact hh
    ·rw [if_neg hh] at hF
     exact absurd rfl hF
   have hF10 : forA e = 10 := by
    unfold forA
    rw [eon]
    simp only [Bool.false_eq_true, if_false]
    rw [if_pos hbl]
   have k0 : forD e = { e with off := true } := by
    unfold forD
    rw [eon]
    simp only [Bool.false_eq_true, if_false]
    rw [if_pos hbl]
   have hAA : agnA c young = 10 := by
    unfold agnA
    rw [if_neg (by rw [hA]; simp), ← he, if_pos hF, hF10]
   have hDD : agnD c young = { e with off := true } := by
    unfold agnD
    rw [if_neg (by rw [hA]; simp), ← he, if_pos hF, k0]
   rw [hAA, hDD]
   obtain ⟨s1, s2⟩ := read_started (d := faiD (armD { e with off := true } (-1))) rfl keep cut
   refine ⟨s1, .inr (.inl ⟨rfl, .inl ?_⟩)⟩
   rw [s2]
   show ∃ j, j ≤ young.length ∧ (recsF ((e.bs.take (e.fend + min keep.toNat (e.bs.length - e.fend))).drop (if cut && decide (e.base ≤ (e.bs.take (e.fend + min keep.toNat (e.bs.length - e.fend))).length) then e.base else e.fbase))).1 = _
   have hb : ∀ q : Bool, (if q = true then e.base else e.fbase) = 0 := fun q => by rw [eb, efb]; split <;> rfl
   rw [hb, List.drop_zero, ebs, efe, framesR_app, List.take_append, List.take_of_length_le (by omega)]
   obtain ⟨j, hj, ej, _⟩ := recs_part young hgy ((framesR old).length + min keep.toNat ((framesR old ++ framesR young).length - (framesR old).length) - (framesR old).length)
   exact ⟨j, hj, by rw [recs_frames _ old hgo, ej]⟩
 ·-- one may not be
  have hA : wapA c young = 1 := by
   unfold wapA
   rw [if_neg hm]
  have hD : wapD c young = c := by
   unfold wapD
   rw [if_neg hm]
  have hAA : agnA c young = 1 := by
   unfold agnA
   rw [if_pos (by rw [hA]; decide), hA]
  have hDD : agnD c young = c := by
   unfold agnD
   rw [if_pos (by rw [hA]; decide), hD]
  rw [hAA, hDD]
  obtain ⟨s1, s2⟩ := read_started (d := faiD (armD c (-1))) rfl keep cut
  refine ⟨s1, .inr (.inr ⟨rfl, ?_⟩)⟩
  rw [s2]
  show (recsF ((c.bs.take (c.fend + min keep.toNat (c.bs.length - c.fend))).drop (if cut && decide (c.base ≤ (c.bs.take (c.fend + min keep.toNat (c.bs.length - c.fend))).length) then c.base else c.fbase))).1 = old
  have hb : ∀ q : Bool, (if q = true then c.base else c.fbase) = 0 := fun q => by rw [cb, cfb]; split <;> rfl
  rw [hb, List.drop_zero, cbs, cfe, List.take_of_length_le (by omega), recs_whole hgo]
end
section
open Go
theorem encRec_len2 {m : RecP} (hok : RecOk m) (h : mayR m = true) : (encRec m).length ≤ 2000 := by
 unfold mayR at h
 simp only [Bool.and_eq_true, List.all_eq_true] at h
 obtain ⟨⟨hne, hk⟩, hf⟩ := h
 have hne2 : fieldsR m.kind ≠ [] := fun e => by rw [e] at hne; simp at hne
 have hl := (fieldsR_facts m.kind).2
 have hall : ∀ f ∈ fieldsR m.kind, okR f m := fun f hfm => mayR_ok hok (hl f hfm) (hf f hfm)
 have h16 : m.wr.length ≤ 16 := by
  by_cases h4 : 4 ∈ fieldsR m.kind
  ·exact (hall 4 h4).1
  ·unfold keptR at hk
   rw [List.all_eq_true] at hk
   have := hk 4 (List.mem_range.2 (by decide))
   rw [Bool.or_eq_true] at this
   rcases this with e | e
   ·exact absurd (by simpa using e) h4
   ·have : m.wr = [] := (zeroRB_eq (f := 4) (by decide) m 0).1 e
    rw [this]
    decide
 have hlen : ∀ (fs : List Nat), (∀ f ∈ fs, f < 8 ∧ okR f m) → fs.Nodup → (encRs fs m).length ≤ fs.length * 91 + 1600 := by
  intro fs
  induction fs with
  | nil => intro _ _; simp [encRs]
  | cons f fs ih =>
   intro h hnd
   rw [List.nodup_cons] at hnd
   have hh := h f List.mem_cons_self
   have e : encRs (f :: fs) m = encR f m ++ encRs fs m := by simp [encRs]
   have l := encR_len hh.1 hh.2 h16
   rw [e, List.length_append, List.length_cons, Nat.add_mul]
   by_cases h4 : f = 4
   ·have hs : ∀ (gs : List Nat), (∀ g ∈ gs, (g < 8 ∧ okR g m) ∧ g ≠ 4) → (encRs gs m).length ≤ gs.length * 91 := by
     intro gs
     induction gs with
     | nil => intro _; simp [encRs]
     | cons g gs ih2 =>
      intro hg
      have hg0 := hg g List.mem_cons_self
      have e : encRs (g :: gs) m = encR g m ++ encRs gs m := by simp [encRs]
      have l := (encR_len hg0.1.1 hg0.1.2 h16).2 hg0.2
      have := ih2 (fun y hy => hg y (List.mem_cons_of_mem _ hy))
      rw [e, List.length_append, List.length_cons, Nat.add_mul]
      omega
    have := hs fs (fun g hg => ⟨h g (List.mem_cons_of_mem _ hg), fun e => hnd.1 (by rw [h4, ← e]; exact hg)⟩)
    have := l.1
    omega
   ·have := ih (fun y hy => h y (List.mem_cons_of_mem _ hy)) hnd.2
    have := l.2 h4
    omega
 have hl4 : (fieldsR m.kind).length ≤ 4 := by rcases fieldsR_kind hne2 with e | e | e | e | e | e | e <;> rw [e] <;> decide
 have := hlen _ (fun f hf2 => ⟨hl f hf2, hall f hf2⟩) (fieldsR_facts m.kind).1
 unfold encRec
 rw [List.length_cons]
 omega
theorem framesR_len : ∀ {l : List RecP}, GoodR l → (framesR l).length ≤ l.length * 2008
 | [], _ => by simp [framesR]
 | m :: l, h => by
  have hm := h m List.mem_cons_self
  have ih := framesR_len (l := l) (fun x hx => h x (List.mem_cons_of_mem _ hx))
  have := encRec_len2 hm.1 hm.2
  rw [framesR_cons, List.length_append, frR_len, List.length_cons, Nat.add_mul]
  omega
def sizR (l : List RecP) : Nat := (l.map fun m => if mayR m then (frR m).length else 0).sum
theorem sizR_all : ∀ {l : List RecP}, l.all mayR = true → sizR l = (framesR l).length
 | [], _ => by simp [sizR, framesR]
 | m :: l, h => by
  rw [List.all_cons, Bool.and_eq_true] at h
  have ih := sizR_all h.2
  unfold sizR at ih ⊢
  rw [List.map_cons, List.sum_cons, h.1, framesR_cons, List.length_append, ih]
  simp
def plcW (d : Dk) (n : Int) : Int := if n < 0 ∨ ((d.bs.length - d.base : Nat) : Int) < n then -1 else (d.base : Int) + n
def wacA (d : Dk) (k : Nat) (l : List RecP) (n : Int) : Int :=
 if k = 1 then forA d else if k = 2 then agnA d l else if k = 5 then cutA d (plcW d n) else if k = 6 then cutA d (plcW d n) else if k = 4 then 0 else wapA d l
def wacD (d : Dk) (k : Nat) (l : List RecP) (n : Int) : Dk :=
 if k = 1 then forD d else if k = 2 then agnD d l else if k = 5 then cutD d (plcW d n) else if k = 6 then triD d (plcW d n) else if k = 4 then d else wapD d l
theorem wap_refused {d : Dk} (hon : d.off = false) {l : List RecP} (h : wapA d l ≠ 0) : wapD d l = d ∧ (wapA d l = 1 ∨ wapA d l = 9) := by
 unfold wapA at h ⊢
 unfold wapD
 by_cases hm : l.all mayR = true
 ·rw [if_pos hm] at h ⊢
  rw [if_pos hm]
  unfold appA at h ⊢
  unfold appD
  rw [hon] at h ⊢
  simp only [Bool.false_eq_true, if_false] at h ⊢
  by_cases hh : d.left < (framesR l).length
  ·rw [if_pos hh, if_pos hh]
   exact ⟨rfl, .inr rfl⟩
  ·rw [if_neg hh] at h
   exact absurd rfl h
 ·rw [if_neg hm, if_neg hm]
  exact ⟨rfl, .inl rfl⟩
theorem for_calm {d : Dk} (hon : d.off = false) (har : d.armed = false) : forA d = 0 ∧ (forD d).off = false ∧ (forD d).armed = false := by
 unfold forA forD
 rw [hon, har]
 simp
theorem wac_refused {d : Dk} (hon : d.off = false) (har : d.armed = false) (k : Nat) (l : List RecP) (n : Int) :
  ((wacD d k l n).off = false ∧ (wacD d k l n).armed = false) ∧ (wacA d k l n ≠ 0 → wacD d k l n = d ∧ (wacA d k l n = 1 ∨ wacA d k l n = 9)) := by
 have hwap : ∀ l, (wapD d l).off = false ∧ (wapD d l).armed = false := fun l => by
  unfold wapD appD
  split
  ·rw [hon]
   simp only [Bool.false_eq_true, if_false]
   split
   ·exact ⟨hon, har⟩
   ·exact ⟨rfl, har⟩
  ·exact ⟨hon, har⟩
 have hcut : ∀ (d : Dk) to, d.off = false → d.armed = false → (cutD d to).off = false ∧ (cutD d to).armed = false ∧ (cutA d to ≠ 0 → cutD d to = d ∧ cutA d to = 1) := fun d to ho ha => by
  unfold cutD cutA
  rw [ho]
  simp only [Bool.false_eq_true, if_false]
  by_cases hi : d.inB to = true
  ·rw [if_pos hi]
   exact ⟨rfl, ha, fun h => absurd (by rw [if_pos hi]) h⟩
  ·rw [if_neg hi]
   exact ⟨ho, ha, fun _ => ⟨rfl, if_neg hi⟩⟩
 have htri : ∀ to, (triD d to).off = false ∧ (triD d to).armed = false ∧ (cutA d to ≠ 0 → triD d to = d ∧ cutA d to = 1) := fun to => by
  unfold triD cutA
  rw [hon]
  simp only [Bool.false_eq_true, if_false]
  by_cases hi : d.inB to = true
  ·rw [if_pos hi]
   exact ⟨rfl, har, fun h => absurd (by rw [if_pos hi]) h⟩
  ·rw [if_neg hi]
   exact ⟨hon, har, fun _ => ⟨rfl, if_neg hi⟩⟩
 unfold wacA wacD
 by_cases h1 : k = 1
 ·rw [if_pos h1, if_pos h1]
  have := for_calm hon har
  exact ⟨this.2, fun h => absurd this.1 h⟩
 rw [if_neg h1, if_neg h1]
 by_cases h2 : k = 2
 ·rw [if_pos h2, if_pos h2]
  unfold agnA agnD
  by_cases hw : wapA d l = 0
  ·have e1 : ¬ wapA d l ≠ 0 := fun h => h hw
   have f1 := for_calm (hwap l).1 (hwap l).2
   have e2 : ¬ forA (wapD d l) ≠ 0 := fun h => h f1.1
   have c1 := hcut (forD (wapD d l)) (d.bs.length : Int) f1.2.1 f1.2.2
   have f2 := for_calm c1.1 c1.2.1
   rw [if_neg e1, if_neg e1, if_neg e2, if_neg e2]
   exact ⟨f2.2, fun h => absurd f2.1 h⟩
  ·rw [if_pos hw, if_pos hw]
   exact ⟨hwap l, fun _ => wap_refused hon hw⟩
 rw [if_neg h2, if_neg h2]
 by_cases h5 : k = 5
 ·rw [if_pos h5, if_pos h5]
  have := hcut d (plcW d n) hon har
  exact ⟨⟨this.1, this.2.1⟩, fun h => ⟨(this.2.2 h).1, .inl (this.2.2 h).2⟩⟩
 rw [if_neg h5, if_neg h5]
 by_cases h6 : k = 6
 ·rw [if_pos h6, if_pos h6]
  have := htri (plcW d n)
  exact ⟨⟨this.1, this.2.1⟩, fun h => ⟨(this.2.2 h).1, .inl (this.2.2 h).2⟩⟩
 rw [if_neg h6, if_neg h6]
 by_cases h4 : k = 4
 ·rw [if_pos h4, if_pos h4]
  exact ⟨⟨hon, har⟩, fun h => absurd rfl h⟩
 rw [if_neg h4, if_neg h4]
 exact ⟨hwap l, fun h => wap_refused hon h⟩
theorem wap_left {d : Dk} (hon : d.off = false) {l : List RecP} (h : wapA d l = 0) : (wapD d l).left + sizR l = d.left := by
 unfold wapA at h
 unfold wapD
 by_cases hm : l.all mayR = true
 ·rw [if_pos hm] at h
  rw [if_pos hm, sizR_all hm]
  unfold appA at h
  unfold appD
  rw [hon] at h ⊢
  simp only [Bool.false_eq_true, if_false] at h ⊢
  by_cases hh : d.left < (framesR l).length
  ·rw [if_pos hh] at h
   cases h
  ·rw [if_neg hh]
   unfold Dk.left at hh ⊢
   show d.fbase + d.room - (d.bs ++ framesR l).length + _ = _
   rw [List.length_append]
   omega
 ·rw [if_neg hm] at h
  cases h
end
section
open Go
theorem next_len (bs : List Int) (h : (nextF bs).2.2 = 0) : (nextF bs).2.1 = 8 + (nextF bs).1.length := by
 unfold nextF at h ⊢
 repeat' split at h
 all_goals first
  | (exfalso; revert h; decide)
  | skip
 rename_i h1 h2 h3 h4 h5 h6 h7 h8
 rw [if_neg h1, if_neg h2, if_neg h3, if_neg h4, if_neg h5, if_neg h6, if_neg h7, if_neg h8]
 simp
 omega
def decL : List (List Int) → List RecP × Nat
 | [] => ([], 0)
 | b :: l => if (decRec b).2.1 ≠ 0 then ([], 0) else ((decRec b).1 :: (decL l).1, 8 + b.length + (decL l).2)
theorem decL_no {b : List Int} {l : List (List Int)} (h : (decRec b).2.1 ≠ 0) : decL (b :: l) = ([], 0) := by
 rw [decL, if_pos h]
theorem decL_ok {b : List Int} {l : List (List Int)} (h : (decRec b).2.1 = 0) : decL (b :: l) = ((decRec b).1 :: (decL l).1, 8 + b.length + (decL l).2) := by
 rw [decL, if_neg (by rw [h]; simp)]
theorem recs_scan (bs : List Int) : decL (scanF bs).1 = recsF bs := by
 suffices h : ∀ n (bs : List Int), bs.length < n → decL (scanF bs).1 = recsF bs from h _ bs (Nat.lt_succ_self _)
 intro n
 induction n with
 | zero => intro bs h; omega
 | succ n ih =>
  intro bs hn
  by_cases h : (nextF bs).2.2 = 0
  ·have hk := next_ok bs h
   have hl : (bs.drop (nextF bs).2.1).length = bs.length - (nextF bs).2.1 := by simp
   have hi := ih (bs.drop (nextF bs).2.1) (by omega)
   rw [scan_ok bs h]
   by_cases h2 : (decRec (nextF bs).1).2.1 = 0
   ·rw [recs_ok bs h h2, decL_ok h2, hi, next_len bs h]
   ·rw [recs_bad bs h h2, decL_no h2]
  ·rw [recs_no bs h, scan_no bs h]
   rfl
theorem scan_small (bs : List Int) (hx : ∀ c ∈ bs, 0 ≤ c ∧ c < 256) : (∀ l ∈ (scanF bs).1, l.length ≤ 4096 ∧ ∀ c ∈ l, 0 ≤ c ∧ c < 256) ∧ (scanF bs).1.length ≤ bs.length := by
 suffices h : ∀ n (bs : List Int), bs.length < n → (∀ c ∈ bs, 0 ≤ c ∧ c < 256) → (∀ l ∈ (scanF bs).1, l.length ≤ 4096 ∧ ∀ c ∈ l, 0 ≤ c ∧ c < 256) ∧ (scanF bs).1.length ≤ bs.length from h _ bs (Nat.lt_succ_self _) hx
 intro n
 induction n with
 | zero => intro bs h; omega
 | succ n ih =>
  intro bs hn hx
  by_cases h : (nextF bs).2.2 = 0
  ·have hk := next_ok bs h
   have hl : (bs.drop (nextF bs).2.1).length = bs.length - (nextF bs).2.1 := by simp
   have hi := ih (bs.drop (nextF bs).2.1) (by omega) (fun c hc => hx c (List.mem_of_mem_drop hc))
   rw [scan_ok bs h]
   refine ⟨fun l hl2 => ?_, ?_⟩
   ·rcases List.mem_cons.1 hl2 with rfl | hl2
    ·exact ⟨(next_small bs).1, next_bytes bs hx⟩
    ·exact hi.1 l hl2
   ·rw [List.length_cons]
    have := hi.2
    omega
  ·rw [scan_no bs h]
   exact ⟨fun l hl => absurd hl List.not_mem_nil, Nat.zero_le _⟩
theorem reaB_len {d : Dk} (h : d.Ok) (hon : d.off = false) : (reaB d).length + d.base = d.bs.length := by
 unfold reaB
 rw [hon]
 have := h.b2
 simp
 omega
theorem opn_tri {d : Dk} (h : d.Ok) (hon : d.off = false) : cutA d (plcW d ((recsF (reaB d)).2 : Int)) = 0 ∧ triD d (plcW d ((recsF (reaB d)).2 : Int)) = opnD d := by
 have hl := recs_le (reaB d)
 have hb := reaB_len h hon
 have hb2 := h.b2
 have e : plcW d ((recsF (reaB d)).2 : Int) = ((d.base + (recsF (reaB d)).2 : Nat) : Int) := by
  unfold plcW
  rw [if_neg (by omega)]
  omega
 rw [e]
 have hin : d.inB ((d.base + (recsF (reaB d)).2 : Nat) : Int) = true := by
  unfold Dk.inB
  rw [Bool.and_eq_true, decide_eq_true_eq, decide_eq_true_eq]
  omega
 refine ⟨by unfold cutA; rw [hon, hin]; rfl, ?_⟩
 unfold opnD
 by_cases hlt : (recsF (reaB d)).2 < (reaB d).length
 ·rw [if_pos hlt]
 ·rw [if_neg hlt]
  unfold triD
  rw [hon, hin]
  simp only [Bool.false_eq_true, if_false, if_true, Int.toNat_natCast]
  have hf := h.f2
  rw [List.take_of_length_le (by omega), Nat.min_eq_left (by omega)]
  cases d
  simp_all
end
section
open Go
theorem valB2 (a b : Int) : valB [a, b] = a.toNat * 256 + b.toNat := by simp [valB]
theorem valB4 (a b c d : Int) : valB [a, b, c, d] = ((a.toNat * 256 + b.toNat) * 256 + c.toNat) * 256 + d.toNat := by simp [valB]
theorem two (l : List Int) (h : l.length = 2) : ∃ a b, l = [a, b] := by
 match l, h with
 | [a, b], _ => exact ⟨a, b, rfl⟩
theorem four (l : List Int) (h : l.length = 4) : ∃ a b c d, l = [a, b, c, d] := by
 match l, h with
 | [a, b, c, d], _ => exact ⟨a, b, c, d, rfl⟩
end
section
open Go.RowKit
set_option maxHeartbeats 800000 in
theorem put_anyG (v : Value) (xs : List Int) (n : Nat) (size : Int) (w : World) (h : Lies .u8 w v xs) (hr : xs.length + 8 ≤ 140737488355328) :
  Calls Tryz.prog 243 #[v, .int .u64 n, .int .i64 size] w fun e w' => ∃ v', e = .returned v' ∧
   w'.ownsRow w.heap.size 5 1 v' (xs ++ putS n (clamp8 size)).length ((xs ++ putS n (clamp8 size)).map (Value.int .u8)) ∧ Below w.heap.size w w' := by
 obtain ⟨i0, hi, hz0, hz1, hz2⟩ := info_parts info5
 by_cases hneg : size < 0
 ·have hcl : clamp8 size = 0 := by unfold clamp8; omega
  rw [hcl]
  have hcopy := copy_any v xs 0 w h (by omega)
  go_enter Tryz.func243, Tryz.ntmps243
  go_wp2_with (go_at_call 233; refine hcopy.mono ?_; rintro e w0 ⟨rfl, hown0, hB0⟩)
  go_rounds 1
  go_ret
  exact ⟨_, rfl, by simpa [putS] using hown0, hB0⟩
 by_cases hzer : size = 0
 ·subst hzer
  have hcl : clamp8 0 = 0 := by decide
  rw [hcl]
  have hcopy := copy_any v xs 0 w h (by omega)
  go_enter Tryz.func243, Tryz.ntmps243
  go_wp2_with (go_at_call 233; refine hcopy.mono ?_; rintro e w0 ⟨rfl, hown0, hB0⟩)
  go_rounds 1
  go_ret
  exact ⟨_, rfl, by simpa [putS] using hown0, hB0⟩
 by_cases heq : size = 8
 ·subst heq
  have hcl : clamp8 8 = 8 := by decide
  rw [hcl]
  have hcopy := copy_any v xs 8 w h (by omega)
  go_enter Tryz.func243, Tryz.ntmps243
  go_wp2_with (go_at_call 233; refine hcopy.mono ?_; rintro e w0 ⟨rfl, hown0, hB0⟩)
  go_loopw [7, 8] (fun o i wr => ∃ (x : Int) (j : Nat) (zs : List Int), i = .int .i64 x ∧ x + 1 = (j : Int) ∧ j ≤ 8 ∧ Hid (zs ++ putS n j = xs ++ putS n 8) ∧ wr.ownsRow w.heap.size 5 1 o zs.length (zs.map (Value.int .u8)) ∧ Below w.heap.size w wr) (fun _ i _ => (intOf i + 1).toNat)
  case atStart => exact ⟨_, 8, xs, rfl, by omega, Nat.le_refl _, rfl, hown0, hB0⟩
  case round =>
   obtain ⟨x, j, zs, rfl, hxj, hjk, HZ, hown, hB⟩ := hrel
   have hbase := hB.size
   have hzl : zs.length + j = xs.length + 8 := by
    have := congrArg List.length HZ.out
    simpa [putS_len] using this
   cases j with
   | zero =>
    obtain rfl : x = -1 := by omega
    have HE : Hid (xs ++ putS n 8 = zs) := by rw [← HZ.out]; simp [putS, Hid]
    go_wp2
    go_ret
    refine ⟨_, rfl, ?_, hB⟩
    rw [HE.out]
    exact hown
   | succ j =>
    obtain rfl : x = (j : Int) := by omega
    have ho := byte_of n j
    have HL : Hid ((zs ++ [((n / 256 ^ j % 256 : Nat) : Int)]) ++ putS n j = xs ++ putS n 8) := by rw [← HZ.out]; simp [putS, Hid]
    generalize ((n / 256 ^ j % 256 : Nat) : Int) = c at *
    have hz64 : zs.length + 1 ≤ 140737488355328 := by omega
    clear hzl hxj HZ
    go_wp2_with (at_builtin; refine wpList_append_own _ rfl _ _ 29 rfl w.heap.size 5 i0 (.int .u8 0) 1 1 Tryz.underlying29 hi hz0 hz1 hz2 rfl (by decide) _ _ _ rfl (hown.alloc _) ⟨wr.heap.size, 0, none⟩ 1 1 [.int .u8 c] rfl rfl (cell_one_new _ _ _) (by simp [Value.oneCell']) (by unfold maxLen; omega) (by omega) (by simp; omega) ?_; intro v' w1 hown1 hgrow1 _)
    go_roundw
    case rel => exact ⟨_, j, zs ++ [c], rfl, by omega, by omega, HL, by simpa using hown1, (hB.alloc hbase _).grown hgrow1 (by simp; omega) (fun k hk => (hown.lt k hk).1)⟩
    case measure => simp [intOf] <;> omega
 by_cases hbig : 8 < size
 ·have hcl : clamp8 size = 8 := by unfold clamp8; omega
  rw [hcl]
  have hcopy := copy_any v xs 8 w h (by omega)
  go_enter Tryz.func243, Tryz.ntmps243
  go_wp2_with (go_at_call 233; refine hcopy.mono ?_; rintro e w0 ⟨rfl, hown0, hB0⟩)
  go_loopw [7, 8] (fun o i wr => ∃ (x : Int) (j : Nat) (zs : List Int), i = .int .i64 x ∧ x + 1 = (j : Int) ∧ j ≤ 8 ∧ Hid (zs ++ putS n j = xs ++ putS n 8) ∧ wr.ownsRow w.heap.size 5 1 o zs.length (zs.map (Value.int .u8)) ∧ Below w.heap.size w wr) (fun _ i _ => (intOf i + 1).toNat)
  case atStart => exact ⟨_, 8, xs, rfl, by omega, Nat.le_refl _, rfl, hown0, hB0⟩
  case round =>
   obtain ⟨x, j, zs, rfl, hxj, hjk, HZ, hown, hB⟩ := hrel
   have hbase := hB.size
   have hzl : zs.length + j = xs.length + 8 := by
    have := congrArg List.length HZ.out
    simpa [putS_len] using this
   cases j with
   | zero =>
    obtain rfl : x = -1 := by omega
    have HE : Hid (xs ++ putS n 8 = zs) := by rw [← HZ.out]; simp [putS, Hid]
    go_wp2
    go_ret
    refine ⟨_, rfl, ?_, hB⟩
    rw [HE.out]
    exact hown
   | succ j =>
    obtain rfl : x = (j : Int) := by omega
    have ho := byte_of n j
    have HL : Hid ((zs ++ [((n / 256 ^ j % 256 : Nat) : Int)]) ++ putS n j = xs ++ putS n 8) := by rw [← HZ.out]; simp [putS, Hid]
    generalize ((n / 256 ^ j % 256 : Nat) : Int) = c at *
    have hz64 : zs.length + 1 ≤ 140737488355328 := by omega
    clear hzl hxj HZ
    go_wp2_with (at_builtin; refine wpList_append_own _ rfl _ _ 29 rfl w.heap.size 5 i0 (.int .u8 0) 1 1 Tryz.underlying29 hi hz0 hz1 hz2 rfl (by decide) _ _ _ rfl (hown.alloc _) ⟨wr.heap.size, 0, none⟩ 1 1 [.int .u8 c] rfl rfl (cell_one_new _ _ _) (by simp [Value.oneCell']) (by unfold maxLen; omega) (by omega) (by simp; omega) ?_; intro v' w1 hown1 hgrow1 _)
    go_roundw
    case rel => exact ⟨_, j, zs ++ [c], rfl, by omega, by omega, HL, by simpa using hown1, (hB.alloc hbase _).grown hgrow1 (by simp; omega) (fun k hk => (hown.lt k hk).1)⟩
    case measure => simp [intOf] <;> omega
 ·obtain ⟨k, rfl⟩ := Int.eq_ofNat_of_zero_le (show 0 ≤ size by omega)
  have hcl : clamp8 (k : Int) = k := by unfold clamp8; omega
  rw [hcl]
  have hk8 : (k : Int) < 8 := by omega
  have hk0 : (0 : Int) < (k : Int) := by omega
  have hcopy := copy_any v xs k w h (by omega)
  clear hcl hneg hbig heq hzer
  go_enter Tryz.func243, Tryz.ntmps243
  go_wp2_with (go_at_call 233; refine hcopy.mono ?_; rintro e w0 ⟨rfl, hown0, hB0⟩)
  go_loopw [7, 8] (fun o i wr => ∃ (x : Int) (j : Nat) (zs : List Int), i = .int .i64 x ∧ x + 1 = (j : Int) ∧ j ≤ k ∧ Hid (zs ++ putS n j = xs ++ putS n k) ∧ wr.ownsRow w.heap.size 5 1 o zs.length (zs.map (Value.int .u8)) ∧ Below w.heap.size w wr) (fun _ i _ => (intOf i + 1).toNat)
  case atStart => exact ⟨_, k, xs, rfl, by omega, Nat.le_refl _, rfl, hown0, hB0⟩
  case round =>
   obtain ⟨x, j, zs, rfl, hxj, hjk, HZ, hown, hB⟩ := hrel
   have hbase := hB.size
   have hzl : zs.length + j = xs.length + k := by
    have := congrArg List.length HZ.out
    simpa [putS_len] using this
   cases j with
   | zero =>
    obtain rfl : x = -1 := by omega
    have HE : Hid (xs ++ putS n k = zs) := by rw [← HZ.out]; simp [putS, Hid]
    go_wp2
    go_ret
    refine ⟨_, rfl, ?_, hB⟩
    rw [HE.out]
    exact hown
   | succ j =>
    obtain rfl : x = (j : Int) := by omega
    have ho := byte_of n j
    have HL : Hid ((zs ++ [((n / 256 ^ j % 256 : Nat) : Int)]) ++ putS n j = xs ++ putS n k) := by rw [← HZ.out]; simp [putS, Hid]
    generalize ((n / 256 ^ j % 256 : Nat) : Int) = c at *
    have hz64 : zs.length + 1 ≤ 140737488355328 := by omega
    clear hzl hxj HZ
    go_wp2_with (at_builtin; refine wpList_append_own _ rfl _ _ 29 rfl w.heap.size 5 i0 (.int .u8 0) 1 1 Tryz.underlying29 hi hz0 hz1 hz2 rfl (by decide) _ _ _ rfl (hown.alloc _) ⟨wr.heap.size, 0, none⟩ 1 1 [.int .u8 c] rfl rfl (cell_one_new _ _ _) (by simp [Value.oneCell']) (by unfold maxLen; omega) (by omega) (by simp; omega) ?_; intro v' w1 hown1 hgrow1 _)
    go_roundw
    case rel => exact ⟨_, j, zs ++ [c], rfl, by omega, by omega, HL, by simpa using hown1, (hB.alloc hbase _).grown hgrow1 (by simp; omega) (fun k hk => (hown.lt k hk).1)⟩
    case measure => simp [intOf] <;> omega
end
section
open Go.RowKit
theorem get_bounds (xs : List Int) (k : Nat) (hk8 : k ≤ 8) (hkl : k ≤ xs.length) (hx : ∀ c ∈ xs, 0 ≤ c ∧ c < 256) (j : Nat) (hj : j < k) :
  valB (xs.take j) * 256 < 18446744073709551616 ∧ 0 ≤ xs.getD j 0 ∧ xs.getD j 0 < 256 ∧ valB (xs.take (j + 1)) = valB (xs.take j) * 256 + (xs.getD j 0).toNat := by
 have h1 := valB_lt xs hx j (by omega)
 have h2 : (256 : Nat) ^ j ≤ 256 ^ 7 := Nat.pow_le_pow_right (by decide) (by omega)
 have e : (256 : Nat) ^ 7 = 72057594037927936 := by decide
 rw [e] at h2
 refine ⟨by omega, ?_, ?_, ?_⟩
 ·exact (hx _ (by simp [List.getD, show j < xs.length by omega])).1
 ·exact (hx _ (by simp [List.getD, show j < xs.length by omega])).2
 ·rw [take_snoc xs j (by omega), valB_snoc]
set_option maxHeartbeats 800000 in
theorem get_any (v : Value) (xs : List Int) (size : Int) (w : World) (h : Lies .u8 w v xs) (hx : ∀ c ∈ xs, 0 ≤ c ∧ c < 256) :
  Calls Tryz.prog 245 #[v, .int .i64 size] w fun e w' => e = .returned (.tuple #[.int .u64 (getS xs size).1, .int .i64 (getS xs size).2]) ∧ w' = w := by
 have hlen := h.len
 unfold maxLen at hlen
 unfold getS
 by_cases hs : size < 1 ∨ 8 < size
 ·rw [if_pos hs]
  rcases hs with hs | hs
  all_goals
   go_enter Tryz.func245, Tryz.ntmps245
   go_wp2
   go_ret2
   exact ⟨rfl, rfl⟩
 ·rw [if_neg hs]
  by_cases hl : (xs.length : Int) < size
  ·rw [if_pos hl]
   have hs1 : 1 ≤ size := by omega
   have hs8 : size ≤ 8 := by omega
   rcases h with ⟨rfl, ao, cap, rfl, _⟩ | ⟨_, b, off, cap, rfl, _, _, _, hc⟩
   ·have hl' : (0 : Int) < size := by omega
    clear hs
    go_enter Tryz.func245, Tryz.ntmps245
    go_wp2
    go_ret2
    exact ⟨rfl, rfl⟩
   ·clear hs hc
    go_enter Tryz.func245, Tryz.ntmps245
    go_wp2
    go_ret2
    exact ⟨rfl, rfl⟩
  ·rw [if_neg hl]
   obtain ⟨k, rfl⟩ := Int.eq_ofNat_of_zero_le (show 0 ≤ size by omega)
   rw [Int.toNat_natCast]
   have hk1 : 1 ≤ k := by omega
   have hk8 : k ≤ 8 := by omega
   have hkl : k ≤ xs.length := by omega
   clear hs hl
   rcases h with ⟨rfl, _⟩ | ⟨_, b, off, cap, rfl, _, hcl, hcm, hc⟩
   ·simp at hkl; omega
   ·unfold maxLen at hcm
    have HC := hide hc
    have HX := hide hx
    clear hc hx
    go_enter Tryz.func245, Tryz.ntmps245
    go_wp2
    go_loop [6, 8, 23] (fun n _ i => ∃ j : Nat, j ≤ k ∧ i = .int .i64 j ∧ n = .int .u64 ((valB (xs.take j) : Nat) : Int)) (fun _ _ i => k - (intOf i).toNat)
    case atStart => exact ⟨0, Nat.zero_le _, rfl, rfl⟩
    case round =>
     obtain ⟨j, hj, rfl, rfl⟩ := hrel
     by_cases hlt : j < k
     ·have hcell := HC.out j (by omega)
      obtain ⟨g1, g2, g3, g4⟩ := get_bounds xs k hk8 hkl HX.out j hlt
      have HS := hide (get_step (valB (xs.take j)) (xs.getD j 0) g1 g2 g3)
      have HV := hide g4
      generalize xs.getD j 0 = c at *
      clear g4
      go_wp2
      go_round
      case rel => exact ⟨j + 1, by omega, by go_num, by rw [HV.out, ← HS.out]⟩
      case measure => simp [intOf] <;> omega
     ·obtain rfl : j = k := by omega
      go_wp2
      go_ret2
      exact ⟨rfl, rfl⟩
end
section
open Go.RowKit
theorem Lies.cap {k : IntKind} {w : World} {ao : Option Addr} {cap : Nat} {xs : List Int} (h : Lies k w (.slice ao xs.length cap) xs) : xs.length ≤ cap := by
 rcases h with ⟨rfl, _⟩ | ⟨_, b, off, cap', e, _, hl, _⟩
 ·simp
 ·cases e; exact hl
theorem Lies.drop {k : IntKind} {w : World} {ao : Option Addr} {cap s : Nat} {xs : List Int} (h : Lies k w (.slice ao xs.length cap) xs) (hs : s ≤ xs.length) :
  Lies k w (.slice (if cap = s then ao else ao.map (·.add (s * 1))) (xs.length - s) (cap - s)) (xs.drop s) := by
 rcases h with ⟨rfl, ao', cap', e, h0⟩ | ⟨hne, b, off, cap', e, hb, hl, hm, hc⟩
 ·cases e
  obtain rfl : s = 0 := by simpa using hs
  refine .inl ⟨by simp, _, cap, rfl, fun hn => ?_⟩
  split at hn
  ·assumption
  ·cases ao with
   | none => exact h0 rfl
   | some ad => cases hn
 ·cases e
  by_cases hlt : s < xs.length
  ·rw [if_neg (by omega)]
   have hlen : (xs.drop s).length = xs.length - s := by simp
   refine .inr ⟨fun e => by rw [e] at hlen; simp at hlen; omega, b, off + s, cap - s, by simp [Addr.add_lit], hb, by omega, by omega, fun t ht => ?_⟩
   rw [Nat.add_assoc, hc (s + t) (by omega)]
   simp [List.getD]
  ·obtain rfl : s = xs.length := by omega
   refine .inl ⟨by simp, _, _, by rw [Nat.sub_self], fun hn => ?_⟩
   split at hn
   ·cases hn
   ·cases hn
theorem Lies.take {k : IntKind} {w : World} {ao : Option Addr} {cap n : Nat} {xs : List Int} (h : Lies k w (.slice ao xs.length cap) xs) (hn : n ≤ xs.length) : Lies k w (.slice ao n cap) (xs.take n) := by
 rcases h with ⟨rfl, ao', cap', e, h0⟩ | ⟨hne, b, off, cap', e, hb, hl, hm, hc⟩
 ·cases e
  obtain rfl : n = 0 := by simpa using hn
  exact .inl ⟨by simp, ao, cap, rfl, h0⟩
 ·cases e
  by_cases h0 : n = 0
  ·subst h0
   exact .inl ⟨by simp, _, _, rfl, fun h => by cases h⟩
  ·have hlen : (xs.take n).length = n := by simp; omega
   refine .inr ⟨fun e => by rw [e] at hlen; simp at hlen; omega, b, off, cap, by rw [hlen], hb, by omega, hm, fun t ht => ?_⟩
   rw [hc t (by omega)]
   have : t < n := by omega
   simp [List.getD, this]
theorem run_from (w : World) (ao : Option Addr) (n cap s : Nat) (hs : s ≤ n) : (Instr.sliceAt 29 (.slice ao n cap) (some (.int .i64 s)) none none).run Tryz.prog w = .ok (.slice (if cap = s then ao else ao.map (·.add (s * 1))) (n - s) (cap - s)) w := by
 simp [Instr.sliceAt, Instr.slice, run_underlying Tryz.underlying29, Instr.sliceBounds, Instr.sliceBound, asIntOf]
 omega
theorem wp_from {ops : Array Oper} {rest : List Oper} {o : Oper} {a : Act} {Q : Exit → Act → World → Prop} (w : World) (hgd : o.guard = none) (x lo : Operand) (ho : o.op = .slice 29 x (some lo) none none) (v : Value) (xs : List Int) (hx : a.eval x = v) (hL : Lies .u8 w v xs)
  (s : Nat) (hlo : a.eval lo = .int .i64 s) (hs : s ≤ xs.length) (h : ∀ ao' cap', Lies .u8 w (.slice ao' (xs.length - s) cap') (xs.drop s) → wpList Tryz.prog ops Q rest (a.put o.dst (.slice ao' (xs.length - s) cap')) w) : wpList Tryz.prog ops Q (o :: rest) a w := by
 obtain ⟨ao, cap, rfl⟩ := hL.shape
 refine wpList_plain hgd fun K hK => ?_
 have hr := run_from w ao xs.length cap s hs
 unfold Oper.wp execOp
 simp only [ho, hx, hlo, Option.map_some, Option.map_none, Sem.run_bind, hr, Result.andThen_ok]
 exact hK _ _ (h _ _ (hL.drop hs))
theorem run_to (w : World) (kd : IntKind) (ao : Option Addr) (m cap n : Nat) (hn : n ≤ cap) : (Instr.sliceAt 29 (.slice ao m cap) none (some (.int kd n)) none).run Tryz.prog w = .ok (.slice ao n cap) w := by
 have h2 : (if cap = 0 then ao else Option.map (fun x => x.add 0) ao) = ao := by
  split
  ·rfl
  ·cases ao with
   | none => rfl
   | some ad => simp [Addr.add]
 simp [Instr.sliceAt, Instr.slice, run_underlying Tryz.underlying29, Instr.sliceBounds, Instr.sliceBound, asIntOf, h2]
 omega
theorem wp_to {ops : Array Oper} {rest : List Oper} {o : Oper} {a : Act} {Q : Exit → Act → World → Prop} (w : World) (hgd : o.guard = none) (x hi : Operand) (ho : o.op = .slice 29 x none (some hi) none) (v : Value) (xs : List Int) (hx : a.eval x = v) (hL : Lies .u8 w v xs)
  (kd : IntKind) (n : Nat) (hhi : a.eval hi = .int kd n) (hn : n ≤ xs.length) (h : ∀ ao' cap', Lies .u8 w (.slice ao' n cap') (xs.take n) → wpList Tryz.prog ops Q rest (a.put o.dst (.slice ao' n cap')) w) : wpList Tryz.prog ops Q (o :: rest) a w := by
 obtain ⟨ao, cap, rfl⟩ := hL.shape
 refine wpList_plain hgd fun K hK => ?_
 have hr := run_to w kd ao xs.length cap n (Nat.le_trans hn hL.cap)
 unfold Oper.wp execOp
 simp only [ho, hx, hhi, Option.map_some, Option.map_none, Sem.run_bind, hr, Result.andThen_ok]
 exact hK _ _ (h _ _ (hL.take hn))
theorem wp_str {ops : Array Oper} {rest : List Oper} {o : Oper} {a : Act} {Q : Exit → Act → World → Prop} (w : World) (hgd : o.guard = none) (x : Operand) (ho : o.op = .convert 29 9 x) (v : Value) (xs : List Int) (hx : a.eval x = v) (hL : Lies .u8 w v xs)
  (h : wpList Tryz.prog ops Q rest (a.put o.dst (.string (strOfNums xs))) w) : wpList Tryz.prog ops Q (o :: rest) a w := by
 refine wpList_plain hgd fun K hK => ?_
 unfold Oper.wp execOp
 simp only [ho, hx, Sem.run_bind, hL.convert, Result.andThen_ok]
 exact hK _ _ h
end
end Go.Proofs.YtlegliimgjmphaaGreat
