/-
  Own texts put together: Codec, Sets, Lists, Pop, Bit. Own work.
-/
import Derived.Test.YtoppdelljjapoaaGreatG04
import Derived.Test.YtoppdelljjapoaaGreatG02
import Derived.Test.YtoppdelljjapoaaGreatG03
import Derived.RangeFuncBox
import Derived.RangeFuncLeaves
import Derived.Shelf.Abstract
import Derived.OwnWalkIn
import Derived.TacticsInMore
import Derived.LoopNIn
import Derived.LoopIn
import Derived.Deep.QuietTactic
import Derived.BigQuiet
import Derived.Laws.Bits128
namespace Go.Proofs.YtoppdelljjapoaaGreat
section
open Go

/-- What reading leaves: all of its bytes went; or a fault, within what was left. -/
def ReadsTo (r r' : RS) (ys : List Int) : Prop :=
  (r'.why = 0 ∧ r.bs = ys ++ r'.bs ∧ r'.went = r.went + ys.length ∧ r'.fat = r.fat) ∨
  (r'.why ≠ 0 ∧ ∃ k, k ≤ r.bs.length ∧ r'.bs = r.bs.drop k ∧ r'.went = r.went + k ∧ r'.fat = r.went + k)
theorem ReadAs.to {r r' : RS} {ys : List Int} (h : ReadAs r r' ys) : ReadsTo r r' ys := by
  rcases h with h | ⟨h1, h2, h3, h4⟩
  · exact .inl h
  · exact .inr ⟨h1, 0, Nat.zero_le _, by simpa using h2, by simpa using h3, by simpa using h4⟩
theorem ReadsTo.bytes {r r' : RS} {ys : List Int} (h : ReadsTo r r' ys) (hx : ∀ c ∈ r.bs, 0 ≤ c ∧ c < 256) : ∀ c ∈ r'.bs, 0 ≤ c ∧ c < 256 := by
  rcases h with ⟨_, h, _⟩ | ⟨_, k, _, h, _⟩
  · intro c hc; exact hx c (by rw [h]; exact List.mem_append_right _ hc)
  · intro c hc; rw [h] at hc; exact hx c (List.mem_of_mem_drop hc)
theorem ReadsTo.nil {r : RS} (h : r.why = 0) : ReadsTo r r [] := .inl ⟨h, rfl, rfl, rfl⟩
theorem ReadsTo.trans {r r1 r2 : RS} {ys zs : List Int} (h : ReadsTo r r1 ys) (h1 : r1.why = 0) (h2 : ReadsTo r1 r2 zs) : ReadsTo r r2 (ys ++ zs) := by
  rcases h with ⟨_, e1, e2, e3⟩ | ⟨hn, _⟩
  · rcases h2 with ⟨g0, g1, g2, g3⟩ | ⟨g0, k, gk, g1, g2, g3⟩
    · exact .inl ⟨g0, by rw [e1, g1, List.append_assoc], by rw [g2, e2, List.length_append]; omega, by rw [g3, e3]⟩
    · exact .inr ⟨g0, ys.length + k, by rw [e1, List.length_append]; omega, by rw [g1, e1, ← List.drop_drop, List.drop_left], by rw [g2, e2]; omega, by rw [g3, e2]; omega⟩
  · exact absurd h1 hn
/-- A fault stays. -/
theorem ReadsTo.stuck {r r1 : RS} {ys zs : List Int} (h : ReadsTo r r1 ys) (h1 : r1.why ≠ 0) : ReadsTo r r1 zs := by
  rcases h with ⟨h0, _⟩ | h
  · exact absurd h0 h1
  · exact .inr h
structure Codec (α : Type) where
  enc : α → List Int
  dec : RS → α × RS
structure Codec.Good {α : Type} (C : Codec α) (ok rng : α → Prop) : Prop where
  stays : ∀ r, r.why ≠ 0 → (C.dec r).2 = r
  back : ∀ a, ok a → ∀ ys w f, C.dec ⟨C.enc a ++ ys, w, 0, f⟩ = (a, ⟨ys, w + (C.enc a).length, 0, f⟩)
  one : ∀ r, r.why = 0 → (∀ c ∈ r.bs, 0 ≤ c ∧ c < 256) → ReadsTo r (C.dec r).2 (C.enc (C.dec r).1) ∧ ((C.dec r).2.why = 0 → rng (C.dec r).1)
/-- A number of at most so much. -/
def numC (most : Nat) : Codec Nat := ⟨shortS, fun r => ((numS most r).1.toNat, (numS most r).2)⟩
theorem num_le (m : Nat) (r : RS) (h : r.why = 0) (hx : ∀ c ∈ r.bs, 0 ≤ c ∧ c < 256) : ∃ n : Nat, (numS m r).1 = (n : Int) ∧ n ≤ m := by
  unfold numS
  rw [if_neg (by simp [h])]
  rcases long_cases' r.bs hx with ⟨e, hl, he⟩ | ⟨N, s, hl, h1, hs, hN, hS⟩
  · rw [hl]
    simp only
    rw [if_pos he]
    exact ⟨0, rfl, Nat.zero_le _⟩
  · rw [hl]
    simp only
    rw [if_neg (by simp)]
    split
    · exact ⟨0, rfl, Nat.zero_le _⟩
    · exact ⟨N, rfl, by omega⟩
theorem numC_good (most : Nat) (hm : most < 18446744073709551616) : (numC most).Good (fun n => n ≤ most) (fun n => n ≤ most) where
  stays := fun r h => by show (numS most r).2 = r; rw [num_stays h]
  back := fun n hn ys w f => by
    show (((numS most ⟨shortS n ++ ys, w, 0, f⟩).1.toNat, (numS most ⟨shortS n ++ ys, w, 0, f⟩).2) : Nat × RS) = _
    rw [num_back n (by omega) ys w most hn f]
    rfl
  one := fun r h hx => by
    obtain ⟨n, e, _, hr⟩ := num_one most r h hx
    obtain ⟨n2, e2, hle⟩ := num_le most r h hx
    have he : n2 = n := by omega
    subst he
    refine ⟨?_, fun _ => ?_⟩
    · show ReadsTo r (numS most r).2 (shortS (numS most r).1.toNat)
      rw [e]
      exact hr.to
    · show (numS most r).1.toNat ≤ most
      rw [e]
      simpa using hle
/-- A byte. -/
def byteC : Codec Int := ⟨fun c => [c], byteS⟩
theorem byteC_good : byteC.Good (fun _ => True) (fun c => 0 ≤ c ∧ c < 256) where
  stays := fun r h => by show (byteS r).2 = r; rw [byte_stays h]
  back := fun c _ ys w f => byte_back c ys w f
  one := fun r h hx => ⟨(byte_one r h).to, fun hw => by
    show 0 ≤ (byteS r).1 ∧ (byteS r).1 < 256
    have hw2 : (byteS r).2.why = 0 := hw
    unfold byteS at hw2 ⊢
    rw [if_neg (by simp [h])] at hw2 ⊢
    split
    · show (0 : Int) ≤ 0 ∧ (0 : Int) < 256
      exact ⟨by decide, by decide⟩
    · rename_i h0
      cases hb : r.bs with
      | nil => exact absurd hb h0
      | cons c t => exact hx c (by rw [hb]; simp)⟩
/-- Eight bytes. -/
def keyC : Codec (List Int) := ⟨fun k => k, keyS⟩
theorem keyC_good : keyC.Good (fun k => k.length = 8) (fun k => k.length = 8 ∧ ∀ c ∈ k, 0 ≤ c ∧ c < 256) where
  stays := fun r h => by show (keyS r).2 = r; rw [key_stays h]
  back := fun k hk ys w f => by
    show keyS ⟨k ++ ys, w, 0, f⟩ = _
    rw [key_back k hk ys w f]
    show _ = (k, (⟨ys, w + k.length, 0, f⟩ : RS))
    rw [hk]
  one := fun r h hx => ⟨(key_one r h).to, fun hw => by
    have hw2 : (keyS r).2.why = 0 := hw
    show (keyS r).1.length = 8 ∧ ∀ c ∈ (keyS r).1, 0 ≤ c ∧ c < 256
    unfold keyS at hw2 ⊢
    rw [if_neg (by simp [h])] at hw2 ⊢
    split at hw2
    · simp [RS.fail] at hw2
    · rename_i h8
      rw [if_neg h8]
      exact ⟨by simp; omega, fun c hc => hx c (List.mem_of_mem_take hc)⟩⟩
/-- A text of at most so many bytes. -/
def textC (most : Nat) : Codec (List Int) := ⟨fun s => shortS s.length ++ s, textS most⟩
theorem text_back2 (most : Nat) (s : List Int) (hs : s.length ≤ most) (hm : most < 18446744073709551616) (ys : List Int) (w : Nat) (f : Nat) : textS (most : Int) ⟨shortS s.length ++ s ++ ys, w, 0, f⟩ = (s, ⟨ys, w + (shortS s.length ++ s).length, 0, f⟩) := by
  unfold textS
  rw [if_neg (by simp), List.append_assoc, long_back' s.length _ (by omega)]
  simp only
  rw [if_neg (by simp), if_neg (by omega), if_neg (by simp; omega)]
  simp [RS.go]
theorem text_len (most : Nat) (r : RS) (h : r.why = 0) (hx : ∀ c ∈ r.bs, 0 ≤ c ∧ c < 256) : (textS (most : Int) r).1.length ≤ most ∧ ∀ c ∈ (textS (most : Int) r).1, 0 ≤ c ∧ c < 256 := by
  unfold textS
  rw [if_neg (by simp [h])]
  rcases long_cases' r.bs hx with ⟨e, hl, he⟩ | ⟨N, s, hl, h1, hs, hN, hS⟩
  · rw [hl]
    simp only
    rw [if_pos he]
    exact ⟨Nat.zero_le _, fun c hc => by cases hc⟩
  · rw [hl]
    simp only
    rw [if_neg (by simp)]
    split
    · exact ⟨Nat.zero_le _, fun c hc => by cases hc⟩
    · rename_i hle
      split
      · exact ⟨Nat.zero_le _, fun c hc => by cases hc⟩
      · simp only [Int.toNat_natCast]
        refine ⟨by rw [List.length_take]; omega, fun c hc => hx c (List.mem_of_mem_drop (List.mem_of_mem_take hc))⟩
theorem textC_good (most : Nat) (hm : most < 18446744073709551616) : (textC most).Good (fun s => s.length ≤ most) (fun s => s.length ≤ most ∧ ∀ c ∈ s, 0 ≤ c ∧ c < 256) where
  stays := fun r h => by show (textS most r).2 = r; rw [text_stays h]
  back := fun s hs ys w f => text_back2 most s hs hm ys w f
  one := fun r h hx => ⟨(text_one most r h hx).to, fun _ => text_len most r h hx⟩
section
variable {α β : Type}
/-- One behind the other. -/
def pairC (A : Codec α) (B : Codec β) : Codec (α × β) := ⟨fun x => A.enc x.1 ++ B.enc x.2, fun r => (((A.dec r).1, (B.dec (A.dec r).2).1), (B.dec (A.dec r).2).2)⟩
theorem pairC_good {A : Codec α} {B : Codec β} {okA rngA : α → Prop} {okB rngB : β → Prop} (hA : A.Good okA rngA) (hB : B.Good okB rngB) : (pairC A B).Good (fun x => okA x.1 ∧ okB x.2) (fun x => rngA x.1 ∧ rngB x.2) where
  stays := fun r h => by show (B.dec (A.dec r).2).2 = r; rw [hA.stays r h, hB.stays r h]
  back := fun x hx ys w f => by
    show ((((A.dec ⟨A.enc x.1 ++ B.enc x.2 ++ ys, w, 0, f⟩).1, (B.dec (A.dec ⟨A.enc x.1 ++ B.enc x.2 ++ ys, w, 0, f⟩).2).1), (B.dec (A.dec ⟨A.enc x.1 ++ B.enc x.2 ++ ys, w, 0, f⟩).2).2) : (α × β) × RS) = _
    rw [List.append_assoc, hA.back x.1 hx.1]
    simp only
    rw [hB.back x.2 hx.2]
    simp only [pairC, List.length_append, Nat.add_assoc]
  one := fun r h hx => by
    obtain ⟨r1, g1⟩ := hA.one r h hx
    by_cases hw : (A.dec r).2.why = 0
    · obtain ⟨r2, g2⟩ := hB.one (A.dec r).2 hw (r1.bytes hx)
      exact ⟨r1.trans hw r2, fun hz => ⟨g1 hw, g2 hz⟩⟩
    · have hs := hB.stays (A.dec r).2 hw
      refine ⟨?_, fun hz => ?_⟩
      · show ReadsTo r (B.dec (A.dec r).2).2 _
        rw [hs]
        exact r1.stuck hw
      · have hz2 : (B.dec (A.dec r).2).2.why = 0 := hz
        rw [hs] at hz2
        exact absurd hz2 hw
/-- The same thing in another dress. -/
def isoC (A : Codec α) (f : α → β) (g : β → α) : Codec β := ⟨fun b => A.enc (g b), fun r => (f (A.dec r).1, (A.dec r).2)⟩
theorem isoC_good {A : Codec α} {okA rngA : α → Prop} {f : α → β} {g : β → α} (hA : A.Good okA rngA) (hgf : ∀ a, g (f a) = a) (hfg : ∀ b, f (g b) = b) : (isoC A f g).Good (fun b => okA (g b)) (fun b => rngA (g b)) where
  stays := fun r h => hA.stays r h
  back := fun b hb ys w e => by
    show ((f (A.dec ⟨A.enc (g b) ++ ys, w, 0, e⟩).1, (A.dec ⟨A.enc (g b) ++ ys, w, 0, e⟩).2) : β × RS) = _
    rw [hA.back (g b) hb, hfg]
    rfl
  one := fun r h hx => by
    obtain ⟨r1, g1⟩ := hA.one r h hx
    refine ⟨?_, fun hz => ?_⟩
    · show ReadsTo r (A.dec r).2 (A.enc (g (f (A.dec r).1)))
      rw [hgf]; exact r1
    · show rngA (g (f (A.dec r).1))
      rw [hgf]; exact g1 hz
/-- So many of a kind. -/
def repEnc (A : Codec α) (l : List α) : List Int := l.flatMap A.enc
def repDec (A : Codec α) : Nat → RS → List α × RS
  | 0, r => ([], r)
  | n + 1, r => ((A.dec r).1 :: (repDec A n (A.dec r).2).1, (repDec A n (A.dec r).2).2)
theorem rep_len (A : Codec α) : ∀ (n : Nat) (r : RS), (repDec A n r).1.length = n
  | 0, _ => rfl
  | n + 1, r => by simp [repDec, rep_len A n]
theorem rep_stays {A : Codec α} {ok rng : α → Prop} (hA : A.Good ok rng) : ∀ (n : Nat) (r : RS), r.why ≠ 0 → (repDec A n r).2 = r
  | 0, _, _ => rfl
  | n + 1, r, h => by
    show (repDec A n (A.dec r).2).2 = r
    rw [hA.stays r h]
    exact rep_stays hA n r h
theorem rep_back {A : Codec α} {ok rng : α → Prop} (hA : A.Good ok rng) : ∀ (l : List α), (∀ x ∈ l, ok x) → ∀ ys w f, repDec A l.length ⟨repEnc A l ++ ys, w, 0, f⟩ = (l, ⟨ys, w + (repEnc A l).length, 0, f⟩)
  | [], _, ys, w, f => by simp [repDec, repEnc]
  | x :: l, h, ys, w, f => by
    have e : repEnc A (x :: l) = A.enc x ++ repEnc A l := by simp [repEnc]
    show (((A.dec ⟨repEnc A (x :: l) ++ ys, w, 0, f⟩).1 :: (repDec A l.length (A.dec ⟨repEnc A (x :: l) ++ ys, w, 0, f⟩).2).1, (repDec A l.length (A.dec ⟨repEnc A (x :: l) ++ ys, w, 0, f⟩).2).2) : List α × RS) = _
    rw [e, List.append_assoc, hA.back x (h x List.mem_cons_self)]
    simp only
    rw [rep_back hA l (fun y hy => h y (List.mem_cons_of_mem _ hy))]
    simp only [List.length_append, Nat.add_assoc]
theorem rep_one {A : Codec α} {ok rng : α → Prop} (hA : A.Good ok rng) : ∀ (n : Nat) (r : RS), r.why = 0 → (∀ c ∈ r.bs, 0 ≤ c ∧ c < 256) → ReadsTo r (repDec A n r).2 (repEnc A (repDec A n r).1) ∧ ((repDec A n r).2.why = 0 → ∀ x ∈ (repDec A n r).1, rng x)
  | 0, r, h, _ => ⟨ReadsTo.nil h, fun _ x hx => by cases hx⟩
  | n + 1, r, h, hx => by
    obtain ⟨r1, g1⟩ := hA.one r h hx
    have e : repEnc A (repDec A (n + 1) r).1 = A.enc (A.dec r).1 ++ repEnc A (repDec A n (A.dec r).2).1 := by simp [repDec, repEnc]
    rw [e]
    by_cases hw : (A.dec r).2.why = 0
    · obtain ⟨r2, g2⟩ := rep_one hA n (A.dec r).2 hw (r1.bytes hx)
      refine ⟨r1.trans hw r2, fun hz x hxm => ?_⟩
      rcases List.mem_cons.1 hxm with rfl | hxm
      · exact g1 hw
      · exact g2 hz x hxm
    · have hs := rep_stays hA n (A.dec r).2 hw
      refine ⟨?_, fun hz => ?_⟩
      · show ReadsTo r (repDec A n (A.dec r).2).2 _
        rw [hs]
        exact r1.stuck hw
      · have hz2 : (repDec A n (A.dec r).2).2.why = 0 := hz
        rw [hs] at hz2
        exact absurd hz2 hw
/-- Just n of them. -/
def repC (A : Codec α) (n : Nat) : Codec (List α) := ⟨repEnc A, repDec A n⟩
theorem repC_good {A : Codec α} {ok rng : α → Prop} (hA : A.Good ok rng) (n : Nat) : (repC A n).Good (fun l => l.length = n ∧ ∀ x ∈ l, ok x) (fun l => l.length = n ∧ ∀ x ∈ l, rng x) where
  stays := rep_stays hA n
  back := fun l hl ys w f => by
    show repDec A n _ = _
    rw [← hl.1]
    exact rep_back hA l hl.2 ys w f
  one := fun r h hx => by
    obtain ⟨r1, g1⟩ := rep_one hA n r h hx
    exact ⟨r1, fun hz => ⟨rep_len A n r, g1 hz⟩⟩
/-- A list: how many, and then they; none is read behind a fault. -/
def listC (A : Codec α) (most : Nat) : Codec (List α) := ⟨fun l => shortS l.length ++ repEnc A l, fun r => repDec A (numS most r).1.toNat (numS most r).2⟩
theorem listC_good {A : Codec α} {ok rng : α → Prop} (hA : A.Good ok rng) (most : Nat) (hm : most < 18446744073709551616) : (listC A most).Good (fun l => l.length ≤ most ∧ ∀ x ∈ l, ok x) (fun l => l.length ≤ most ∧ ∀ x ∈ l, rng x) where
  stays := fun r h => by
    show (repDec A (numS most r).1.toNat (numS most r).2).2 = r
    rw [num_stays h]
    rfl
  back := fun l hl ys w f => by
    show repDec A (numS most ⟨shortS l.length ++ repEnc A l ++ ys, w, 0, f⟩).1.toNat (numS most ⟨shortS l.length ++ repEnc A l ++ ys, w, 0, f⟩).2 = _
    rw [List.append_assoc, num_back l.length (by omega) _ w most hl.1 f]
    simp only [Int.toNat_natCast]
    rw [rep_back hA l hl.2]
    simp only [listC, List.length_append, Nat.add_assoc]
  one := fun r h hx => by
    obtain ⟨n, e, _, hr⟩ := num_one most r h hx
    obtain ⟨n2, e2, hle⟩ := num_le most r h hx
    have he : n2 = n := by omega
    subst he
    have hd : (listC A most).dec r = repDec A n2 (numS most r).2 := by show repDec A (numS most r).1.toNat _ = _; rw [e, Int.toNat_natCast]
    have hl : (repDec A n2 (numS most r).2).1.length = n2 := rep_len A n2 _
    rw [hd]
    show ReadsTo r (repDec A n2 (numS most r).2).2 (shortS (repDec A n2 (numS most r).2).1.length ++ repEnc A (repDec A n2 (numS most r).2).1) ∧ _
    rw [hl]
    by_cases hw : (numS most r).2.why = 0
    · obtain ⟨r2, g2⟩ := rep_one hA n2 (numS most r).2 hw (hr.to.bytes hx)
      exact ⟨hr.to.trans hw r2, fun hz => ⟨hle, g2 hz⟩⟩
    · have hs := rep_stays hA n2 (numS most r).2 hw
      refine ⟨?_, fun hz => ?_⟩
      · rw [hs]
        exact hr.to.stuck hw
      · rw [hs] at hz
        exact absurd hz hw
end
end
section
open Go

/-- Which bits are 1, rising. -/
def listN (s : Nat) : List Nat := (List.range 64).filter (fun i => s.testBit i)
def listS (s : Nat) : List Int := (listN s).map fun (i : Nat) => (i : Int)
theorem listS_len (s : Nat) : (listS s).length ≤ 64 := by
  unfold listS listN
  rw [List.length_map]
  exact Nat.le_trans (List.length_filter_le _ _) (by simp)
theorem listS_zero : listS 0 = [] := by
  simp [listS, listN]
theorem listS_five : listS 5 = [0, 2] := by decide +kernel

theorem tb (k y i : Nat) : (2 ^ k * y).testBit i = (decide (k ≤ i) && y.testBit (i - k)) := by
  rw [Nat.mul_comm, Nat.testBit_mul_two_pow]
/-- A number that is not 0: its lowest bit, and it without that one. -/
theorem lowest (x : Nat) (h0 : x ≠ 0) (h : x < 18446744073709551616) :
    ∃ k m, k < 64 ∧ x = 2 ^ k * (2 * m + 1) ∧ Lib.ctz 64 x = k ∧ x &&& (x - 1) = 2 ^ k * (2 * m) := by
  obtain ⟨m, hm, hk⟩ := Lib.ctzFrom_spec 64 x (by omega) h
  have e : Lib.ctz 64 x = Lib.ctzFrom 64 x := by simp [Lib.ctz, h0]
  refine ⟨Lib.ctzFrom 64 x, m, hk, hm, e, ?_⟩
  generalize Lib.ctzFrom 64 x = k at *
  have hp : 0 < 2 ^ k := Nat.two_pow_pos k
  have e1 : x = 2 ^ k * (2 * m) + 2 ^ k := by rw [hm, Nat.mul_add]; omega
  have e2 : x - 1 = 2 ^ k * (2 * m) + (2 ^ k - 1) := by omega
  apply Nat.eq_of_testBit_eq
  intro i
  rw [Nat.testBit_and, e2]
  by_cases hi : i < k
  · rw [hm, tb, tb]
    simp [show ¬ k ≤ i by omega]
  · have d1 : (2 ^ k * (2 * m) + (2 ^ k - 1)) / 2 ^ k = 2 * m := by
      rw [Nat.mul_add_div hp, Nat.div_eq_of_lt (by omega)]; omega
    have t1 : (2 ^ k * (2 * m) + (2 ^ k - 1)).testBit i = (2 * m).testBit (i - k) := by
      have := Nat.testBit_div_two_pow (2 ^ k * (2 * m) + (2 ^ k - 1)) (n := k) (i := i - k)
      rw [d1] at this
      rw [this, show i - k + k = i by omega]
    rw [t1, hm, tb, tb]
    simp only [show k ≤ i by omega, decide_true, Bool.true_and]
    cases hj : i - k with
    | zero => simp [Nat.testBit_zero]
    | succ j =>
      rw [Nat.testBit_succ, Nat.testBit_succ, show (2 * m + 1) / 2 = m by omega, show 2 * m / 2 = m by omega]
      simp
theorem rest_lt (x : Nat) (h0 : x ≠ 0) : x &&& (x - 1) < x := Nat.lt_of_le_of_lt Nat.and_le_right (by omega)
theorem range_split (k : Nat) (hk : k < 64) : List.range 64 = List.range k ++ k :: List.range' (k + 1) (63 - k) := by
  rw [List.range_eq_range', List.range_eq_range', show 64 = k + (1 + (63 - k)) by omega, List.range'_append_1.symm, Nat.add_comm 1, List.range'_succ]
  simp
theorem listN_step (x : Nat) (h0 : x ≠ 0) (h : x < 18446744073709551616) : listN x = Lib.ctz 64 x :: listN (x &&& (x - 1)) := by
  obtain ⟨k, m, hk, hm, hc, hr⟩ := lowest x h0 h
  rw [hc, hr]
  unfold listN
  rw [range_split k hk, List.filter_append, List.filter_append, List.filter_cons, List.filter_cons]
  have lowx : ∀ i, i < k → x.testBit i = false := by
    intro i hi; rw [hm, tb]; simp [show ¬ k ≤ i by omega]
  have lowr : ∀ i, i < k + 1 → (2 ^ k * (2 * m)).testBit i = false := by
    intro i hi; rw [tb]
    by_cases h1 : k ≤ i
    · have : i - k = 0 := by omega
      rw [this]; simp [Nat.testBit_zero]
    · simp [h1]
  have atk : x.testBit k = true := by rw [hm, tb]; simp [Nat.testBit_zero]
  have f1 : (List.range k).filter (fun i => x.testBit i) = [] := by
    rw [List.filter_eq_nil_iff]; intro i hi; simp at hi; simp [lowx i hi]
  have f2 : (List.range k).filter (fun i => (2 ^ k * (2 * m)).testBit i) = [] := by
    rw [List.filter_eq_nil_iff]; intro i hi; simp at hi; rw [lowr i (by omega)]; simp
  rw [f1, f2, atk, lowr k (by omega)]
  simp only [List.nil_append, if_true]
  congr 1
  apply List.filter_congr
  intro i hi
  have hi' : k + 1 ≤ i := by have := List.mem_range'_1.1 hi; omega
  rw [hm, tb, tb]
  obtain ⟨j, hj⟩ : ∃ j, i - k = j + 1 := ⟨i - k - 1, by omega⟩
  rw [hj, Nat.testBit_succ, Nat.testBit_succ, show (2 * m + 1) / 2 = m by omega, show 2 * m / 2 = m by omega]
theorem listS_step (x : Nat) (h0 : x ≠ 0) (h : x < 18446744073709551616) : listS x = ((Lib.ctz 64 x : Nat) : Int) :: listS (x &&& (x - 1)) := by
  unfold listS; rw [listN_step x h0 h]; rfl
theorem rest_bits (x : Nat) (h : x < 18446744073709551616) (h0 : x ≠ 0) : bits BinOp.and IntKind.u64 (x : Int) ((x : Int) - 1) = ((x &&& (x - 1) : Nat) : Int) := by
  have := u64_and_nat x (x - 1) h (by omega)
  rw [← this]
  congr 1
  omega
end
section
open Go.RowKit Go.Shelf
attribute [local go_sem] Oper.semAt_some

/-- The table of the library lies where its initialiser laid it. -/
def Tab (w : World) : Prop := ∀ j, j < 64 → w.cell? ⟨0, j, none⟩ = some (.int .u8 ((Lib.deBruijn64tab.getD j 0 : Nat) : Int))
theorem Tab.pos {w : World} (h : Tab w) : 0 < w.heap.size := by
  have h0 := h 0 (by decide)
  unfold World.cell? at h0
  rcases Nat.eq_zero_or_pos w.heap.size with hz | hz
  · have : w.heap[0]? = none := by simp [hz]
    simp [this] at h0
  · exact hz
theorem Tab.below {w w' : World} {B : Nat} (h : Tab w) (hB : Below B w w') (hp : 0 < B) : Tab w' :=
  fun j hj => (hB.cell (p := ⟨0, j, none⟩) hp).trans (h j hj)

theorem tz_key (x a : Nat) (hx : x < 18446744073709551616) (hx0 : x ≠ 0) (hlow : x &&& (18446744073709551616 - x) = a) :
    IntKind.u64.wrap (bits BinOp.and IntKind.u64 (x : Int) (IntKind.u64.wrap (-(x : Int))) * 285870213051353865) / 288230376151711744 = ((a * 285870213051353865 % 18446744073709551616 / 288230376151711744 : Nat) : Int) := by
  have e1 : IntKind.u64.wrap (-(x : Int)) = ((18446744073709551616 - x : Nat) : Int) := by rw [IntKind.wrap_u64]; omega
  rw [e1, u64_and_nat x _ hx (by omega), hlow, IntKind.wrap_u64]
  omega
theorem info3 : (Tryz.prog.info? 3).map (fun i => (i.zero, i.size, i.bytes)) = some (some (.int .i64 0), 1, 8) := by kernel_rfl
end
section
open Go

theorem and_bytes (q r p t : Nat) (hr : r < 256) (ht : t < 256) : (256 * q + r) &&& (256 * p + t) = 256 * (q &&& p) + (r &&& t) := by
  have d : ((256 * q + r) &&& (256 * p + t)) / 2 ^ 8 = (256 * q + r) / 2 ^ 8 &&& (256 * p + t) / 2 ^ 8 := Nat.and_div_two_pow
  have m : ((256 * q + r) &&& (256 * p + t)) % 2 ^ 8 = (256 * q + r) % 2 ^ 8 &&& (256 * p + t) % 2 ^ 8 := Nat.and_mod_two_pow
  have e1 : (256 * q + r) / 2 ^ 8 = q := by omega
  have e2 : (256 * p + t) / 2 ^ 8 = p := by omega
  have e3 : (256 * q + r) % 2 ^ 8 = r := by omega
  have e4 : (256 * p + t) % 2 ^ 8 = t := by omega
  rw [e1, e2] at d
  rw [e3, e4] at m
  generalize (256 * q + r) &&& (256 * p + t) = X at *
  omega

/-- The three steps on one byte. -/
def p1 (r : Nat) : Nat := (r / 2 &&& 0x55) + (r &&& 0x55)
def p2 (r : Nat) : Nat := (r / 4 &&& 0x33) + (r &&& 0x33)
def p3 (r : Nat) : Nat := (r / 16 + r) &&& 0x0f
/-- Each on a number, under a mask. -/
def f1 (x p : Nat) : Nat := (x / 2 &&& p) + (x &&& p)
def f2 (x p : Nat) : Nat := (x / 4 &&& p) + (x &&& p)
def f3 (x p : Nat) : Nat := (x / 16 + x) &&& p
theorem low1 : ∀ a : Fin 2, ∀ r : Fin 256, (128 * a.val + r.val / 2) &&& 0x55 = r.val / 2 &&& 0x55 := by decide +kernel
theorem low2 : ∀ a : Fin 4, ∀ r : Fin 256, (64 * a.val + r.val / 4) &&& 0x33 = r.val / 4 &&& 0x33 := by decide +kernel
theorem f1_step (q r p : Nat) (hr : r < 256) : f1 (256 * q + r) (256 * p + 0x55) = 256 * f1 q p + p1 r := by
  unfold f1 p1
  have e : (256 * q + r) / 2 = 256 * (q / 2) + (128 * (q % 2) + r / 2) := by omega
  have l := low1 ⟨q % 2, by omega⟩ ⟨r, hr⟩
  simp only at l
  rw [e, and_bytes _ _ _ _ (by omega) (by decide), and_bytes _ _ _ _ hr (by decide), l]
  omega
theorem f2_step (q r p : Nat) (hr : r < 256) : f2 (256 * q + r) (256 * p + 0x33) = 256 * f2 q p + p2 r := by
  unfold f2 p2
  have e : (256 * q + r) / 4 = 256 * (q / 4) + (64 * (q % 4) + r / 4) := by omega
  have l := low2 ⟨q % 4, by omega⟩ ⟨r, hr⟩
  simp only at l
  rw [e, and_bytes _ _ _ _ (by omega) (by decide), and_bytes _ _ _ _ hr (by decide), l]
  omega
theorem low3 : ∀ a : Fin 5, ∀ r : Fin 69, (16 * a.val + r.val / 16 + r.val) &&& 0x0f = (r.val / 16 + r.val) &&& 0x0f := by decide +kernel
theorem f3_step (q r p : Nat) (hr : r ≤ 68) (hq : q % 16 ≤ 4) : f3 (256 * q + r) (256 * p + 0x0f) = 256 * f3 q p + p3 r := by
  unfold f3 p3
  have e : (256 * q + r) / 16 + (256 * q + r) = 256 * (q / 16 + q) + (16 * (q % 16) + r / 16 + r) := by omega
  have l := low3 ⟨q % 16, by omega⟩ ⟨r, by omega⟩
  simp only at l
  rw [e, and_bytes _ _ _ _ (by omega) (by decide), l]

/-- Eight bytes as one number. -/
def join8 (a b c d e f g h : Nat) : Nat := 256 * (256 * (256 * (256 * (256 * (256 * (256 * h + g) + f) + e) + d) + c) + b) + a
theorem f_zero1 : f1 0 0 = 0 := by decide
theorem m55 : (6148914691236517205 : Nat) = 256 * (256 * (256 * (256 * (256 * (256 * (256 * (256 * 0 + 0x55) + 0x55) + 0x55) + 0x55) + 0x55) + 0x55) + 0x55) + 0x55 := by decide
theorem m33 : (3689348814741910323 : Nat) = 256 * (256 * (256 * (256 * (256 * (256 * (256 * (256 * 0 + 0x33) + 0x33) + 0x33) + 0x33) + 0x33) + 0x33) + 0x33) + 0x33 := by decide
theorem m0f : (1085102592571150095 : Nat) = 256 * (256 * (256 * (256 * (256 * (256 * (256 * (256 * 0 + 0x0f) + 0x0f) + 0x0f) + 0x0f) + 0x0f) + 0x0f) + 0x0f) + 0x0f := by decide
theorem join_more (a b c d e f g h : Nat) : join8 a b c d e f g h = 256 * (256 * (256 * (256 * (256 * (256 * (256 * (256 * 0 + h) + g) + f) + e) + d) + c) + b) + a := by unfold join8; omega
theorem f1_join (a b c d e f g h : Nat) (ha : a < 256) (hb : b < 256) (hc : c < 256) (hd : d < 256) (he : e < 256) (hf : f < 256) (hg : g < 256) (hh : h < 256) :
    f1 (join8 a b c d e f g h) 6148914691236517205 = join8 (p1 a) (p1 b) (p1 c) (p1 d) (p1 e) (p1 f) (p1 g) (p1 h) := by
  rw [join_more, m55, f1_step _ _ _ ha, f1_step _ _ _ hb, f1_step _ _ _ hc, f1_step _ _ _ hd, f1_step _ _ _ he, f1_step _ _ _ hf, f1_step _ _ _ hg, f1_step _ _ _ hh, join_more]
  rfl
theorem f2_join (a b c d e f g h : Nat) (ha : a < 256) (hb : b < 256) (hc : c < 256) (hd : d < 256) (he : e < 256) (hf : f < 256) (hg : g < 256) (hh : h < 256) :
    f2 (join8 a b c d e f g h) 3689348814741910323 = join8 (p2 a) (p2 b) (p2 c) (p2 d) (p2 e) (p2 f) (p2 g) (p2 h) := by
  rw [join_more, m33, f2_step _ _ _ ha, f2_step _ _ _ hb, f2_step _ _ _ hc, f2_step _ _ _ hd, f2_step _ _ _ he, f2_step _ _ _ hf, f2_step _ _ _ hg, f2_step _ _ _ hh, join_more]
  rfl
theorem f3_join (a b c d e f g h : Nat) (ha : a ≤ 68) (hb : b ≤ 68) (hc : c ≤ 68) (hd : d ≤ 68) (he : e ≤ 68) (hf : f ≤ 68) (hg : g ≤ 68) (hh : h ≤ 68)
    (hb' : b % 16 ≤ 4) (hc' : c % 16 ≤ 4) (hd' : d % 16 ≤ 4) (he' : e % 16 ≤ 4) (hf' : f % 16 ≤ 4) (hg' : g % 16 ≤ 4) (hh' : h % 16 ≤ 4) :
    f3 (join8 a b c d e f g h) 1085102592571150095 = join8 (p3 a) (p3 b) (p3 c) (p3 d) (p3 e) (p3 f) (p3 g) (p3 h) := by
  rw [join_more, m0f, f3_step _ _ _ ha (by omega), f3_step _ _ _ hb (by omega), f3_step _ _ _ hc (by omega), f3_step _ _ _ hd (by omega), f3_step _ _ _ he (by omega), f3_step _ _ _ hf (by omega), f3_step _ _ _ hg (by omega), f3_step _ _ _ hh (by omega), join_more]
  rfl
/-- How many bits of a byte are 1. -/
def pop8 (r : Nat) : Nat := ((List.range 8).filter (fun i => r.testBit i)).length
theorem byte_all : ∀ r : Fin 256, p1 r.val < 256 ∧ p2 (p1 r.val) ≤ 68 ∧ p2 (p1 r.val) % 16 ≤ 4 ∧ p3 (p2 (p1 r.val)) = pop8 r.val ∧ pop8 r.val ≤ 8 := by decide +kernel

theorem join_lt (a b c d e f g h : Nat) (ha : a < 256) (hb : b < 256) (hc : c < 256) (hd : d < 256) (he : e < 256) (hf : f < 256) (hg : g < 256) (hh : h < 256) : join8 a b c d e f g h < 18446744073709551616 := by
  unfold join8; omega
theorem join_split (s : Nat) (hs : s < 18446744073709551616) : ∃ a b c d e f g h : Nat, a < 256 ∧ b < 256 ∧ c < 256 ∧ d < 256 ∧ e < 256 ∧ f < 256 ∧ g < 256 ∧ h < 256 ∧ s = join8 a b c d e f g h := by
  refine ⟨s % 256, s / 256 % 256, s / 65536 % 256, s / 16777216 % 256, s / 4294967296 % 256, s / 1099511627776 % 256, s / 281474976710656 % 256, s / 72057594037927936, ?_⟩
  unfold join8
  refine ⟨by omega, by omega, by omega, by omega, by omega, by omega, by omega, by omega, by omega⟩

/-- The last steps: the bytes are added up. -/
theorem sums (a b c d e f g h : Nat) (ha : a ≤ 8) (hb : b ≤ 8) (hc : c ≤ 8) (hd : d ≤ 8) (he : e ≤ 8) (hf : f ≤ 8) (hg : g ≤ 8) (hh : h ≤ 8) :
    ∃ x4 x5 x6 : Nat, x4 = join8 a b c d e f g h + join8 a b c d e f g h / 256 ∧ x5 = x4 + x4 / 65536 ∧ x6 = x5 + x5 / 4294967296 ∧
      x4 < 18446744073709551616 ∧ x5 < 18446744073709551616 ∧ x6 < 9223372036854775808 ∧ x6 % 128 = a + b + c + d + e + f + g + h := by
  have e1 : join8 a b c d e f g h / 256 = join8 b c d e f g h 0 := by unfold join8; omega
  have e2 : join8 a b c d e f g h + join8 b c d e f g h 0 = join8 (a + b) (b + c) (c + d) (d + e) (e + f) (f + g) (g + h) h := by unfold join8; omega
  have e3 : join8 (a + b) (b + c) (c + d) (d + e) (e + f) (f + g) (g + h) h / 65536 = join8 (c + d) (d + e) (e + f) (f + g) (g + h) h 0 0 := by unfold join8; omega
  have e4 : join8 (a + b) (b + c) (c + d) (d + e) (e + f) (f + g) (g + h) h + join8 (c + d) (d + e) (e + f) (f + g) (g + h) h 0 0 = join8 (a + b + (c + d)) (b + c + (d + e)) (c + d + (e + f)) (d + e + (f + g)) (e + f + (g + h)) (f + g + h) (g + h) h := by unfold join8; omega
  have e5 : join8 (a + b + (c + d)) (b + c + (d + e)) (c + d + (e + f)) (d + e + (f + g)) (e + f + (g + h)) (f + g + h) (g + h) h / 4294967296 = join8 (e + f + (g + h)) (f + g + h) (g + h) h 0 0 0 0 := by unfold join8; omega
  refine ⟨_, _, _, rfl, rfl, rfl, ?_⟩
  rw [e1, e2, e3, e4, e5]
  refine ⟨?_, ?_, ?_, ?_⟩
  all_goals (unfold join8; omega)

theorem testBit_join (q r i : Nat) (hr : r < 256) : (256 * q + r).testBit i = if i < 8 then r.testBit i else q.testBit (i - 8) := by
  by_cases hi : i < 8
  · rw [if_pos hi]
    have e : (256 * q + r) % 2 ^ 8 = r := by omega
    have t := Nat.testBit_mod_two_pow (256 * q + r) 8 i
    rw [e] at t
    rw [t]; simp [hi]
  · rw [if_neg hi]
    have e : (256 * q + r) / 2 ^ 8 = q := by omega
    have t := Nat.testBit_div_two_pow (256 * q + r) (n := 8) (i := i - 8)
    rw [e] at t
    rw [t, show i - 8 + 8 = i by omega]
/-- Bits counted, from a byte on. -/
def cnt (n s : Nat) : Nat := ((List.range n).filter (fun i => s.testBit i)).length
theorem range_add (m : Nat) : List.range (8 + m) = List.range 8 ++ (List.range m).map (fun i => 8 + i) := by
  rw [List.range_eq_range', List.range_eq_range', List.range_eq_range', ← List.range'_append_1 (s := 0) (m := 8) (n := m)]
  congr 1
  rw [List.map_add_range']
theorem cnt_step (m q r : Nat) (hr : r < 256) : cnt (8 + m) (256 * q + r) = pop8 r + cnt m q := by
  unfold cnt pop8
  rw [range_add, List.filter_append, List.length_append, List.filter_map, List.length_map]
  congr 1
  · congr 1
    apply List.filter_congr
    intro i hi
    simp at hi
    rw [testBit_join q r i hr, if_pos hi]
  · congr 1
    apply List.filter_congr
    intro i _
    simp only [Function.comp]
    rw [testBit_join q r _ hr, if_neg (by omega), show 8 + i - 8 = i by omega]
theorem cnt_join (a b c d e f g h : Nat) (ha : a < 256) (hb : b < 256) (hc : c < 256) (hd : d < 256) (he : e < 256) (hf : f < 256) (hg : g < 256) (hh : h < 256) :
    cnt 64 (join8 a b c d e f g h) = pop8 a + pop8 b + pop8 c + pop8 d + pop8 e + pop8 f + pop8 g + pop8 h := by
  rw [join_more]
  show cnt (8 + (8 + (8 + (8 + (8 + (8 + (8 + (8 + 0)))))))) _ = _
  rw [cnt_step _ _ _ ha, cnt_step _ _ _ hb, cnt_step _ _ _ hc, cnt_step _ _ _ hd, cnt_step _ _ _ he, cnt_step _ _ _ hf, cnt_step _ _ _ hg, cnt_step _ _ _ hh]
  have : cnt 0 0 = 0 := rfl
  rw [this]; omega

/-- All of it, as the library's steps. -/
theorem pop_all (s : Nat) (hs : s < 18446744073709551616) : ∃ x1 x2 x3 x4 x5 x6 : Nat,
    x1 = f1 s 6148914691236517205 ∧ x2 = f2 x1 3689348814741910323 ∧ x3 = f3 x2 1085102592571150095 ∧ x4 = x3 + x3 / 256 ∧ x5 = x4 + x4 / 65536 ∧ x6 = x5 + x5 / 4294967296 ∧
    x1 < 18446744073709551616 ∧ x2 < 9223372036854775808 ∧ x3 < 18446744073709551616 ∧ x4 < 18446744073709551616 ∧ x5 < 18446744073709551616 ∧ x6 < 9223372036854775808 ∧ x6 % 128 = (listS s).length := by
  obtain ⟨a, b, c, d, e, f, g, h, ha, hb, hc, hd, he, hf, hg, hh, rfl⟩ := join_split s hs
  obtain ⟨A1, A2, A3, A4, A5⟩ := byte_all ⟨a, ha⟩
  obtain ⟨B1, B2, B3, B4, B5⟩ := byte_all ⟨b, hb⟩
  obtain ⟨C1, C2, C3, C4, C5⟩ := byte_all ⟨c, hc⟩
  obtain ⟨D1, D2, D3, D4, D5⟩ := byte_all ⟨d, hd⟩
  obtain ⟨E1, E2, E3, E4, E5⟩ := byte_all ⟨e, he⟩
  obtain ⟨F1, F2, F3, F4, F5⟩ := byte_all ⟨f, hf⟩
  obtain ⟨G1, G2, G3, G4, G5⟩ := byte_all ⟨g, hg⟩
  obtain ⟨H1, H2, H3, H4, H5⟩ := byte_all ⟨h, hh⟩
  simp only at A1 A2 A3 A4 A5 B1 B2 B3 B4 B5 C1 C2 C3 C4 C5 D1 D2 D3 D4 D5 E1 E2 E3 E4 E5 F1 F2 F3 F4 F5 G1 G2 G3 G4 G5 H1 H2 H3 H4 H5
  have g1 := f1_join a b c d e f g h ha hb hc hd he hf hg hh
  have g2 := f2_join _ _ _ _ _ _ _ _ A1 B1 C1 D1 E1 F1 G1 H1
  have g3 := f3_join _ _ _ _ _ _ _ _ A2 B2 C2 D2 E2 F2 G2 H2 B3 C3 D3 E3 F3 G3 H3
  rw [A4, B4, C4, D4, E4, F4, G4, H4] at g3
  obtain ⟨x4, x5, x6, q4, q5, q6, l4, l5, l6, hsum⟩ := sums _ _ _ _ _ _ _ _ A5 B5 C5 D5 E5 F5 G5 H5
  have hl : (listS (join8 a b c d e f g h)).length = cnt 64 (join8 a b c d e f g h) := by simp [listS, listN, cnt]
  rw [hl, cnt_join a b c d e f g h ha hb hc hd he hf hg hh, ← hsum]
  refine ⟨_, _, _, x4, x5, x6, g1.symm, g2.symm, g3.symm, q4, q5, q6, ?_, ?_, ?_, l4, l5, l6, rfl⟩
  · exact join_lt _ _ _ _ _ _ _ _ A1 B1 C1 D1 E1 F1 G1 H1
  · unfold join8; omega
  · unfold join8; omega
end
section
open Go

theorem pow_lt64 {n : Nat} (h : n < 64) : (2 : Nat) ^ n < 18446744073709551616 := Nat.lt_of_lt_of_eq (Nat.pow_lt_pow_right (by decide) h) (by decide)
theorem bit_div (s n : Nat) : s.testBit n = decide (s / 2 ^ n % 2 = 1) := Nat.testBit_eq_decide_div_mod_eq
theorem and_bit (s n : Nat) : (s &&& 2 ^ n) ≠ 0 ↔ s.testBit n = true := by
  rw [nat_bit n s, bit_div]
  have hp : 0 < 2 ^ n := Nat.two_pow_pos n
  have h2 : s / 2 ^ n % 2 < 2 := Nat.mod_lt _ (by decide)
  generalize s / 2 ^ n % 2 = b at *
  obtain rfl | rfl : b = 0 ∨ b = 1 := by omega
  · simp
  · simp
theorem or_clear (s n : Nat) (h : s.testBit n = false) : s ||| 2 ^ n = s + 2 ^ n := by
  have hp : 0 < 2 ^ n := Nat.two_pow_pos n
  have hp1 : 0 < 2 ^ (n + 1) := Nat.two_pow_pos _
  have hd := Nat.div_add_mod s (2 ^ (n + 1))
  have hr := Nat.mod_lt s hp1
  have hb : s % 2 ^ (n + 1) < 2 ^ n := by
    rw [bit_div] at h
    have h' : s / 2 ^ n % 2 = 0 := by have := of_decide_eq_false h; omega
    have e : s % 2 ^ (n + 1) / 2 ^ n = s / 2 ^ n % 2 := by
      rw [Nat.pow_succ, Nat.mod_mul_right_div_self]
    rw [h'] at e
    rcases Nat.lt_or_ge (s % 2 ^ (n + 1)) (2 ^ n) with h1 | h1
    · exact h1
    · have := Nat.div_pos h1 hp; omega
  generalize s / 2 ^ (n + 1) = q at *
  generalize s % 2 ^ (n + 1) = r at *
  rw [← hd]
  have e1 : 2 ^ (n + 1) * q + r = 2 ^ (n + 1) * q ||| r := Nat.two_pow_add_eq_or_of_lt hr q
  have e2 : 2 ^ n * 1 + r = 2 ^ n * 1 ||| r := Nat.two_pow_add_eq_or_of_lt hb 1
  have hlt : r + 2 ^ n < 2 ^ (n + 1) := by rw [Nat.pow_succ]; omega
  have e3 : 2 ^ (n + 1) * q + (r + 2 ^ n) = 2 ^ (n + 1) * q ||| (r + 2 ^ n) := Nat.two_pow_add_eq_or_of_lt hlt q
  rw [Nat.add_assoc, e3, e1, Nat.or_assoc]
  congr 1
  rw [Nat.mul_one] at e2
  rw [Nat.or_comm, ← e2, Nat.add_comm]
theorem or_set (s n : Nat) (h : s.testBit n = true) : s ||| 2 ^ n = s := by
  apply Nat.eq_of_testBit_eq
  intro i
  rw [Nat.testBit_or, Nat.testBit_two_pow]
  by_cases hi : n = i
  · subst hi; simp [h]
  · simp [hi]
/-- A set and a node; a set but a node. -/
def withN (s n : Nat) : Nat := if s.testBit n then s else s + 2 ^ n
def withoutN (s n : Nat) : Nat := if s.testBit n then s - 2 ^ n else s
theorem or_with (s n : Nat) : s ||| 2 ^ n = withN s n := by
  unfold withN
  cases h : s.testBit n
  · simp [or_clear s n h]
  · simp [or_set s n h]
theorem with_lt (s n : Nat) (hs : s < 18446744073709551616) (hn : n < 64) : withN s n < 18446744073709551616 := by
  rw [← or_with]
  exact Nat.or_lt_two_pow (n := 64) hs (pow_lt64 hn)
theorem pow_le (s n : Nat) (h : s.testBit n = true) : 2 ^ n ≤ s := Nat.ge_two_pow_of_testBit h
theorem without_lt (s n : Nat) (hs : s < 18446744073709551616) : withoutN s n < 18446744073709551616 := by
  unfold withoutN
  split
  · exact Nat.lt_of_le_of_lt (Nat.sub_le _ _) hs
  · exact hs
theorem clear_bit (s n : Nat) (h : s.testBit n = true) : (s - 2 ^ n).testBit n = false := by
  have := pow_le s n h
  have t := Nat.testBit_two_pow_add_eq (s - 2 ^ n) n
  rw [show 2 ^ n + (s - 2 ^ n) = s by omega, h] at t
  simpa using t.symm
theorem clear_other (s n i : Nat) (h : s.testBit n = true) (hi : i ≠ n) : (s - 2 ^ n).testBit i = s.testBit i := by
  have h1 := pow_le s n h
  have h2 := or_clear (s - 2 ^ n) n (clear_bit s n h)
  rw [show s - 2 ^ n + 2 ^ n = s by omega] at h2
  rw [← h2, Nat.testBit_or, Nat.testBit_two_pow]
  have e : s - 2 ^ n ||| 2 ^ n = s := h2
  simp [show n ≠ i from fun e => hi e.symm, e]
theorem andNot_without (s n : Nat) (hs : s < 18446744073709551616) (hn : n < 64) : s &&& (18446744073709551615 - 2 ^ n) = withoutN s n := by
  have hp := pow_lt64 hn
  apply Nat.eq_of_testBit_eq
  intro i
  have e : 18446744073709551615 - 2 ^ n = 2 ^ 64 - (2 ^ n + 1) := by omega
  rw [Nat.testBit_and, e, Nat.testBit_two_pow_sub_succ hp, Nat.testBit_two_pow]
  have big : ∀ x : Nat, x < 18446744073709551616 → ¬ i < 64 → x.testBit i = false := fun x hx hi =>
    Nat.testBit_lt_two_pow (Nat.lt_of_lt_of_le (show x < 2 ^ 64 from hx) (Nat.pow_le_pow_right (by decide) (by omega)))
  unfold withoutN
  cases h : s.testBit n
  · simp only [Bool.false_eq_true, if_false]
    by_cases hi : n = i
    · subst hi; simp [h]
    · by_cases h64 : i < 64
      · simp [h64, hi]
      · simp [big s hs h64]
  · simp only [if_true]
    by_cases hi : n = i
    · subst hi; simp [clear_bit s n h]
    · rw [clear_other s n i h (fun e => hi e.symm)]
      by_cases h64 : i < 64
      · simp [h64, hi]
      · simp [big s hs h64]
theorem with_bit (s n : Nat) : (withN s n).testBit n = true := by rw [← or_with, Nat.testBit_or, Nat.testBit_two_pow]; simp
theorem without_bit (s n : Nat) : (withoutN s n).testBit n = false := by
  unfold withoutN
  cases h : s.testBit n
  · simpa using h
  · simpa using clear_bit s n h

theorem ones_forms (s : Nat) (hs : s < 18446744073709551616) : ∃ x1 x2 x3 x4 x5 x6 : Nat,
    IntKind.u64.wrap (bits BinOp.and IntKind.u64 ((s : Int) / 2) 6148914691236517205 + bits BinOp.and IntKind.u64 (s : Int) 6148914691236517205) = (x1 : Int) ∧
    IntKind.u64.wrap (bits BinOp.and IntKind.u64 ((x1 : Int) / 4) 3689348814741910323 + bits BinOp.and IntKind.u64 (x1 : Int) 3689348814741910323) = (x2 : Int) ∧
    bits BinOp.and IntKind.u64 (IntKind.u64.wrap ((x2 : Int) / 16 + (x2 : Int))) 1085102592571150095 = (x3 : Int) ∧
    IntKind.u64.wrap ((x3 : Int) + (x3 : Int) / 256) = (x4 : Int) ∧ IntKind.u64.wrap ((x4 : Int) + (x4 : Int) / 65536) = (x5 : Int) ∧ IntKind.u64.wrap ((x5 : Int) + (x5 : Int) / 4294967296) = (x6 : Int) ∧
    x6 < 9223372036854775808 ∧ x6 % 128 = (listS s).length := by
  obtain ⟨x1, x2, x3, x4, x5, x6, q1, q2, q3, q4, q5, q6, l1, l2, l3, l4, l5, l6, hl⟩ := pop_all s hs
  refine ⟨x1, x2, x3, x4, x5, x6, ?_, ?_, ?_, ?_, ?_, ?_, l6, hl⟩
  · have a := u64_and_nat (s / 2) 6148914691236517205 (by omega) (by decide)
    have b := u64_and_nat s 6148914691236517205 hs (by decide)
    have e : ((s / 2 : Nat) : Int) = (s : Int) / 2 := by omega
    rw [e] at a
    have c : ((6148914691236517205 : Nat) : Int) = 6148914691236517205 := rfl
    rw [c] at a b
    rw [a, b, IntKind.wrap_u64]
    unfold f1 at q1
    omega
  · have a := u64_and_nat (x1 / 4) 3689348814741910323 (by omega) (by decide)
    have b := u64_and_nat x1 3689348814741910323 l1 (by decide)
    have e : ((x1 / 4 : Nat) : Int) = (x1 : Int) / 4 := by omega
    rw [e] at a
    have c : ((3689348814741910323 : Nat) : Int) = 3689348814741910323 := rfl
    rw [c] at a b
    rw [a, b, IntKind.wrap_u64]
    unfold f2 at q2
    omega
  · have a := u64_and_nat (x2 / 16 + x2) 1085102592571150095 (by omega) (by decide)
    have e : ((x2 / 16 + x2 : Nat) : Int) = IntKind.u64.wrap ((x2 : Int) / 16 + (x2 : Int)) := by rw [IntKind.wrap_u64]; omega
    rw [e] at a
    have c : ((1085102592571150095 : Nat) : Int) = 1085102592571150095 := rfl
    rw [c] at a
    rw [a]
    unfold f3 at q3
    rw [q3]
  · rw [IntKind.wrap_u64]; omega
  · rw [IntKind.wrap_u64]; omega
  · rw [IntKind.wrap_u64]; omega
end
end Go.Proofs.YtoppdelljjapoaaGreat
