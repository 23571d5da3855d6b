/-
  Own texts put together: LkSpec, GMap, GRng, TbMore. Own work.
-/
import Derived.Test.YtddflccjmigloaaGreatG07
import Derived.Test.YtddflccjmigloaaGreatG01
import Derived.Test.YtddflccjmigloaaGreatG06
import Derived.Maps.OwnSet
import Derived.Maps.RangeWalk
namespace Go.Proofs.YtddflccjmigloaaGreat
section
section
variable {K : Type}
/-- A rising list of just these keys. -/
def KsOk (ko : K → K → Int) (ks : List K) (P : K → Prop) : Prop := (ks.Pairwise fun a b => ko a b < 0) ∧ ∀ k, k ∈ ks ↔ P k
/-- The same user, but for its locks and waits. -/
def Sm (u v : UsP K) : Prop := u.tx = v.tx ∧ u.tm = v.tm ∧ u.pr = v.pr
theorem askU_mem {l : List (UsP K)} {t : TxN} {tm : Nat} {u : UsP K} (hu : u ∈ askU l t tm) : u ∈ l ∨ (usL l t = none ∧ u.tx = t ∧ u.tm = tm ∧ u.pr = false) := by
  unfold askU at hu
  cases hc : usL l t with
  | none =>
    rw [hc, Option.isSome_none, if_neg (by simp)] at hu
    rcases (insU_mem l _ u).1 hu with rfl | hu
    · exact .inr ⟨rfl, rfl, rfl, rfl⟩
    · exact .inl hu
  | some x =>
    rw [hc, Option.isSome_some, if_pos rfl] at hu
    exact .inl hu
theorem upd_sm {l : List (UsP K)} {t : TxN} {f : UsP K → UsP K} (hf : ∀ u, (f u).tx = u.tx ∧ (f u).tm = u.tm) {v : UsP K} (hv : v ∈ updU l t f) : ∃ u ∈ l, v.tx = u.tx ∧ v.tm = u.tm := by
  obtain ⟨u, hu, rfl⟩ := updU_mem.1 hv
  refine ⟨u, hu, ?_⟩
  split
  · exact hf u
  · exact ⟨rfl, rfl⟩
/-- The oldest one does not wait, where none is prepared. -/
theorem oldest_free {l : List (UsP K)} (h : LkI l) (hp : ∀ u ∈ l, u.pr = false) {x : UsP K} (hx : x ∈ l) (ho : ∀ u ∈ l, u.tx ≠ x.tx → Old x u) (k : K) : x.w k = 0 := by
  by_cases h0 : x.w k = 0
  · exact h0
  obtain ⟨v, hv, en, ha⟩ := h.w k x hx h0
  have h1 := ho v hv en
  rcases ha with ha | ⟨h2, _⟩
  · rcases h.m.ages x hx v hv k (fun e => en e.symm) ha with h3 | h3
    · rw [hp v hv] at h3; cases h3
    · exact absurd h3 h1.asymm
  · exact absurd h2 h1.asymm
end
section
variable {K : Type} [DecidableEq K]
def AskGo (ko : K → K → Int) (l : List (UsP K)) (t : TxN) (k : K) (l' : List (UsP K)) (wn : List TxN) (gr : List (GtP K)) : Prop :=
  wn = wndU l t k ∧ ∃ ks, KsOk ko ks (fun k' => k' = k ∨ ∃ y ∈ l, y.tx ∈ wn ∧ (y.h k' ≠ 0 ∨ y.w k' ≠ 0)) ∧ gr = onAG (lessU l wn) ks ∧ l' = onAS (lessU l wn) ks
/-- Ask: what may be, its error, what it leaves, whom it wounds, what it grants. -/
def AskR (ko : K → K → Int) (may : Bool) (l : List (UsP K)) (t : TxN) (tm : Nat) (k : K) (m : Nat) (e : Int) (l' : List (UsP K)) (wn : List TxN) (gr : List (GtP K)) : Prop :=
  (l' = l ∧ wn = [] ∧ gr = [] ∧ (may = false ∧ e = 1 ∨ may = true ∧ ((getU l t).pr = true ∧ e = 11 ∨ usL l t = none ∧ 64 ≤ l.length ∧ e = 5 ∨ (∃ x, usL l t = some x ∧ x.pr = false ∧ m ≤ x.h k) ∧ e = 0))) ∨
  (may = true ∧ (getU l t).pr = false ∧ (usL l t = none → l.length < 64) ∧ (getU l t).h k < m ∧ e = 0 ∧ AskGo ko (updU (askU l t tm) t (waitU k m)) t k l' wn gr)
def PrepR (ko : K → K → Int) (l : List (UsP K)) (t : TxN) (e : Int) (l' : List (UsP K)) (gr : List (GtP K)) : Prop :=
  (l' = l ∧ gr = [] ∧ (usL l t = none ∧ e = 6 ∨ ∃ x, usL l t = some x ∧ (∃ k, x.w k ≠ 0) ∧ e = 11)) ∨
  ∃ x ks, usL l t = some x ∧ (∀ k, x.w k = 0) ∧ e = 0 ∧ KsOk ko ks (fun k => x.h k = 1) ∧ gr = onAG (updU l t prepU) ks ∧ l' = onAS (updU l t prepU) ks
def RelR (ko : K → K → Int) (l : List (UsP K)) (t : TxN) (e : Int) (l' : List (UsP K)) (gr : List (GtP K)) : Prop :=
  (l' = l ∧ gr = [] ∧ usL l t = none ∧ e = 6) ∨
  ∃ x ks, usL l t = some x ∧ e = 0 ∧ KsOk ko ks (fun k => x.h k ≠ 0 ∨ x.w k ≠ 0) ∧ gr = onAG (dropU l t) ks ∧ l' = onAS (dropU l t) ks
def RestR (may : Bool) (l : List (UsP K)) (t : TxN) (ks : List K) (e : Int) (l' : List (UsP K)) : Prop :=
  (l' = l ∧ (may = false ∧ e = 1 ∨ may = true ∧ ((usL l t).isSome = true ∧ e = 7 ∨ usL l t = none ∧ ((∃ k ∈ ks, ∃ u ∈ l, u.h k ≠ 0) ∧ e = 11 ∨ (∀ k ∈ ks, ∀ u ∈ l, u.h k = 0) ∧ 64 ≤ l.length ∧ e = 5)))) ∨
  (may = true ∧ usL l t = none ∧ (∀ k ∈ ks, ∀ u ∈ l, u.h k = 0) ∧ l.length < 64 ∧ e = 0 ∧ l' = insU l (restU t ks))
abbrev TxF (t : TxN) : Prop := t.1 < 256 ∧ t.2.1 < 4294967296 ∧ t.2.2 < 4294967296
theorem ask_ok {ko : K → K → Int} {may : Bool} {l l' : List (UsP K)} {t : TxN} {tm : Nat} {k : K} {m : Nat} {e : Int} {wn : List TxN} {gr : List (GtP K)} (h : LkI l) (ht : TxF t) (htm : tm < 4294967296) (hm : may = true → m ≤ 2) (hR : AskR ko may l t tm k m e l' wn gr) : LkI l' := by
  rcases hR with ⟨rfl, _⟩ | ⟨hmay, hpr, hfew, hh, _, hwn, ks, hks, _, rfl⟩
  · exact h
  have hl1 : LkI (askU l t tm) ∧ ∃ x ∈ askU l t tm, x.tx = t ∧ x.pr = false ∧ x.h k < m := by
    unfold askU
    cases hu : usL l t with
    | none =>
      rw [Option.isSome_none, if_neg (by simp)]
      refine ⟨new_ok h hu ht htm (hfew hu), _, (insU_mem l _ _).2 (.inl rfl), rfl, rfl, ?_⟩
      rw [getU_none hu] at hh
      exact hh
    | some x =>
      rw [Option.isSome_some, if_pos rfl]
      obtain ⟨hx, e⟩ := (usL_some h.b).1 hu
      refine ⟨h, x, hx, e, ?_⟩
      have e2 : getU l t = x := by unfold getU; rw [hu]; rfl
      rw [e2] at hpr hh
      exact ⟨hpr, hh⟩
  obtain ⟨hi, x, hx, rfl, hp, hlt⟩ := hl1
  subst hwn
  exact wound_ok hi hx hp hlt (hm hmay) ks (fun k' hk' => ⟨fun e => hk' ((hks.2 k').2 (.inl e)), fun y hy hw => by
    have : ¬ (y.h k' ≠ 0 ∨ y.w k' ≠ 0) := fun h0 => hk' ((hks.2 k').2 (.inr ⟨y, hy, hw, h0⟩))
    omega⟩)
theorem prepR_ok {ko : K → K → Int} {l l' : List (UsP K)} {t : TxN} {e : Int} {gr : List (GtP K)} (h : LkI l) (hR : PrepR ko l t e l' gr) : LkI l' := by
  rcases hR with ⟨rfl, _⟩ | ⟨x, ks, hu, hw, _, hks, _, rfl⟩
  · exact h
  obtain ⟨hx, rfl⟩ := (usL_some h.b).1 hu
  exact prep_ok h hx hw ks (fun k hk e => hk ((hks.2 k).2 e))
theorem relR_ok {ko : K → K → Int} {l l' : List (UsP K)} {t : TxN} {e : Int} {gr : List (GtP K)} (h : LkI l) (hR : RelR ko l t e l' gr) : LkI l' := by
  rcases hR with ⟨rfl, _⟩ | ⟨x, ks, hu, _, hks, _, rfl⟩
  · exact h
  have e2 : getU l t = x := by unfold getU; rw [hu]; rfl
  refine drop_ok h t ks (fun k hk => ?_)
  have : ¬ (x.h k ≠ 0 ∨ x.w k ≠ 0) := fun h0 => hk ((hks.2 k).2 h0)
  rw [e2]
  omega
theorem restR_ok {may : Bool} {l l' : List (UsP K)} {t : TxN} {ks : List K} {e : Int} (h : LkI l) (ht : TxF t) (hR : RestR may l t ks e l') : LkI l' := by
  rcases hR with ⟨rfl, _⟩ | ⟨_, hn, hks, hf, _, rfl⟩
  · exact h
  exact rest_ok h hn ht hf ks hks
/-- To go on leaves who is there. -/
theorem step_sm (l : List (UsP K)) (t : TxN) (k : K) : (∀ v ∈ stepS l t k, ∃ u ∈ l, Sm v u) ∧ (∀ u ∈ l, ∃ v ∈ stepS l t k, Sm v u) ∧ (stepS l t k).length = l.length := by
  unfold stepS
  split
  · exact ⟨fun v hv => ⟨v, hv, rfl, rfl, rfl⟩, fun u hu => ⟨u, hu, rfl, rfl, rfl⟩, rfl⟩
  · refine ⟨fun v hv => ?_, fun u hu => ?_, by unfold updU; rw [List.length_map]⟩
    · obtain ⟨u, hu, rfl⟩ := updU_mem.1 hv
      refine ⟨u, hu, ?_⟩
      split
      · exact ⟨rfl, rfl, rfl⟩
      · exact ⟨rfl, rfl, rfl⟩
    · refine ⟨_, updU_mem.2 ⟨u, hu, rfl⟩, ?_⟩
      split
      · exact ⟨rfl, rfl, rfl⟩
      · exact ⟨rfl, rfl, rfl⟩
theorem onQ_sm (k : K) : ∀ (q : List TxN) (l : List (UsP K)), (∀ v ∈ onQS k l q, ∃ u ∈ l, Sm v u) ∧ (∀ u ∈ l, ∃ v ∈ onQS k l q, Sm v u) ∧ (onQS k l q).length = l.length
  | [], l => ⟨fun v hv => ⟨v, hv, rfl, rfl, rfl⟩, fun u hu => ⟨u, hu, rfl, rfl, rfl⟩, rfl⟩
  | t :: q, l => by
    obtain ⟨a1, a2, a3⟩ := step_sm l t k
    obtain ⟨b1, b2, b3⟩ := onQ_sm k q (stepS l t k)
    refine ⟨fun v hv => ?_, fun u hu => ?_, b3.trans a3⟩
    · obtain ⟨v1, h1, e1, e2, e3⟩ := b1 v hv
      obtain ⟨u, hu, f1, f2, f3⟩ := a1 v1 h1
      exact ⟨u, hu, e1.trans f1, e2.trans f2, e3.trans f3⟩
    · obtain ⟨v1, h1, e1, e2, e3⟩ := a2 u hu
      obtain ⟨v, hv, f1, f2, f3⟩ := b2 v1 h1
      exact ⟨v, hv, f1.trans e1, f2.trans e2, f3.trans e3⟩
theorem onA_sm : ∀ (ks : List K) (l : List (UsP K)), (∀ v ∈ onAS l ks, ∃ u ∈ l, Sm v u) ∧ (∀ u ∈ l, ∃ v ∈ onAS l ks, Sm v u) ∧ (onAS l ks).length = l.length
  | [], l => ⟨fun v hv => ⟨v, hv, rfl, rfl, rfl⟩, fun u hu => ⟨u, hu, rfl, rfl, rfl⟩, rfl⟩
  | k :: ks, l => by
    obtain ⟨a1, a2, a3⟩ := onQ_sm k (queU l k) l
    obtain ⟨b1, b2, b3⟩ := onA_sm ks (onS1 l k)
    refine ⟨fun v hv => ?_, fun u hu => ?_, b3.trans a3⟩
    · obtain ⟨v1, h1, e1, e2, e3⟩ := b1 v hv
      obtain ⟨u, hu, f1, f2, f3⟩ := a1 v1 h1
      exact ⟨u, hu, e1.trans f1, e2.trans f2, e3.trans f3⟩
    · obtain ⟨v1, h1, e1, e2, e3⟩ := a2 u hu
      obtain ⟨v, hv, f1, f2, f3⟩ := b2 v1 h1
      exact ⟨v, hv, f1.trans e1, f2.trans e2, f3.trans e3⟩
/-- Who waits for nothing stays as it is. -/
theorem onQ_keep (k : K) {u : UsP K} : ∀ (q : List TxN) {l : List (UsP K)} (_ : u ∈ l) (_ : u.tx ∉ q), u ∈ onQS k l q
  | [], _, h, _ => h
  | t :: q, l, h, hn => by
    refine onQ_keep k q ?_ (fun h => hn (List.mem_cons_of_mem _ h))
    unfold stepS
    split
    · exact h
    · exact updU_mem.2 ⟨u, h, by rw [if_neg (fun e => hn (by rw [e]; exact List.mem_cons_self))]⟩
theorem onA_keep {u : UsP K} (hw : ∀ k, u.w k = 0) : ∀ (ks : List K) {l : List (UsP K)} (_ : LkB l) (_ : u ∈ l), u ∈ onAS l ks
  | [], _, _, h => h
  | k :: ks, l, hb, h => onA_keep hw ks (onQ_b _ _ hb) (onQ_keep k _ h (fun hq => by
    obtain ⟨v, hv, h0, e⟩ := queU_mem.1 hq
    have := rise_eq hb.rise hv h e
    subst this
    exact h0 (hw k)))
/-- Who is there behind a call was there with its stamp, or is the new one. -/
theorem ask_who {ko : K → K → Int} {may : Bool} {l l' : List (UsP K)} {t : TxN} {tm : Nat} {k : K} {m : Nat} {e : Int} {wn : List TxN} {gr : List (GtP K)} (hR : AskR ko may l t tm k m e l' wn gr) : ∀ v ∈ l', (∃ u ∈ l, v.tx = u.tx ∧ v.tm = u.tm) ∨ (usL l t = none ∧ v.tx = t ∧ v.tm = tm) := by
  rcases hR with ⟨rfl, _⟩ | ⟨_, _, _, _, _, _, ks, _, _, rfl⟩
  · exact fun v hv => .inl ⟨v, hv, rfl, rfl⟩
  intro v hv
  obtain ⟨u, hu, e1, e2, _⟩ := (onA_sm ks _).1 v hv
  obtain ⟨u2, hu2, f1, f2⟩ := upd_sm (f := waitU k m) (fun u => ⟨rfl, rfl⟩) (List.mem_filter.1 hu).1
  rcases askU_mem hu2 with h | ⟨h0, h1, h2, _⟩
  · exact .inl ⟨u2, h, e1.trans f1, e2.trans f2⟩
  · exact .inr ⟨h0, by rw [e1, f1, h1], by rw [e2, f2, h2]⟩
theorem prep_who {ko : K → K → Int} {l l' : List (UsP K)} {t : TxN} {e : Int} {gr : List (GtP K)} (hR : PrepR ko l t e l' gr) : ∀ v ∈ l', ∃ u ∈ l, v.tx = u.tx ∧ v.tm = u.tm := by
  rcases hR with ⟨rfl, _⟩ | ⟨_, ks, _, _, _, _, _, rfl⟩
  · exact fun v hv => ⟨v, hv, rfl, rfl⟩
  intro v hv
  obtain ⟨u, hu, e1, e2, _⟩ := (onA_sm ks _).1 v hv
  obtain ⟨u2, hu2, f1, f2⟩ := upd_sm (f := prepU) (fun u => ⟨rfl, rfl⟩) hu
  exact ⟨u2, hu2, e1.trans f1, e2.trans f2⟩
theorem rel_who {ko : K → K → Int} {l l' : List (UsP K)} {t : TxN} {e : Int} {gr : List (GtP K)} (hR : RelR ko l t e l' gr) : ∀ v ∈ l', ∃ u ∈ l, v.tx = u.tx ∧ v.tm = u.tm ∧ v.pr = u.pr := by
  rcases hR with ⟨rfl, _⟩ | ⟨_, ks, _, _, _, _, rfl⟩
  · exact fun v hv => ⟨v, hv, rfl, rfl, rfl⟩
  intro v hv
  obtain ⟨u, hu, e1, e2, e3⟩ := (onA_sm ks _).1 v hv
  exact ⟨u, (List.mem_filter.1 hu).1, e1, e2, e3⟩
theorem rest_who {may : Bool} {l l' : List (UsP K)} {t : TxN} {ks : List K} {e : Int} (hR : RestR may l t ks e l') : ∀ v ∈ l', (∃ u ∈ l, v.tx = u.tx ∧ v.tm = u.tm) ∨ (usL l t = none ∧ v.tx = t ∧ v.tm = 0) := by
  rcases hR with ⟨rfl, _⟩ | ⟨_, hn, _, _, _, rfl⟩
  · exact fun v hv => .inl ⟨v, hv, rfl, rfl⟩
  intro v hv
  rcases (insU_mem l _ v).1 hv with rfl | hv
  · exact .inr ⟨hn, rfl, rfl⟩
  · exact .inl ⟨v, hv, rfl, rfl⟩
/-- A prepared one stays as it is. -/
theorem ask_prep {ko : K → K → Int} {may : Bool} {l l' : List (UsP K)} {t : TxN} {tm : Nat} {k : K} {m : Nat} {e : Int} {wn : List TxN} {gr : List (GtP K)} (h : LkI l) (ht : TxF t) (htm : tm < 4294967296) (hm : may = true → m ≤ 2) (hR : AskR ko may l t tm k m e l' wn gr) {x : UsP K} (hx : x ∈ l) (hp : x.pr = true) : x ∈ l' ∧ x.tx ∉ wn := by
  rcases hR with ⟨rfl, rfl, _⟩ | ⟨hmay, hpr, hfew, hh, _, hwn, ks, hks, _, rfl⟩
  · exact ⟨hx, by simp⟩
  have hne : x.tx ≠ t := fun e => by
    rw [← e, getU_of h.b hx, hp] at hpr
    cases hpr
  have hxa : x ∈ askU l t tm := by
    unfold askU
    split
    · exact hx
    · exact (insU_mem l _ _).2 (.inr hx)
  have hx2 : x ∈ updU (askU l t tm) t (waitU k m) := updU_mem.2 ⟨x, hxa, by rw [if_neg hne]⟩
  have hb2 : LkB (askU l t tm) := by
    unfold askU
    cases hu : usL l t with
    | none =>
      rw [Option.isSome_none, if_neg (by simp)]
      exact (new_ok h hu ht htm (hfew hu)).b
    | some y => rw [Option.isSome_some, if_pos rfl]; exact h.b
  have hb3 : LkB (updU (askU l t tm) t (waitU k m)) := updU_b hb2 _ _ (fun u hu => ⟨rfl, rfl, (hb2.oks u hu).2.2.1, fun k' => by
    show (if k' = k then max (u.w k) m else u.w k') ≤ 2
    have := hm hmay
    have := (hb2.oks u hu).2.2.2 k
    have := (hb2.oks u hu).2.2.2 k'
    split <;> omega⟩)
  have hnw : x.tx ∉ wn := fun hi => by
    rw [hwn] at hi
    obtain ⟨y, hy, ⟨h1, _⟩, e2⟩ := wndU_mem.1 hi
    have := rise_eq hb3.rise hy hx2 e2
    subst this
    rw [hp] at h1
    cases h1
  exact ⟨onA_keep (fun k => (h.m.prep x hx hp k).1) ks (filter_b hb3 _) (List.mem_filter.2 ⟨hx2, by simpa using hnw⟩), hnw⟩
theorem prep_prep {ko : K → K → Int} {l l' : List (UsP K)} {t : TxN} {e : Int} {gr : List (GtP K)} (h : LkI l) (hR : PrepR ko l t e l' gr) {x : UsP K} (hx : x ∈ l) (hp : x.pr = true) : x ∈ l' := by
  rcases hR with ⟨rfl, _⟩ | ⟨y, ks, hu, _, _, hks, _, rfl⟩
  · exact hx
  have hb : LkB (updU l t prepU) := updU_b h.b _ _ (fun u hu => ⟨rfl, rfl, fun k => by
    show (if u.h k = 1 then 0 else u.h k) ≤ 2
    have := (h.b.oks u hu).2.2.1 k
    split <;> omega, (h.b.oks u hu).2.2.2⟩)
  refine onA_keep (fun k => (h.m.prep x hx hp k).1) ks hb (updU_mem.2 ⟨x, hx, ?_⟩)
  by_cases e : x.tx = t
  · rw [if_pos e]
    obtain ⟨a, b, c, d, f⟩ := x
    have hf : d = fun k => if d k = 1 then 0 else d k := funext fun k => by rw [if_neg (h.m.prep _ hx hp k).2]
    have hc : c = true := hp
    show UsP.mk a b c d f = ⟨a, b, true, _, f⟩
    rw [← hf, hc]
  · rw [if_neg e]
theorem rel_prep {ko : K → K → Int} {l l' : List (UsP K)} {t : TxN} {e : Int} {gr : List (GtP K)} (h : LkI l) (hR : RelR ko l t e l' gr) {x : UsP K} (hx : x ∈ l) (hp : x.pr = true) (hne : x.tx ≠ t) : x ∈ l' := by
  rcases hR with ⟨rfl, _⟩ | ⟨y, ks, hu, _, hks, _, rfl⟩
  · exact hx
  exact onA_keep (fun k => (h.m.prep x hx hp k).1) ks (filter_b h.b _) (List.mem_filter.2 ⟨hx, by simpa using hne⟩)
theorem rest_prep {may : Bool} {l l' : List (UsP K)} {t : TxN} {ks : List K} {e : Int} (hR : RestR may l t ks e l') {x : UsP K} (hx : x ∈ l) : x ∈ l' := by
  rcases hR with ⟨rfl, _⟩ | ⟨_, _, _, _, _, rfl⟩
  · exact hx
  · exact (insU_mem l _ _).2 (.inr hx)
/-- Let go: one less; the others stay. -/
theorem rel_some {ko : K → K → Int} {l l' : List (UsP K)} {t : TxN} {e : Int} {gr : List (GtP K)} (h : LkI l) (hR : RelR ko l t e l' gr) {x : UsP K} (hx : x ∈ l) (ht : x.tx = t) : e = 0 ∧ l'.length + 1 = l.length ∧ (∀ v ∈ l', v.tx ≠ t) ∧ ∀ u ∈ l, u.tx ≠ t → ∃ v ∈ l', Sm v u := by
  have hu : usL l t = some x := (usL_some h.b).2 ⟨hx, ht⟩
  rcases hR with ⟨_, _, hn, _⟩ | ⟨y, ks, _, he, _, _, rfl⟩
  · rw [hu] at hn; cases hn
  refine ⟨he, ?_, fun v hv => ?_, fun u hu hne => ?_⟩
  · rw [(onA_sm ks _).2.2]
    have : ∀ {l : List (UsP K)} (_ : l.Pairwise fun a b => txO a.tx b.tx < 0) (_ : x ∈ l), (dropU l t).length + 1 = l.length := by
      intro l
      induction l with
      | nil => intro _ h; cases h
      | cons y l ih =>
        intro hp hm
        obtain ⟨h1, h2⟩ := List.pairwise_cons.1 hp
        by_cases ey : y.tx = t
        · have hf : dropU (y :: l) t = l := by
            unfold dropU
            rw [List.filter_cons_of_neg (by simpa using ey), List.filter_eq_self]
            intro z hz
            have := h1 z hz
            have : z.tx ≠ t := fun e => by rw [e, ey, (txO_zero _ _).2 rfl] at this; omega
            simpa using this
          rw [hf, List.length_cons]
        · have hx' : x ∈ l := (List.mem_cons.1 hm).resolve_left (fun e => ey (by rw [← e]; exact ht))
          have hf : dropU (y :: l) t = y :: dropU l t := by
            unfold dropU
            rw [List.filter_cons_of_pos (by simpa using ey)]
          rw [hf, List.length_cons, List.length_cons, ih h2 hx']
    exact this h.b.rise hx
  · obtain ⟨u, hu, e1, _⟩ := (onA_sm ks _).1 v hv
    have := (List.mem_filter.1 hu).2
    rw [e1]
    simpa using this
  · exact (onA_sm ks _).2.1 u (List.mem_filter.2 ⟨hu, by simpa using hne⟩)
end
end
section
open Go.RowKit Go.Maps Classical

/-- What is asked of a map's type. -/
structure MapTy {K E : Type} (mt kt et : TypeId) (kV : K → Value) (kL : K → Lit) (eV : E → Value) (z : E) : Prop where
  und : Tryz.prog.underlying mt = some (.map kt et)
  keyed : Keyed Tryz.prog kt
  key : ∀ k, keyOf Tryz.prog kt (kV k) = some (kL k)
  inj : ∀ k l, kL k = kL l → k = l
  inv : ∀ v kl, keyOf Tryz.prog kt v = some kl → ∃ k, v = kV k ∧ kl = kL k
  zero : ∀ w, (zeroValue et).run Tryz.prog w = .ok (eV z) w
  einj : ∀ a b, eV a = eV b → a = b
/-- A way to read an element. -/
structure ElemG {E : Type} (eV : E → Value) (R : Value → Option (DataW E × List MemPlace)) : Prop where
  reads : ∀ i, R (eV i) = some (.held i, [])
  inv : ∀ {v : Value} {z : DataW E × List MemPlace}, R v = some z → ∃ i, v = eV i ∧ z = (.held i, [])
theorem elemG_ex {E : Type} (eV : E → Value) (hi : ∀ a b, eV a = eV b → a = b) : ∃ R, ElemG eV R := by
  refine ⟨fun v => if h : ∃ i, v = eV i then some (.held h.choose, []) else none, ⟨fun i => ?_, fun {v z} h => ?_⟩⟩
  · have h : ∃ j, eV i = eV j := ⟨i, rfl⟩
    show (if h : ∃ j, eV i = eV j then some (DataW.held h.choose, []) else none) = _
    rw [dif_pos h]
    have h3 : h.choose = i := (hi _ _ h.choose_spec).symm
    rw [h3]
  · replace h : (if h : ∃ i, v = eV i then some (DataW.held h.choose, []) else none) = some z := h
    split at h
    · rename_i hx
      cases h
      exact ⟨_, hx.choose_spec, rfl⟩
    · cases h
/-- Block b is a map that has just this, n keys in all. -/
structure GMap {K E : Type} (kt : TypeId) (kL : K → Lit) (eV : E → Value) (w : World) (b : Nat) (g : K → Option E) (n : Nat) : Prop where
  own : ∃ (R : Value → Option (DataW E × List MemPlace)) (D : DataW E), ElemG eV R ∧ w.ownsMap Tryz.prog kt R b (Maps.size D) D ∧ Maps.size D = n ∧ (∀ k, Maps.has D (kL k) = (g k).isSome) ∧ ∀ k e, g k = some e → ∀ z, D.atKey (kL k) z = .held e
section
variable {K E : Type} {mt kt et : TypeId} {kV : K → Value} {kL : K → Lit} {eV : E → Value} {z : E} {w w' : World} {b n : Nat} {g : K → Option E}
theorem tight_g {R : Value → Option (DataW E × List MemPlace)} {D : DataW E} (h : w.ownsMap Tryz.prog kt R b n D) : w.ownsMap Tryz.prog kt R b (Maps.size D) D := by
  obtain ⟨es, clock, hb, F, hs, rfl⟩ := h
  refine ⟨es, clock, hb, F, ?_, rfl⟩
  simp [Maps.size, length_sorted]
theorem gmap_made (T : MapTy mt kt et kV kL eV z) (w : World) : GMap kt kL eV (w.alloc (.map #[] 0)) w.heap.size (fun _ : K => none) 0 := by
  obtain ⟨R, hR⟩ := elemG_ex eV T.einj
  exact ⟨⟨R, .map [], hR, World.ownsMap_made _ _ _ _, rfl, fun _ => rfl, fun k i h => by cases h⟩⟩
theorem GMap.lt (h : GMap kt kL eV w b g n) : b < w.heap.size := by obtain ⟨_, _, _, h, _⟩ := h.own; exact h.lt
theorem GMap.isMap (h : GMap kt kL eV w b g n) : ∃ es c, w.heap[b]? = some (.map es c) := by
  obtain ⟨_, _, _, ⟨es, c, hb, _⟩, _⟩ := h.own
  exact ⟨es, c, hb⟩
theorem GMap.keep {S : Nat → Prop} (h : GMap kt kL eV w b g n) (hk : KeepBut S w w') (hS : ¬ S b) : GMap kt kL eV w' b g n := by
  obtain ⟨R, D, hR, ho, r⟩ := h.own
  have hlt := ho.lt
  obtain ⟨es, clock, hb, F, hs, hD⟩ := ho
  exact ⟨⟨R, D, hR, ⟨es, clock, (hk.block b hlt hS).trans hb, F, hs, hD⟩, r⟩⟩
theorem GMap.below (h : GMap kt kL eV w b g n) (hB : Below w.heap.size w w') : GMap kt kL eV w' b g n := h.keep (KeepBut.of_below (fun _ => False) hB) (fun h => h)
theorem GMap.ne {p : Nat} {cs : Array Value} {t : TypeId} (h : GMap kt kL eV w b g n) (hb : Box w p cs t) : p ≠ b := by
  intro e
  obtain ⟨es, c, hm⟩ := h.isMap
  have h2 : w.heap[p]? = _ := hb
  rw [e, hm] at h2
  cases h2
theorem GMap.as (h : GMap kt kL eV w b g n) {g' : K → Option E} (e : ∀ k, g k = g' k) : GMap kt kL eV w b g' n := by
  have : g = g' := funext e
  rw [← this]
  exact h
theorem keep_turned {b : Nat} (h : w.mapTurned w' b) : KeepBut (fun k => k = b) w w' := by
  obtain ⟨a1, a2, a3, a4, a5⟩ := h.grown
  exact ⟨a1, a2, a3, a4, fun k hk hn => a5 k hk (fun e => hn (Option.some.inj e))⟩
theorem gmap_val {R : Value → Option (DataW E × List MemPlace)} (hR : ElemG eV R) {k : K} {D : DataW E} (hh : Maps.has D (kL k) = (g k).isSome) (ha : ∀ i, g k = some i → ∀ z, D.atKey (kL k) z = .held i) {v : Value} {ps : List MemPlace} (hv : R v = some (D.atKey (kL k) (.held z), ps)) : v = eV ((g k).getD z) := by
  obtain ⟨i, rfl, hz⟩ := hR.inv hv
  simp only [Prod.mk.injEq] at hz
  cases hg : g k with
  | none =>
    rw [atKey_of_not_has (by rw [hh, hg]; rfl)] at hz
    cases hz.1
    rfl
  | some j =>
    rw [ha j hg] at hz
    cases hz.1
    rfl
/-- v, ok := m[k] -/
theorem GMap.look (T : MapTy mt kt et kV kL eV z) (h : GMap kt kL eV w b g n) (k : K) : (Instr.lookup mt (.map (some b)) (kV k) true).run Tryz.prog w = .ok (.tuple #[eV ((g k).getD z), .bool (g k).isSome]) w := by
  obtain ⟨R, D, hR, ho, hs, hh, ha⟩ := h.own
  obtain ⟨v, ps, hrun, hv⟩ := ho.look_ok T.keyed T.und (T.zero w) (hR.reads z) (T.key k)
  rw [hrun, hh k, gmap_val hR (hh k) (fun i hi => ha k i hi) hv]
/-- m[k] -/
theorem GMap.look1 (T : MapTy mt kt et kV kL eV z) (h : GMap kt kL eV w b g n) (k : K) : (Instr.lookup mt (.map (some b)) (kV k) false).run Tryz.prog w = .ok (eV ((g k).getD z)) w := by
  obtain ⟨R, D, hR, ho, hs, hh, ha⟩ := h.own
  obtain ⟨v, ps, hrun, hv⟩ := ho.lookup T.keyed T.und (T.zero w) (hR.reads z) (T.key k)
  rw [hrun, gmap_val hR (hh k) (fun i hi => ha k i hi) hv]
/-- len(m) -/
theorem GMap.len (T : MapTy mt kt et kV kL eV z) (h : GMap kt kL eV w b g n) (ty : TypeId) : (Builtin.len_ #[mt] ty #[.map (some b)]).run Tryz.prog w = .ok (.int .i64 (n : Int)) w := by
  obtain ⟨_, D, _, ho, hs, _⟩ := h.own
  rw [ho.len T.und ty, hs]
/-- m[k] = e -/
theorem GMap.put (T : MapTy mt kt et kV kL eV z) (h : GMap kt kL eV w b g n) (hn : n < maxLen) (k : K) (e : E) : ∃ w', (Instr.mapUpdate mt (.map (some b)) (kV k) (eV e)).run Tryz.prog w = .ok () w' ∧ GMap kt kL eV w' b (fun k' => if k' = k then some e else g k') (if (g k).isSome then n else n + 1) ∧ KeepBut (fun k => k = b) w w' := by
  obtain ⟨R, D, hR, ho, hs, hh, ha⟩ := h.own
  obtain ⟨w', hrun, ho', hg⟩ := ho.store T.keyed T.und (by rw [hs]; exact hn) (T.key k) (hR.reads e)
  have hkl := T.keyed.key (T.key k)
  refine ⟨w', hrun, ⟨⟨R, _, hR, tight_g ho', ?_, fun k' => ?_, fun k' j hj zz => ?_⟩⟩, keep_turned hg⟩
  · rw [size_put (ho.tidy T.keyed), hh k, hs]
  · show _ = (if k' = k then some e else g k').isSome
    by_cases e2 : k' = k
    · subst e2
      rw [has_put_same ho.isMap hkl, if_pos rfl]
      rfl
    · rw [if_neg e2, has_put_other (fun e3 => e2 (T.inj _ _ e3)), hh k']
  · replace hj : (if k' = k then some e else g k') = some j := hj
    by_cases e2 : k' = k
    · subst e2
      rw [if_pos rfl] at hj
      cases hj
      exact atKey_put_same ho.isMap hkl _ _
    · rw [if_neg e2] at hj
      rw [atKey_put_other (fun e3 => e2 (T.inj _ _ e3))]
      exact ha k' j hj zz
/-- delete(m, k) -/
theorem GMap.del (T : MapTy mt kt et kV kL eV z) (h : GMap kt kL eV w b g n) (k : K) : ∃ w', (∀ ty, (Builtin.delete_ #[mt, kt] ty #[.map (some b), kV k]).run Tryz.prog w = .ok (.tuple #[]) w') ∧ GMap kt kL eV w' b (fun k' => if k' = k then none else g k') (if (g k).isSome then n - 1 else n) ∧ KeepBut (fun k => k = b) w w' := by
  obtain ⟨R, D, hR, ho, hs, hh, ha⟩ := h.own
  obtain ⟨w', hrun, ho', hg⟩ := ho.drop T.keyed T.und (T.key k) 0
  refine ⟨w', fun ty => hrun, ⟨⟨R, _, hR, tight_g ho', ?_, fun k' => ?_, fun k' j hj zz => ?_⟩⟩, keep_turned hg⟩
  · have := size_del (ho.tidy T.keyed) (k := kL k)
    rw [hh k, hs] at this
    cases hc : (g k).isSome with
    | true => rw [hc, if_pos rfl] at this; rw [if_pos rfl]; omega
    | false => rw [hc] at this; simp at this; simpa using this
  · show _ = (if k' = k then none else g k').isSome
    by_cases e2 : k' = k
    · subst e2
      rw [has_del_same, if_pos rfl]
      rfl
    · rw [if_neg e2, has_del_other (fun e3 => e2 (T.inj _ _ e3)), hh k']
  · replace hj : (if k' = k then none else g k') = some j := hj
    by_cases e2 : k' = k
    · subst e2
      rw [if_pos rfl] at hj
      cases hj
    · rw [if_neg e2] at hj
      rw [atKey_del_other (fun e3 => e2 (T.inj _ _ e3))]
      exact ha k' j hj zz
theorem nodup_le {α : Type} : ∀ (xs ys : List α), xs.Nodup → (∀ x ∈ xs, x ∈ ys) → xs.length ≤ ys.length
  | [], _, _, _ => Nat.zero_le _
  | x :: xs, ys, hn, hm => by
    have h1 := List.nodup_cons.1 hn
    have hx := hm x List.mem_cons_self
    have ih := nodup_le xs (ys.erase x) h1.2 (fun y hy => by
      have hne : y ≠ x := fun e => h1.1 (by rw [← e]; exact hy)
      exact (List.mem_erase_of_ne hne).2 (hm y (List.mem_cons_of_mem _ hy)))
    rw [List.length_erase_of_mem hx] at ih
    have := List.length_pos_of_mem hx
    rw [List.length_cons]
    omega
/-- It has no more keys than these. -/
theorem GMap.few (T : MapTy mt kt et kV kL eV z) (h : GMap kt kL eV w b g n) (ks : List K) (hks : ∀ k, (g k).isSome = true → k ∈ ks) : n ≤ ks.length := by
  obtain ⟨R, D, hR, ho, hs, hh, ha⟩ := h.own
  have ht := ho.tidy T.keyed
  obtain ⟨es, clock, hb, F, _, rfl⟩ := ho
  rw [← hs]
  obtain ⟨L, hL⟩ : ∃ L, L = (es.toList.map (WideElems.rg Tryz.prog kt R)).foldr DataW.insert [] := ⟨_, rfl⟩
  rw [← hL] at ht hs hh ⊢
  obtain ⟨L2, e2, hp⟩ := ht
  cases e2
  have hm : ∀ x ∈ L.map Prod.fst, x ∈ ks.map kL := by
    intro x hx
    obtain ⟨p, hp1, rfl⟩ := List.mem_map.1 hx
    have hp2 : p ∈ es.toList.map (WideElems.rg Tryz.prog kt R) := by
      rw [hL] at hp1
      exact (WideShapes.sorted_perm _).mem_iff.1 hp1
    obtain ⟨en, hen, rfl⟩ := List.mem_map.1 hp2
    obtain ⟨y, hy⟩ := F.reads en hen
    have hk := WideElems.rd_key hy
    rw [WideElems.rg_of hy] at hp1 ⊢
    obtain ⟨k, _, ek⟩ := T.inv _ _ hk
    refine List.mem_map.2 ⟨k, hks k ?_, ek.symm⟩
    rw [← hh k, has_eq, List.any_eq_true]
    refine ⟨y, hp1, ?_⟩
    rw [ek]
    have := T.keyed.key (T.key k)
    exact WideAt.sameKey_self this
  have := nodup_le _ _ (List.pairwise_map.2 hp) hm
  simpa [Maps.size] using this
end
end
section
open Go.RowKit Go.Maps Classical

/-- Block r is a range over the map in block b, which had g0 when it began and has g now; these keys have come. -/
structure GRng {K E : Type} (kt : TypeId) (kL : K → Lit) (eV : E → Value) (w : World) (b r : Nat) (g0 g : K → Option E) (ks : List K) : Prop where
  own : ∃ (R : Value → Option (DataW E × List MemPlace)) (D : DataW E) (left : Lit → Bool) (cnt n : Nat), ElemG eV R ∧ w.ranges Tryz.prog kt R b r n D left cnt ∧ (∀ k, Maps.has D (kL k) = (g k).isSome) ∧ (∀ k e, g k = some e → ∀ z, D.atKey (kL k) z = .held e) ∧ ∀ k, left (kL k) = true ↔ (g k).isSome = true ∧ k ∉ ks
  nodup : ks.Nodup
  was : ∀ k ∈ ks, (g0 k).isSome = true
  now : ∀ k, k ∉ ks → g k = g0 k
/-- Nothing is left. -/
structure GEnd {K E : Type} (g : K → Option E) (ks : List K) : Prop where
  all : ∀ k, k ∉ ks → g k = none
/-- One that has come. -/
structure GStep {K E : Type} (kt : TypeId) (kV : K → Value) (kL : K → Lit) (eV : E → Value) (w : World) (b r : Nat) (g0 g : K → Option E) (ks : List K) where
  k : K
  e : E
  w' : World
  new : k ∉ ks
  is : g k = some e
  rng : GRng kt kL eV w' b r g0 g (ks ++ [k])
  less : w'.rangeLeft b r < w.rangeLeft b r
  keep : KeepBut (fun j => j = r) w w'
  size : w'.heap.size = w.heap.size
  ent : (Instr.entry (.pointer (some ⟨r, 0, none⟩))).run Tryz.prog w' = .ok (.tuple #[kV k, eV e]) w'
section
variable {K E : Type} {mt kt et : TypeId} {kV : K → Value} {kL : K → Lit} {eV : E → Value} {z : E} {w w' : World} {b r n : Nat} {g0 g : K → Option E} {ks : List K}
theorem GRng.lt (h : GRng kt kL eV w b r g0 g ks) : r < w.heap.size ∧ b < w.heap.size := by
  obtain ⟨_, _, _, _, _, _, hr, _⟩ := h.own
  exact ⟨hr.lt, hr.owns.lt⟩
theorem GRng.ne (h : GRng kt kL eV w b r g0 g ks) : r ≠ b := by
  obtain ⟨_, _, _, _, _, _, hr, _⟩ := h.own
  exact hr.ne
theorem ranges_keep {R : Value → Option (DataW E × List MemPlace)} {D : DataW E} {left : Lit → Bool} {cnt : Nat} {S : Nat → Prop} (h : w.ranges Tryz.prog kt R b r n D left cnt) (hk : KeepBut S w w') (hb : ¬ S b) (hr : ¬ S r) : w'.ranges Tryz.prog kt R b r n D left cnt := by
  have h1 := h.owns.lt
  have h2 := h.lt
  obtain ⟨es, clock, since, seen, c0, hb0, F, hs, hD, hr0, rest⟩ := h
  exact ⟨es, clock, since, seen, c0, (hk.block b h1 hb).trans hb0, F, hs, hD, (hk.block r h2 hr).trans hr0, rest⟩
theorem GRng.keep {S : Nat → Prop} (h : GRng kt kL eV w b r g0 g ks) (hk : KeepBut S w w') (hb : ¬ S b) (hr : ¬ S r) : GRng kt kL eV w' b r g0 g ks ∧ w'.rangeLeft b r = w.rangeLeft b r := by
  obtain ⟨R, D, left, cnt, n, hR, ho, rest⟩ := h.own
  have h2 := ranges_keep ho hk hb hr
  exact ⟨⟨⟨R, D, left, cnt, n, hR, h2, rest⟩, h.nodup, h.was, h.now⟩, by rw [h2.left_eq, ho.left_eq]⟩
theorem GRng.below (h : GRng kt kL eV w b r g0 g ks) (hB : Below w.heap.size w w') : GRng kt kL eV w' b r g0 g ks ∧ w'.rangeLeft b r = w.rangeLeft b r := h.keep (KeepBut.of_below (fun _ => False) hB) (fun h => h) (fun h => h)
theorem keep_iter {w w' : World} {r : Nat} (h : w.grownBy w' (some r)) : KeepBut (fun j => j = r) w w' := ⟨h.os, h.tape, h.output, h.size, fun k hk hn => h.block k hk (fun e => hn (Option.some.inj e))⟩
variable {ops : Array Oper} {rest : List Oper} {o : Oper} {a : Act} {Q : Exit → Act → World → Prop}
/-- 'range m'. -/
theorem wp_range_g (T : MapTy mt kt et kV kL eV z) (w : World) (hg : o.guard = none) (m : Operand) (hop : o.op = Op.range mt m) (hm : a.eval m = .map (some b)) (h : GMap kt kL eV w b g n)
    (hK : ∀ w', GRng kt kL eV w' b w.heap.size g g [] → Below w.heap.size w w' → w'.heap.size = w.heap.size + 1 → wpList Tryz.prog ops Q rest (a.put o.dst (.pointer (some ⟨w.heap.size, 0, none⟩))) w') : wpList Tryz.prog ops Q (o :: rest) a w := by
  obtain ⟨R, D, hR, ho, hs, hh, ha⟩ := h.own
  refine wpList_range_own w hg m mt hop kt et T.keyed T.und R b _ D hm ho (fun w' h1 h2 h3 => hK w' ⟨⟨R, D, Maps.has D, Maps.size D, _, hR, h1, hh, ha, fun k => by rw [hh k]; simp⟩, List.nodup_nil, (fun k hk => by cases hk), fun k _ => rfl⟩ ⟨h2.os, h2.tape, h2.output, h2.size, fun k hk => h2.block k hk (by simp)⟩ h3)
/-- The step. -/
theorem wp_next_g (T : MapTy mt kt et kV kL eV z) (w : World) (hg : o.guard = none) (it : Operand) (hop : o.op = Op.next it false) (hit : a.eval it = .pointer (some ⟨r, 0, none⟩)) (h : GRng kt kL eV w b r g0 g ks)
    (hDone : GEnd g ks → wpList Tryz.prog ops Q rest (a.put o.dst (.tuple #[.bool false])) w)
    (hMore : ∀ s : GStep kt kV kL eV w b r g0 g ks, wpList Tryz.prog ops Q rest (a.put o.dst (.tuple #[.bool true, kV s.k, eV s.e])) s.w') : wpList Tryz.prog ops Q (o :: rest) a w := by
  obtain ⟨R, D, left, cnt, n, hR, ho, hh, ha, hl⟩ := h.own
  refine wpList_next_ranges w hg it hop kt T.keyed R kV eV (fun key kl hk => by obtain ⟨x, hx, _⟩ := T.inv key kl hk; exact ⟨x, hx⟩) (fun v y hv => by obtain ⟨i, hi, _⟩ := hR.inv hv; exact ⟨i, hi⟩) b r n D left cnt hit ho (fun _ hl0 => hDone ⟨fun k hk => ?_⟩) (fun k e kl y w' cnt' hkey hlk hv hat ho' hlt hgr hsz hen => ?_)
  · cases hgk : g k with
    | none => rfl
    | some e =>
      have := (hl k).2 ⟨by rw [hgk]; rfl, hk⟩
      rw [hl0] at this
      cases this
  · have hkl : kl = kL k := by
      have := T.key k
      rw [hkey] at this
      exact Option.some.inj this
    subst hkl
    obtain ⟨hgs, hkn⟩ := (hl k).1 hlk
    obtain ⟨e2, he2⟩ := Option.isSome_iff_exists.1 hgs
    have hee : e2 = e := by
      obtain ⟨i, hi, hy⟩ := hR.inv hv
      have h1 := T.einj _ _ hi
      have h2 := hat (.held e2)
      rw [ha k e2 he2, hy] at h2
      cases h2
      exact h1.symm
    subst hee
    refine hMore ⟨k, e2, w', hkn, he2, ⟨⟨R, D, _, cnt', n, hR, ho', hh, ha, fun k' => ?_⟩, List.nodup_append.2 ⟨h.nodup, by simp, fun x hx y hy => ?_⟩, fun k' hk' => ?_, fun k' hk' => h.now k' (fun h2 => hk' (List.mem_append_left _ h2))⟩, ?_, keep_iter hgr, hsz, hen⟩
    · by_cases e3 : k' = k
      · subst e3
        rw [show (kL k').sameKey (kL k') = true from WideAt.sameKey_self (T.keyed.key (T.key k'))]
        simp
      · rw [show (kL k').sameKey (kL k) = false from sameKey_ne (fun e4 => e3 (T.inj _ _ e4))]
        simp [hl k', e3]
    · rw [List.mem_singleton] at hy
      subst hy
      exact fun e5 => hkn (e5 ▸ hx)
    · rcases List.mem_append.1 hk' with h2 | h2
      · exact h.was k' h2
      · rw [List.mem_singleton] at h2
        subst h2
        rw [← h.now k' hkn, he2]
        rfl
    · rw [ho'.left_eq, ho.left_eq]
      exact hlt
/-- 'delete(m, k)' of a key that has come. -/
theorem wp_delete_g (T : MapTy mt kt et kV kL eV z) (w : World) (hg : o.guard = none) (m x : Operand) (hop : o.op = Op.call { callee := Callee.builtin Builtin.delete, args := #[m, x], argTypes := #[mt, kt] }) (k : K) (hm : a.eval m = .map (some b)) (hx : a.eval x = kV k) (h : GRng kt kL eV w b r g0 g ks) (hk : k ∈ ks)
    (hK : ∀ w', GRng kt kL eV w' b r g0 (fun k' => if k' = k then none else g k') ks → w'.rangeLeft b r ≤ w.rangeLeft b r → KeepBut (fun j => j = b ∨ j = r) w w' → wpList Tryz.prog ops Q rest (a.put o.dst (.tuple #[])) w') : wpList Tryz.prog ops Q (o :: rest) a w := by
  obtain ⟨R, D, left, cnt, n, hR, ho, hh, ha, hl⟩ := h.own
  have hlt := ho.lt
  have hlb := ho.owns.lt
  refine wpList_delete_ranges w hg m x mt kt hop et T.keyed T.und R b r n D left cnt hm ho (kV k) (kL k) hx (T.key k) (fun w' cnt' ho' hle ht => hK w' ⟨⟨R, _, _, cnt', n, hR, ho', fun k' => ?_, fun k' j hj zz => ?_, fun k' => ?_⟩, h.nodup, h.was, fun k' hk' => ?_⟩ ?_ ?_)
  · show _ = (if k' = k then none else g k').isSome
    by_cases e2 : k' = k
    · subst e2
      rw [has_del_same, if_pos rfl]
      rfl
    · rw [if_neg e2, has_del_other (fun e3 => e2 (T.inj _ _ e3)), hh k']
  · replace hj : (if k' = k then none else g k') = some j := hj
    by_cases e2 : k' = k
    · subst e2
      rw [if_pos rfl] at hj
      cases hj
    · rw [if_neg e2] at hj
      rw [atKey_del_other (fun e3 => e2 (T.inj _ _ e3))]
      exact ha k' j hj zz
  · show _ ↔ (if k' = k then none else g k').isSome = true ∧ k' ∉ ks
    by_cases e3 : k' = k
    · subst e3
      rw [if_pos rfl, show (kL k').sameKey (kL k') = true from WideAt.sameKey_self (T.keyed.key (T.key k'))]
      simp
    · rw [if_neg e3, show (kL k').sameKey (kL k) = false from sameKey_ne (fun e4 => e3 (T.inj _ _ e4))]
      simp [hl k']
  · show (if k' = k then none else g k') = g0 k'
    rw [if_neg (fun e => hk' (by rw [e]; exact hk))]
    exact h.now k' hk'
  · rw [ho'.left_eq, ho.left_eq]
    exact hle
  · exact (keep_turned ht).mono (fun j e => .inl e)
/-- What is left of the map at the end. -/
theorem GRng.map (h : GRng kt kL eV w b r g0 g ks) : ∃ n, GMap kt kL eV w b g n := by
  obtain ⟨R, D, left, cnt, n, hR, ho, hh, ha, hl⟩ := h.own
  exact ⟨Maps.size D, ⟨R, D, hR, tight_g ho.owns, rfl, hh, ha⟩⟩
end
end
end Go.Proofs.YtddflccjmigloaaGreat
