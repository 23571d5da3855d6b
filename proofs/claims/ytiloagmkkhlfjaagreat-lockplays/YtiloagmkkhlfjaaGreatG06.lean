/-
  Own texts put together: LkMore, LkSpec, GMap. Own work.
-/
import Derived.Test.YtiloagmkkhlfjaaGreatG05
import Derived.Test.YtiloagmkkhlfjaaGreatG01
import Derived.Maps.OwnSet
namespace Go.Proofs.YtiloagmkkhlfjaaGreat
section
section
variable {K : Type}
theorem filter_m {l : List (aS K)} (hm : LkM l) (p : aS K → Bool) : LkM (l.filter p) :=
 ⟨fun u hu v hv => hm.tog u (List.mem_filter.1 hu).1 v (List.mem_filter.1 hv).1, fun u hu => hm.held u (List.mem_filter.1 hu).1, fun u hu => hm.prep u (List.mem_filter.1 hu).1, fun u hu v hv => hm.ages u (List.mem_filter.1 hu).1 v (List.mem_filter.1 hv).1⟩
theorem filter_w {l : List (aS K)} {k : K} (hw : eZ l k) (p : aS K → Bool) (hp : ∀ v ∈ l, p v = false → v.h k = 0 ∧ v.w k = 0) : eZ (l.filter p) k := fun u hu h0 => by
 obtain ⟨v, hv, e, ha⟩ := hw u (List.mem_filter.1 hu).1 h0
 refine ⟨v, List.mem_filter.2 ⟨hv, ?_⟩, e, ha⟩
 cases hc : p v with
 | true => rfl
 | false =>
  obtain ⟨h1, h2⟩ := hp v hv hc
  rcases ha with ha | ⟨_, ha⟩
  ·exact absurd h1 ha.2.1
  ·exact absurd h2 ha.2.1
theorem queU_head {l : List (aS K)} (h : LkI l) {k : K} {t : TxN} {q : List TxN} (hq : cS l k = t :: q) : ∃ u ∈ l, u.tx = t ∧ u.w k ≠ 0 ∧ ∃ v ∈ l, v.tx ≠ t ∧ cI (u.w k) (v.h k) := by
 obtain ⟨u, hu, hw, e⟩ := fC.1 (by rw [hq]; exact List.mem_cons_self : t ∈ cS l k)
 obtain ⟨v, hv, en, ha⟩ := h.w k u hu hw
 refine ⟨u, hu, e, hw, ?_⟩
 rcases ha with ha | ⟨ho, ha⟩
 ·exact ⟨v, hv, by rw [← e]; exact en, ha⟩
 ·have hvq : v.tx ∈ cS l k := fC.2 ⟨v, hv, ha.2.1, rfl⟩
  have hp := j8 h.b k
  rw [hq] at hvq hp
  rcases List.mem_cons.1 hvq with e2 | hvq
  ·exact absurd (e2.trans e.symm) en
  ·have := (List.pairwise_cons.1 hp).1 _ hvq
   unfold dI at this
   rw [← e, bH h.b hu, bH h.b hv] at this
   exact absurd ho this.asymm
theorem wait_held {l : List (aS K)} (h : LkI l) {k : K} {u : aS K} (hu : u ∈ l) (hw : u.w k ≠ 0) : ∃ v ∈ l, v.h k ≠ 0 := by
 have hm : u.tx ∈ cS l k := fC.2 ⟨u, hu, hw, rfl⟩
 cases hq : cS l k with
 | nil => rw [hq] at hm; cases hm
 | cons t q =>
  obtain ⟨_, _, _, _, v, hv, _, ha⟩ := queU_head h hq
  exact ⟨v, hv, ha.2.1⟩
theorem new_ok {l : List (aS K)} (h : LkI l) {t : TxN} {tm : Nat} (hn : cM l t = none) (ht : t.1 < 256 ∧ t.2.1 < 4294967296 ∧ t.2.2 < 4294967296) (htm : tm < 4294967296) (hf : l.length < 64) : LkI (dH l (⟨t, tm, false, fun _ => 0, fun _ => 0⟩ : aS K)) := by
 refine ⟨insU_b h.b (x := (⟨t, tm, false, fun _ => 0, fun _ => 0⟩ : aS K)) hn hf ⟨ht, htm, fun k => by show 0 ≤ 2; decide, fun k => by show 0 ≤ 2; decide⟩, ⟨fun u hu v hv e k => ?_, fun u hu k hw => ?_, fun u hu hp k => ?_, fun u hu v hv k e ha => ?_⟩, fun k u hu h0 => ?_⟩
 ·rcases (bU l _ u).1 hu with rfl | hu
  ·exact fun ha => ha.1 rfl
  ·rcases (bU l _ v).1 hv with rfl | hv
   ·exact fun ha => ha.2.1 rfl
   ·exact h.m.tog u hu v hv e k
 ·rcases (bU l _ u).1 hu with rfl | hu
  ·exact absurd rfl hw
  ·exact h.m.held u hu k hw
 ·rcases (bU l _ u).1 hu with rfl | hu
  ·cases hp
  ·exact h.m.prep u hu hp k
 ·rcases (bU l _ v).1 hv with rfl | hv
  ·exact absurd rfl ha.2.1
  ·rcases (bU l _ u).1 hu with rfl | hu
   ·exact absurd rfl ha.1
   ·exact h.m.ages u hu v hv k e ha
 ·rcases (bU l _ u).1 hu with rfl | hu
  ·exact absurd rfl h0
  ·obtain ⟨v, hv, r⟩ := h.w k u hu h0
   exact ⟨v, (bU l _ v).2 (.inr hv), r⟩
end
section
variable {K : Type} [DecidableEq K]
theorem cO {l : List (aS K)} (h : dD l) {x : aS K} (hx : x ∈ l) {k : K} (hf : ¬ NF l x k) {v : aS K} : v ∈ cJ l x.tx k ↔ (v ∈ l ∧ v.tx ≠ x.tx) ∨ v = iL k x := by
 unfold cJ
 rw [bH h hx, if_neg hf, dE]
 constructor
 ·rintro ⟨u, hu, rfl⟩
  by_cases e : u.tx = x.tx
  ·rw [if_pos e, cR h.rise hu hx e]
   exact .inr rfl
  ·rw [if_neg e]
   exact .inl ⟨hu, e⟩
 ·rintro (⟨hv, e⟩ | rfl)
  ·exact ⟨v, hv, by rw [if_neg e]⟩
  ·exact ⟨x, hx, by rw [if_pos rfl]⟩
theorem gL {l : List (aS K)} (h : dD l) {x : aS K} (hx : x ∈ l) {k : K} (hf : NF l x k) : cJ l x.tx k = l := by
 unfold cJ
 rw [bH h hx, if_pos hf]
theorem gr_h {k : K} {x : aS K} : (iL k x).h k = max (x.h k) (x.w k) := by show (if k = k then _ else _) = _; rw [if_pos rfl]
theorem gr_w {k : K} {x : aS K} : (iL k x).w k = 0 := by show (if k = k then _ else _) = _; rw [if_pos rfl]
theorem gr_h' {k k' : K} {x : aS K} (e : k' ≠ k) : (iL k x).h k' = x.h k' := by show (if k' = k then _ else _) = _; rw [if_neg e]
theorem gr_w' {k k' : K} {x : aS K} (e : k' ≠ k) : (iL k x).w k' = x.w k' := by show (if k' = k then _ else _) = _; rw [if_neg e]
theorem step_m {l : List (aS K)} (h : dD l) (hm : LkM l) {x : aS K} (hx : x ∈ l) {k : K} (hw : x.w k ≠ 0) : LkM (cJ l x.tx k) := by
 by_cases hf : NF l x k
 ·rw [gL h hx hf]; exact hm
 have hh := hm.held x hx k hw
 have hmax : max (x.h k) (x.w k) = x.w k := by omega
 have hno : ∀ v ∈ l, v.tx ≠ x.tx → ¬ cI (x.w k) (v.h k) := fun v hv e ha => hf ⟨v, hv, e, .inl ha⟩
 have hno2 : ∀ v ∈ l, v.tx ≠ x.tx → Old v x → ¬ cI (x.w k) (v.w k) := fun v hv e ho ha => hf ⟨v, hv, e, .inr ⟨ho, ha⟩⟩
 refine ⟨fun u hu v hv e k' => ?_, fun u hu k' hw' => ?_, fun u hu hp k' => ?_, fun u hu v hv k' e ha => ?_⟩
 ·rcases (cO h hx hf).1 hu with ⟨hu1, eu⟩ | rfl
  ·rcases (cO h hx hf).1 hv with ⟨hv1, ev⟩ | rfl
   ·exact hm.tog u hu1 v hv1 e k'
   ·by_cases ek : k' = k
    ·subst ek
     rw [gr_h, hmax]
     exact fun ha => hno u hu1 eu ha.symm
    ·rw [gr_h' ek]
     exact hm.tog u hu1 x hx eu k'
  ·rcases (cO h hx hf).1 hv with ⟨hv1, ev⟩ | rfl
   ·by_cases ek : k' = k
    ·subst ek
     rw [gr_h, hmax]
     exact hno v hv1 ev
    ·rw [gr_h' ek]
     exact hm.tog x hx v hv1 e k'
   ·exact absurd rfl e
 ·rcases (cO h hx hf).1 hu with ⟨hu1, eu⟩ | rfl
  ·exact hm.held u hu1 k' hw'
  ·by_cases ek : k' = k
   ·subst ek
    exact absurd gr_w hw'
   ·rw [gr_w' ek] at hw' ⊢
    rw [gr_h' ek]
    exact hm.held x hx k' hw'
 ·rcases (cO h hx hf).1 hu with ⟨hu1, eu⟩ | rfl
  ·exact hm.prep u hu1 hp k'
  ·exact absurd (hm.prep x hx hp k).1 hw
 ·rcases (cO h hx hf).1 hu with ⟨hu1, eu⟩ | rfl
  ·rcases (cO h hx hf).1 hv with ⟨hv1, ev⟩ | rfl
   ·exact hm.ages u hu1 v hv1 k' e ha
   ·by_cases ek : k' = k
    ·subst ek
     rw [gr_h, hmax] at ha
     rcases f5 (u := x) (v := u) (fun e2 => eu e2.symm) with ho | ho
     ·exact .inr ho
     ·exact absurd ha.symm (hno2 u hu1 eu ho)
    ·rw [gr_h' ek] at ha
     exact hm.ages u hu1 x hx k' eu ha
  ·rcases (cO h hx hf).1 hv with ⟨hv1, ev⟩ | rfl
   ·by_cases ek : k' = k
    ·subst ek
     rw [gr_w] at ha
     exact absurd rfl ha.1
    ·rw [gr_w' ek] at ha
     exact hm.ages x hx v hv1 k' e ha
   ·exact absurd rfl e
theorem step_other {l : List (aS K)} (h : dD l) {x : aS K} (hx : x ∈ l) {k k' : K} (ek : k' ≠ k) : eZ (cJ l x.tx k) k' ↔ eZ l k' := by
 by_cases hf : NF l x k
 ·rw [gL h hx hf]
 have up : ∀ v ∈ l, ∃ v' ∈ cJ l x.tx k, v'.tx = v.tx ∧ v'.tm = v.tm ∧ v'.h k' = v.h k' ∧ v'.w k' = v.w k' := fun v hv => by
  by_cases e : v.tx = x.tx
  ·have := cR h.rise hv hx e
   subst this
   exact ⟨iL k v, (cO h hx hf).2 (.inr rfl), rfl, rfl, gr_h' ek, gr_w' ek⟩
  ·exact ⟨v, (cO h hx hf).2 (.inl ⟨hv, e⟩), rfl, rfl, rfl, rfl⟩
 have dn : ∀ v' ∈ cJ l x.tx k, ∃ v ∈ l, v'.tx = v.tx ∧ v'.tm = v.tm ∧ v'.h k' = v.h k' ∧ v'.w k' = v.w k' := fun v' hv => by
  rcases (cO h hx hf).1 hv with ⟨hv, e⟩ | rfl
  ·exact ⟨v', hv, rfl, rfl, rfl, rfl⟩
  ·exact ⟨x, hx, rfl, rfl, gr_h' ek, gr_w' ek⟩
 constructor
 ·intro hw u hu hu0
  obtain ⟨u', hu', e1, e2, e3, e4⟩ := up u hu
  obtain ⟨v', hv', f1, f2⟩ := hw u' hu' (by rw [e4]; exact hu0)
  obtain ⟨v, hv, g1, g2, g3, g4⟩ := dn v' hv'
  refine ⟨v, hv, by rw [← g1, ← e1]; exact f1, ?_⟩
  rw [e4, g3, g4] at f2
  refine f2.imp id fun ⟨h1, h2⟩ => ⟨?_, h2⟩
  unfold Old aS.ag at h1 ⊢
  rw [← e1, ← e2, ← g1, ← g2]
  exact h1
 ·intro hw u' hu' hu0
  obtain ⟨u, hu, e1, e2, e3, e4⟩ := dn u' hu'
  obtain ⟨v, hv, f1, f2⟩ := hw u hu (by rw [← e4]; exact hu0)
  obtain ⟨v', hv', g1, g2, g3, g4⟩ := up v hv
  refine ⟨v', hv', by rw [g1, e1]; exact f1, ?_⟩
  rw [e4, g3, g4]
  refine f2.imp id fun ⟨h1, h2⟩ => ⟨?_, h2⟩
  unfold Old aS.ag at h1 ⊢
  rw [e1, e2, g1, g2]
  exact h1
theorem step_get {l : List (aS K)} (h : dD l) {x : aS K} (hx : x ∈ l) (k : K) {u : aS K} (hu : u ∈ l) (e : u.tx ≠ x.tx) : u ∈ cJ l x.tx k := by
 by_cases hf : NF l x k
 ·rw [gL h hx hf]; exact hu
 ·exact (cO h hx hf).2 (.inl ⟨hu, e⟩)
theorem onQ_ok (k : K) : ∀ (q : List TxN) {l : List (aS K)} (_ : dD l) (_ : LkM l) (_ : ∀ t ∈ q, ∃ u ∈ l, u.tx = t ∧ u.w k ≠ 0) (_ : q.Pairwise (dI l))
  (_ : ∀ u ∈ l, u.w k ≠ 0 → u.tx ∉ q → NF l u k ∧ ∀ t ∈ q, dI l u.tx t),
  LkM (j9 k l q) ∧ eZ (j9 k l q) k ∧ ∀ k', k' ≠ k → (eZ (j9 k l q) k' ↔ eZ l k')
 | [], l, h, hm, _, _, hd => ⟨hm, fun u hu hw => (hd u hu hw (by simp)).1, fun _ _ => Iff.rfl⟩
 | t :: q, l, h, hm, hq, hp, hd => by
  obtain ⟨x, hx, rfl, hw⟩ := hq t List.mem_cons_self
  obtain ⟨hp1, hp2⟩ := List.pairwise_cons.1 hp
  have hb' := step_b h x.tx k
  have hm' := step_m h hm hx hw
  have hne : ∀ t ∈ q, t ≠ x.tx := fun t ht e => by
   have := hp1 t ht
   rw [e] at this
   exact this.asymm this
  have hin : ∀ t ∈ q, ∃ u ∈ l, u.tx = t ∧ u.w k ≠ 0 := fun t ht => hq t (List.mem_cons_of_mem _ ht)
  have hin' : ∀ t ∈ q, ∃ u ∈ cJ l x.tx k, u.tx = t ∧ u.w k ≠ 0 := fun t ht => by
   obtain ⟨u, hu, e, hw'⟩ := hin t ht
   exact ⟨u, step_get h hx k hu (by rw [e]; exact hne t ht), e, hw'⟩
  have hag : ∀ u ∈ l, (aT (cJ l x.tx k) u.tx).ag = u.ag := fun u hu => by
   by_cases hf : NF l x k
   ·rw [gL h hx hf, bH h hu]
   ·by_cases e : u.tx = x.tx
    ·have := cR h.rise hu hx e
     subst this
     have := bH hb' ((cO h hu hf).2 (.inr rfl))
     have e2 : (iL k u).tx = u.tx := rfl
     rw [e2] at this
     rw [this]
     rfl
    ·rw [bH hb' ((cO h hx hf).2 (.inl ⟨hu, e⟩))]
  have hagg : ∀ t t', (∃ u ∈ l, u.tx = t) → (∃ u ∈ l, u.tx = t') → dI l t t' → dI (cJ l x.tx k) t t' := fun t t' ⟨u, hu, e⟩ ⟨v, hv, e'⟩ ho => by
   subst e e'
   unfold dI Old at ho ⊢
   rw [hag u hu, hag v hv]
   rw [bH h hu, bH h hv] at ho
   exact ho
  have res := onQ_ok k q hb' hm' hin' (hp2.imp_of_mem fun {a b} ha hb hab => hagg a b (by obtain ⟨u, hu, e, _⟩ := hin a ha; exact ⟨u, hu, e⟩) (by obtain ⟨u, hu, e, _⟩ := hin b hb; exact ⟨u, hu, e⟩) hab) (fun u hu hwu hnq => by
   by_cases hf : NF l x k
   ·rw [gL h hx hf] at hu ⊢
    by_cases e : u.tx = x.tx
    ·have := cR h.rise hu hx e
     subst this
     exact ⟨hf, fun t ht => hp1 t ht⟩
    ·obtain ⟨h1, h2⟩ := hd u hu hwu (fun hi => (List.mem_cons.1 hi).elim e hnq)
     exact ⟨h1, fun t ht => h2 t (List.mem_cons_of_mem _ ht)⟩
   ·rcases (cO h hx hf).1 hu with ⟨hu0, e⟩ | rfl
    ·obtain ⟨⟨v, hv, hvn, hv2⟩, h2⟩ := hd u hu0 hwu (fun hi => (List.mem_cons.1 hi).elim e hnq)
     have hux := h2 x.tx List.mem_cons_self
     unfold dI at hux
     rw [bH h hu0, bH h hx] at hux
     refine ⟨?_, fun t ht => hagg _ _ ⟨u, hu0, rfl⟩ (by obtain ⟨u', hu', e', _⟩ := hin t ht; exact ⟨u', hu', e'⟩) (h2 t (List.mem_cons_of_mem _ ht))⟩
     by_cases ev : v.tx = x.tx
     ·have := cR h.rise hv hx ev
      subst this
      rcases hv2 with ha | ⟨ho, _⟩
      ·refine ⟨iL k v, (cO h hv hf).2 (.inr rfl), hvn, .inl ?_⟩
       rw [gr_h]
       have h0 := h.oks v hv
       have := h0.2.2.1 k
       have := h0.2.2.2 k
       exact ha.grow (by omega) (by omega)
      ·exact absurd ho hux.asymm
     ·exact ⟨v, (cO h hx hf).2 (.inl ⟨hv, ev⟩), hvn, hv2⟩
    ·exact absurd gr_w hwu)
  refine ⟨res.1, res.2.1, fun k' ek => (res.2.2 k' ek).trans (step_other h hx ek)⟩
theorem on1_ok {l : List (aS K)} (h : dD l) (hm : LkM l) (k : K) : LkM (onS1 l k) ∧ eZ (onS1 l k) k ∧ ∀ k', k' ≠ k → (eZ (onS1 l k) k' ↔ eZ l k') :=
 onQ_ok k (cS l k) h hm (fun t ht => by obtain ⟨u, hu, hw, e⟩ := fC.1 ht; exact ⟨u, hu, e, hw⟩) (j8 h k) (fun u hu hw hn => absurd (fC.2 ⟨u, hu, hw, rfl⟩) hn)
theorem onA_ok : ∀ (ks : List K) {l : List (aS K)} (_ : dD l) (_ : LkM l) (_ : ∀ k, k ∉ ks → eZ l k), LkI (gA l ks)
 | [], l, h, hm, hw => ⟨h, hm, fun k => hw k (by simp)⟩
 | k :: ks, l, h, hm, hw => by
  have h1 := on1_ok h hm k
  refine onA_ok ks (onQ_b _ _ h) h1.1 (fun k' hk => ?_)
  by_cases e : k' = k
  ·rw [e]; exact h1.2.1
  ·exact (h1.2.2 k' e).2 (hw k' (fun hi => (List.mem_cons.1 hi).elim e hk))
theorem drop_ok {l : List (aS K)} (h : LkI l) (t : TxN) (ks : List K) (hks : ∀ k, k ∉ ks → (aT l t).h k = 0 ∧ (aT l t).w k = 0) : LkI (gA (cN l t) ks) :=
 onA_ok ks (eS h.b _) (filter_m h.m _) (fun k hk => filter_w (h.w k) _ (fun v hv hp => by
  have e : v.tx = t := by simpa using hp
  have := hks k hk
  rw [← e, bH h.b hv] at this
  exact this))
theorem prep_ok {l : List (aS K)} (h : LkI l) {x : aS K} (hx : x ∈ l) (hw : ∀ k, x.w k = 0) (ks : List K) (hks : ∀ k, k ∉ ks → x.h k ≠ 1) : LkI (gA (bG l x.tx cK) ks) := by
 have hmem : ∀ {v}, v ∈ bG l x.tx cK ↔ (v ∈ l ∧ v.tx ≠ x.tx) ∨ v = cK x := fun {v} => by
  rw [dE]
  constructor
  ·rintro ⟨u, hu, rfl⟩
   by_cases e : u.tx = x.tx
   ·rw [if_pos e, cR h.b.rise hu hx e]; exact .inr rfl
   ·rw [if_neg e]; exact .inl ⟨hu, e⟩
  ·rintro (⟨hv, e⟩ | rfl)
   ·exact ⟨v, hv, by rw [if_neg e]⟩
   ·exact ⟨x, hx, by rw [if_pos rfl]⟩
 have hh : ∀ k, (cK x).h k = if x.h k = 1 then 0 else x.h k := fun k => rfl
 have hsub : ∀ {a : Nat} {k}, cI a ((cK x).h k) → cI a (x.h k) := fun {a k} ha => by
  rw [hh] at ha
  by_cases e : x.h k = 1
  ·rw [if_pos e] at ha; exact absurd rfl ha.2.1
  ·rw [if_neg e] at ha; exact ha
 refine onA_ok ks ?_ ⟨fun u hu v hv e k => ?_, fun u hu k hw' => ?_, fun u hu hp k => ?_, fun u hu v hv k e ha => ?_⟩ (fun k hk u hu h0 => ?_)
 ·refine i9 h.b _ _ (fun u hu => ⟨rfl, rfl, fun k => ?_, (h.b.oks u hu).2.2.2⟩)
  show (if u.h k = 1 then 0 else u.h k) ≤ 2
  have := (h.b.oks u hu).2.2.1 k
  split <;> omega
 ·rcases hmem.1 hu with ⟨hu, eu⟩ | rfl
  ·rcases hmem.1 hv with ⟨hv, ev⟩ | rfl
   ·exact h.m.tog u hu v hv e k
   ·exact fun ha => h.m.tog u hu x hx eu k (hsub ha)
  ·rcases hmem.1 hv with ⟨hv, ev⟩ | rfl
   ·exact fun ha => h.m.tog v hv x hx ev k (hsub ha.symm)
   ·exact absurd rfl e
 ·rcases hmem.1 hu with ⟨hu, eu⟩ | rfl
  ·exact h.m.held u hu k hw'
  ·exact absurd (hw k) hw'
 ·rcases hmem.1 hu with ⟨hu, eu⟩ | rfl
  ·exact h.m.prep u hu hp k
  ·refine ⟨hw k, ?_⟩
   rw [hh]
   split <;> omega
 ·rcases hmem.1 hu with ⟨hu, eu⟩ | rfl
  ·rcases hmem.1 hv with ⟨hv, ev⟩ | rfl
   ·exact h.m.ages u hu v hv k e ha
   ·exact .inl rfl
  ·exact absurd (hw k) ha.1
 ·rcases hmem.1 hu with ⟨hu, eu⟩ | rfl
  ·obtain ⟨v, hv, e, ha⟩ := h.w k u hu h0
   by_cases ev : v.tx = x.tx
   ·have := cR h.b.rise hv hx ev
    subst this
    refine ⟨cK v, hmem.2 (.inr rfl), e, ?_⟩
    have e1 : (cK v).h k = v.h k := by rw [hh, if_neg (hks k hk)]
    rw [e1]
    exact ha
   ·exact ⟨v, hmem.2 (.inl ⟨hv, ev⟩), e, ha⟩
  ·exact absurd (hw k) h0
theorem rest_ok {l : List (aS K)} (h : LkI l) {t : TxN} (hn : cM l t = none) (ht : t.1 < 256 ∧ t.2.1 < 4294967296 ∧ t.2.2 < 4294967296) (hf : l.length < 64) (ks : List K) (hks : ∀ k ∈ ks, ∀ u ∈ l, u.h k = 0) : LkI (dH l (eM t ks)) := by
 have hne := eR.1 hn
 have hr : ∀ k, (eM t ks).h k = if k ∈ ks then 2 else 0 := fun k => rfl
 have hnw : ∀ k ∈ ks, ∀ u ∈ l, u.w k = 0 := fun k hk u hu => by
  by_cases h0 : u.w k = 0
  ·exact h0
  ·obtain ⟨v, hv, h1⟩ := wait_held h hu h0
   exact absurd (hks k hk v hv) h1
 refine ⟨insU_b h.b (x := eM t ks) hn hf ⟨ht, by show 0 < 4294967296; decide, fun k => by rw [hr]; split <;> omega, fun k => by show 0 ≤ 2; decide⟩, ⟨fun u hu v hv e k => ?_, fun u hu k hw => ?_, fun u hu hp k => ?_, fun u hu v hv k e ha => ?_⟩, fun k u hu h0 => ?_⟩
 ·rcases (bU l _ u).1 hu with rfl | hu
  ·rcases (bU l _ v).1 hv with rfl | hv
   ·exact absurd rfl e
   ·rw [hr]
    by_cases hk : k ∈ ks
    ·rw [hks k hk v hv]; exact fun ha => ha.2.1 rfl
    ·rw [if_neg hk]; exact fun ha => ha.1 rfl
  ·rcases (bU l _ v).1 hv with rfl | hv
   ·rw [hr]
    by_cases hk : k ∈ ks
    ·rw [hks k hk u hu]; exact fun ha => ha.1 rfl
    ·rw [if_neg hk]; exact fun ha => ha.2.1 rfl
   ·exact h.m.tog u hu v hv e k
 ·rcases (bU l _ u).1 hu with rfl | hu
  ·exact absurd rfl hw
  ·exact h.m.held u hu k hw
 ·rcases (bU l _ u).1 hu with rfl | hu
  ·refine ⟨rfl, ?_⟩
   rw [hr]
   split <;> omega
  ·exact h.m.prep u hu hp k
 ·rcases (bU l _ v).1 hv with rfl | hv
  ·exact .inl rfl
  ·rcases (bU l _ u).1 hu with rfl | hu
   ·exact absurd rfl ha.1
   ·exact h.m.ages u hu v hv k e ha
 ·rcases (bU l _ u).1 hu with rfl | hu
  ·exact absurd rfl h0
  ·obtain ⟨v, hv, r⟩ := h.w k u hu h0
   exact ⟨v, (bU l _ v).2 (.inr hv), r⟩
theorem wound_ok {l : List (aS K)} (h : LkI l) {x : aS K} (hx : x ∈ l) (hp : x.pr = false) {k : K} {m : Nat} (hm0 : x.h k < m) (hm2 : m ≤ 2) (ks : List K)
  (hks : ∀ k', k' ∉ ks → k' ≠ k ∧ ∀ y ∈ bG l x.tx (bF k m), y.tx ∈ dX (bG l x.tx (bF k m)) x.tx k → y.h k' = 0 ∧ y.w k' = 0) :
  LkI (gA (cY (bG l x.tx (bF k m)) (dX (bG l x.tx (bF k m)) x.tx k)) ks) := by
 have hb2 : dD (bG l x.tx (bF k m)) := i9 h.b _ _ (fun u hu => ⟨rfl, rfl, (h.b.oks u hu).2.2.1, fun k' => by
  show (if k' = k then max (u.w k) m else u.w k') ≤ 2
  have := (h.b.oks u hu).2.2.2 k
  have := (h.b.oks u hu).2.2.2 k'
  split <;> omega⟩)
 have hmem : ∀ {v}, v ∈ bG l x.tx (bF k m) ↔ (v ∈ l ∧ v.tx ≠ x.tx) ∨ v = bF k m x := fun {v} => by
  rw [dE]
  constructor
  ·rintro ⟨u, hu, rfl⟩
   by_cases e : u.tx = x.tx
   ·rw [if_pos e, cR h.b.rise hu hx e]; exact .inr rfl
   ·rw [if_neg e]; exact .inl ⟨hu, e⟩
  ·rintro (⟨hv, e⟩ | rfl)
   ·exact ⟨v, hv, by rw [if_neg e]⟩
   ·exact ⟨x, hx, by rw [if_pos rfl]⟩
 have hgx : aT (bG l x.tx (bF k m)) x.tx = bF k m x := bH hb2 (hmem.2 (.inr rfl))
 have hwk : (bF k m x).w k = max (x.w k) m := by show (if k = k then _ else _) = _; rw [if_pos rfl]
 have hwk' : ∀ {k'}, k' ≠ k → (bF k m x).w k' = x.w k' := fun {k'} e => by show (if k' = k then _ else _) = _; rw [if_neg e]
 have hhx : ∀ k', (bF k m x).h k' = x.h k' := fun _ => rfl
 have hlm : ∀ {v}, v ∈ cY (bG l x.tx (bF k m)) (dX (bG l x.tx (bF k m)) x.tx k) ↔ v ∈ bG l x.tx (bF k m) ∧ v.tx ∉ dX (bG l x.tx (bF k m)) x.tx k := fun {v} => by
  unfold cY
  rw [List.mem_filter]
  simp
 refine onA_ok ks (eS hb2 _) ⟨fun u hu v hv e k' => ?_, fun u hu k' hw' => ?_, fun u hu hpr k' => ?_, fun u hu v hv k' e ha => ?_⟩ (fun k' hk' => ?_)
 ·rcases hmem.1 (hlm.1 hu).1 with ⟨hu, eu⟩ | rfl
  ·rcases hmem.1 (hlm.1 hv).1 with ⟨hv, ev⟩ | rfl
   ·exact h.m.tog u hu v hv e k'
   ·exact h.m.tog u hu x hx eu k'
  ·rcases hmem.1 (hlm.1 hv).1 with ⟨hv, ev⟩ | rfl
   ·exact h.m.tog x hx v hv e k'
   ·exact absurd rfl e
 ·rcases hmem.1 (hlm.1 hu).1 with ⟨hu, eu⟩ | rfl
  ·exact h.m.held u hu k' hw'
  ·by_cases e : k' = k
   ·subst e
    rw [hwk, hhx]
    omega
   ·rw [hwk' e] at hw' ⊢
    exact h.m.held x hx k' hw'
 ·rcases hmem.1 (hlm.1 hu).1 with ⟨hu, eu⟩ | rfl
  ·exact h.m.prep u hu hpr k'
  ·have hp' : x.pr = true := hpr
   rw [hp] at hp'
   cases hp'
 ·rcases hmem.1 (hlm.1 hu).1 with ⟨hu0, eu⟩ | rfl
  ·rcases hmem.1 (hlm.1 hv).1 with ⟨hv, ev⟩ | rfl
   ·exact h.m.ages u hu0 v hv k' e ha
   ·exact h.m.ages u hu0 x hx k' eu ha
  ·rcases hmem.1 (hlm.1 hv).1 with ⟨hv0, ev⟩ | rfl
   ·by_cases ek : k' = k
    ·subst ek
     have hnw := (hlm.1 hv).2
     cases hpv : v.pr with
     | true => exact .inl rfl
     | false =>
      refine .inr ?_
      rcases f5 (u := v) (v := bF k' m x) ev with ho | ho
      ·exact ho
      ·exact absurd (jA.2 ⟨v, (hlm.1 hv).1, ⟨hpv, by rw [hgx]; exact ho, by rw [hgx]; exact ha⟩, rfl⟩) hnw
    ·rw [hwk' ek] at ha
     exact h.m.ages x hx v hv0 k' (fun e2 => ev e2.symm) ha
   ·exact absurd rfl e
 ·obtain ⟨ek, hgone⟩ := hks k' hk'
  refine filter_w ?_ _ (fun v hv hp => hgone v hv (by simpa using hp))
  intro u hu h0
  rcases hmem.1 hu with ⟨hu, eu⟩ | rfl
  ·obtain ⟨v, hv, e, ha⟩ := h.w k' u hu h0
   by_cases ev : v.tx = x.tx
   ·have := cR h.b.rise hv hx ev
    subst this
    refine ⟨bF k m v, hmem.2 (.inr rfl), e, ?_⟩
    rw [hwk' ek]
    exact ha
   ·exact ⟨v, hmem.2 (.inl ⟨hv, ev⟩), e, ha⟩
  ·rw [hwk' ek] at h0
   obtain ⟨v, hv, e, ha⟩ := h.w k' x hx h0
   refine ⟨v, hmem.2 (.inl ⟨hv, e⟩), e, ?_⟩
   rw [hwk' ek]
   exact ha
end
end
section
section
variable {K : Type}
def KsOk (ko : K → K → Int) (ks : List K) (P : K → Prop) : Prop := (ks.Pairwise fun a b => ko a b < 0) ∧ ∀ k, k ∈ ks ↔ P k
end
section
variable {K : Type} [DecidableEq K]
def AskGo (ko : K → K → Int) (l : List (aS K)) (t : TxN) (k : K) (l' : List (aS K)) (wn : List TxN) (gr : List (cD K)) : Prop :=
 wn = dX l t k ∧ ∃ ks, KsOk ko ks (fun k' => k' = k ∨ ∃ y ∈ l, y.tx ∈ wn ∧ (y.h k' ≠ 0 ∨ y.w k' ≠ 0)) ∧ gr = fX (cY l wn) ks ∧ l' = gA (cY l wn) ks
def AskR (ko : K → K → Int) (may : Bool) (l : List (aS K)) (t : TxN) (tm : Nat) (k : K) (m : Nat) (e : Int) (l' : List (aS K)) (wn : List TxN) (gr : List (cD K)) : Prop :=
 (l' = l ∧ wn = [] ∧ gr = [] ∧ (may = false ∧ e = 1 ∨ may = true ∧ ((aT l t).pr = true ∧ e = 11 ∨ cM l t = none ∧ 64 ≤ l.length ∧ e = 5 ∨ (∃ x, cM l t = some x ∧ x.pr = false ∧ m ≤ x.h k) ∧ e = 0))) ∨
 (may = true ∧ (aT l t).pr = false ∧ (cM l t = none → l.length < 64) ∧ (aT l t).h k < m ∧ e = 0 ∧ AskGo ko (bG (cZ l t tm) t (bF k m)) t k l' wn gr)
def PrepR (ko : K → K → Int) (l : List (aS K)) (t : TxN) (e : Int) (l' : List (aS K)) (gr : List (cD K)) : Prop :=
 (l' = l ∧ gr = [] ∧ (cM l t = none ∧ e = 6 ∨ ∃ x, cM l t = some x ∧ (∃ k, x.w k ≠ 0) ∧ e = 11)) ∨
 ∃ x ks, cM l t = some x ∧ (∀ k, x.w k = 0) ∧ e = 0 ∧ KsOk ko ks (fun k => x.h k = 1) ∧ gr = fX (bG l t cK) ks ∧ l' = gA (bG l t cK) ks
def RelR (ko : K → K → Int) (l : List (aS K)) (t : TxN) (e : Int) (l' : List (aS K)) (gr : List (cD K)) : Prop :=
 (l' = l ∧ gr = [] ∧ cM l t = none ∧ e = 6) ∨
 ∃ x ks, cM l t = some x ∧ e = 0 ∧ KsOk ko ks (fun k => x.h k ≠ 0 ∨ x.w k ≠ 0) ∧ gr = fX (cN l t) ks ∧ l' = gA (cN l t) ks
def RestR (may : Bool) (l : List (aS K)) (t : TxN) (ks : List K) (e : Int) (l' : List (aS K)) : Prop :=
 (l' = l ∧ (may = false ∧ e = 1 ∨ may = true ∧ ((cM l t).isSome = true ∧ e = 7 ∨ cM l t = none ∧ ((∃ k ∈ ks, ∃ u ∈ l, u.h k ≠ 0) ∧ e = 11 ∨ (∀ k ∈ ks, ∀ u ∈ l, u.h k = 0) ∧ 64 ≤ l.length ∧ e = 5)))) ∨
 (may = true ∧ cM l t = none ∧ (∀ k ∈ ks, ∀ u ∈ l, u.h k = 0) ∧ l.length < 64 ∧ e = 0 ∧ l' = dH l (eM t ks))
abbrev TxF (t : TxN) : Prop := t.1 < 256 ∧ t.2.1 < 4294967296 ∧ t.2.2 < 4294967296
theorem ask_ok {ko : K → K → Int} {may : Bool} {l l' : List (aS K)} {t : TxN} {tm : Nat} {k : K} {m : Nat} {e : Int} {wn : List TxN} {gr : List (cD K)} (h : LkI l) (ht : TxF t) (htm : tm < 4294967296) (hm : may = true → m ≤ 2) (hR : AskR ko may l t tm k m e l' wn gr) : LkI l' := by
 rcases hR with ⟨rfl, _⟩ | ⟨hmay, hpr, hfew, hh, _, hwn, ks, hks, _, rfl⟩
 ·exact h
 have hl1 : LkI (cZ l t tm) ∧ ∃ x ∈ cZ l t tm, x.tx = t ∧ x.pr = false ∧ x.h k < m := by
  unfold cZ
  cases hu : cM l t with
  | none =>
   rw [Option.isSome_none, if_neg (by simp)]
   refine ⟨new_ok h hu ht htm (hfew hu), _, (bU l _ _).2 (.inl rfl), rfl, rfl, ?_⟩
   rw [dA hu] at hh
   exact hh
  | some x =>
   rw [Option.isSome_some, if_pos rfl]
   obtain ⟨hx, e⟩ := (bT h.b).1 hu
   refine ⟨h, x, hx, e, ?_⟩
   have e2 : aT l t = x := by unfold aT; rw [hu]; rfl
   rw [e2] at hpr hh
   exact ⟨hpr, hh⟩
 obtain ⟨hi, x, hx, rfl, hp, hlt⟩ := hl1
 subst hwn
 exact wound_ok hi hx hp hlt (hm hmay) ks (fun k' hk' => ⟨fun e => hk' ((hks.2 k').2 (.inl e)), fun y hy hw => by
  have : ¬ (y.h k' ≠ 0 ∨ y.w k' ≠ 0) := fun h0 => hk' ((hks.2 k').2 (.inr ⟨y, hy, hw, h0⟩))
  omega⟩)
theorem prepR_ok {ko : K → K → Int} {l l' : List (aS K)} {t : TxN} {e : Int} {gr : List (cD K)} (h : LkI l) (hR : PrepR ko l t e l' gr) : LkI l' := by
 rcases hR with ⟨rfl, _⟩ | ⟨x, ks, hu, hw, _, hks, _, rfl⟩
 ·exact h
 obtain ⟨hx, rfl⟩ := (bT h.b).1 hu
 exact prep_ok h hx hw ks (fun k hk e => hk ((hks.2 k).2 e))
theorem relR_ok {ko : K → K → Int} {l l' : List (aS K)} {t : TxN} {e : Int} {gr : List (cD K)} (h : LkI l) (hR : RelR ko l t e l' gr) : LkI l' := by
 rcases hR with ⟨rfl, _⟩ | ⟨x, ks, hu, _, hks, _, rfl⟩
 ·exact h
 have e2 : aT l t = x := by unfold aT; rw [hu]; rfl
 refine drop_ok h t ks (fun k hk => ?_)
 have : ¬ (x.h k ≠ 0 ∨ x.w k ≠ 0) := fun h0 => hk ((hks.2 k).2 h0)
 rw [e2]
 omega
theorem restR_ok {may : Bool} {l l' : List (aS K)} {t : TxN} {ks : List K} {e : Int} (h : LkI l) (ht : TxF t) (hR : RestR may l t ks e l') : LkI l' := by
 rcases hR with ⟨rfl, _⟩ | ⟨_, hn, hks, hf, _, rfl⟩
 ·exact h
 exact rest_ok h hn ht hf ks hks
end
end
section
open Go.RowKit Go.Maps Classical
structure jN {K E : Type} (mt kt et : TypeId) (kV : K → Value) (kL : K → Lit) (eV : E → Value) (z : E) : Prop where
 und : Tryz.prog.underlying mt = some (.map kt et)
 keyed : Keyed Tryz.prog kt
 key : ∀ k, keyOf Tryz.prog kt (kV k) = some (kL k)
 inj : ∀ k l, kL k = kL l → k = l
 inv : ∀ v kl, keyOf Tryz.prog kt v = some kl → ∃ k, v = kV k ∧ kl = kL k
 zero : ∀ w, (zeroValue et).run Tryz.prog w = .ok (eV z) w
 einj : ∀ a b, eV a = eV b → a = b
structure ElemG {E : Type} (eV : E → Value) (R : Value → Option (DataW E × List MemPlace)) : Prop where
 reads : ∀ i, R (eV i) = some (.held i, [])
 inv : ∀ {v : Value} {z : DataW E × List MemPlace}, R v = some z → ∃ i, v = eV i ∧ z = (.held i, [])
theorem elemG_ex {E : Type} (eV : E → Value) (hi : ∀ a b, eV a = eV b → a = b) : ∃ R, ElemG eV R := by
 refine ⟨fun v => if h : ∃ i, v = eV i then some (.held h.choose, []) else none, ⟨fun i => ?_, fun {v z} h => ?_⟩⟩
 ·have h : ∃ j, eV i = eV j := ⟨i, rfl⟩
  show (if h : ∃ j, eV i = eV j then some (DataW.held h.choose, []) else none) = _
  rw [dif_pos h]
  have h3 : h.choose = i := (hi _ _ h.choose_spec).symm
  rw [h3]
 ·replace h : (if h : ∃ i, v = eV i then some (DataW.held h.choose, []) else none) = some z := h
  split at h
  ·rename_i hx
   cases h
   exact ⟨_, hx.choose_spec, rfl⟩
  ·cases h
structure eT {K E : Type} (kt : TypeId) (kL : K → Lit) (eV : E → Value) (w : World) (b : Nat) (g : K → Option E) (n : Nat) : Prop where
 own : ∃ (R : Value → Option (DataW E × List MemPlace)) (D : DataW E), ElemG eV R ∧ w.ownsMap Tryz.prog kt R b (Maps.size D) D ∧ Maps.size D = n ∧ (∀ k, Maps.has D (kL k) = (g k).isSome) ∧ ∀ k e, g k = some e → ∀ z, D.atKey (kL k) z = .held e
section
variable {K E : Type} {mt kt et : TypeId} {kV : K → Value} {kL : K → Lit} {eV : E → Value} {z : E} {w w' : World} {b n : Nat} {g : K → Option E}
theorem tight_g {R : Value → Option (DataW E × List MemPlace)} {D : DataW E} (h : w.ownsMap Tryz.prog kt R b n D) : w.ownsMap Tryz.prog kt R b (Maps.size D) D := by
 obtain ⟨es, clock, hb, F, hs, rfl⟩ := h
 refine ⟨es, clock, hb, F, ?_, rfl⟩
 simp [Maps.size, length_sorted]
theorem gmap_made (T : jN mt kt et kV kL eV z) (w : World) : eT kt kL eV (w.alloc (.map #[] 0)) w.heap.size (fun _ : K => none) 0 := by
 obtain ⟨R, hR⟩ := elemG_ex eV T.einj
 exact ⟨⟨R, .map [], hR, World.ownsMap_made _ _ _ _, rfl, fun _ => rfl, fun k i h => by cases h⟩⟩
theorem eT.lt (h : eT kt kL eV w b g n) : b < w.heap.size := by obtain ⟨_, _, _, h, _⟩ := h.own; exact h.lt
theorem eT.isMap (h : eT kt kL eV w b g n) : ∃ es c, w.heap[b]? = some (.map es c) := by
 obtain ⟨_, _, _, ⟨es, c, hb, _⟩, _⟩ := h.own
 exact ⟨es, c, hb⟩
theorem eT.keep {S : Nat → Prop} (h : eT kt kL eV w b g n) (hk : aC S w w') (hS : ¬ S b) : eT kt kL eV w' b g n := by
 obtain ⟨R, D, hR, ho, r⟩ := h.own
 have hlt := ho.lt
 obtain ⟨es, clock, hb, F, hs, hD⟩ := ho
 exact ⟨⟨R, D, hR, ⟨es, clock, (hk.block b hlt hS).trans hb, F, hs, hD⟩, r⟩⟩
theorem eT.below (h : eT kt kL eV w b g n) (hB : Below w.heap.size w w') : eT kt kL eV w' b g n := h.keep (aC.of_below (fun _ => False) hB) (fun h => h)
theorem eT.ne {p : Nat} {cs : Array Value} {t : TypeId} (h : eT kt kL eV w b g n) (hb : bZ w p cs t) : p ≠ b := by
 intro e
 obtain ⟨es, c, hm⟩ := h.isMap
 have h2 : w.heap[p]? = _ := hb
 rw [e, hm] at h2
 cases h2
theorem eT.as (h : eT kt kL eV w b g n) {g' : K → Option E} (e : ∀ k, g k = g' k) : eT kt kL eV w b g' n := by
 have : g = g' := funext e
 rw [← this]
 exact h
theorem keep_turned {b : Nat} (h : w.mapTurned w' b) : aC (fun k => k = b) w w' := by
 obtain ⟨a1, a2, a3, a4, a5⟩ := h.grown
 exact ⟨a1, a2, a3, a4, fun k hk hn => a5 k hk (fun e => hn (Option.some.inj e))⟩
theorem gmap_val {R : Value → Option (DataW E × List MemPlace)} (hR : ElemG eV R) {k : K} {D : DataW E} (hh : Maps.has D (kL k) = (g k).isSome) (ha : ∀ i, g k = some i → ∀ z, D.atKey (kL k) z = .held i) {v : Value} {ps : List MemPlace} (hv : R v = some (D.atKey (kL k) (.held z), ps)) : v = eV ((g k).getD z) := by
 obtain ⟨i, rfl, hz⟩ := hR.inv hv
 simp only [Prod.mk.injEq] at hz
 cases hg : g k with
 | none =>
  rw [atKey_of_not_has (by rw [hh, hg]; rfl)] at hz
  cases hz.1
  rfl
 | some j =>
  rw [ha j hg] at hz
  cases hz.1
  rfl
theorem eT.look (T : jN mt kt et kV kL eV z) (h : eT kt kL eV w b g n) (k : K) : (Instr.lookup mt (.map (some b)) (kV k) true).run Tryz.prog w = .ok (.tuple #[eV ((g k).getD z), .bool (g k).isSome]) w := by
 obtain ⟨R, D, hR, ho, hs, hh, ha⟩ := h.own
 obtain ⟨v, ps, hrun, hv⟩ := ho.look_ok T.keyed T.und (T.zero w) (hR.reads z) (T.key k)
 rw [hrun, hh k, gmap_val hR (hh k) (fun i hi => ha k i hi) hv]
theorem eT.look1 (T : jN mt kt et kV kL eV z) (h : eT kt kL eV w b g n) (k : K) : (Instr.lookup mt (.map (some b)) (kV k) false).run Tryz.prog w = .ok (eV ((g k).getD z)) w := by
 obtain ⟨R, D, hR, ho, hs, hh, ha⟩ := h.own
 obtain ⟨v, ps, hrun, hv⟩ := ho.lookup T.keyed T.und (T.zero w) (hR.reads z) (T.key k)
 rw [hrun, gmap_val hR (hh k) (fun i hi => ha k i hi) hv]
theorem eT.len (T : jN mt kt et kV kL eV z) (h : eT kt kL eV w b g n) (ty : TypeId) : (Builtin.len_ #[mt] ty #[.map (some b)]).run Tryz.prog w = .ok (.int .i64 (n : Int)) w := by
 obtain ⟨_, D, _, ho, hs, _⟩ := h.own
 rw [ho.len T.und ty, hs]
theorem eT.put (T : jN mt kt et kV kL eV z) (h : eT kt kL eV w b g n) (hn : n < maxLen) (k : K) (e : E) : ∃ w', (Instr.mapUpdate mt (.map (some b)) (kV k) (eV e)).run Tryz.prog w = .ok () w' ∧ eT kt kL eV w' b (fun k' => if k' = k then some e else g k') (if (g k).isSome then n else n + 1) ∧ aC (fun k => k = b) w w' := by
 obtain ⟨R, D, hR, ho, hs, hh, ha⟩ := h.own
 obtain ⟨w', hrun, ho', hg⟩ := ho.store T.keyed T.und (by rw [hs]; exact hn) (T.key k) (hR.reads e)
 have hkl := T.keyed.key (T.key k)
 refine ⟨w', hrun, ⟨⟨R, _, hR, tight_g ho', ?_, fun k' => ?_, fun k' j hj zz => ?_⟩⟩, keep_turned hg⟩
 ·rw [size_put (ho.tidy T.keyed), hh k, hs]
 ·show _ = (if k' = k then some e else g k').isSome
  by_cases e2 : k' = k
  ·subst e2
   rw [has_put_same ho.isMap hkl, if_pos rfl]
   rfl
  ·rw [if_neg e2, has_put_other (fun e3 => e2 (T.inj _ _ e3)), hh k']
 ·replace hj : (if k' = k then some e else g k') = some j := hj
  by_cases e2 : k' = k
  ·subst e2
   rw [if_pos rfl] at hj
   cases hj
   exact atKey_put_same ho.isMap hkl _ _
  ·rw [if_neg e2] at hj
   rw [atKey_put_other (fun e3 => e2 (T.inj _ _ e3))]
   exact ha k' j hj zz
theorem eT.del (T : jN mt kt et kV kL eV z) (h : eT kt kL eV w b g n) (k : K) : ∃ w', (∀ ty, (Builtin.delete_ #[mt, kt] ty #[.map (some b), kV k]).run Tryz.prog w = .ok (.tuple #[]) w') ∧ eT kt kL eV w' b (fun k' => if k' = k then none else g k') (if (g k).isSome then n - 1 else n) ∧ aC (fun k => k = b) w w' := by
 obtain ⟨R, D, hR, ho, hs, hh, ha⟩ := h.own
 obtain ⟨w', hrun, ho', hg⟩ := ho.drop T.keyed T.und (T.key k) 0
 refine ⟨w', fun ty => hrun, ⟨⟨R, _, hR, tight_g ho', ?_, fun k' => ?_, fun k' j hj zz => ?_⟩⟩, keep_turned hg⟩
 ·have := size_del (ho.tidy T.keyed) (k := kL k)
  rw [hh k, hs] at this
  cases hc : (g k).isSome with
  | true => rw [hc, if_pos rfl] at this; rw [if_pos rfl]; omega
  | false => rw [hc] at this; simp at this; simpa using this
 ·show _ = (if k' = k then none else g k').isSome
  by_cases e2 : k' = k
  ·subst e2
   rw [has_del_same, if_pos rfl]
   rfl
  ·rw [if_neg e2, has_del_other (fun e3 => e2 (T.inj _ _ e3)), hh k']
 ·replace hj : (if k' = k then none else g k') = some j := hj
  by_cases e2 : k' = k
  ·subst e2
   rw [if_pos rfl] at hj
   cases hj
  ·rw [if_neg e2] at hj
   rw [atKey_del_other (fun e3 => e2 (T.inj _ _ e3))]
   exact ha k' j hj zz
theorem nodup_le {α : Type} : ∀ (xs ys : List α), xs.Nodup → (∀ x ∈ xs, x ∈ ys) → xs.length ≤ ys.length
 | [], _, _, _ => Nat.zero_le _
 | x :: xs, ys, hn, hm => by
  have h1 := List.nodup_cons.1 hn
  have hx := hm x List.mem_cons_self
  have ih := nodup_le xs (ys.erase x) h1.2 (fun y hy => by
   have hne : y ≠ x := fun e => h1.1 (by rw [← e]; exact hy)
   exact (List.mem_erase_of_ne hne).2 (hm y (List.mem_cons_of_mem _ hy)))
  rw [List.length_erase_of_mem hx] at ih
  have := List.length_pos_of_mem hx
  rw [List.length_cons]
  omega
theorem eT.few (T : jN mt kt et kV kL eV z) (h : eT kt kL eV w b g n) (ks : List K) (hks : ∀ k, (g k).isSome = true → k ∈ ks) : n ≤ ks.length := by
 obtain ⟨R, D, hR, ho, hs, hh, ha⟩ := h.own
 have ht := ho.tidy T.keyed
 obtain ⟨es, clock, hb, F, _, rfl⟩ := ho
 rw [← hs]
 obtain ⟨L, hL⟩ : ∃ L, L = (es.toList.map (WideElems.rg Tryz.prog kt R)).foldr DataW.insert [] := ⟨_, rfl⟩
 rw [← hL] at ht hs hh ⊢
 obtain ⟨L2, e2, hp⟩ := ht
 cases e2
 have hm : ∀ x ∈ L.map Prod.fst, x ∈ ks.map kL := by
  intro x hx
  obtain ⟨p, hp1, rfl⟩ := List.mem_map.1 hx
  have hp2 : p ∈ es.toList.map (WideElems.rg Tryz.prog kt R) := by
   rw [hL] at hp1
   exact (WideShapes.sorted_perm _).mem_iff.1 hp1
  obtain ⟨en, hen, rfl⟩ := List.mem_map.1 hp2
  obtain ⟨y, hy⟩ := F.reads en hen
  have hk := WideElems.rd_key hy
  rw [WideElems.rg_of hy] at hp1 ⊢
  obtain ⟨k, _, ek⟩ := T.inv _ _ hk
  refine List.mem_map.2 ⟨k, hks k ?_, ek.symm⟩
  rw [← hh k, has_eq, List.any_eq_true]
  refine ⟨y, hp1, ?_⟩
  rw [ek]
  have := T.keyed.key (T.key k)
  exact WideAt.sameKey_self this
 have := nodup_le _ _ (List.pairwise_map.2 hp) hm
 simpa [Maps.size] using this
end
end
end Go.Proofs.YtiloagmkkhlfjaaGreat
