/-
  A clock as a plain thing: its time, its timers in the order in which they ring; what each call answers and leaves. Of no program. Own work.
-/
import Derived.Test.YtgjdlclkibiffaaIdPlain
namespace Go.Proofs.Ytgjdlclkibiffaa

/-- A timer's name: kind, node, boot, number; a timer: name, time. -/
abbrev NmP := Int × TxP
abbrev TmP := NmP × Int
def nmOk (n : NmP) : Prop := (0 ≤ n.1 ∧ n.1 < 256) ∧ txOk n.2
def nilN : NmP := (0, 0, 0, 0)
theorem nilN_ok : nmOk nilN := by unfold nmOk txOk nilN; simp
def tmL (t : TmP) : List Int := t.2 :: t.1.1 :: txL t.1.2
theorem tmL_inj {a b : TmP} (h : tmL a = tmL b) : a = b := by
  obtain ⟨⟨a0, a⟩, a1⟩ := a
  obtain ⟨⟨b0, b⟩, b1⟩ := b
  simp only [tmL, List.cons.injEq] at h
  obtain ⟨rfl, rfl, h⟩ := h
  rw [txL_inj h]
/-- Does a timer ring ahead of another one? -/
def aheadB (a b : TmP) : Bool := decide (lexF (tmL a) (tmL b) < 0)
theorem ahead_iff (a b : TmP) : aheadB a b = true ↔ lexF (tmL a) (tmL b) < 0 := by simp [aheadB]
theorem ahead_trans {a b c : TmP} (h1 : aheadB a b = true) (h2 : aheadB b c = true) : aheadB a c = true := by
  rw [ahead_iff] at *
  have t1 := lexF_trans (tmL a) (tmL b) (tmL c) rfl rfl (by omega) (by omega)
  have z : lexF (tmL a) (tmL c) ≠ 0 := fun e => by
    have e2 := (lexF_zero (tmL a) (tmL c) rfl).1 e
    have n := lexF_neg (tmL a) (tmL b)
    rw [e2] at h1 n
    omega
  omega
theorem ahead_not {a b : TmP} (h : aheadB a b = false) (hne : a ≠ b) : aheadB b a = true := by
  rw [ahead_iff]
  have n := lexF_neg (tmL a) (tmL b)
  have h1 : ¬ lexF (tmL a) (tmL b) < 0 := by
    intro e; rw [← ahead_iff, h] at e; cases e
  have z : lexF (tmL a) (tmL b) ≠ 0 := fun e => hne (tmL_inj ((lexF_zero (tmL a) (tmL b) rfl).1 e))
  omega
theorem ahead_time {a b : TmP} (h : aheadB a b = true) : a.2 ≤ b.2 := by
  rw [ahead_iff] at h
  have c := cmpF_rng a.2 b.2
  unfold tmL lexF orF at h
  split at h <;> omega
theorem ahead_irrefl (a : TmP) : aheadB a a = false := by
  unfold aheadB
  rw [(lexF_zero (tmL a) (tmL a) rfl).2 rfl]
  rfl
/-- A clock. -/
structure Ck where
  now : Nat
  l : List TmP
structure Ck.Ok (c : Ck) : Prop where
  now : c.now ≤ 2147483647
  sorted : c.l.Pairwise (fun a b => aheadB a b = true)
  names : (c.l.map Prod.fst).Nodup
  few : c.l.length ≤ 1024
  at' : ∀ t ∈ c.l, (c.now : Int) < t.2 ∧ t.2 ≤ 2147483647
  ok : ∀ t ∈ c.l, nmOk t.1
def newC : Ck := ⟨0, []⟩
theorem newC_ok : newC.Ok := ⟨by decide, List.Pairwise.nil, List.nodup_nil, by decide, by simp [newC], by simp [newC]⟩
def Ck.has (c : Ck) (n : NmP) : Bool := c.l.any (fun t => decide (t.1 = n))
def Ck.atOf (c : Ck) (n : NmP) : Int := ((c.l.find? (fun t => decide (t.1 = n))).map Prod.snd).getD 0
def stopD (c : Ck) (n : NmP) : Ck := ⟨c.now, c.l.filter (fun t => decide (t.1 ≠ n))⟩
def insT (t : TmP) (l : List TmP) : List TmP := l.takeWhile (fun x => aheadB x t) ++ t :: l.dropWhile (fun x => aheadB x t)
def setA (c : Ck) (n : NmP) (after : Int) : Int := if after = 0 then 1 else if 2147483647 < (c.now : Int) + after then 17 else if c.has n = false ∧ 1024 ≤ c.l.length then 5 else 0
def setD (c : Ck) (n : NmP) (after : Int) : Ck := if setA c n after = 0 then ⟨c.now, insT (n, (c.now : Int) + after) (stopD c n).l⟩ else c
def ringB (c : Ck) (t : TmP) : Bool := decide (t.2 = (c.now : Int) + 1)
def tickA (c : Ck) : Int := if 2147483647 ≤ c.now then 17 else 0
def tickL (c : Ck) : List NmP := if 2147483647 ≤ c.now then [] else (c.l.takeWhile (ringB c)).map Prod.fst
def tickD (c : Ck) : Ck := if 2147483647 ≤ c.now then c else ⟨c.now + 1, c.l.dropWhile (ringB c)⟩
def Ck.nextN (c : Ck) : NmP := match c.l with | [] => nilN | t :: _ => t.1
def Ck.nextT (c : Ck) : Int := match c.l with | [] => 0 | t :: _ => t.2
def Ck.any (c : Ck) : Bool := decide (0 < c.l.length)
theorem has_iff (c : Ck) (n : NmP) : c.has n = true ↔ ∃ x, (n, x) ∈ c.l := by
  unfold Ck.has
  rw [List.any_eq_true]
  constructor
  · rintro ⟨t, ht, e⟩
    have e2 : t.1 = n := by simpa using e
    exact ⟨t.2, by rw [← e2]; exact ht⟩
  · rintro ⟨x, hx⟩
    exact ⟨_, hx, by simp⟩
theorem has_names (c : Ck) (n : NmP) : c.has n = true ↔ n ∈ c.l.map Prod.fst := by
  rw [has_iff]
  constructor
  · rintro ⟨x, hx⟩; exact List.mem_map.2 ⟨_, hx, rfl⟩
  · intro h
    obtain ⟨t, ht, rfl⟩ := List.mem_map.1 h
    exact ⟨t.2, ht⟩
/-- A name has one timer. -/
theorem one_name {c : Ck} (h : c.Ok) {a b : TmP} (ha : a ∈ c.l) (hb : b ∈ c.l) (e : a.1 = b.1) : a = b := by
  have hn := h.names
  clear h
  revert ha hb hn
  induction c.l with
  | nil => intro ha; cases ha
  | cons t l ih =>
    intro ha hb hn
    rw [List.map_cons, List.nodup_cons] at hn
    rcases List.mem_cons.1 ha with ha1 | ha1
    · rcases List.mem_cons.1 hb with hb1 | hb1
      · rw [ha1, hb1]
      · exact absurd (List.mem_map.2 ⟨b, hb1, by rw [← e, ha1]⟩) hn.1
    · rcases List.mem_cons.1 hb with hb1 | hb1
      · exact absurd (List.mem_map.2 ⟨a, ha1, by rw [e, hb1]⟩) hn.1
      · exact ih ha1 hb1 hn.2
theorem atOf_mem {c : Ck} (h : c.Ok) {n : NmP} {x : Int} (hx : (n, x) ∈ c.l) : c.atOf n = x := by
  unfold Ck.atOf
  cases hf : c.l.find? (fun t => decide (t.1 = n)) with
  | none =>
    have := List.find?_eq_none.1 hf _ hx
    simp at this
  | some t =>
    have h1 := List.find?_some hf
    have h2 := List.mem_of_find?_eq_some hf
    have e : t.1 = n := by simpa using h1
    have := one_name h h2 hx e
    rw [this]
    rfl
theorem atOf_none {c : Ck} {n : NmP} (h : c.has n = false) : c.atOf n = 0 := by
  unfold Ck.atOf
  have : c.l.find? (fun t => decide (t.1 = n)) = none := by
    rw [List.find?_eq_none]
    intro t ht e
    unfold Ck.has at h
    rw [List.any_eq_false] at h
    exact h t ht e
  rw [this]
  rfl
theorem mem_stop (c : Ck) (n : NmP) (t : TmP) : t ∈ (stopD c n).l ↔ t ∈ c.l ∧ t.1 ≠ n := by
  unfold stopD
  rw [List.mem_filter]
  simp
theorem mem_ins (t x : TmP) (l : List TmP) : x ∈ insT t l ↔ x = t ∨ x ∈ l := by
  unfold insT
  rw [List.mem_append, List.mem_cons]
  have h : x ∈ l ↔ x ∈ l.takeWhile (fun x => aheadB x t) ∨ x ∈ l.dropWhile (fun x => aheadB x t) := by
    rw [← List.mem_append, List.takeWhile_append_dropWhile]
  rw [h]
  constructor
  · rintro (h | h | h)
    · exact .inr (.inl h)
    · exact .inl h
    · exact .inr (.inr h)
  · rintro (h | h | h)
    · exact .inr (.inl h)
    · exact .inl h
    · exact .inr (.inr h)
theorem ins_len (t : TmP) (l : List TmP) : (insT t l).length = l.length + 1 := by
  unfold insT
  have := congrArg List.length (List.takeWhile_append_dropWhile (p := fun x => aheadB x t) (l := l))
  rw [List.length_append] at this
  rw [List.length_append, List.length_cons]
  omega
theorem mem_takeW {p : TmP → Bool} : ∀ {l : List TmP} {x : TmP}, x ∈ l.takeWhile p → p x = true ∧ x ∈ l
  | [], x, h => by simp at h
  | a :: l, x, h => by
    rw [List.takeWhile_cons] at h
    split at h
    · rename_i hp
      rcases List.mem_cons.1 h with rfl | h
      · exact ⟨hp, List.mem_cons_self⟩
      · have := mem_takeW h
        exact ⟨this.1, List.mem_cons_of_mem _ this.2⟩
    · cases h
theorem dropW_sub {p : TmP → Bool} (l : List TmP) : (l.dropWhile p).Sublist l := List.dropWhile_sublist p
/-- Behind the first that does not come ahead none does. -/
theorem dropW_after {t : TmP} : ∀ {l : List TmP}, l.Pairwise (fun a b => aheadB a b = true) → (∀ x ∈ l, x ≠ t) → ∀ x ∈ l.dropWhile (fun x => aheadB x t), aheadB t x = true
  | [], _, _, x, h => by simp at h
  | a :: l, hs, hne, x, h => by
    rw [List.pairwise_cons] at hs
    rw [List.dropWhile_cons] at h
    split at h
    · exact dropW_after hs.2 (fun y hy => hne y (List.mem_cons_of_mem _ hy)) x h
    · rename_i hp
      have hta : aheadB t a = true := ahead_not (by simpa using hp) (hne a List.mem_cons_self)
      rcases List.mem_cons.1 h with rfl | h
      · exact hta
      · exact ahead_trans hta (hs.1 x h)
theorem ins_sorted {t : TmP} {l : List TmP} (hs : l.Pairwise (fun a b => aheadB a b = true)) (hne : ∀ x ∈ l, x ≠ t) : (insT t l).Pairwise (fun a b => aheadB a b = true) := by
  have hsub1 : (l.takeWhile (fun x => aheadB x t)).Sublist l := List.takeWhile_sublist _
  have hd := dropW_after hs hne
  unfold insT
  rw [List.pairwise_append, List.pairwise_cons]
  refine ⟨hs.sublist hsub1, ⟨hd, hs.sublist (dropW_sub l)⟩, fun a ha b hb => ?_⟩
  have ha' := (mem_takeW ha).1
  rcases List.mem_cons.1 hb with rfl | hb
  · exact ha'
  · exact ahead_trans ha' (hd b hb)
theorem stopD_ok {c : Ck} (h : c.Ok) (n : NmP) : (stopD c n).Ok := by
  have hsub : ((stopD c n).l).Sublist c.l := List.filter_sublist
  exact ⟨h.now, h.sorted.sublist hsub, h.names.sublist (hsub.map _), Nat.le_trans hsub.length_le h.few, fun t ht => h.at' t (hsub.subset ht), fun t ht => h.ok t (hsub.subset ht)⟩
theorem ins_names {t : TmP} {l : List TmP} (h : (l.map Prod.fst).Nodup) (hn : t.1 ∉ l.map Prod.fst) : ((insT t l).map Prod.fst).Nodup := by
  have hp : (insT t l).Perm (t :: l) := by
    unfold insT
    refine List.perm_middle.trans ?_
    rw [List.takeWhile_append_dropWhile]
  have := (hp.map Prod.fst).nodup_iff
  rw [this, List.map_cons, List.nodup_cons]
  exact ⟨hn, h⟩
/-- One more where the name was not there. -/
theorem stop_len {c : Ck} (h : c.Ok) (n : NmP) : (stopD c n).l.length + (if c.has n then 1 else 0) = c.l.length := by
  have hn := h.names
  unfold stopD Ck.has
  simp only
  clear h
  revert hn
  induction c.l with
  | nil => intro _; simp
  | cons t l ih =>
    intro hn
    rw [List.map_cons, List.nodup_cons] at hn
    have ih := ih hn.2
    rw [List.filter_cons, List.any_cons]
    by_cases e : t.1 = n
    · have hno : l.any (fun t => decide (t.1 = n)) = false := by
        rw [List.any_eq_false]
        intro x hx hxe
        exact hn.1 (List.mem_map.2 ⟨x, hx, by rw [e]; simpa using hxe⟩)
      rw [hno] at ih
      simp [e] at ih ⊢
      omega
    · simp [e] at ih ⊢
      split at ih <;> simp_all <;> omega
theorem setD_ok {c : Ck} (h : c.Ok) {n : NmP} (hn : nmOk n) {after : Int} (ha : 0 ≤ after) : (setD c n after).Ok := by
  unfold setD
  split
  · rename_i hA
    have hs := stopD_ok h n
    have hln := stop_len h n
    have hnn : ∀ x ∈ (stopD c n).l, x.1 ≠ n := fun x hx => ((mem_stop c n x).1 hx).2
    have h2 : 0 < after ∧ (c.now : Int) + after ≤ 2147483647 ∧ (c.has n = false → c.l.length < 1024) := by
      unfold setA at hA
      split at hA
      · cases hA
      split at hA
      · cases hA
      split at hA
      · cases hA
      · rename_i h1 h2 h3
        refine ⟨by omega, by omega, fun hf => ?_⟩
        rcases Nat.lt_or_ge c.l.length 1024 with h | h
        · exact h
        · exact absurd ⟨hf, h⟩ h3
    refine ⟨h.now, ins_sorted hs.sorted (fun x hx e => hnn x hx (by rw [e])), ins_names hs.names (fun hm => ?_), ?_, fun t ht => ?_, fun t ht => ?_⟩
    · obtain ⟨x, hx, e⟩ := List.mem_map.1 hm
      exact hnn x hx e
    · show (insT _ _).length ≤ 1024
      rw [ins_len]
      have := h.few
      cases hh : c.has n
      · rw [hh] at hln
        have := h2.2.2 hh
        simp at hln
        omega
      · rw [hh] at hln
        simp at hln
        omega
    · rcases (mem_ins _ _ _).1 ht with rfl | ht
      · show (c.now : Int) < (c.now : Int) + after ∧ (c.now : Int) + after ≤ 2147483647
        omega
      · exact hs.at' t ht
    · rcases (mem_ins _ _ _).1 ht with rfl | ht
      · exact hn
      · exact hs.ok t ht
  · exact h
/-- Which are left of a sorted row whose times are from the next one on. -/
theorem mem_dropR {c : Ck} {l : List TmP} (hs : l.Pairwise (fun a b => aheadB a b = true)) (hat : ∀ t ∈ l, (c.now : Int) < t.2) (x : TmP) : x ∈ l.dropWhile (ringB c) ↔ x ∈ l ∧ x.2 ≠ (c.now : Int) + 1 := by
  induction l with
  | nil => simp
  | cons a l ih =>
    rw [List.pairwise_cons] at hs
    rw [List.dropWhile_cons]
    have ha := hat a List.mem_cons_self
    split
    · rename_i hr
      have hr' : a.2 = (c.now : Int) + 1 := by simpa [ringB] using hr
      rw [ih hs.2 (fun t ht => hat t (List.mem_cons_of_mem _ ht)), List.mem_cons]
      constructor
      · rintro ⟨h1, h2⟩; exact ⟨.inr h1, h2⟩
      · rintro ⟨rfl | h1, h2⟩
        · exact absurd hr' h2
        · exact ⟨h1, h2⟩
    · rename_i hr
      have hr' : a.2 ≠ (c.now : Int) + 1 := by simpa [ringB] using hr
      constructor
      · intro h
        refine ⟨h, ?_⟩
        rcases List.mem_cons.1 h with rfl | h
        · exact hr'
        · have := ahead_time (hs.1 x h)
          omega
      · exact fun h => h.1
theorem mem_takeR {c : Ck} {l : List TmP} (hs : l.Pairwise (fun a b => aheadB a b = true)) (hat : ∀ t ∈ l, (c.now : Int) < t.2) (x : TmP) : x ∈ l.takeWhile (ringB c) ↔ x ∈ l ∧ x.2 = (c.now : Int) + 1 := by
  induction l with
  | nil => simp
  | cons a l ih =>
    rw [List.pairwise_cons] at hs
    rw [List.takeWhile_cons]
    have ha := hat a List.mem_cons_self
    split
    · rename_i hr
      have hr' : a.2 = (c.now : Int) + 1 := by simpa [ringB] using hr
      rw [List.mem_cons, ih hs.2 (fun t ht => hat t (List.mem_cons_of_mem _ ht)), List.mem_cons]
      constructor
      · rintro (rfl | h)
        · exact ⟨.inl rfl, hr'⟩
        · exact ⟨.inr h.1, h.2⟩
      · rintro ⟨rfl | h1, h2⟩
        · exact .inl rfl
        · exact .inr ⟨h1, h2⟩
    · rename_i hr
      have hr' : a.2 ≠ (c.now : Int) + 1 := by simpa [ringB] using hr
      constructor
      · intro h; cases h
      · rintro ⟨h, h2⟩
        rcases List.mem_cons.1 h with rfl | h
        · exact absurd h2 hr'
        · have := ahead_time (hs.1 x h)
          omega
theorem tickD_ok {c : Ck} (h : c.Ok) : (tickD c).Ok := by
  unfold tickD
  split
  · exact h
  · have hsub := dropW_sub (p := ringB c) c.l
    have hn := h.now
    refine ⟨by show c.now + 1 ≤ 2147483647; omega, h.sorted.sublist hsub, h.names.sublist (hsub.map _), Nat.le_trans hsub.length_le h.few, fun t ht => ?_, fun t ht => h.ok t (hsub.subset ht)⟩
    have h1 := (mem_dropR h.sorted (fun t ht => (h.at' t ht).1) t).1 ht
    have h2 := h.at' t h1.1
    refine ⟨?_, h2.2⟩
    show ((c.now + 1 : Nat) : Int) < t.2
    omega
theorem tickL_ok {c : Ck} (h : c.Ok) : ∀ n ∈ tickL c, nmOk n := by
  unfold tickL
  split
  · simp
  · intro n hn
    obtain ⟨t, ht, rfl⟩ := List.mem_map.1 hn
    exact h.ok t (mem_takeW ht).2
theorem tickL_len (c : Ck) : (tickL c).length ≤ c.l.length := by
  unfold tickL
  split
  · simp
  · rw [List.length_map]
    exact (List.takeWhile_sublist (ringB c)).length_le
/-- What rings, and how often. -/
theorem tick_count {c : Ck} (h : c.Ok) (hnow : c.now < 2147483647) (n : NmP) : (tickL c).count n = if c.has n ∧ c.atOf n = (c.now : Int) + 1 then 1 else 0 := by
  unfold tickL
  rw [if_neg (by omega)]
  have hsub : (c.l.takeWhile (ringB c)).Sublist c.l := List.takeWhile_sublist _
  have hnd : ((c.l.takeWhile (ringB c)).map Prod.fst).Nodup := h.names.sublist (hsub.map _)
  have hm : n ∈ (c.l.takeWhile (ringB c)).map Prod.fst ↔ c.has n ∧ c.atOf n = (c.now : Int) + 1 := by
    rw [List.mem_map, has_iff]
    constructor
    · rintro ⟨t, ht, rfl⟩
      have h1 := (mem_takeR h.sorted (fun t ht => (h.at' t ht).1) t).1 ht
      exact ⟨⟨t.2, h1.1⟩, by rw [atOf_mem h (x := t.2) h1.1]; exact h1.2⟩
    · rintro ⟨⟨x, hx⟩, e⟩
      rw [atOf_mem h hx] at e
      exact ⟨_, (mem_takeR h.sorted (fun t ht => (h.at' t ht).1) _).2 ⟨hx, e⟩, rfl⟩
  split
  · rename_i hh
    rw [List.Nodup.count hnd, if_pos (hm.2 hh)]
  · rename_i hh
    exact List.count_eq_zero.2 (fun h1 => hh (hm.1 h1))
/-- A name's timer behind a call. -/
theorem mem_set {c : Ck} {n : NmP} {after : Int} (hA : setA c n after = 0) (t : TmP) : t ∈ (setD c n after).l ↔ t = (n, (c.now : Int) + after) ∨ (t ∈ c.l ∧ t.1 ≠ n) := by
  unfold setD
  rw [if_pos hA]
  show t ∈ insT _ _ ↔ _
  rw [mem_ins, mem_stop]
theorem mem_tick {c : Ck} (h : c.Ok) (hnow : c.now < 2147483647) (t : TmP) : t ∈ (tickD c).l ↔ t ∈ c.l ∧ t.2 ≠ (c.now : Int) + 1 := by
  unfold tickD
  rw [if_neg (by omega)]
  exact mem_dropR h.sorted (fun t ht => (h.at' t ht).1) t
theorem set_now (c : Ck) (n : NmP) (after : Int) : (setD c n after).now = c.now := by unfold setD; split <;> rfl
theorem tick_now {c : Ck} (hnow : c.now < 2147483647) : (tickD c).now = c.now + 1 := by unfold tickD; rw [if_neg (by omega)]
theorem set_len {c : Ck} (h : c.Ok) (n : NmP) (after : Int) : (setD c n after).l.length ≤ c.l.length + 1 := by
  unfold setD
  split
  · show (insT _ _).length ≤ _
    rw [ins_len]
    have := stop_len h n
    omega
  · omega
theorem set_len_yes {c : Ck} (h : c.Ok) {n : NmP} {after : Int} (hA : setA c n after = 0) : (setD c n after).l.length = c.l.length + (if c.has n then 0 else 1) := by
  unfold setD
  rw [if_pos hA]
  show (insT _ _).length = _
  rw [ins_len]
  have := stop_len h n
  split at this <;> simp_all <;> omega
theorem tick_len (c : Ck) : (tickD c).l.length ≤ c.l.length := by
  unfold tickD
  split
  · exact Nat.le_refl _
  · exact (dropW_sub c.l).length_le
end Go.Proofs.Ytgjdlclkibiffaa
