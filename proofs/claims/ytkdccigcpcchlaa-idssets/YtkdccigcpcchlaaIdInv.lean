/-
  The program's set (a map) and the reference's (a rising row) hold the same names: plain facts. Own work.
-/
import Derived.Test.YtkdccigcpcchlaaIdSort
import Derived.Test.YtkdccigcpcchlaaIdRAdd
namespace Go.Proofs.Ytkdccigcpcchlaa
open Go.RowKit Go.Maps

def ltP (t : TxP) : TxP → Bool := fun u => decide (txsF u t < 0)
theorem place_split (L : List TxP) (t : TxP) : L.take (placeF L t) = L.takeWhile (ltP t) ∧ L.drop (placeF L t) = L.dropWhile (ltP t) := by
  have e : L.takeWhile (ltP t) ++ L.dropWhile (ltP t) = L := List.takeWhile_append_dropWhile
  have hp : placeF L t = (L.takeWhile (ltP t)).length := rfl
  rw [hp]
  generalize L.takeWhile (ltP t) = A at e ⊢
  generalize L.dropWhile (ltP t) = R at e ⊢
  subst e
  simp
theorem tw_lt (L : List TxP) (t u : TxP) (h : u ∈ L.takeWhile (ltP t)) : txsF u t < 0 := by
  have := List.all_takeWhile (l := L) (p := ltP t)
  rw [List.all_eq_true] at this
  simpa [ltP] using this u h
theorem dw_head (L : List TxP) (t u : TxP) (r : List TxP) (h : L.dropWhile (ltP t) = u :: r) : ¬ txsF u t < 0 := by
  have := List.head_dropWhile_not (l := L) (ltP t) (by rw [h]; simp)
  simp only [h, List.head_cons] at this
  simpa [ltP] using this
theorem txs_lt_trans {a b c : TxP} (h1 : txsF a b < 0) (h2 : txsF b c < 0) : txsF a c < 0 := by
  have := txsSWO.trans a b c (by simpa [ltOf] using h1) (by simpa [ltOf] using h2)
  simpa [ltOf] using this
theorem place_get (L : List TxP) (t : TxP) : L[placeF L t]? = (L.dropWhile (ltP t))[0]? := by
  rw [← (place_split L t).2]
  simp
theorem found_iff (L : List TxP) (t : TxP) (hL : Rising L) : foundF L t = true ↔ t ∈ L := by
  unfold foundF
  simp only [decide_eq_true_eq]
  constructor
  · exact fun h => List.mem_of_getElem? h
  · intro h
    rw [place_get]
    have e : L.takeWhile (ltP t) ++ L.dropWhile (ltP t) = L := List.takeWhile_append_dropWhile
    rw [← e] at h
    rcases List.mem_append.1 h with h | h
    · have := tw_lt L t t h
      rw [txsF_self] at this
      omega
    · have hL2 : Rising (L.dropWhile (ltP t)) := List.Pairwise.sublist (List.dropWhile_sublist _) hL
      cases hd : L.dropWhile (ltP t) with
      | nil => rw [hd] at h; cases h
      | cons u r =>
        rw [hd] at h hL2
        have h1 := dw_head L t u r hd
        rcases List.mem_cons.1 h with h | h
        · subst h; rfl
        · exact absurd ((List.pairwise_cons.1 hL2).1 t h) h1
theorem ins_mem (L : List TxP) (t u : TxP) : u ∈ insF L t ↔ u = t ∨ u ∈ L := by
  unfold insF
  have e : u ∈ L ↔ u ∈ L.take (placeF L t) ∨ u ∈ L.drop (placeF L t) := by rw [← List.mem_append, List.take_append_drop]
  rw [e]
  simp only [List.mem_append, List.mem_singleton]
  constructor
  · rintro ((h | h) | h)
    · exact .inr (.inl h)
    · exact .inl h
    · exact .inr (.inr h)
  · rintro (h | h | h)
    · exact .inl (.inr h)
    · exact .inl (.inl h)
    · exact .inr h
theorem ins_rising (L : List TxP) (t : TxP) (hL : Rising L) (hf : foundF L t = false) : Rising (insF L t) := by
  have hnot : t ∉ L := fun h => by rw [(found_iff L t hL).2 h] at hf; cases hf
  unfold insF
  rw [(place_split L t).1, (place_split L t).2]
  have e : L.takeWhile (ltP t) ++ L.dropWhile (ltP t) = L := List.takeWhile_append_dropWhile
  have h0 := hL
  rw [← e] at h0
  obtain ⟨hA, hR, hAR⟩ := List.pairwise_append.1 h0
  have hdw : ∀ b ∈ L.dropWhile (ltP t), txsF t b < 0 := by
    intro b hb
    cases hd : L.dropWhile (ltP t) with
    | nil => rw [hd] at hb; cases hb
    | cons u r =>
      have h1 := dw_head L t u r hd
      have hu : u ∈ L := by rw [← e, hd]; simp
      have hne : u ≠ t := fun h => hnot (h ▸ hu)
      have h2 : txsF t u < 0 := by
        have h3 := txsF_neg u t
        have h4 : txsF u t ≠ 0 := fun h => hne ((txsF_zero u t).1 h)
        omega
      rw [hd] at hb hR
      rcases List.mem_cons.1 hb with h | h
      · subst h; exact h2
      · exact txs_lt_trans h2 ((List.pairwise_cons.1 hR).1 b h)
  refine List.pairwise_append.2 ⟨List.pairwise_append.2 ⟨hA, List.pairwise_singleton _ _, fun a ha b hb => ?_⟩, hR, fun a ha b hb => ?_⟩
  · simp at hb; subst hb; exact tw_lt L b a ha
  · rcases List.mem_append.1 ha with ha | ha
    · exact hAR a ha b hb
    · simp at ha; subst ha; exact hdw b hb
theorem cut_rising (L : List TxP) (t : TxP) (hL : Rising L) : Rising (cutF L t) := by
  unfold cutF
  refine List.Pairwise.sublist ?_ hL
  have : (L.take (placeF L t) ++ L.drop (placeF L t + 1)).Sublist (L.take (placeF L t) ++ L.drop (placeF L t)) := List.Sublist.append (List.Sublist.refl _) (by rw [← List.drop_drop]; exact List.drop_sublist _ _)
  rwa [List.take_append_drop] at this
theorem cut_mem (L : List TxP) (t u : TxP) (hL : Rising L) (hf : foundF L t = true) : u ∈ cutF L t ↔ u ≠ t ∧ u ∈ L := by
  unfold foundF at hf
  simp only [decide_eq_true_eq] at hf
  unfold cutF
  generalize placeF L t = i at *
  obtain ⟨hi, he⟩ := List.getElem?_eq_some_iff.1 hf
  have e : L.take i ++ t :: L.drop (i + 1) = L := by
    rw [← he, List.getElem_cons_drop, List.take_append_drop]
  have hn := hL.nodup
  rw [← e] at hn
  obtain ⟨_, h2, h3⟩ := List.nodup_append.1 hn
  have h4 := (List.nodup_cons.1 h2).1
  have hmem : u ∈ L ↔ u ∈ L.take i ∨ u = t ∨ u ∈ L.drop (i + 1) := by
    conv => lhs; rw [← e]
    simp
  rw [hmem, List.mem_append]
  constructor
  · rintro (h | h)
    · exact ⟨fun e => h3 u h t (by simp) e, .inl h⟩
    · exact ⟨fun e => h4 (e ▸ h), .inr (.inr h)⟩
  · rintro ⟨h1, h | h | h⟩
    · exact .inl h
    · exact absurd h h1
    · exact .inr h
/-- The map and the row hold the same names. -/
structure Alike (D : DataW Unit) (L : List TxP) : Prop where
  rising : Rising L
  ok : ∀ t ∈ L, txOk t
  mem : ∀ t, txOk t → (t ∈ L ↔ has D (txKey t) = true)
  map : IsMap D
theorem Alike.start : Alike (.map []) [] := ⟨List.Pairwise.nil, by simp, fun t _ => by simp [has_eq], isMap_empty⟩
theorem Alike.found {D : DataW Unit} {L : List TxP} (h : Alike D L) (t : TxP) (ht : txOk t) : foundF L t = has D (txKey t) := by
  have h1 := found_iff L t h.rising
  have h2 := h.mem t ht
  rw [Bool.eq_iff_iff, h1, h2]
theorem txKey_lit (t : TxP) : WideAt.IsKeyLit (txKey t) := by unfold txKey; trivial
theorem Alike.add {D : DataW Unit} {L : List TxP} (h : Alike D L) (t : TxP) (ht : txOk t) (hf : foundF L t = false) : Alike (addD D t) (insF L t) := by
  have hn : has D (txKey t) = false := by rw [← h.found t ht]; exact hf
  have e : addD D t = D.put (txKey t) (.agg []) := by unfold addD; rw [hn]; rfl
  rw [e]
  refine ⟨ins_rising L t h.rising hf, fun u hu => ?_, fun u hu => ?_, h.map.put _ _⟩
  · rcases (ins_mem L t u).1 hu with h1 | h1
    · rw [h1]; exact ht
    · exact h.ok u h1
  · rw [ins_mem]
    by_cases hut : u = t
    · subst hut
      simp [has_put_same h.map (txKey_lit u)]
    · rw [has_put_other (fun e => hut (txKey_inj hu ht e)), ← h.mem u hu]
      simp [hut]
theorem Alike.add_old {D : DataW Unit} {L : List TxP} (h : Alike D L) (t : TxP) (ht : txOk t) (hf : foundF L t = true) : Alike (addD D t) L := by
  have hn : has D (txKey t) = true := by rw [← h.found t ht]; exact hf
  have e : addD D t = D := by unfold addD; rw [hn]; rfl
  rw [e]
  exact h
theorem Alike.cut {D : DataW Unit} {L : List TxP} (h : Alike D L) (t : TxP) (ht : txOk t) (hf : foundF L t = true) : Alike (D.del (txKey t)) (cutF L t) := by
  refine ⟨cut_rising L t h.rising, fun u hu => h.ok u ((cut_mem L t u h.rising hf).1 hu).2, fun u hu => ?_, h.map.del _⟩
  rw [cut_mem L t u h.rising hf]
  by_cases hut : u = t
  · subst hut
    simp [has_del_same]
  · rw [has_del_other (fun e => hut (txKey_inj hu ht e)), ← h.mem u hu]
    simp [hut]
theorem Alike.cut_no {D : DataW Unit} {L : List TxP} (h : Alike D L) (t : TxP) (ht : txOk t) (hf : foundF L t = false) : Alike (D.del (txKey t)) L := by
  have hn : has D (txKey t) = false := by rw [← h.found t ht]; exact hf
  rw [del_of_not_has hn]
  exact h
theorem Alike.sorts {D : DataW Unit} {L ss : List TxP} (h : Alike D L) (hn : NamesOf D ss) : sortT ss = L := by
  refine sortT_unique ss L hn.1 h.rising (fun t => ?_)
  constructor
  · intro ht
    have hok := h.ok t ht
    exact (hn.2.2 t hok).2 ((h.mem t hok).1 ht)
  · intro ht
    have hok := hn.2.1 t ht
    exact (h.mem t hok).2 ((hn.2.2 t hok).1 ht)
theorem ins_length (L : List TxP) (t : TxP) : (insF L t).length = L.length + 1 := by
  unfold insF
  have := placeF_le L t
  simp
  omega
theorem cut_length (L : List TxP) (t : TxP) : (cutF L t).length ≤ L.length := by
  unfold cutF
  simp
  omega
end Go.Proofs.Ytkdccigcpcchlaa
