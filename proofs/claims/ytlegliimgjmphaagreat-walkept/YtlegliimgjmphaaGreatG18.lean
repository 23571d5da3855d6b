/-
  Own texts put together: CFields. Own work.
-/
import Derived.Test.YtlegliimgjmphaaGreatG17
import Derived.Deep.RegionHeld
namespace Go.Proofs.YtlegliimgjmphaaGreat
section
open Go.RowKit
theorem make_fn (fn : Fn) (first cap : Array Value) (w : World) : (Instr.makeFunc fn first cap).run Tryz.prog w = .ok (.func fn first cap) w := rfl
def fieldS {α : Type} (zero : α) (R : List Int → α × Int × Int) (r : RS) : α × RS :=
 if r.why ≠ 0 then (zero, r) else if (R r.bs).2.2 ≠ 0 then (zero, r.fail (R r.bs).2.2) else ((R r.bs).1, r.go (R r.bs).2.1.toNat)
def Sized {α : Type} (R : List Int → α × Int × Int) (bs : List Int) : Prop := (R bs).2.2 = 0 → ∃ k : Nat, (R bs).2.1 = (k : Int) ∧ k ≤ bs.length
theorem CR.lies {w : World} {p : Nat} {vb : Value} {all : List Int} {r : RS} (h : CR w p vb all r) : ∃ ao cap av cv, vb = .slice ao all.length cap ∧ (∀ w', (Instr.sliceAt 29 (.slice ao all.length cap) (some (.int .i64 (r.went : Nat))) none none).run Tryz.prog w' = .ok (.slice av (all.length - r.went) cv) w') ∧
  ∀ w', CR w' p vb all r → Lies .u8 w' (.slice av (all.length - r.went) cv) r.bs := by
 obtain ⟨ao, cap, e⟩ := (Lies.of_own h.own).shape
 refine ⟨ao, cap, _, _, e, fun w' => run_from w' ao all.length cap r.went h.le, fun w' h' => ?_⟩
 have := Lies.of_own h'.own
 rw [e] at this
 rw [h.bs]
 exact this.drop h.le
theorem CR.byte' {w : World} {p : Nat} {vb : Value} {all : List Int} {r : RS} (h : CR w p vb all r) : ∀ c ∈ r.bs, 0 ≤ c ∧ c < 256 := by
 rw [h.bs]
 exact fun c hc => h.byte c (List.mem_of_mem_drop hc)
set_option maxRecDepth 100000 in
set_option maxHeartbeats 1600000 in
theorem field_num (p : Nat) (vb : Value) (all : List Int) (r : RS) (w : World) (h : CR w p vb all r) (most : Nat) (hS : Sized (numR most) r.bs) :
  Calls Tryz.prog 231 #[.pointer (some ⟨p, 0, none⟩), .func (.func 232) #[.agg #[.int .u64 most]] #[]] w fun e w' => e = .returned (.int .u64 (fieldS 0 (numR most) r).1) ∧ CR w' p vb all (fieldS 0 (numR most) r).2 ∧ KeepBut (fun k => k = p) w w' := by
 have hfl := fld_why
 have hmf := make_fn
 have C := hide (fault_any p vb all r w h)
 have HH := hide h
 obtain ⟨ao, cap, av, cv, rfl, hsl, hLL⟩ := h.lies
 have HLL := hide hLL
 have hle := h.le
 have hroom := h.room
 have HN := hide h.len
 have HX := hide h.byte'
 clear hLL h
 have CB := hide (fun w' (h' : CR w' p (.slice ao all.length cap) all r) => nread_any most _ r.bs w' (HLL.out w' h') HX.out)
 unfold fieldS
 by_cases hw : r.why = 0
 ·rw [if_neg (by simp [hw])]
  rw [hw] at C
  unfold Sized at hS
  obtain ⟨V, hV⟩ : ∃ V, (numR most r.bs).1 = V := ⟨_, rfl⟩
  obtain ⟨K, hK⟩ : ∃ K, (numR most r.bs).2.1 = K := ⟨_, rfl⟩
  obtain ⟨E, hE⟩ : ∃ E, (numR most r.bs).2.2 = E := ⟨_, rfl⟩
  rw [hV, hK, hE] at CB
  rw [hK, hE] at hS
  rw [hV, hK, hE]
  clear hV hK hE HX HLL
  by_cases hE0 : E = 0
  ·obtain ⟨k, rfl, hk⟩ := hS hE0
   subst hE0
   rw [if_neg (by simp), Int.toNat_natCast]
   have HKL := hide hk
   rw [HN.out] at hk
   clear hS
   go_enter Tryz.func231, Tryz.ntmps231
   go_wp2_with fail
   refine C.out.mono ?_
   rintro e w1 ⟨rfl, hB⟩
   have HB := hide ((KeepBut.of_below (fun k => k = p) hB).drew)
   have h1 := HH.out.below hB
   have m0 := h1.box.cell 0 _ rfl
   have m1 := h1.box.cell 1 _ rfl
   have H1 := hide (h1.below (Below.refl _ _).drew)
   clear h1 hB C HH
   go_wp2_with fail
   go_region_held (fun w' => w'.cell? ⟨p, 0, none⟩ = some (.slice ao all.length cap) ∧ w'.cell? ⟨p, 1, none⟩ = some (.int .i64 (r.went : Nat))) (go_keep) ((go_at_call 232; refine (CB.out _ H1.out).mono ?_; rintro e w2 ⟨rfl, hB2⟩; have HB2 := hide hB2; have h2 := H1.out.below hB2; have n0 := h2.box.cell 0 _ rfl; have n1 := h2.box.cell 1 _ rfl; have g1 := h2.box.frozen 1; have H2 := hide h2; clear h2 hB2))
   go_wp2_with fail
   go_ret
   have HG := H2.out.gone k HKL.out
   rw [Int.natCast_add] at HG
   exact ⟨rfl, HG.1, (HB.out.trans (KeepBut.of_below (fun k => k = p) HB2.out) (fun _ _ h => h)).trans HG.2 (fun _ _ h => h)⟩
  ·rw [if_pos hE0]
   have hEb : (E != 0) = true := by simpa using hE0
   clear hS hE0
   go_enter Tryz.func231, Tryz.ntmps231
   go_wp2_with fail
   refine C.out.mono ?_
   rintro e w1 ⟨rfl, hB⟩
   have HB := hide ((KeepBut.of_below (fun k => k = p) hB).drew)
   have h1 := HH.out.below hB
   have m0 := h1.box.cell 0 _ rfl
   have m1 := h1.box.cell 1 _ rfl
   have H1 := hide (h1.below (Below.refl _ _).drew)
   clear h1 hB C HH
   go_wp2_with fail
   go_region_held (fun w' => w'.cell? ⟨p, 0, none⟩ = some (.slice ao all.length cap) ∧ w'.cell? ⟨p, 1, none⟩ = some (.int .i64 (r.went : Nat))) (go_keep) ((go_at_call 232; refine (CB.out _ H1.out).mono ?_; rintro e w2 ⟨rfl, hB2⟩; have HB2 := hide hB2; have h2 := H1.out.below hB2; have n0 := h2.box.cell 0 _ rfl; have n1 := h2.box.cell 1 _ rfl; have n2 := h2.box.cell 2 _ rfl; have n3 := h2.box.cell 3 _ rfl; have g2 := h2.box.frozen 2; have g3 := h2.box.frozen 3; have H2 := hide h2; clear h2 hB2))
   go_wp2_with fail
   go_ret
   have HG := H2.out.failed E
   exact ⟨rfl, HG.1, (HB.out.trans (KeepBut.of_below (fun k => k = p) HB2.out) (fun _ _ h => h)).trans HG.2 (fun _ _ h => h)⟩
 ·rw [if_pos hw]
  have hn : (r.why != 0) = true := by simpa using hw
  clear CB HLL hS hw
  go_enter Tryz.func231, Tryz.ntmps231
  go_wp2_with fail
  refine C.out.mono ?_
  rintro e w1 ⟨rfl, hB⟩
  have HB := hide hB
  have H1 := hide (HH.out.below hB)
  clear hB C HH
  go_wp2_with fail
  go_ret
  exact ⟨rfl, H1.out, KeepBut.of_below _ HB.out⟩
set_option maxRecDepth 100000 in
set_option maxHeartbeats 1600000 in
theorem field_byte (p : Nat) (vb : Value) (all : List Int) (r : RS) (w : World) (h : CR w p vb all r) (hS : Sized (byteR) r.bs) :
  Calls Tryz.prog 148 #[.pointer (some ⟨p, 0, none⟩), .func (.func 149) #[.agg #[]] #[]] w fun e w' => e = .returned (.int .u8 (fieldS 0 (byteR) r).1) ∧ CR w' p vb all (fieldS 0 (byteR) r).2 ∧ KeepBut (fun k => k = p) w w' := by
 have hfl := fld_why
 have hmf := make_fn
 have C := hide (fault_any p vb all r w h)
 have HH := hide h
 obtain ⟨ao, cap, av, cv, rfl, hsl, hLL⟩ := h.lies
 have HLL := hide hLL
 have hle := h.le
 have hroom := h.room
 have HN := hide h.len
 have HX := hide h.byte'
 clear hLL h
 have CB := hide (fun w' (h' : CR w' p (.slice ao all.length cap) all r) => sread_any _ r.bs w' (HLL.out w' h'))
 unfold fieldS
 by_cases hw : r.why = 0
 ·rw [if_neg (by simp [hw])]
  rw [hw] at C
  unfold Sized at hS
  obtain ⟨V, hV⟩ : ∃ V, (byteR r.bs).1 = V := ⟨_, rfl⟩
  obtain ⟨K, hK⟩ : ∃ K, (byteR r.bs).2.1 = K := ⟨_, rfl⟩
  obtain ⟨E, hE⟩ : ∃ E, (byteR r.bs).2.2 = E := ⟨_, rfl⟩
  rw [hV, hK, hE] at CB
  rw [hK, hE] at hS
  rw [hV, hK, hE]
  clear hV hK hE HX HLL
  by_cases hE0 : E = 0
  ·obtain ⟨k, rfl, hk⟩ := hS hE0
   subst hE0
   rw [if_neg (by simp), Int.toNat_natCast]
   have HKL := hide hk
   rw [HN.out] at hk
   clear hS
   go_enter Tryz.func148, Tryz.ntmps148
   go_wp2_with fail
   refine C.out.mono ?_
   rintro e w1 ⟨rfl, hB⟩
   have HB := hide ((KeepBut.of_below (fun k => k = p) hB).drew)
   have h1 := HH.out.below hB
   have m0 := h1.box.cell 0 _ rfl
   have m1 := h1.box.cell 1 _ rfl
   have H1 := hide (h1.below (Below.refl _ _).drew)
   clear h1 hB C HH
   go_wp2_with fail
   go_region_held (fun w' => w'.cell? ⟨p, 0, none⟩ = some (.slice ao all.length cap) ∧ w'.cell? ⟨p, 1, none⟩ = some (.int .i64 (r.went : Nat))) (go_keep) ((go_at_call 149; refine (CB.out _ H1.out).mono ?_; rintro e w2 ⟨rfl, hB2⟩; have HB2 := hide hB2; have h2 := H1.out.below hB2; have n0 := h2.box.cell 0 _ rfl; have n1 := h2.box.cell 1 _ rfl; have g1 := h2.box.frozen 1; have H2 := hide h2; clear h2 hB2))
   go_wp2_with fail
   go_ret
   have HG := H2.out.gone k HKL.out
   rw [Int.natCast_add] at HG
   exact ⟨rfl, HG.1, (HB.out.trans (KeepBut.of_below (fun k => k = p) HB2.out) (fun _ _ h => h)).trans HG.2 (fun _ _ h => h)⟩
  ·rw [if_pos hE0]
   have hEb : (E != 0) = true := by simpa using hE0
   clear hS hE0
   go_enter Tryz.func148, Tryz.ntmps148
   go_wp2_with fail
   refine C.out.mono ?_
   rintro e w1 ⟨rfl, hB⟩
   have HB := hide ((KeepBut.of_below (fun k => k = p) hB).drew)
   have h1 := HH.out.below hB
   have m0 := h1.box.cell 0 _ rfl
   have m1 := h1.box.cell 1 _ rfl
   have H1 := hide (h1.below (Below.refl _ _).drew)
   clear h1 hB C HH
   go_wp2_with fail
   go_region_held (fun w' => w'.cell? ⟨p, 0, none⟩ = some (.slice ao all.length cap) ∧ w'.cell? ⟨p, 1, none⟩ = some (.int .i64 (r.went : Nat))) (go_keep) ((go_at_call 149; refine (CB.out _ H1.out).mono ?_; rintro e w2 ⟨rfl, hB2⟩; have HB2 := hide hB2; have h2 := H1.out.below hB2; have n0 := h2.box.cell 0 _ rfl; have n1 := h2.box.cell 1 _ rfl; have n2 := h2.box.cell 2 _ rfl; have n3 := h2.box.cell 3 _ rfl; have g2 := h2.box.frozen 2; have g3 := h2.box.frozen 3; have H2 := hide h2; clear h2 hB2))
   go_wp2_with fail
   go_ret
   have HG := H2.out.failed E
   exact ⟨rfl, HG.1, (HB.out.trans (KeepBut.of_below (fun k => k = p) HB2.out) (fun _ _ h => h)).trans HG.2 (fun _ _ h => h)⟩
 ·rw [if_pos hw]
  have hn : (r.why != 0) = true := by simpa using hw
  clear CB HLL hS hw
  go_enter Tryz.func148, Tryz.ntmps148
  go_wp2_with fail
  refine C.out.mono ?_
  rintro e w1 ⟨rfl, hB⟩
  have HB := hide hB
  have H1 := hide (HH.out.below hB)
  clear hB C HH
  go_wp2_with fail
  go_ret
  exact ⟨rfl, H1.out, KeepBut.of_below _ HB.out⟩
set_option maxRecDepth 100000 in
set_option maxHeartbeats 1600000 in
theorem field_text (p : Nat) (vb : Value) (all : List Int) (r : RS) (w : World) (h : CR w p vb all r) (most : Int) (hS : Sized (textR most) r.bs) (hlo : -9223372036854775808 ≤ most) (hhi : most ≤ 9223372036854775807) :
  Calls Tryz.prog 241 #[.pointer (some ⟨p, 0, none⟩), .func (.func 242) #[.agg #[.int .i64 most]] #[]] w fun e w' => e = .returned (.string (strOfNums (fieldS [] (textR most) r).1)) ∧ CR w' p vb all (fieldS [] (textR most) r).2 ∧ KeepBut (fun k => k = p) w w' := by
 have hfl := fld_why
 have hmf := make_fn
 have C := hide (fault_any p vb all r w h)
 have HH := hide h
 obtain ⟨ao, cap, av, cv, rfl, hsl, hLL⟩ := h.lies
 have HLL := hide hLL
 have hle := h.le
 have hroom := h.room
 have HN := hide h.len
 have HX := hide h.byte'
 clear hLL h
 have CB := hide (fun w' (h' : CR w' p (.slice ao all.length cap) all r) => tread_any most _ r.bs w' (HLL.out w' h') HX.out hlo hhi (by rw [HN.out]; omega))
 unfold fieldS
 by_cases hw : r.why = 0
 ·rw [if_neg (by simp [hw])]
  rw [hw] at C
  unfold Sized at hS
  obtain ⟨V, hV⟩ : ∃ V, (textR most r.bs).1 = V := ⟨_, rfl⟩
  obtain ⟨K, hK⟩ : ∃ K, (textR most r.bs).2.1 = K := ⟨_, rfl⟩
  obtain ⟨E, hE⟩ : ∃ E, (textR most r.bs).2.2 = E := ⟨_, rfl⟩
  rw [hV, hK, hE] at CB
  rw [hK, hE] at hS
  rw [hV, hK, hE]
  clear hV hK hE HX HLL
  by_cases hE0 : E = 0
  ·obtain ⟨k, rfl, hk⟩ := hS hE0
   subst hE0
   rw [if_neg (by simp), Int.toNat_natCast]
   have HKL := hide hk
   rw [HN.out] at hk
   clear hS
   go_enter Tryz.func241, Tryz.ntmps241
   go_wp2_with fail
   refine C.out.mono ?_
   rintro e w1 ⟨rfl, hB⟩
   have HB := hide ((KeepBut.of_below (fun k => k = p) hB).drew)
   have h1 := HH.out.below hB
   have m0 := h1.box.cell 0 _ rfl
   have m1 := h1.box.cell 1 _ rfl
   have H1 := hide (h1.below (Below.refl _ _).drew)
   clear h1 hB C HH
   go_wp2_with fail
   go_region_held (fun w' => w'.cell? ⟨p, 0, none⟩ = some (.slice ao all.length cap) ∧ w'.cell? ⟨p, 1, none⟩ = some (.int .i64 (r.went : Nat))) (go_keep) ((go_at_call 242; refine (CB.out _ H1.out).mono ?_; rintro e w2 ⟨rfl, hB2⟩; have HB2 := hide hB2; have h2 := H1.out.below hB2; have n0 := h2.box.cell 0 _ rfl; have n1 := h2.box.cell 1 _ rfl; have g1 := h2.box.frozen 1; have H2 := hide h2; clear h2 hB2))
   go_wp2_with fail
   go_ret
   have HG := H2.out.gone k HKL.out
   rw [Int.natCast_add] at HG
   exact ⟨rfl, HG.1, (HB.out.trans (KeepBut.of_below (fun k => k = p) HB2.out) (fun _ _ h => h)).trans HG.2 (fun _ _ h => h)⟩
  ·rw [if_pos hE0]
   have hEb : (E != 0) = true := by simpa using hE0
   clear hS hE0
   go_enter Tryz.func241, Tryz.ntmps241
   go_wp2_with fail
   refine C.out.mono ?_
   rintro e w1 ⟨rfl, hB⟩
   have HB := hide ((KeepBut.of_below (fun k => k = p) hB).drew)
   have h1 := HH.out.below hB
   have m0 := h1.box.cell 0 _ rfl
   have m1 := h1.box.cell 1 _ rfl
   have H1 := hide (h1.below (Below.refl _ _).drew)
   clear h1 hB C HH
   go_wp2_with fail
   go_region_held (fun w' => w'.cell? ⟨p, 0, none⟩ = some (.slice ao all.length cap) ∧ w'.cell? ⟨p, 1, none⟩ = some (.int .i64 (r.went : Nat))) (go_keep) ((go_at_call 242; refine (CB.out _ H1.out).mono ?_; rintro e w2 ⟨rfl, hB2⟩; have HB2 := hide hB2; have h2 := H1.out.below hB2; have n0 := h2.box.cell 0 _ rfl; have n1 := h2.box.cell 1 _ rfl; have n2 := h2.box.cell 2 _ rfl; have n3 := h2.box.cell 3 _ rfl; have g2 := h2.box.frozen 2; have g3 := h2.box.frozen 3; have H2 := hide h2; clear h2 hB2))
   go_wp2_with fail
   go_ret
   have HG := H2.out.failed E
   exact ⟨rfl, HG.1, (HB.out.trans (KeepBut.of_below (fun k => k = p) HB2.out) (fun _ _ h => h)).trans HG.2 (fun _ _ h => h)⟩
 ·rw [if_pos hw]
  have hn : (r.why != 0) = true := by simpa using hw
  clear CB HLL hS hw
  go_enter Tryz.func241, Tryz.ntmps241
  go_wp2_with fail
  refine C.out.mono ?_
  rintro e w1 ⟨rfl, hB⟩
  have HB := hide hB
  have H1 := hide (HH.out.below hB)
  clear hB C HH
  go_wp2_with fail
  go_ret
  exact ⟨rfl, H1.out, KeepBut.of_below _ HB.out⟩
end
end Go.Proofs.YtlegliimgjmphaaGreat
