/-
  The program's clock fulfils the bundle. Own work.
-/
import Derived.Test.YtgjdlclkibiffaaPkNext
namespace Go.Proofs.Ytgjdlclkibiffaa
open Go.RowKit

def PC9 (w : World) (q : Nat) (F : Nat → Prop) (c : Ck) : Prop := ∃ b sv, PCk w q b sv c ∧ F = usesC9 q b sv
theorem KDid.bundle {w w' : World} {q b : Nat} {sv : Nat → Value} {c : Ck} (h : KDid w w' q b sv c) : CDid PC9 w w' q (usesC9 q b sv) c := by
  obtain ⟨sv', h1, h2, h3⟩ := h
  exact ⟨_, ⟨b, sv', h1, rfl⟩, h2, h3⟩
theorem pc_do : ClockDo PC9 where
  keep := by
    rintro w w' q F S c ⟨b, sv, h, rfl⟩ hk hS
    exact ⟨b, sv, h.keep hk hS, rfl⟩
  lt := by
    rintro w q F c ⟨b, sv, h, rfl⟩
    exact h.lt
  ok := by
    rintro w q F c ⟨b, sv, h, rfl⟩
    exact h.ok
  new := fun w => (knew_any w).mono (fun e w' h => by
    obtain ⟨q, b, h1, h2, h3, h4, h5⟩ := h
    refine ⟨q, usesC9 q b svN, h1, ⟨b, svN, h2, rfl⟩, fun k hk => ?_, h5⟩
    rcases hk with h | h | ⟨i, _, h⟩
    · omega
    · omega
    · cases h)
  set := by
    rintro w q F c n after ⟨b, sv, h, rfl⟩ hn h0 h1
    exact (kset_any q b sv c n after w h hn h0 h1).mono (fun e w' ⟨e1, e2⟩ => ⟨e1, e2.bundle⟩)
  stop := by
    rintro w q F c n ⟨b, sv, h, rfl⟩ hn
    exact (kstop_any q b sv c n w h hn).mono (fun e w' ⟨e1, e2⟩ => ⟨e1, e2.bundle⟩)
  unt := by
    rintro w q F c n ⟨b, sv, h, rfl⟩ hn
    exact kuntil_any q b sv c n w h hn
  tick := by
    rintro w q F c ⟨b, sv, h, rfl⟩
    exact (ktick_any q b sv c w h).mono (fun e w' ⟨v, e1, e2, e3, e4⟩ => ⟨v, e1, e2.bundle, e3, fun g hg => .inr (e4 g hg)⟩)
  next := by
    rintro w q F c ⟨b, sv, h, rfl⟩
    exact knext_any q b sv c w h
  now := by
    rintro w q F c ⟨b, sv, h, rfl⟩
    exact (know_any q b sv c w h).mono (fun e w' ⟨e1, e2⟩ => ⟨e1, 0, e2⟩)
  len := by
    rintro w q F c ⟨b, sv, h, rfl⟩
    exact (klen_any q b sv c w h).mono (fun e w' ⟨e1, e2⟩ => ⟨e1, 0, e2⟩)
end Go.Proofs.Ytgjdlclkibiffaa
