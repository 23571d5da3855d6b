/-
  Own texts put together: E10One. Own work.
-/
import Derived.Test.YtencmgepffdodaaGreatG12
namespace Go.Proofs.YtencmgepffdodaaGreat
section
open Go.RowKit Classical

theorem it_ok_of {i : ItP} (h : itRng i) : ItOk i := ⟨by have := h.1; show i.ver < 4294967296; have : i.ver ≤ 2147483647 := this; omega, h.2.1.2, ⟨by have : i.cf.e ≤ 2147483647 := h.2.2.1; omega, by have := h.2.2.2.1; omega, by have := h.2.2.2.2.1; omega, h.2.2.2.2.2.1, h.2.2.2.2.2.2⟩⟩
/-- What is encoded is bytes. -/
def AllB (l : List Int) : Prop := ∀ c ∈ l, 0 ≤ c ∧ c < 256
theorem AllB.app {a b : List Int} (ha : AllB a) (hb : AllB b) : AllB (a ++ b) := fun c hc => (List.mem_append.1 hc).elim (ha c) (hb c)
theorem allB_short (n : Nat) : AllB (shortS n) := fun c hc => shortS_bytes n c hc
theorem allB_one {n : Nat} (h : n < 256) : AllB [(n : Int)] := fun c hc => by simp at hc; subst hc; omega
theorem allB_votes : ∀ {l : List Nat}, (∀ x ∈ l, x < 256) → AllB (repEnc byteN l)
  | [], _ => fun c hc => by simp [repEnc] at hc
  | x :: l, h => by
    have e : repEnc byteN (x :: l) = [(x : Int)] ++ repEnc byteN l := by simp [repEnc, byteN]
    rw [e]
    exact (allB_one (h x List.mem_cons_self)).app (allB_votes (fun y hy => h y (List.mem_cons_of_mem _ hy)))
theorem allB_it {i : ItP} (h : ItOk i) : AllB (itC.enc i) := by
  have e : itC.enc i = shortS i.ver ++ ((shortS i.val.length ++ i.val) ++ (shortS i.cf.e ++ (shortS i.cf.r ++ (shortS i.cf.w ++ repEnc byteN i.cf.vs)))) := rfl
  rw [e]
  exact (allB_short _).app (((allB_short _).app h.s).app ((allB_short _).app ((allB_short _).app ((allB_short _).app (allB_votes h.c.v)))))
theorem allB_ws : ∀ {l : List WrP}, (∀ x ∈ l, KeyOk x.key ∧ ItOk x.it) → AllB (repEnc wrC l)
  | [], _ => fun c hc => by simp [repEnc] at hc
  | x :: l, h => by
    have e : repEnc wrC (x :: l) = (x.key ++ itC.enc x.it) ++ repEnc wrC l := by show (x :: l).flatMap wrC.enc = _; rw [List.flatMap_cons]; rfl
    rw [e]
    have hx := h x List.mem_cons_self
    exact (AllB.app hx.1.b (allB_it hx.2)).app (allB_ws (fun y hy => h y (List.mem_cons_of_mem _ hy)))
theorem flt_one2 (a b : Int) : (#[.int .i64 a, .int .i64 b] : Array Value).all (·.oneCell') = true := by simp [Value.oneCell']
theorem neq_flt10 (a b c d : Int) (w : World) : (binOp .neq 53 (.agg #[.int .i64 a, .int .i64 b]) (.agg #[.int .i64 c, .int .i64 d])).run Tryz.prog w = .ok (.bool (!(a == c && b == d))) w := by
  rw [run_neq_struct, eq_flt10]; rfl
/-- A whole variable is loaded, behind a guard that lets it by. -/
theorem wp_load_box_g {ops : Array Oper} {rest : List Oper} {op : Oper} {a : Act} {w : World} {Q : Exit → Act → World → Prop} {t t0 : TypeId} {d : TypeDesc} (hgd : Region.wanted op (yielded ops a.tmps) = true) (x : Operand) (ho : op.op = .load t x)
    (p : Nat) (hx : a.eval x = .pointer (some ⟨p, 0, none⟩)) {cs : Array Value} (hb : Box w p cs t0) (hu : Tryz.prog.underlying t = some d) (hd : d.isRow = true) (hi : (Tryz.prog.info? t).map (·.size) = some cs.size)
    (h : wpList Tryz.prog ops Q rest (a.put op.dst (.agg cs)) w) : wpList Tryz.prog ops Q (op :: rest) a w := by
  have hr : w.rangeAt p 0 cs.toList := fun j v hv => by
    rw [Nat.zero_add]; exact hb.cell j v (by simpa using hv)
  exact wpList_wanted hgd fun _ hK => wp_load_mid t x ho p 0 hx cs.toList d hr hu hd (by simpa using hi) (hK _ _ (by simpa using h))
end
end Go.Proofs.YtencmgepffdodaaGreat
