/-
  What is written of an e whose kids are written: writeCell, writeAtom, writeSigned.
-/
import Derived.Test.YtcdmilpncngdoaaGreatDoorP28
namespace Go.Proofs.YtcdmilpncngdoaaGreatDoor
open Go.RowKit
namespace Ty
open Nd
set_option linter.unusedSimpArgs false
set_option linter.unusedVariables false

theorem iPutL {B p : Nat} {L : List UInt8} {w : World} (h : Out B p L w) (s : List UInt8) (room : L.length + s.length ≤ 1099511627776) :
    Calls Tryz.prog 15 (#[.string ⟨s.toArray⟩] ++ #[.pointer (some ⟨p, 0, none⟩)]) w fun e w' => e = .returned (.tuple #[]) ∧ Out B p (L ++ s) w' ∧ Ch B p w w' := iPut h ⟨s.toArray⟩ room

theorem wpList_call_fn1 {P : Program} {ops : Array Oper} {rest : List Oper} {o : Oper} {a : Act} {w : World} {Q : Exit → Act → World → Prop} (hg : o.guard = none) (x : Nat) (y : Operand) (t : TypeId) (hop : o.op = Op.call { callee := Callee.value (.tmp x), args := #[y], argTypes := #[t] })
    (f : Nat) (cap : Array Value) (hx : a.eval (.tmp x) = .func (.func f) #[] cap) (hcf : ∀ vs w, (callFunc f vs).run P w = .ok (.enter f vs) w) (fv : Value) (hy : a.eval y = fv)
    (hc : Calls P f (#[fv] ++ cap) w fun e w' => ∃ v, e = .returned v ∧ wpList P ops Q rest (a.put o.dst v) w') : wpList P ops Q (o :: rest) a w := by
  refine wpList_plain hg fun K hK => ?_
  unfold Oper.wp
  simp [Act.eval] at hx hy
  simp [execOp, hop, resolve, invoke, hcf, go_sem, hx, hy]
  refine hc.mono ?_
  rintro e w' ⟨v, rfl, hk⟩
  exact hK _ _ hk

/-- The walk of a function that writes: the text so far, the world it came from, its node in a variable. -/
structure Wk (W0 : World) (p q : Nat) (w0 : World) (L : List UInt8) (a b c u : Value) (w : World) : Prop where
  bel : Below W0.heap.size W0 w
  out : Out W0.heap.size p L w
  ch : Ch W0.heap.size p w0 w
  var : Var w q a b c u
  ne : q ≠ p

theorem Wk.step {W0 : World} {p q : Nat} {w0 w w' : World} {L L' : List UInt8} {a b c u : Value} (h : Wk W0 p q w0 L a b c u w) (hO : Out W0.heap.size p L' w') (hC : Ch W0.heap.size p w w') : Wk W0 p q w0 L' a b c u w' :=
  ⟨h.bel.trans hC.below, hO, h.ch.trans hC, Var.later h.var h.ne hC, h.ne⟩
theorem Wk.more {W0 : World} {p q : Nat} {w0 w w' : World} {L : List UInt8} {a b c u : Value} (h : Wk W0 p q w0 L a b c u w) (hb : Below w.heap.size w w') : Wk W0 p q w0 L a b c u w' :=
  h.step (h.out.kept hb) (ch_below h.out.room hb)
theorem wk_new {W0 : World} {p : Nat} {w : World} {L : List UInt8} {a b c u : Value} (hb : Below W0.heap.size W0 w) (hO : Out W0.heap.size p L w) (o : Obj) (ho : o = .cells #[a, b, c, u] 38) : Wk W0 p w.heap.size w L a b c u (w.alloc o) := by
  have h1 : Below w.heap.size w (w.alloc o) := (Below.refl _ w).alloc (Nat.le_refl _) _
  refine ⟨hb.trans (h1.mono hb.size), hO.kept h1, ch_below hO.room h1, ?_, fun e => by have := hO.lt.2; omega⟩
  subst ho
  exact heap_new _ _

theorem put_step {W0 : World} {p q : Nat} {w0 w : World} {L : List UInt8} {a b c u : Value} (hk : Wk W0 p q w0 L a b c u w) {ops : Array Oper} {rest : List Oper} {o : Oper} {act : Act} {Q : Exit → Act → World → Prop} (hg : o.guard = none) (x : Nat) (y : Operand) (t : TypeId) (hop : o.op = Op.call { callee := Callee.value (.tmp x), args := #[y], argTypes := #[t] })
    (hx : act.eval (.tmp x) = PutV p) (s : List UInt8) (hy : act.eval y = .string ⟨s.toArray⟩) (room : L.length + s.length ≤ 1099511627776)
    (hnext : ∀ w', Wk W0 p q w0 (L ++ s) a b c u w' → wpList Tryz.prog ops Q rest (act.put o.dst (.tuple #[])) w') : wpList Tryz.prog ops Q (o :: rest) act w := by
  refine wpList_call_fn1 hg x y t hop 15 #[.pointer (some ⟨p, 0, none⟩)] hx enterPut _ hy ?_
  refine (iPutL hk.out s room).mono ?_
  rintro e w' ⟨rfl, hO, hC⟩
  exact ⟨_, rfl, hnext w' (hk.step hO hC)⟩

/-- A function that writes the text T of a node. -/
def WOk (W0 : World) (f : Nat) (T t : Data → List UInt8) (x : Data) : Prop := ∀ (p : Nat) (L : List UInt8) (w : World) (a b c u : Value), ArgIs W0 x [a, b, c, u] → Below W0.heap.size W0 w → Out W0.heap.size p L w → L.length + (t x).length ≤ 1099511627776 →
  Calls Tryz.prog f #[PutV p, .agg #[a, b, c, u]] w fun e w' => e = .returned (.tuple #[]) ∧ Out W0.heap.size p (L ++ T x) w' ∧ Ch W0.heap.size p w w'

def cellT (t : Data) : List UInt8 := txtOf t ++ [91] ++ (esT (kidsOf t)).getD 0 [] ++ [93]
def atomT (t : Data) : List UInt8 := if plainOp (opOf t) then eT t else [40] ++ eT t ++ [41]

set_option maxRecDepth 100000 in
theorem iWriteCell {W0 : World} {t x : Data} (hks : kidsOf t = [x]) (hx : WOk W0 30 eT eT x) : WOk W0 52 cellT cellT t := by
  intro p L w a b c u hA hb hO room
  obtain ⟨ao, cap, rfl, rfl, rfl, rfl, hK, -⟩ := arg_open hA
  rw [hks] at hK
  obtain ⟨g, o, x0, x1, x2, x3, rfl, hgl, c0, c1, c2, c3, hax⟩ := args_at hK (show [x][0]? = some x from rfl)
  simp only [Nat.zero_mul, Nat.add_zero] at c0 c1 c2 c3
  have hcl : ∀ w', Below W0.heap.size W0 w' → w'.cell? ⟨g, o, none⟩ = some x0 ∧ w'.cell? ⟨g, o + 1, none⟩ = some x1 ∧ w'.cell? ⟨g, o + 2, none⟩ = some x2 ∧ w'.cell? ⟨g, o + 3, none⟩ = some x3 := fun w' h => ⟨(h.cell (p := ⟨g, o, none⟩) hgl).trans c0, (h.cell (p := ⟨g, o + 1, none⟩) hgl).trans c1, (h.cell (p := ⟨g, o + 2, none⟩) hgl).trans c2, (h.cell (p := ⟨g, o + 3, none⟩) hgl).trans c3⟩
  have cx := hx p
  have hT : cellT t = txtOf t ++ [91] ++ eT x ++ [93] := by unfold cellT; rw [hks]; rfl
  rw [hT] at room ⊢
  have hlen : (kidsOf t).length = 1 := by rw [hks]; rfl
  rw [hlen] at *
  obtain ⟨xao, xcap, rfl, rfl, rfl, rfl, -, -⟩ := arg_open hax
  have cxx := fun L w' => cx L w' _ _ _ _ hax
  have hk := fun oo ho => wk_new (a := .int .i64 (opOf t)) (b := .int .i64 (numOf t)) (c := .string ⟨(txtOf t).toArray⟩) (u := .slice (some ⟨g, o, none⟩) 1 cap) hb hO oo ho
  have RM : Hid (L.length + (txtOf t ++ [91] ++ eT x ++ [93]).length ≤ 1099511627776) := room
  clear hA hK hx hks hT hlen room hax cx c0 c1 c2 c3
  generalize opOf t = op at *
  generalize numOf t = n at *
  generalize txtOf t = s at *
  generalize eT x = X at *
  generalize opOf x = xop at *
  generalize numOf x = xn at *
  generalize txtOf x = xs at *
  generalize (kidsOf x).length = xL at *
  go_enter Tryz.func52, Tryz.ntmps52
  have hk := hk _ rfl
  go_wp2_with (first
    | (refine put_step hk rfl _ _ _ rfl rfl _ rfl (by have := RM.out; simp only [List.length_append, List.length_cons, List.length_nil] at this ⊢; omega) ?_; intro w2 hk; obtain ⟨y0, y1, y2, y3⟩ := hk.var.cell; obtain ⟨d0, d1, d2, d3⟩ := hcl _ hk.bel)
    | (go_at_call 30; refine (cxx _ _ hk.bel hk.out ?_).mono ?_; (have := RM.out; simp only [List.length_append, List.length_cons, List.length_nil] at this ⊢; omega); rintro e w2 ⟨rfl, hO2, hC2⟩; have hk := hk.step hO2 hC2; obtain ⟨y0, y1, y2, y3⟩ := hk.var.cell; obtain ⟨d0, d1, d2, d3⟩ := hcl _ hk.bel))
  refine bodyPost_end (v := .tuple #[]) ?_ rfl ⟨rfl, ?_, hk.ch⟩
  · simp [results, Tryz.results52]
  · have := hk.out
    simp only [List.append_assoc] at this ⊢
    exact this

end Ty
end Go.Proofs.YtcdmilpncngdoaaGreatDoor

