/-
  What is put together by a closure: the text so far, in a variable of its own.
  What is written of an e whose kids are written: writeCell, writeAtom, writeSigned.
-/
import Derived.Test.YtjdohfdkkppnpaaGreatDoorQ06
import Derived.Test.YtjdohfdkkppnpaaGreatDoorQ26
import Derived.Test.YtjdohfdkkppnpaaGreatDoorQ28
import Derived.Lib.AppendStr
namespace Go.Proofs.YtjdohfdkkppnpaaGreatDoor
open Go.RowKit
namespace Ty
open Nd
set_option linter.unusedSimpArgs false
set_option linter.unusedVariables false

/-- The variable at block p has the bytes L; its row lies from block B on. -/
def Out (B p : Nat) (L : List UInt8) (w : World) : Prop := ∃ (ao : Option Addr) (cap : Nat), B ≤ p ∧ w.heap[p]? = some (.cells #[.slice ao L.length cap] 44 (0, 0)) ∧ w.ownsRow B 5 1 (.slice ao L.length cap) L.length (L.map fun b => Value.int .u8 b.toNat)

/-- No row of bytes. -/
def NoBytes (w : World) (k : Nat) : Prop := ∀ cur fr, w.heap[k]? ≠ some (.cells cur 5 fr)

/-- Nothing is turned but the variable, and rows of bytes from block B on. -/
structure Ch (B p : Nat) (w w' : World) : Prop where
  os : w'.os = w.os
  tape : w'.tape = w.tape
  output : w'.output = w.output
  size : w.heap.size ≤ w'.heap.size
  block : ∀ k, k < B → w'.heap[k]? = w.heap[k]?
  own : ∀ k, k < w.heap.size → k ≠ p → NoBytes w k → w'.heap[k]? = w.heap[k]?

theorem Ch.refl (B p : Nat) (w : World) : Ch B p w w := ⟨rfl, rfl, rfl, Nat.le_refl _, fun _ _ => rfl, fun _ _ _ _ => rfl⟩
theorem Ch.trans {B p : Nat} {a b c : World} (h : Ch B p a b) (k : Ch B p b c) : Ch B p a c :=
  ⟨k.os.trans h.os, k.tape.trans h.tape, k.output.trans h.output, Nat.le_trans h.size k.size, fun j hj => (k.block j hj).trans (h.block j hj), fun j h1 h2 h3 => (k.own j (Nat.lt_of_lt_of_le h1 h.size) h2 fun cur fr e => h3 cur fr ((h.own j h1 h2 h3).symm.trans e)).trans (h.own j h1 h2 h3)⟩
theorem ch_below {B p : Nat} {w w' : World} (hB : B ≤ w.heap.size) (h : Below w.heap.size w w') : Ch B p w w' :=
  ⟨h.os, h.tape, h.output, h.size, fun k hk => h.block k (by omega), fun k hk _ _ => h.block k hk⟩
theorem Ch.below {B p : Nat} {w w' : World} (h : Ch B p w w') : Below B w w' := ⟨h.os, h.tape, h.output, h.size, h.block⟩
theorem Out.lt {B p : Nat} {L : List UInt8} {w : World} (h : Out B p L w) : B ≤ p ∧ p < w.heap.size := by
  obtain ⟨ao, cap, h1, h2, _⟩ := h
  exact ⟨h1, heap_lt h2⟩
theorem Out.room {B p : Nat} {L : List UInt8} {w : World} (h : Out B p L w) : B ≤ w.heap.size := by have := h.lt; omega
theorem Out.kept {B p : Nat} {L : List UInt8} {w w' : World} (h : Out B p L w) (hb : Below w.heap.size w w') : Out B p L w' := by
  have hp := h.lt.2
  obtain ⟨ao, cap, h1, h2, h3⟩ := h
  exact ⟨ao, cap, h1, (hb.block p hp).trans h2, owns_same h3 fun g hg => hb.block g (h3.lt g hg).2⟩
theorem Var.later {B p q : Nat} {w w' : World} {a b c u : Value} (h : Var w q a b c u) (hq : q ≠ p) (hc : Ch B p w w') : Var w' q a b c u :=
  h.kept (hc.own q h.lt hq fun cur fr e => by
    rw [h] at e
    simp at e)

def PutV (p : Nat) : Value := .func (.func 18) #[] #[.pointer (some ⟨p, 0, none⟩)]
theorem enterPut : Enters 18 := fun vs w => by kernel_rfl
theorem Tryz.infoByter : (Tryz.prog.info? 5).map (fun i => (i.zero, i.size, i.bytes)) = some (some (.int .u8 0), 1, 1) := by kernel_rfl

theorem stopAppend {P : Program} {ops : Array Oper} {rest : List Oper} {o : Oper} {a : Act} {w : World} {Q : Exit → Act → World → Prop} {sl x : Operand} {t u : TypeId}
    (_ : o.op = .call { callee := .builtin .append, args := #[sl, x], argTypes := #[t, u] }) (h : Hid (wpList P ops Q (o :: rest) a w)) : wpList P ops Q (o :: rest) a w := h
set_option maxRecDepth 100000 in
theorem iPut0 {B p : Nat} {L : List UInt8} {w : World} (h : Out B p L w) (s : ByteArray) (room : L.length + s.size ≤ 1099511627776) :
    Calls Tryz.prog 18 #[.string s, .pointer (some ⟨p, 0, none⟩)] w fun e w' => e = .returned (.tuple #[]) ∧ Out B p (L ++ s.data.toList) w' ∧ Ch B p w w' := by
  have hlt := h.lt
  obtain ⟨ao, cap, hBp, hp, hown⟩ := h
  obtain ⟨i0, hi0, hz0, hz1, hz2⟩ := info_parts Tryz.infoByter
  have c0 : w.cell? ⟨p, 0, none⟩ = some (.slice ao L.length cap) := (cell_of_row w p 0 _ _ _ hp).trans rfl
  have hrow : ∀ g, Value.ownBlock (.slice ao L.length cap) = some g → B ≤ g ∧ ∃ cur fr, w.heap[g]? = some (.cells cur 5 fr) := fun g hg => by
    rcases hown.2 with ⟨e, _⟩ | ⟨g', cap', cur, e, hb, hh, _⟩
    · rw [e] at hg; simp [Value.ownBlock] at hg
    · rw [e] at hg; simp [Value.ownBlock] at hg; subst hg; exact ⟨hb, cur, _, hh⟩
  have hne : Value.ownBlock (.slice ao L.length cap) ≠ some p := fun e => by
    obtain ⟨_, cur, fr, e2⟩ := hrow p e
    rw [hp] at e2
    simp at e2
  have R1 : Hid (L.length + s.size ≤ maxLen) := by show _ ≤ _; unfold maxLen; omega
  have R2 : Hid (L.length + s.size ≤ 140737488355328) := by show _ ≤ _; omega
  have R3 : Hid (B ≤ w.heap.size) := by show _ ≤ _; omega
  clear room
  go_enter Tryz.func18, Tryz.ntmps18
  go_wp2_with (at_builtin; refine hold ?_)
  refine Lib.wpList_append_own_string _ rfl (.tmp 3) (.tmp 4) 44 9 rfl B 5 i0 Tryz.underlying44 Tryz.underlying9 hi0 hz0 hz1 hz2 (.slice ao L.length cap) L.length _ rfl hown s rfl R1.out R2.out R3.out ?_
  intro v' w' hown' hgr _
  have hb' : w'.heap[p]? = w.heap[p]? := hgr.block p hlt.2 (Ne.symm hne)
  have c1 : w'.cell? ⟨p, 0, none⟩ = some (.slice ao L.length cap) := (World.cell?_of_block hb').trans c0
  have hp' := hb'.trans hp
  have f1 : w'.frozen? ⟨p, 0, none⟩ = false := by simp [World.frozen?, hp']
  obtain ⟨ao', cap', rfl⟩ := owns_slice hown'
  have hll : (L ++ s.data.toList).length = L.length + s.size := by rw [List.length_append]; rfl
  have hrow' : ∀ g, Value.ownBlock (.slice ao' (L.length + s.size) cap') = some g → g ≠ p := fun g hg e => by
    subst e
    rcases hown'.2 with ⟨e, _⟩ | ⟨g', cap2, cur, e, hb, hh, _⟩
    · rw [e] at hg; simp [Value.ownBlock] at hg
    · rw [e] at hg; simp [Value.ownBlock] at hg; subst hg; rw [hp'] at hh; simp at hh
  have HO : Hid (Out B p (L ++ s.data.toList) (w'.setCell ⟨p, 0, none⟩ (.slice ao' (L.length + s.size) cap'))) := by
    refine ⟨ao', cap', hBp, ?_, ?_⟩
    · rw [hll]; simp [World.setCell, Array.getElem?_modify, hp']
    · rw [hll, List.map_append]
      exact owns_same hown' fun g hg => Below.heap_setCell _ _ _ _ (hrow' g hg)
  have HC : Hid (Ch B p w (w'.setCell ⟨p, 0, none⟩ (.slice ao' (L.length + s.size) cap'))) := by
    refine ⟨hgr.os, hgr.tape, hgr.output, Nat.le_trans hgr.size (by simp [World.setCell]), fun k hk => ?_, fun k hk hkp hnb => ?_⟩
    · exact (Below.heap_setCell _ ⟨p, 0, none⟩ _ _ (show k ≠ p by omega)).trans (hgr.block k (by omega) fun e => by have := (hrow k e.symm).1; omega)
    · exact (Below.heap_setCell _ ⟨p, 0, none⟩ _ _ hkp).trans (hgr.block k hk fun e => by
        obtain ⟨_, cur, fr, h2⟩ := hrow k e.symm
        exact hnb cur fr h2)
  clear hown hown' hgr hrow hrow' hp hp' hb' hll
  go_wp2_with fail
  refine bodyPost_end (v := .tuple #[]) ?_ rfl ⟨rfl, HO.out, HC.out⟩
  simp [results, Tryz.results18, go_sem]

theorem iPut {B p : Nat} {L : List UInt8} {w : World} (h : Out B p L w) (s : ByteArray) (room : L.length + s.size ≤ 1099511627776) :
    Calls Tryz.prog 18 (#[.string s] ++ #[.pointer (some ⟨p, 0, none⟩)]) w fun e w' => e = .returned (.tuple #[]) ∧ Out B p (L ++ s.data.toList) w' ∧ Ch B p w w' := iPut0 h s room

end Ty
end Go.Proofs.YtjdohfdkkppnpaaGreatDoor

namespace Go.Proofs.YtjdohfdkkppnpaaGreatDoor
open Go.RowKit
namespace Ty
open Nd
set_option linter.unusedSimpArgs false
set_option linter.unusedVariables false

theorem iPutL {B p : Nat} {L : List UInt8} {w : World} (h : Out B p L w) (s : List UInt8) (room : L.length + s.length ≤ 1099511627776) :
    Calls Tryz.prog 18 (#[.string ⟨s.toArray⟩] ++ #[.pointer (some ⟨p, 0, none⟩)]) w fun e w' => e = .returned (.tuple #[]) ∧ Out B p (L ++ s) w' ∧ Ch B p w w' := iPut h ⟨s.toArray⟩ room

theorem wpList_call_fn1 {P : Program} {ops : Array Oper} {rest : List Oper} {o : Oper} {a : Act} {w : World} {Q : Exit → Act → World → Prop} (hg : o.guard = none) (x : Nat) (y : Operand) (t : TypeId) (hop : o.op = Op.call { callee := Callee.value (.tmp x), args := #[y], argTypes := #[t] })
    (f : Nat) (cap : Array Value) (hx : a.eval (.tmp x) = .func (.func f) #[] cap) (hcf : ∀ vs w, (callFunc f vs).run P w = .ok (.enter f vs) w) (fv : Value) (hy : a.eval y = fv)
    (hc : Calls P f (#[fv] ++ cap) w fun e w' => ∃ v, e = .returned v ∧ wpList P ops Q rest (a.put o.dst v) w') : wpList P ops Q (o :: rest) a w := by
  refine wpList_plain hg fun K hK => ?_
  unfold Oper.wp
  simp [Act.eval] at hx hy
  simp [execOp, hop, resolve, invoke, hcf, go_sem, hx, hy]
  refine hc.mono ?_
  rintro e w' ⟨v, rfl, hk⟩
  exact hK _ _ hk

/-- The walk of a function that writes: the text so far, the world it came from, its node in a variable. -/
structure Wk (W0 : World) (p q : Nat) (w0 : World) (L : List UInt8) (a b c u : Value) (w : World) : Prop where
  bel : Below W0.heap.size W0 w
  out : Out W0.heap.size p L w
  ch : Ch W0.heap.size p w0 w
  var : Var w q a b c u
  ne : q ≠ p

theorem Wk.step {W0 : World} {p q : Nat} {w0 w w' : World} {L L' : List UInt8} {a b c u : Value} (h : Wk W0 p q w0 L a b c u w) (hO : Out W0.heap.size p L' w') (hC : Ch W0.heap.size p w w') : Wk W0 p q w0 L' a b c u w' :=
  ⟨h.bel.trans hC.below, hO, h.ch.trans hC, Var.later h.var h.ne hC, h.ne⟩
theorem Wk.more {W0 : World} {p q : Nat} {w0 w w' : World} {L : List UInt8} {a b c u : Value} (h : Wk W0 p q w0 L a b c u w) (hb : Below w.heap.size w w') : Wk W0 p q w0 L a b c u w' :=
  h.step (h.out.kept hb) (ch_below h.out.room hb)
theorem wk_new {W0 : World} {p : Nat} {w : World} {L : List UInt8} {a b c u : Value} (hb : Below W0.heap.size W0 w) (hO : Out W0.heap.size p L w) (o : Obj) (ho : o = .cells #[a, b, c, u] 39) : Wk W0 p w.heap.size w L a b c u (w.alloc o) := by
  have h1 : Below w.heap.size w (w.alloc o) := (Below.refl _ w).alloc (Nat.le_refl _) _
  refine ⟨hb.trans (h1.mono hb.size), hO.kept h1, ch_below hO.room h1, ?_, fun e => by have := hO.lt.2; omega⟩
  subst ho
  exact heap_new _ _

theorem put_step {W0 : World} {p q : Nat} {w0 w : World} {L : List UInt8} {a b c u : Value} (hk : Wk W0 p q w0 L a b c u w) {ops : Array Oper} {rest : List Oper} {o : Oper} {act : Act} {Q : Exit → Act → World → Prop} (hg : o.guard = none) (x : Nat) (y : Operand) (t : TypeId) (hop : o.op = Op.call { callee := Callee.value (.tmp x), args := #[y], argTypes := #[t] })
    (hx : act.eval (.tmp x) = PutV p) (s : List UInt8) (hy : act.eval y = .string ⟨s.toArray⟩) (room : L.length + s.length ≤ 1099511627776)
    (hnext : ∀ w', Wk W0 p q w0 (L ++ s) a b c u w' → wpList Tryz.prog ops Q rest (act.put o.dst (.tuple #[])) w') : wpList Tryz.prog ops Q (o :: rest) act w := by
  refine wpList_call_fn1 hg x y t hop 18 #[.pointer (some ⟨p, 0, none⟩)] hx enterPut _ hy ?_
  refine (iPutL hk.out s room).mono ?_
  rintro e w' ⟨rfl, hO, hC⟩
  exact ⟨_, rfl, hnext w' (hk.step hO hC)⟩

/-- A function that writes the text T of a node. -/
def WOk (W0 : World) (f : Nat) (T t : Data → List UInt8) (x : Data) : Prop := ∀ (p : Nat) (L : List UInt8) (w : World) (a b c u : Value), ArgIs W0 x [a, b, c, u] → Below W0.heap.size W0 w → Out W0.heap.size p L w → L.length + (t x).length ≤ 1099511627776 →
  Calls Tryz.prog f #[PutV p, .agg #[a, b, c, u]] w fun e w' => e = .returned (.tuple #[]) ∧ Out W0.heap.size p (L ++ T x) w' ∧ Ch W0.heap.size p w w'

def cellT (t : Data) : List UInt8 := txtOf t ++ [91] ++ (esT (kidsOf t)).getD 0 [] ++ [93]
def atomT (t : Data) : List UInt8 := if plainOp (opOf t) then eT t else [40] ++ eT t ++ [41]

set_option maxRecDepth 100000 in
theorem iWriteCell {W0 : World} {t x : Data} (hks : kidsOf t = [x]) (hx : WOk W0 45 eT eT x) : WOk W0 84 cellT cellT t := by
  intro p L w a b c u hA hb hO room
  obtain ⟨ao, cap, rfl, rfl, rfl, rfl, hK, -⟩ := arg_open hA
  rw [hks] at hK
  obtain ⟨g, o, x0, x1, x2, x3, rfl, hgl, c0, c1, c2, c3, hax⟩ := args_at hK (show [x][0]? = some x from rfl)
  simp only [Nat.zero_mul, Nat.add_zero] at c0 c1 c2 c3
  have hcl : ∀ w', Below W0.heap.size W0 w' → w'.cell? ⟨g, o, none⟩ = some x0 ∧ w'.cell? ⟨g, o + 1, none⟩ = some x1 ∧ w'.cell? ⟨g, o + 2, none⟩ = some x2 ∧ w'.cell? ⟨g, o + 3, none⟩ = some x3 := fun w' h => ⟨(h.cell (p := ⟨g, o, none⟩) hgl).trans c0, (h.cell (p := ⟨g, o + 1, none⟩) hgl).trans c1, (h.cell (p := ⟨g, o + 2, none⟩) hgl).trans c2, (h.cell (p := ⟨g, o + 3, none⟩) hgl).trans c3⟩
  have cx := hx p
  have hT : cellT t = txtOf t ++ [91] ++ eT x ++ [93] := by unfold cellT; rw [hks]; rfl
  rw [hT] at room ⊢
  have hlen : (kidsOf t).length = 1 := by rw [hks]; rfl
  rw [hlen] at *
  obtain ⟨xao, xcap, rfl, rfl, rfl, rfl, -, -⟩ := arg_open hax
  have cxx := fun L w' => cx L w' _ _ _ _ hax
  have hk := fun oo ho => wk_new (a := .int .i64 (opOf t)) (b := .int .i64 (numOf t)) (c := .string ⟨(txtOf t).toArray⟩) (u := .slice (some ⟨g, o, none⟩) 1 cap) hb hO oo ho
  have RM : Hid (L.length + (txtOf t ++ [91] ++ eT x ++ [93]).length ≤ 1099511627776) := room
  clear hA hK hx hks hT hlen room hax cx c0 c1 c2 c3
  generalize opOf t = op at *
  generalize numOf t = n at *
  generalize txtOf t = s at *
  generalize eT x = X at *
  generalize opOf x = xop at *
  generalize numOf x = xn at *
  generalize txtOf x = xs at *
  generalize (kidsOf x).length = xL at *
  go_enter Tryz.func84, Tryz.ntmps84
  have hk := hk _ rfl
  go_wp2_with (first
    | (refine put_step hk rfl _ _ _ rfl rfl _ rfl (by have := RM.out; simp only [List.length_append, List.length_cons, List.length_nil] at this ⊢; omega) ?_; intro w2 hk; obtain ⟨y0, y1, y2, y3⟩ := hk.var.cell; obtain ⟨d0, d1, d2, d3⟩ := hcl _ hk.bel)
    | (go_at_call 45; refine (cxx _ _ hk.bel hk.out ?_).mono ?_; (have := RM.out; simp only [List.length_append, List.length_cons, List.length_nil] at this ⊢; omega); rintro e w2 ⟨rfl, hO2, hC2⟩; have hk := hk.step hO2 hC2; obtain ⟨y0, y1, y2, y3⟩ := hk.var.cell; obtain ⟨d0, d1, d2, d3⟩ := hcl _ hk.bel))
  refine bodyPost_end (v := .tuple #[]) ?_ rfl ⟨rfl, ?_, hk.ch⟩
  · simp [results, Tryz.results84]
  · have := hk.out
    simp only [List.append_assoc] at this ⊢
    exact this

end Ty
end Go.Proofs.YtjdohfdkkppnpaaGreatDoor

