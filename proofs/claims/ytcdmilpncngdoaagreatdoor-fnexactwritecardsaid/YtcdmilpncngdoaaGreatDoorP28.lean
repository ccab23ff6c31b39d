/-
  What is put together by a closure: the text so far, in a variable of its own.
-/
import Derived.Test.YtcdmilpncngdoaaGreatDoorP06
import Derived.Test.YtcdmilpncngdoaaGreatDoorP25
import Derived.Test.YtcdmilpncngdoaaGreatDoorP27
import Derived.Lib.AppendStr
namespace Go.Proofs.YtcdmilpncngdoaaGreatDoor
open Go.RowKit
namespace Ty
open Nd
set_option linter.unusedSimpArgs false
set_option linter.unusedVariables false

/-- The variable at block p has the bytes L; its row lies from block B on. -/
def Out (B p : Nat) (L : List UInt8) (w : World) : Prop := ∃ (ao : Option Addr) (cap : Nat), B ≤ p ∧ w.heap[p]? = some (.cells #[.slice ao L.length cap] 43 (0, 0)) ∧ w.ownsRow B 5 1 (.slice ao L.length cap) L.length (L.map fun b => Value.int .u8 b.toNat)

/-- No row of bytes. -/
def NoBytes (w : World) (k : Nat) : Prop := ∀ cur fr, w.heap[k]? ≠ some (.cells cur 5 fr)

/-- Nothing is turned but the variable, and rows of bytes from block B on. -/
structure Ch (B p : Nat) (w w' : World) : Prop where
  os : w'.os = w.os
  tape : w'.tape = w.tape
  output : w'.output = w.output
  size : w.heap.size ≤ w'.heap.size
  block : ∀ k, k < B → w'.heap[k]? = w.heap[k]?
  own : ∀ k, k < w.heap.size → k ≠ p → NoBytes w k → w'.heap[k]? = w.heap[k]?

theorem Ch.refl (B p : Nat) (w : World) : Ch B p w w := ⟨rfl, rfl, rfl, Nat.le_refl _, fun _ _ => rfl, fun _ _ _ _ => rfl⟩
theorem Ch.trans {B p : Nat} {a b c : World} (h : Ch B p a b) (k : Ch B p b c) : Ch B p a c :=
  ⟨k.os.trans h.os, k.tape.trans h.tape, k.output.trans h.output, Nat.le_trans h.size k.size, fun j hj => (k.block j hj).trans (h.block j hj), fun j h1 h2 h3 => (k.own j (Nat.lt_of_lt_of_le h1 h.size) h2 fun cur fr e => h3 cur fr ((h.own j h1 h2 h3).symm.trans e)).trans (h.own j h1 h2 h3)⟩
theorem ch_below {B p : Nat} {w w' : World} (hB : B ≤ w.heap.size) (h : Below w.heap.size w w') : Ch B p w w' :=
  ⟨h.os, h.tape, h.output, h.size, fun k hk => h.block k (by omega), fun k hk _ _ => h.block k hk⟩
theorem Ch.below {B p : Nat} {w w' : World} (h : Ch B p w w') : Below B w w' := ⟨h.os, h.tape, h.output, h.size, h.block⟩
theorem Out.lt {B p : Nat} {L : List UInt8} {w : World} (h : Out B p L w) : B ≤ p ∧ p < w.heap.size := by
  obtain ⟨ao, cap, h1, h2, _⟩ := h
  exact ⟨h1, heap_lt h2⟩
theorem Out.room {B p : Nat} {L : List UInt8} {w : World} (h : Out B p L w) : B ≤ w.heap.size := by have := h.lt; omega
theorem Out.kept {B p : Nat} {L : List UInt8} {w w' : World} (h : Out B p L w) (hb : Below w.heap.size w w') : Out B p L w' := by
  have hp := h.lt.2
  obtain ⟨ao, cap, h1, h2, h3⟩ := h
  exact ⟨ao, cap, h1, (hb.block p hp).trans h2, owns_same h3 fun g hg => hb.block g (h3.lt g hg).2⟩
theorem Var.later {B p q : Nat} {w w' : World} {a b c u : Value} (h : Var w q a b c u) (hq : q ≠ p) (hc : Ch B p w w') : Var w' q a b c u :=
  h.kept (hc.own q h.lt hq fun cur fr e => by
    rw [h] at e
    simp at e)

def PutV (p : Nat) : Value := .func (.func 15) #[] #[.pointer (some ⟨p, 0, none⟩)]
theorem enterPut : Enters 15 := fun vs w => by kernel_rfl
theorem Tryz.infoByter : (Tryz.prog.info? 5).map (fun i => (i.zero, i.size, i.bytes)) = some (some (.int .u8 0), 1, 1) := by kernel_rfl

theorem stopAppend {P : Program} {ops : Array Oper} {rest : List Oper} {o : Oper} {a : Act} {w : World} {Q : Exit → Act → World → Prop} {sl x : Operand} {t u : TypeId}
    (_ : o.op = .call { callee := .builtin .append, args := #[sl, x], argTypes := #[t, u] }) (h : Hid (wpList P ops Q (o :: rest) a w)) : wpList P ops Q (o :: rest) a w := h
set_option maxRecDepth 100000 in
theorem iPut0 {B p : Nat} {L : List UInt8} {w : World} (h : Out B p L w) (s : ByteArray) (room : L.length + s.size ≤ 1099511627776) :
    Calls Tryz.prog 15 #[.string s, .pointer (some ⟨p, 0, none⟩)] w fun e w' => e = .returned (.tuple #[]) ∧ Out B p (L ++ s.data.toList) w' ∧ Ch B p w w' := by
  have hlt := h.lt
  obtain ⟨ao, cap, hBp, hp, hown⟩ := h
  obtain ⟨i0, hi0, hz0, hz1, hz2⟩ := info_parts Tryz.infoByter
  have c0 : w.cell? ⟨p, 0, none⟩ = some (.slice ao L.length cap) := (cell_of_row w p 0 _ _ _ hp).trans rfl
  have hrow : ∀ g, Value.ownBlock (.slice ao L.length cap) = some g → B ≤ g ∧ ∃ cur fr, w.heap[g]? = some (.cells cur 5 fr) := fun g hg => by
    rcases hown.2 with ⟨e, _⟩ | ⟨g', cap', cur, e, hb, hh, _⟩
    · rw [e] at hg; simp [Value.ownBlock] at hg
    · rw [e] at hg; simp [Value.ownBlock] at hg; subst hg; exact ⟨hb, cur, _, hh⟩
  have hne : Value.ownBlock (.slice ao L.length cap) ≠ some p := fun e => by
    obtain ⟨_, cur, fr, e2⟩ := hrow p e
    rw [hp] at e2
    simp at e2
  have R1 : Hid (L.length + s.size ≤ maxLen) := by show _ ≤ _; unfold maxLen; omega
  have R2 : Hid (L.length + s.size ≤ 140737488355328) := by show _ ≤ _; omega
  have R3 : Hid (B ≤ w.heap.size) := by show _ ≤ _; omega
  clear room
  go_enter Tryz.func15, Tryz.ntmps15
  go_wp2_with (at_builtin; refine hold ?_)
  refine Lib.wpList_append_own_string _ rfl (.tmp 3) (.tmp 4) 43 9 rfl B 5 i0 Tryz.underlying43 Tryz.underlying9 hi0 hz0 hz1 hz2 (.slice ao L.length cap) L.length _ rfl hown s rfl R1.out R2.out R3.out ?_
  intro v' w' hown' hgr _
  have hb' : w'.heap[p]? = w.heap[p]? := hgr.block p hlt.2 (Ne.symm hne)
  have c1 : w'.cell? ⟨p, 0, none⟩ = some (.slice ao L.length cap) := (World.cell?_of_block hb').trans c0
  have hp' := hb'.trans hp
  have f1 : w'.frozen? ⟨p, 0, none⟩ = false := by simp [World.frozen?, hp']
  obtain ⟨ao', cap', rfl⟩ := owns_slice hown'
  have hll : (L ++ s.data.toList).length = L.length + s.size := by rw [List.length_append]; rfl
  have hrow' : ∀ g, Value.ownBlock (.slice ao' (L.length + s.size) cap') = some g → g ≠ p := fun g hg e => by
    subst e
    rcases hown'.2 with ⟨e, _⟩ | ⟨g', cap2, cur, e, hb, hh, _⟩
    · rw [e] at hg; simp [Value.ownBlock] at hg
    · rw [e] at hg; simp [Value.ownBlock] at hg; subst hg; rw [hp'] at hh; simp at hh
  have HO : Hid (Out B p (L ++ s.data.toList) (w'.setCell ⟨p, 0, none⟩ (.slice ao' (L.length + s.size) cap'))) := by
    refine ⟨ao', cap', hBp, ?_, ?_⟩
    · rw [hll]; simp [World.setCell, Array.getElem?_modify, hp']
    · rw [hll, List.map_append]
      exact owns_same hown' fun g hg => Below.heap_setCell _ _ _ _ (hrow' g hg)
  have HC : Hid (Ch B p w (w'.setCell ⟨p, 0, none⟩ (.slice ao' (L.length + s.size) cap'))) := by
    refine ⟨hgr.os, hgr.tape, hgr.output, Nat.le_trans hgr.size (by simp [World.setCell]), fun k hk => ?_, fun k hk hkp hnb => ?_⟩
    · exact (Below.heap_setCell _ ⟨p, 0, none⟩ _ _ (show k ≠ p by omega)).trans (hgr.block k (by omega) fun e => by have := (hrow k e.symm).1; omega)
    · exact (Below.heap_setCell _ ⟨p, 0, none⟩ _ _ hkp).trans (hgr.block k hk fun e => by
        obtain ⟨_, cur, fr, h2⟩ := hrow k e.symm
        exact hnb cur fr h2)
  clear hown hown' hgr hrow hrow' hp hp' hb' hll
  go_wp2_with fail
  refine bodyPost_end (v := .tuple #[]) ?_ rfl ⟨rfl, HO.out, HC.out⟩
  simp [results, Tryz.results15, go_sem]

theorem iPut {B p : Nat} {L : List UInt8} {w : World} (h : Out B p L w) (s : ByteArray) (room : L.length + s.size ≤ 1099511627776) :
    Calls Tryz.prog 15 (#[.string s] ++ #[.pointer (some ⟨p, 0, none⟩)]) w fun e w' => e = .returned (.tuple #[]) ∧ Out B p (L ++ s.data.toList) w' ∧ Ch B p w w' := iPut0 h s room

end Ty
end Go.Proofs.YtcdmilpncngdoaaGreatDoor

