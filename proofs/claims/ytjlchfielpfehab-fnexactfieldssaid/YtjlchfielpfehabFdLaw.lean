/-
  The law FnExactFields, at every line.
-/
import Derived.Test.YtjlchfielpfehabFdImpl
import Derived.Test.YtjlchfielpfehabMkStr
namespace Go.Proofs.Ytjlchfielpfehab
open Go.RowKit
namespace Fd
open Nd Mk

theorem row_kept {w w' : World} {B n : Nat} {v : Value} {xs : List Value} (h : w.ownsRow B 9 1 v n xs) (hb : Below w.heap.size w w') : w'.ownsRow B 9 1 v n xs := owns_same h fun g hg => hb.block g (h.lt g hg).2
theorem row_turned {w w' : World} {S : Nat → Prop} {u : Value} {B n : Nat} {v : Value} {xs : List Value} (h : w.ownsRow B 9 1 v n xs) (hb : Turned S u w w') (hn : ∀ g, v.ownBlock = some g → ¬ S g ∧ u.ownBlock ≠ some g) : w'.ownsRow B 9 1 v n xs := owns_same h fun g hg => hb.block g (h.lt g hg).2 (hn g hg).1 (hn g hg).2
theorem below_turned {n : Nat} {a w w' : World} {S : Nat → Prop} {u : Value} (h : Below n a w) (ht : Turned S u w w') (hn : n ≤ w.heap.size) (hS : ∀ k, k < n → ¬ S k ∧ u.ownBlock ≠ some k) : Below n a w' :=
  ⟨ht.os.trans h.os, ht.tape.trans h.tape, ht.output.trans h.output, Nat.le_trans h.size ht.size, fun k hk => (ht.block k (by omega) (hS k hk).1 (hS k hk).2).trans (h.block k hk)⟩
theorem below_drewN {n : Nat} {a b : World} (h : Below n a b) (k : Nat) : Below n a (b.drewN k) := ⟨h.os, h.tape, h.output, h.size, h.block⟩

set_option maxHeartbeats 1000000 in
set_option maxRecDepth 100000 in
theorem lawFields (s : ByteArray) (w : World) (_ : s.size ≤ maxLen) :
    Calls Try.prog 3 #[.string s] w fun e w' => e = .returned (.bool true) ∧ Below w.heap.size w w' := by
  by_cases hs : s.size ≤ 1048576
  · have iF := fun w => iFields hs w
    have sF := fun w => sFields hs w
    have hl : (fieldsV s.data.toList).length ≤ 3000000 := by have := fields_len s.data.toList; rw [← Lib.size_eq] at this; omega
    generalize fieldsV s.data.toList = F at iF sF hl
    have bs : ¬ ((1048576 : Int) < s.size) := by omega
    go_enter Try.func3, Try.ntmps3
    go_wp2_with (go_at_call 4; refine hold ?_)
    refine (sF _).mono ?_
    rintro e w1 ⟨v1, rfl, o1, hb1⟩
    obtain ⟨a1, c1, rfl⟩ := owns_slice o1
    go_wp2_with (go_at_call 5; refine hold ?_)
    refine (iF _).mono ?_
    rintro e w2 ⟨v2, rfl, o2, hb2⟩
    obtain ⟨a2, c2, rfl⟩ := owns_slice o2
    have o12 := row_kept o1 hb2
    have B2 := hb1.trans (hb2.mono hb1.size)
    have E1 := lEqTxt o2 o12 hl
    go_wp2_with (first
      | (go_at_call 6; refine E1.mono ?_; rintro e w3 ⟨rfl, n3, rfl⟩)
      | (go_at_call 7; refine hold ?_))
    have hb3 : Below w2.heap.size w2 (w2.drewN n3) := below_drewN (Below.refl _ _) _
    have o23 := row_kept o2 hb3
    have o13 := row_kept o12 hb3
    have B3 := B2.trans (hb3.mono B2.size)
    refine (lMarkTxt (k := 1) o23 (fun x hx => by obtain ⟨y, _, rfl⟩ := List.mem_map.1 hx; exact ⟨_, rfl⟩) hl (by omega) (by omega)).mono ?_
    rintro e w4 ⟨rfl, o24, hT⟩
    have hne : ∀ g, g < w1.heap.size → (Value.slice a2 F.length c2).ownBlock ≠ some g := fun g hg e => by have := (o2.lt g e).1; omega
    have B4 : Below w.heap.size w w4 := below_turned B3 hT B3.size fun k hk => ⟨id, hne k (by have := hb1.size; omega)⟩
    have o14 := row_turned o13 hT fun g hg => ⟨id, hne g (o1.lt g hg).2⟩
    obtain ⟨M, hM⟩ : ∃ M, M = 1 + F.length := ⟨_, rfl⟩
    rw [← hM]
    have held : ∀ (w' : World) (h : Below w4.heap.size w4 w'), Calls Try.prog 8 #[.slice a2 F.length c2, .int .i64 1] w' fun e w'' => e = .returned (.int .i64 M) ∧ Below w'.heap.size w' w'' := fun w' h => by rw [hM]; exact lHeldTxt (k := 1) (row_kept o24 h) hl (by omega) (by omega)
    have hMn : ¬ ((M : Int) < 0) := by omega
    have h4 := Below.refl w4.heap.size w4
    clear o1 o2 o12 o13 o23 o24 E1 hT hM
    go_wp2_with (first
      | (go_at_call 8; refine (held _ h4).mono ?_; rintro e w5 ⟨rfl, hb5⟩)
      | (go_at_call 5; refine hold ?_))
    refine (iF _).mono ?_
    rintro e w6 ⟨v6, rfl, o6, hb6⟩
    obtain ⟨a6, c6, rfl⟩ := owns_slice o6
    have h6 := hb5.trans (hb6.mono hb5.size)
    have o16 := row_kept o14 h6
    have E2 := lEqTxt o6 o16 hl
    have h7 : ∀ n, Below w4.heap.size w4 (w6.drewN n) := fun n => below_drewN h6 n
    clear o6 o16 o14
    go_wp2_with (first
      | (go_at_call 6; refine E2.mono ?_; rintro e w7 ⟨rfl, n7, rfl⟩)
      | (go_at_call 8; refine (held _ (h7 _)).mono ?_; rintro e w8 ⟨rfl, hb8⟩; have h8 := (h7 _).trans (hb8.mono (h7 _).size)))
    go_ret
    exact ⟨rfl, B4.trans (h8.mono B4.size)⟩
  · have bs : (1048576 : Int) < s.size := by omega
    go_enter Try.func3, Try.ntmps3
    go_wp2_with fail
    go_ret
    exact ⟨rfl, Below.refl _ _⟩

end Fd
end Go.Proofs.Ytjlchfielpfehab
