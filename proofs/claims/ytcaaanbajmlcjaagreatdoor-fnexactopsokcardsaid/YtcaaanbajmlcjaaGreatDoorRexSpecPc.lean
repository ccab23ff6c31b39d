/-
  The specification's parser: a piece.
-/
import Derived.Test.YtcaaanbajmlcjaaGreatDoorRexSpecAtom
namespace Go.Proofs.YtcaaanbajmlcjaaGreatDoor
open Go.RowKit
namespace Rx

theorem rexs_one {w : World} {t : Data} {S S' : Nat → Prop} {cs : List Value} (h : RexIs w t S cs) (hS : ∀ k, S k → S' k) : RexsIs w [t] S' cs :=
  rexs_snoc (ts := []) (S1 := fun _ => False) (S2 := S) (xs := []) (by simp only [RexsIs]) h (fun _ h => h.elim) hS

theorem rex_one {w : World} {t : Data} {S S' : Nat → Prop} {cs : List Value} {g op : Nat} (h : RexIs w t S cs) (ho : w.ownsRow 0 52 5 (.slice (some ⟨g, 0, none⟩) 1 1) 1 cs) (hg : S' g) (hS : ∀ k, S k → S' k ∧ k ≠ g) :
    RexIs w (one op t) S' [.int .i64 op, .int .i64 0, .string ⟨#[]⟩, .bool false, .slice (some ⟨g, 0, none⟩) 1 1] := by
  unfold one
  rw [rex_nd]
  refine ⟨_, cs, rfl, ho, fun k hk => ?_, rexs_one h fun k hk => ⟨(hS k hk).1, fun e => ?_⟩⟩
  · simp [Value.ownBlock] at hk
    subst hk
    exact hg
  · simp [Value.ownBlock] at e
    exact (hS k hk).2 e.symm

/-- The piece that is being made: in the variable at block q. -/
structure Pc (p q : Nat) (s : ByteArray) (w : World) (k : Int) (t : Data) (a b c d u : Value) (W : World) : Prop where
  at' : At p s w k false W
  var : Var W q a b c d u
  rex : RexIs W t (fun x => Iv (w.heap.size + 1) W.heap.size x ∧ x ≠ q) [a, b, c, d, u]
  lo : w.heap.size < q

theorem Pc.drewN {p q : Nat} {s : ByteArray} {w W : World} {k : Int} {t : Data} {a b c d u : Value} (h : Pc p q s w k t a b c d u W) (n : Nat) : Pc p q s w k t a b c d u (W.drewN n) :=
  ⟨h.at'.drewN n, h.var, rex_frame (w := W) (w' := W.drewN n) t (fun x => Iv (w.heap.size + 1) W.heap.size x ∧ x ≠ q) _ (fun _ _ => rfl) h.rex, h.lo⟩

theorem meas {N k k' p : Nat} {w W : World} (h : posC p w = k) (h' : posC p W = k') (h1 : k < N) (h2 : k < k') : N - posC p W < N - posC p w := by
  rw [h, h']; omega

theorem Pc.next {p q : Nat} {s : ByteArray} {w W : World} {k : Int} {t : Data} {a b c d u : Value} (h : Pc p q s w k t a b c d u W) (j : Int) (op : Nat) :
    Pc p q s w j (one op t) (.int .i64 op) (.int .i64 0) (.string ⟨#[]⟩) (.bool false) (.slice (some ⟨W.heap.size + 1, 0, none⟩) 1 1)
      (((put5 (W.setCell ⟨p, 1, none⟩ (.int .i64 j)) q (.int .i64 op) (.int .i64 0) (.string ⟨#[]⟩) (.bool false) (.slice (some ⟨W.heap.size + 1, 0, none⟩) 1 1)).alloc (.cells #[a, b, c, d, u] 52)).alloc (.cells #[a, b, c, d, u] 52)) := by
  have hlo := h.lo
  have hlt := h.var.lt
  have hp := h.at'.lt
  obtain ⟨V, hV⟩ : ∃ V, V = put5 (W.setCell ⟨p, 1, none⟩ (.int .i64 j)) q (.int .i64 op) (.int .i64 0) (.string ⟨#[]⟩) (.bool false) (.slice (some ⟨W.heap.size + 1, 0, none⟩) 1 1) := ⟨_, rfl⟩
  have hVz : V.heap.size = W.heap.size := by rw [hV, put5_size]; simp
  have hVb : ∀ x, x ≠ q → x ≠ p → V.heap[x]? = W.heap[x]? := fun x h1 h2 => by rw [hV, put5_block _ h1, Below.heap_setCell _ _ _ _ h2]
  have hVv : Var V q (.int .i64 op) (.int .i64 0) (.string ⟨#[]⟩) (.bool false) (.slice (some ⟨W.heap.size + 1, 0, none⟩) 1 1) := by
    rw [hV]
    exact put5_var (h.var.kept (Below.heap_setCell _ _ _ _ (show q ≠ p by omega))) _ _ _ _ _
  have hVa : At p s w j false V := by
    have h1 := h.at'.pos j
    rw [hV]
    exact ⟨h1.cs.kept (put5_block _ (by omega) _ _ _ _ _), h1.res.kept (put5_block _ (by omega) _ _ _ _ _), put5_grown h1.gr (by omega) _ _ _ _ _, hp⟩
  rw [← hV]
  clear hV
  have hsz : (V.alloc (.cells #[a, b, c, d, u] 52)).heap.size = W.heap.size + 1 := by simp [hVz]
  refine ⟨(hVa.alloc _).alloc _, hVv.kept ((Below.heap_alloc _ _ _ (by omega)).trans (Below.heap_alloc _ _ _ (by omega))), ?_, hlo⟩
  refine rex_one (S := fun x => Iv (w.heap.size + 1) W.heap.size x ∧ x ≠ q) (g := W.heap.size + 1) (op := op) (cs := [a, b, c, d, u]) ?_ ?_ ?_ ?_
  · refine rex_frame t _ _ (fun x hx => ?_) h.rex
    have hx1 := hx.1.1
    have hx2 := hx.1.2
    have hx3 := hx.2
    rw [Below.heap_alloc _ _ _ (by omega), Below.heap_alloc _ _ _ (by omega), hVb x hx3 (by omega)]
  · rw [← hsz]
    exact World.ownsRow_lit _ #[a, b, c, d, u] 1 (Nat.zero_le _) (by unfold maxLen; omega) rfl
  · refine ⟨⟨by omega, by simp [hVz]⟩, by omega⟩
  · rintro x ⟨⟨x1, x2⟩, x3⟩
    refine ⟨⟨⟨x1, by simp [hVz]; omega⟩, x3⟩, by omega⟩

end Rx
end Go.Proofs.YtcaaanbajmlcjaaGreatDoor
