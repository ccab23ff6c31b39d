/-
  The specification's parser: a piece.
  The specification's parser: lists of Kids that are being made.
-/
import Derived.Test.YtkpgdlbcckmpkaaGreatDoorP44
namespace Go.Proofs.YtkpgdlbcckmpkaaGreatDoor
open Go.RowKit
namespace Rx

theorem rexs_one {w : World} {t : Data} {S S' : Nat → Prop} {cs : List Value} (h : RexIs w t S cs) (hS : ∀ k, S k → S' k) : RexsIs w [t] S' cs :=
  rexs_snoc (ts := []) (S1 := fun _ => False) (S2 := S) (xs := []) (by simp only [RexsIs]) h (fun _ h => h.elim) hS

theorem rex_one {w : World} {t : Data} {S S' : Nat → Prop} {cs : List Value} {g op : Nat} (h : RexIs w t S cs) (ho : w.ownsRow 0 74 5 (.slice (some ⟨g, 0, none⟩) 1 1) 1 cs) (hg : S' g) (hS : ∀ k, S k → S' k ∧ k ≠ g) :
    RexIs w (one op t) S' [.int .i64 op, .int .i64 0, .string ⟨#[]⟩, .bool false, .slice (some ⟨g, 0, none⟩) 1 1] := by
  unfold one
  rw [rex_nd]
  refine ⟨_, cs, rfl, ho, fun k hk => ?_, rexs_one h fun k hk => ⟨(hS k hk).1, fun e => ?_⟩⟩
  · simp [Value.ownBlock] at hk
    subst hk
    exact hg
  · simp [Value.ownBlock] at e
    exact (hS k hk).2 e.symm

/-- The piece that is being made: in the variable at block q. -/
structure Pc (p q : Nat) (s : ByteArray) (w : World) (k : Int) (t : Data) (a b c d u : Value) (W : World) : Prop where
  at' : At p s w k false W
  var : Var W q a b c d u
  rex : RexIs W t (fun x => Iv (w.heap.size + 1) W.heap.size x ∧ x ≠ q) [a, b, c, d, u]
  lo : w.heap.size < q

theorem Pc.drewN {p q : Nat} {s : ByteArray} {w W : World} {k : Int} {t : Data} {a b c d u : Value} (h : Pc p q s w k t a b c d u W) (n : Nat) : Pc p q s w k t a b c d u (W.drewN n) :=
  ⟨h.at'.drewN n, h.var, rex_frame (w := W) (w' := W.drewN n) t (fun x => Iv (w.heap.size + 1) W.heap.size x ∧ x ≠ q) _ (fun _ _ => rfl) h.rex, h.lo⟩

theorem meas {N k k' p : Nat} {w W : World} (h : posC p w = k) (h' : posC p W = k') (h1 : k < N) (h2 : k < k') : N - posC p W < N - posC p w := by
  rw [h, h']; omega

theorem Pc.next {p q : Nat} {s : ByteArray} {w W : World} {k : Int} {t : Data} {a b c d u : Value} (h : Pc p q s w k t a b c d u W) (j : Int) (op : Nat) :
    Pc p q s w j (one op t) (.int .i64 op) (.int .i64 0) (.string ⟨#[]⟩) (.bool false) (.slice (some ⟨W.heap.size + 1, 0, none⟩) 1 1)
      (((put5 (W.setCell ⟨p, 1, none⟩ (.int .i64 j)) q (.int .i64 op) (.int .i64 0) (.string ⟨#[]⟩) (.bool false) (.slice (some ⟨W.heap.size + 1, 0, none⟩) 1 1)).alloc (.cells #[a, b, c, d, u] 74)).alloc (.cells #[a, b, c, d, u] 74)) := by
  have hlo := h.lo
  have hlt := h.var.lt
  have hp := h.at'.lt
  obtain ⟨V, hV⟩ : ∃ V, V = put5 (W.setCell ⟨p, 1, none⟩ (.int .i64 j)) q (.int .i64 op) (.int .i64 0) (.string ⟨#[]⟩) (.bool false) (.slice (some ⟨W.heap.size + 1, 0, none⟩) 1 1) := ⟨_, rfl⟩
  have hVz : V.heap.size = W.heap.size := by rw [hV, put5_size]; simp
  have hVb : ∀ x, x ≠ q → x ≠ p → V.heap[x]? = W.heap[x]? := fun x h1 h2 => by rw [hV, put5_block _ h1, Below.heap_setCell _ _ _ _ h2]
  have hVv : Var V q (.int .i64 op) (.int .i64 0) (.string ⟨#[]⟩) (.bool false) (.slice (some ⟨W.heap.size + 1, 0, none⟩) 1 1) := by
    rw [hV]
    exact put5_var (h.var.kept (Below.heap_setCell _ _ _ _ (show q ≠ p by omega))) _ _ _ _ _
  have hVa : At p s w j false V := by
    have h1 := h.at'.pos j
    rw [hV]
    exact ⟨h1.cs.kept (put5_block _ (by omega) _ _ _ _ _), h1.res.kept (put5_block _ (by omega) _ _ _ _ _), put5_grown h1.gr (by omega) _ _ _ _ _, hp⟩
  rw [← hV]
  clear hV
  have hsz : (V.alloc (.cells #[a, b, c, d, u] 74)).heap.size = W.heap.size + 1 := by simp [hVz]
  refine ⟨(hVa.alloc _).alloc _, hVv.kept ((Below.heap_alloc _ _ _ (by omega)).trans (Below.heap_alloc _ _ _ (by omega))), ?_, hlo⟩
  refine rex_one (S := fun x => Iv (w.heap.size + 1) W.heap.size x ∧ x ≠ q) (g := W.heap.size + 1) (op := op) (cs := [a, b, c, d, u]) ?_ ?_ ?_ ?_
  · refine rex_frame t _ _ (fun x hx => ?_) h.rex
    have hx1 := hx.1.1
    have hx2 := hx.1.2
    have hx3 := hx.2
    rw [Below.heap_alloc _ _ _ (by omega), Below.heap_alloc _ _ _ (by omega), hVb x hx3 (by omega)]
  · rw [← hsz]
    exact World.ownsRow_lit _ #[a, b, c, d, u] 1 (Nat.zero_le _) (by unfold maxLen; omega) rfl
  · refine ⟨⟨by omega, by simp [hVz]⟩, by omega⟩
  · rintro x ⟨⟨x1, x2⟩, x3⟩
    refine ⟨⟨⟨x1, by simp [hVz]; omega⟩, x3⟩, by omega⟩

end Rx
end Go.Proofs.YtkpgdlbcckmpkaaGreatDoor

namespace Go.Proofs.YtkpgdlbcckmpkaaGreatDoor
open Go.RowKit
namespace Rx

theorem kids_append {wr w2 w3 : World} {B p : Nat} {ts : List Data} {t : Data} {v v' : Value} {xs cs : List Value} {S : Nat → Prop} {o : Obj} (hown : wr.ownsRow B 74 5 v ts.length xs) (hks : RexsIs wr ts S xs) (hS : ∀ k, S k → B ≤ k ∧ k < wr.heap.size ∧ v.ownBlock ≠ some k)
    (hB : B ≤ wr.heap.size) (hp : p < B) (hg : wr.grownBy w2 (some p)) (hv : RexIs w2 t (Iv wr.heap.size w2.heap.size) cs) (hown3 : w3.ownsRow B 74 5 v' (ts.length + 1) (xs ++ cs))
    (hgr : (w2.alloc o).grownBy w3 v.ownBlock) (hb : v'.ownBlock = v.ownBlock ∨ v'.ownBlock = some (w2.alloc o).heap.size) : Kids w3 B (ts ++ [t]) v' := by
  refine kids_snoc (w := wr) (w1 := w2) hks hS hB hv hg.size (fun k h1 h2 _ => hg.block k h2 (by simp; omega)) (fun k hk => (hown.lt k hk).2) hown3 (Nat.le_trans (by simp) hgr.size) (fun k h1 h2 => ?_) ?_
  · exact (hgr.block k (by simp; omega) (Ne.symm h2)).trans (Below.heap_alloc _ _ _ h1)
  · rcases hb with h | h
    · exact .inl h
    · exact .inr ⟨_, h, by simp⟩

theorem kids_made (w : World) {B : Nat} (hB : B ≤ w.heap.size) : Kids (w.alloc (.cells #[] 74)) B [] (.slice (some ⟨w.heap.size, 0, none⟩) 0 0) :=
  ⟨[], fun _ => False, World.ownsRow_made w #[] 0 hB (by unfold maxLen; omega) rfl, by simp only [RexsIs], fun _ h => h.elim⟩

theorem kids_first {w : World} {B : Nat} {t : Data} {a b c d u : Value} (hB : B ≤ w.heap.size) (hx : RexIs w t (Iv B w.heap.size) [a, b, c, d, u]) : Kids (w.alloc (.cells #[a, b, c, d, u] 74)) B [t] (.slice (some ⟨w.heap.size, 0, none⟩) 1 1) := by
  refine ⟨[a, b, c, d, u], Iv B w.heap.size, World.ownsRow_lit w #[a, b, c, d, u] 1 hB (by unfold maxLen; omega) rfl, rexs_one (rex_frame t _ _ (fun k hk => Below.heap_alloc _ _ _ hk.2) hx) (fun _ h => h), fun k hk => ?_⟩
  have h1 := hk.1
  have h2 := hk.2
  refine ⟨h1, by simp; omega, fun e => ?_⟩
  simp [Value.ownBlock] at e
  omega

theorem kids_kept {w w' : World} {B : Nat} {ts : List Data} {v : Value} (h : Kids w B ts v) (hg : ∀ k, B ≤ k → k < w.heap.size → w'.heap[k]? = w.heap[k]?) (hs : w.heap.size ≤ w'.heap.size) : Kids w' B ts v := by
  obtain ⟨xs, S, ho, hk, hS⟩ := h
  refine ⟨xs, S, owns_same ho fun g hv => hg g (ho.lt g hv).1 (ho.lt g hv).2, rexs_frame (fun k hk => hg k (hS k hk).1 (hS k hk).2.1) hk, fun k hk => ⟨(hS k hk).1, by have := (hS k hk).2.1; omega, (hS k hk).2.2⟩⟩

theorem owns_head {w : World} {B : Nat} {v a b c d u : Value} (h : w.ownsRow B 74 5 v 1 [a, b, c, d, u]) : ∃ g cap, v = .slice (some ⟨g, 0, none⟩) 1 cap ∧ B ≤ g ∧ w.cell? ⟨g, 0, none⟩ = some a ∧ w.cell? ⟨g, 1, none⟩ = some b ∧ w.cell? ⟨g, 2, none⟩ = some c ∧ w.cell? ⟨g, 3, none⟩ = some d ∧ w.cell? ⟨g, 4, none⟩ = some u := by
  rcases h.2 with ⟨_, h0⟩ | ⟨g, cap, cur, rfl, hg, _⟩
  · omega
  · refine ⟨g, cap, rfl, hg, ?_, ?_, ?_, ?_, ?_⟩
    · rw [h.cellAt 0 (by omega)]; rfl
    · rw [h.cellAt 1 (by omega)]; rfl
    · rw [h.cellAt 2 (by omega)]; rfl
    · rw [h.cellAt 3 (by omega)]; rfl
    · rw [h.cellAt 4 (by omega)]; rfl

theorem kids_head {w : World} {B : Nat} {t : Data} {v : Value} (h : Kids w B [t] v) : ∃ g cap a b c d u, v = .slice (some ⟨g, 0, none⟩) 1 cap ∧ B ≤ g ∧ RexIs w t (Iv B w.heap.size) [a, b, c, d, u] ∧ w.cell? ⟨g, 0, none⟩ = some a ∧ w.cell? ⟨g, 1, none⟩ = some b ∧ w.cell? ⟨g, 2, none⟩ = some c ∧ w.cell? ⟨g, 3, none⟩ = some d ∧ w.cell? ⟨g, 4, none⟩ = some u := by
  obtain ⟨xs, S, ho, hk, hS⟩ := h
  simp only [RexsIs] at hk
  obtain ⟨A, B', c1, c2, rfl, h1, h2, h3, h4⟩ := hk
  simp only [List.append_nil, h2] at ho
  have hl := rex_len h1
  obtain ⟨a, b, c, d, u, rfl⟩ : ∃ a b c d u, c1 = [a, b, c, d, u] := by
    match c1, hl with
    | [a, b, c, d, u], _ => exact ⟨a, b, c, d, u, rfl⟩
  obtain ⟨g, cap, hv, hB, hc⟩ := owns_head ho
  exact ⟨g, cap, a, b, c, d, u, hv, hB, rex_mono h1 fun k hk => ⟨(hS k (h3 k hk).1).1, (hS k (h3 k hk).1).2.1⟩, hc⟩

theorem kids_len' {w : World} {B : Nat} {ts : List Data} {v : Value} (h : Kids w B ts v) : ∃ ao cap, v = .slice ao ts.length cap := by
  obtain ⟨xs, S, ho, _⟩ := h
  rcases ho.2 with ⟨rfl, hn⟩ | ⟨g, cap, cur, rfl, _⟩
  · rw [hn]; exact ⟨_, _, rfl⟩
  · exact ⟨_, _, rfl⟩

theorem owns_len' {w : World} {B n : Nat} {v : Value} {xs : List Value} (h : w.ownsRow B 74 5 v n xs) : ∃ ao cap, v = .slice ao n cap := by
  rcases h.2 with ⟨rfl, hn⟩ | ⟨g, cap, cur, rfl, _⟩
  · rw [hn]; exact ⟨_, _, rfl⟩
  · exact ⟨_, _, rfl⟩

/-- A list that was made of what is none. -/
def KBad (p : Nat) (s : ByteArray) (w : World) (v : Value) (W : World) : Prop :=
  ∃ (k : Int) (n : Nat) (xs : List Value), At p s w k true W ∧ W.ownsRow (w.heap.size + 1) 74 5 v n xs ∧ 1 ≤ n ∧ (n = 1 → ∃ a b c d u, xs = [a, b, c, d, u] ∧ Five a b c d u)

/-- How a list comes out. -/
def KEnd (p : Nat) (s : ByteArray) (w : World) (RS : Option (List Data × Nat)) (v : Value) (W : World) : Prop :=
  (∃ (k : Nat) (ts : List Data), RS = some (ts, k) ∧ k ≤ s.size ∧ At p s w k false W ∧ Kids W (w.heap.size + 1) ts v) ∨ (RS = none ∧ KBad p s w v W)

/-- How much is left. -/
def left (p N : Nat) (w : World) : Nat := match w.cell? ⟨p, 2, none⟩ with
  | some (.bool false) => N + 1 - posC p w
  | _ => 0
theorem left_good {p N : Nat} {s : ByteArray} {i : Nat} {w : World} (h : Cs p s i false w) : left p N w = N + 1 - i := by unfold left; rw [h.bad, posC_is h]
theorem left_bad {p N : Nat} {s : ByteArray} {i : Int} {w : World} (h : Cs p s i true w) : left p N w = 0 := by unfold left; rw [h.bad]
theorem left_lt {p N : Nat} {s : ByteArray} {i j : Nat} {w W : World} (h : Cs p s i false w) (h' : Cs p s j false W) (hi : i ≤ N) (hj : i < j) : left p N W < left p N w := by rw [left_good h, left_good h']; omega
theorem left_lt_bad {p N : Nat} {s : ByteArray} {i : Nat} {j : Int} {w W : World} (h : Cs p s i false w) (h' : Cs p s j true W) (hi : i ≤ N) : left p N W < left p N w := by rw [left_good h, left_bad h']; omega

end Rx
end Go.Proofs.YtkpgdlbcckmpkaaGreatDoor

