/-
  The specification's parser: lists of Kids that are being made.
  The specification's parser: the walk over a piece.
-/
import Derived.Test.YtkhoccjfkkfipaaGreatDoorP38
namespace Go.Proofs.YtkhoccjfkkfipaaGreatDoor
open Go.RowKit
namespace Rx

theorem kids_append {wr w2 w3 : World} {B p : Nat} {ts : List Data} {t : Data} {v v' : Value} {xs cs : List Value} {S : Nat → Prop} {o : Obj} (hown : wr.ownsRow B 149 5 v ts.length xs) (hks : RexsIs wr ts S xs) (hS : ∀ k, S k → B ≤ k ∧ k < wr.heap.size ∧ v.ownBlock ≠ some k)
    (hB : B ≤ wr.heap.size) (hp : p < B) (hg : wr.grownBy w2 (some p)) (hv : RexIs w2 t (Iv wr.heap.size w2.heap.size) cs) (hown3 : w3.ownsRow B 149 5 v' (ts.length + 1) (xs ++ cs))
    (hgr : (w2.alloc o).grownBy w3 v.ownBlock) (hb : v'.ownBlock = v.ownBlock ∨ v'.ownBlock = some (w2.alloc o).heap.size) : Kids w3 B (ts ++ [t]) v' := by
  refine kids_snoc (w := wr) (w1 := w2) hks hS hB hv hg.size (fun k h1 h2 _ => hg.block k h2 (by simp; omega)) (fun k hk => (hown.lt k hk).2) hown3 (Nat.le_trans (by simp) hgr.size) (fun k h1 h2 => ?_) ?_
  · exact (hgr.block k (by simp; omega) (Ne.symm h2)).trans (Below.heap_alloc _ _ _ h1)
  · rcases hb with h | h
    · exact .inl h
    · exact .inr ⟨_, h, by simp⟩

theorem kids_made (w : World) {B : Nat} (hB : B ≤ w.heap.size) : Kids (w.alloc (.cells #[] 149)) B [] (.slice (some ⟨w.heap.size, 0, none⟩) 0 0) :=
  ⟨[], fun _ => False, World.ownsRow_made w #[] 0 hB (by unfold maxLen; omega) rfl, by simp only [RexsIs], fun _ h => h.elim⟩

theorem kids_first {w : World} {B : Nat} {t : Data} {a b c d u : Value} (hB : B ≤ w.heap.size) (hx : RexIs w t (Iv B w.heap.size) [a, b, c, d, u]) : Kids (w.alloc (.cells #[a, b, c, d, u] 149)) B [t] (.slice (some ⟨w.heap.size, 0, none⟩) 1 1) := by
  refine ⟨[a, b, c, d, u], Iv B w.heap.size, World.ownsRow_lit w #[a, b, c, d, u] 1 hB (by unfold maxLen; omega) rfl, rexs_one (rex_frame t _ _ (fun k hk => Below.heap_alloc _ _ _ hk.2) hx) (fun _ h => h), fun k hk => ?_⟩
  have h1 := hk.1
  have h2 := hk.2
  refine ⟨h1, by simp; omega, fun e => ?_⟩
  simp [Value.ownBlock] at e
  omega

theorem kids_kept {w w' : World} {B : Nat} {ts : List Data} {v : Value} (h : Kids w B ts v) (hg : ∀ k, B ≤ k → k < w.heap.size → w'.heap[k]? = w.heap[k]?) (hs : w.heap.size ≤ w'.heap.size) : Kids w' B ts v := by
  obtain ⟨xs, S, ho, hk, hS⟩ := h
  refine ⟨xs, S, owns_same ho fun g hv => hg g (ho.lt g hv).1 (ho.lt g hv).2, rexs_frame (fun k hk => hg k (hS k hk).1 (hS k hk).2.1) hk, fun k hk => ⟨(hS k hk).1, by have := (hS k hk).2.1; omega, (hS k hk).2.2⟩⟩

theorem owns_head {w : World} {B : Nat} {v a b c d u : Value} (h : w.ownsRow B 149 5 v 1 [a, b, c, d, u]) : ∃ g cap, v = .slice (some ⟨g, 0, none⟩) 1 cap ∧ B ≤ g ∧ w.cell? ⟨g, 0, none⟩ = some a ∧ w.cell? ⟨g, 1, none⟩ = some b ∧ w.cell? ⟨g, 2, none⟩ = some c ∧ w.cell? ⟨g, 3, none⟩ = some d ∧ w.cell? ⟨g, 4, none⟩ = some u := by
  rcases h.2 with ⟨_, h0⟩ | ⟨g, cap, cur, rfl, hg, _⟩
  · omega
  · refine ⟨g, cap, rfl, hg, ?_, ?_, ?_, ?_, ?_⟩
    · rw [h.cellAt 0 (by omega)]; rfl
    · rw [h.cellAt 1 (by omega)]; rfl
    · rw [h.cellAt 2 (by omega)]; rfl
    · rw [h.cellAt 3 (by omega)]; rfl
    · rw [h.cellAt 4 (by omega)]; rfl

theorem kids_head {w : World} {B : Nat} {t : Data} {v : Value} (h : Kids w B [t] v) : ∃ g cap a b c d u, v = .slice (some ⟨g, 0, none⟩) 1 cap ∧ B ≤ g ∧ RexIs w t (Iv B w.heap.size) [a, b, c, d, u] ∧ w.cell? ⟨g, 0, none⟩ = some a ∧ w.cell? ⟨g, 1, none⟩ = some b ∧ w.cell? ⟨g, 2, none⟩ = some c ∧ w.cell? ⟨g, 3, none⟩ = some d ∧ w.cell? ⟨g, 4, none⟩ = some u := by
  obtain ⟨xs, S, ho, hk, hS⟩ := h
  simp only [RexsIs] at hk
  obtain ⟨A, B', c1, c2, rfl, h1, h2, h3, h4⟩ := hk
  simp only [List.append_nil, h2] at ho
  have hl := rex_len h1
  obtain ⟨a, b, c, d, u, rfl⟩ : ∃ a b c d u, c1 = [a, b, c, d, u] := by
    match c1, hl with
    | [a, b, c, d, u], _ => exact ⟨a, b, c, d, u, rfl⟩
  obtain ⟨g, cap, hv, hB, hc⟩ := owns_head ho
  exact ⟨g, cap, a, b, c, d, u, hv, hB, rex_mono h1 fun k hk => ⟨(hS k (h3 k hk).1).1, (hS k (h3 k hk).1).2.1⟩, hc⟩

theorem kids_len' {w : World} {B : Nat} {ts : List Data} {v : Value} (h : Kids w B ts v) : ∃ ao cap, v = .slice ao ts.length cap := by
  obtain ⟨xs, S, ho, _⟩ := h
  rcases ho.2 with ⟨rfl, hn⟩ | ⟨g, cap, cur, rfl, _⟩
  · rw [hn]; exact ⟨_, _, rfl⟩
  · exact ⟨_, _, rfl⟩

theorem owns_len' {w : World} {B n : Nat} {v : Value} {xs : List Value} (h : w.ownsRow B 149 5 v n xs) : ∃ ao cap, v = .slice ao n cap := by
  rcases h.2 with ⟨rfl, hn⟩ | ⟨g, cap, cur, rfl, _⟩
  · rw [hn]; exact ⟨_, _, rfl⟩
  · exact ⟨_, _, rfl⟩

/-- A list that was made of what is none. -/
def KBad (p : Nat) (s : ByteArray) (w : World) (v : Value) (W : World) : Prop :=
  ∃ (k : Int) (n : Nat) (xs : List Value), At p s w k true W ∧ W.ownsRow (w.heap.size + 1) 149 5 v n xs ∧ 1 ≤ n ∧ (n = 1 → ∃ a b c d u, xs = [a, b, c, d, u] ∧ Five a b c d u)

/-- How a list comes out. -/
def KEnd (p : Nat) (s : ByteArray) (w : World) (RS : Option (List Data × Nat)) (v : Value) (W : World) : Prop :=
  (∃ (k : Nat) (ts : List Data), RS = some (ts, k) ∧ k ≤ s.size ∧ At p s w k false W ∧ Kids W (w.heap.size + 1) ts v) ∨ (RS = none ∧ KBad p s w v W)

/-- How much is left. -/
def left (p N : Nat) (w : World) : Nat := match w.cell? ⟨p, 2, none⟩ with
  | some (.bool false) => N + 1 - posC p w
  | _ => 0
theorem left_good {p N : Nat} {s : ByteArray} {i : Nat} {w : World} (h : Cs p s i false w) : left p N w = N + 1 - i := by unfold left; rw [h.bad, posC_is h]
theorem left_bad {p N : Nat} {s : ByteArray} {i : Int} {w : World} (h : Cs p s i true w) : left p N w = 0 := by unfold left; rw [h.bad]
theorem left_lt {p N : Nat} {s : ByteArray} {i j : Nat} {w W : World} (h : Cs p s i false w) (h' : Cs p s j false W) (hi : i ≤ N) (hj : i < j) : left p N W < left p N w := by rw [left_good h, left_good h']; omega
theorem left_lt_bad {p N : Nat} {s : ByteArray} {i : Nat} {j : Int} {w W : World} (h : Cs p s i false w) (h' : Cs p s j true W) (hi : i ≤ N) : left p N W < left p N w := by rw [left_good h, left_bad h']; omega

end Rx
end Go.Proofs.YtkhoccjfkkfipaaGreatDoor
namespace Go.Proofs.YtkhoccjfkkfipaaGreatDoor
open Go.RowKit
namespace Rx

set_option maxHeartbeats 2000000 in
set_option maxRecDepth 100000 in
theorem sPiece {p : Nat} {s : ByteArray} {deep : Nat} {A : Nat → Option (Data × Nat)} (hs : s.size ≤ 1000) (hin : ∀ i t j, A i = some (t, j) → i < j ∧ j ≤ s.size)
    (hAt : TellsF 172 p s deep A) : TellsF 159 p s deep (pieceAt (gOf s) s.size A) := by
  intro i w h hi
  have hA := At.start h
  have hp := h.lt
  obtain ⟨R, hR⟩ : ∃ R, R = pieceAt (gOf s) s.size A i := ⟨_, rfl⟩
  rw [← hR]
  unfold pieceAt at hR
  rcases hf : A i with _ | ⟨t, j⟩
  · rw [hf] at hR
    have HR : Hid (R = none) := hR
    clear hR
    go_enter Tryz.func159, Tryz.ntmps159
    go_wp2_with (go_at_call 172; refine (hAt i _ hA.cs hi).mono ?_; intro e w1 h1; obtain ⟨a, b, c, d, u, j', rfl, h5, hC, hgr⟩ := tells_none h1 hf; have hA1 := hA.grown hgr hC; obtain ⟨y1, y2, y3, y4, y5, y6, y7, rfl, rfl, rfl, rfl, rfl⟩ := h5)
    have l2 := hA1.size
    have hA2 := hA1.alloc (.cells #[.int .i64 y1, .int .i64 y2, .string y3, .bool y4, .slice y5 y6 y7] 149)
    have hV2 : Var (w1.alloc (.cells #[.int .i64 y1, .int .i64 y2, .string y3, .bool y4, .slice y5 y6 y7] 149)) w1.heap.size (.int .i64 y1) (.int .i64 y2) (.string y3) (.bool y4) (.slice y5 y6 y7) := heap_alloc_last _ _
    obtain ⟨W, hW⟩ : ∃ W, W = w1.alloc (.cells #[.int .i64 y1, .int .i64 y2, .string y3, .bool y4, .slice y5 y6 y7] 149) := ⟨_, rfl⟩
    rw [← hW] at hA2 hV2 ⊢
    have hq : w.heap.size < w1.heap.size := l2
    clear hW
    go_loopw [6, 7] (fun _ _ wr => wr = W) (fun _ _ _ => 0)
    case atStart => rfl
    case round =>
      subst hrel
      have k2 := hA2.cs.bad
      have v0 := hA2.res.cell
      have u0 := hA2.res.frozen
      have v1 := hV2.cell.1
      have v2 := hV2.cell.2.1
      have v3 := hV2.cell.2.2.1
      have v4 := hV2.cell.2.2.2.1
      have v5 := hV2.cell.2.2.2.2
      go_wp2_with fail
      refine At.retBad ?_ Tryz.results159 ⟨y1, y2, y3, y4, y5, y6, y7, rfl, rfl, rfl, rfl, rfl⟩ HR.out ?_ ?_
      · exact ⟨_, hA2⟩
      · rfl
      · rfl
  · rw [hf] at hR
    obtain ⟨RS, hRS⟩ : ∃ RS, stars (gOf s) (s.size + 1) t j = RS := ⟨_, rfl⟩
    simp only [hRS] at hR
    have HR : Hid (R = some RS) := hR
    have HL : Hid (stars (gOf s) (s.size + 1) t j = RS) := hRS
    obtain ⟨j1, j2⟩ := hin i t j hf
    clear hR hRS
    go_enter Tryz.func159, Tryz.ntmps159
    go_wp2_with (go_at_call 172; refine (hAt i _ hA.cs hi).mono ?_; intro e w1 h1; obtain ⟨a, b, c, d, u, rfl, hx, hC, hgr⟩ := tells_some h1 hf; have hA1 := hA.grown hgr hC; obtain ⟨y1, y2, y3, y4, y5, y6, y7, rfl, rfl, rfl, rfl, rfl⟩ := rex_cells hx)
    have hq : w.heap.size < w1.heap.size := hA1.size
    have hpc0 : Pc p w1.heap.size s w j t (.int .i64 y1) (.int .i64 y2) (.string ⟨y3.toArray⟩) (.bool y4) (.slice y5 y6 y7) (w1.alloc (.cells #[.int .i64 y1, .int .i64 y2, .string ⟨y3.toArray⟩, .bool y4, .slice y5 y6 y7] 149)) := by
      refine ⟨hA1.alloc _, heap_alloc_last _ _, ?_, hq⟩
      refine rex_mono (rex_frame t _ _ (fun x hx => Below.heap_alloc _ _ _ hx.2) hx) fun x hx => ?_
      have x1 := hx.1
      have x2 := hx.2
      simp at x1
      exact ⟨⟨x1, by simp; omega⟩, by omega⟩
    obtain ⟨q, hqq⟩ : ∃ q, q = w1.heap.size := ⟨_, rfl⟩
    obtain ⟨W, hW⟩ : ∃ W, W = w1.alloc (.cells #[.int .i64 y1, .int .i64 y2, .string ⟨y3.toArray⟩, .bool y4, .slice y5 y6 y7] 149) := ⟨_, rfl⟩
    rw [← hW, ← hqq] at hpc0
    rw [← hW, ← hqq]
    rw [← hqq] at hq
    have hj0 : Hid (j ≤ s.size) := j2
    clear hW hqq hx hC hgr hA1 hA h hi hf hin hAt j1 j2 h1
    go_loopw [6, 7] (fun _ _ wr => ∃ (k f : Nat) (t' : Data) (a b c d u : Value), Pc p q s w k t' a b c d u wr ∧ k ≤ s.size ∧ s.size < f + k ∧ stars (gOf s) f t' k = RS) (fun _ _ wr => s.size - posC p wr)
    case atStart => exact ⟨j, s.size + 1, t, _, _, _, _, _, hpc0, hj0.out, by omega, HL.out⟩
    case round =>
      clear hpc0 HL hj0
      obtain ⟨k, f, t', a, b, c, d, u, hpc, hk, hfk, hRk⟩ := hrel
      obtain ⟨f, rfl⟩ : ∃ f', f = f' + 1 := ⟨f - 1, by omega⟩
      rw [stars_step] at hRk
      obtain ⟨op, cc, ss, no, ao, n, cap, rfl, rfl, rfl, rfl, rfl⟩ := rex_cells hpc.rex
      have HP : Hid (posC p wr = k) := posC_is hpc.at'.cs
      have k1 := hpc.at'.cs.pos
      have k2 := hpc.at'.cs.bad
      have g1 := hpc.at'.cs.fr1
      have lq := hpc.var.lt
      have v1 := hpc.var.cell.1
      have v2 := hpc.var.cell.2.1
      have v3 := hpc.var.cell.2.2.1
      have v4 := hpc.var.cell.2.2.2.1
      have v5 := hpc.var.cell.2.2.2.2
      have uq := hpc.var.frozen
      have bk : (k : Int) ≤ 1000 := by omega
      obtain ⟨k', hk'⟩ : ∃ k', k' = k + 1 := ⟨_, rfl⟩
      have t1 : (k : Int) + 1 = (k' : Int) := by omega
      rw [← hk'] at hRk
      by_cases q42 : gOf s k = 42
      · rw [if_pos q42] at hRk
        have HK : Hid (stars (gOf s) f (one 8 t') k' = RS) := hRk
        have klt := in_of (s := s) (i := k) (by omega)
        have HK2 : Hid (k' = k + 1) := hk'
        have d42 : decide (gOf s k = 42) = true := decide_eq_true q42
        clear hRk hk' q42
        go_wp2_with (first | (go_at_call 138; with_reducible refine (sNow hpc.at'.cs hk 42 42 (by omega) rfl).mono ?_; rintro e wn ⟨rfl, nn42, rfl⟩) | (go_at_call 138; with_reducible refine (sNow (hpc.at'.cs.drewN _) hk 43 43 (by omega) rfl).mono ?_; rintro e wn ⟨rfl, nn43, rfl⟩) | (go_at_call 138; with_reducible refine (sNow (hpc.at'.cs.drewN _) hk 63 63 (by omega) rfl).mono ?_; rintro e wn ⟨rfl, nn63, rfl⟩))
        go_roundw
        case rel =>
          refine ⟨k', f, one 8 t', _, _, _, _, _, (hpc.drewN _).next k' 8, ?_, ?_, HK.out⟩
          · have := HK2.out; omega
          · have := HK2.out; omega
        case measure => exact meas HP.out (posC_is ((hpc.drewN _).next k' 8).at'.cs) klt (by have := HK2.out; omega)
      rw [if_neg q42] at hRk
      by_cases q43 : gOf s k = 43
      · rw [if_pos q43] at hRk
        have HK : Hid (stars (gOf s) f (one 9 t') k' = RS) := hRk
        have klt := in_of (s := s) (i := k) (by omega)
        have HK2 : Hid (k' = k + 1) := hk'
        have d42 : decide (gOf s k = 42) = false := decide_eq_false q42
        have d43 : decide (gOf s k = 43) = true := decide_eq_true q43
        clear hRk hk' q42 q43
        go_wp2_with (first | (go_at_call 138; with_reducible refine (sNow hpc.at'.cs hk 42 42 (by omega) rfl).mono ?_; rintro e wn ⟨rfl, nn42, rfl⟩) | (go_at_call 138; with_reducible refine (sNow (hpc.at'.cs.drewN _) hk 43 43 (by omega) rfl).mono ?_; rintro e wn ⟨rfl, nn43, rfl⟩) | (go_at_call 138; with_reducible refine (sNow (hpc.at'.cs.drewN _) hk 63 63 (by omega) rfl).mono ?_; rintro e wn ⟨rfl, nn63, rfl⟩))
        go_roundw
        case rel =>
          refine ⟨k', f, one 9 t', _, _, _, _, _, (hpc.drewN _).next k' 9, ?_, ?_, HK.out⟩
          · have := HK2.out; omega
          · have := HK2.out; omega
        case measure => exact meas HP.out (posC_is ((hpc.drewN _).next k' 9).at'.cs) klt (by have := HK2.out; omega)
      rw [if_neg q43] at hRk
      by_cases q63 : gOf s k = 63
      · rw [if_pos q63] at hRk
        have HK : Hid (stars (gOf s) f (one 10 t') k' = RS) := hRk
        have klt := in_of (s := s) (i := k) (by omega)
        have HK2 : Hid (k' = k + 1) := hk'
        have d42 : decide (gOf s k = 42) = false := decide_eq_false q42
        have d43 : decide (gOf s k = 43) = false := decide_eq_false q43
        have d63 : decide (gOf s k = 63) = true := decide_eq_true q63
        clear hRk hk' q42 q43 q63
        go_wp2_with (first | (go_at_call 138; with_reducible refine (sNow hpc.at'.cs hk 42 42 (by omega) rfl).mono ?_; rintro e wn ⟨rfl, nn42, rfl⟩) | (go_at_call 138; with_reducible refine (sNow (hpc.at'.cs.drewN _) hk 43 43 (by omega) rfl).mono ?_; rintro e wn ⟨rfl, nn43, rfl⟩) | (go_at_call 138; with_reducible refine (sNow (hpc.at'.cs.drewN _) hk 63 63 (by omega) rfl).mono ?_; rintro e wn ⟨rfl, nn63, rfl⟩))
        go_roundw
        case rel =>
          refine ⟨k', f, one 10 t', _, _, _, _, _, (hpc.drewN _).next k' 10, ?_, ?_, HK.out⟩
          · have := HK2.out; omega
          · have := HK2.out; omega
        case measure => exact meas HP.out (posC_is ((hpc.drewN _).next k' 10).at'.cs) klt (by have := HK2.out; omega)
      rw [if_neg q63] at hRk
      have d42 : decide (gOf s k = 42) = false := decide_eq_false q42
      have d43 : decide (gOf s k = 43) = false := decide_eq_false q43
      have d63 : decide (gOf s k = 63) = false := decide_eq_false q63
      have HK : Hid (R = some (t', k)) := by show R = _; rw [HR.out, ← hRk]
      have v0 := hpc.at'.res.cell
      have u0 := hpc.at'.res.frozen
      clear hRk hk' q42 q43 q63
      go_wp2_with (first | (go_at_call 138; with_reducible refine (sNow hpc.at'.cs hk 42 42 (by omega) rfl).mono ?_; rintro e wn ⟨rfl, nn42, rfl⟩) | (go_at_call 138; with_reducible refine (sNow (hpc.at'.cs.drewN _) hk 43 43 (by omega) rfl).mono ?_; rintro e wn ⟨rfl, nn43, rfl⟩) | (go_at_call 138; with_reducible refine (sNow (hpc.at'.cs.drewN _) hk 63 63 (by omega) rfl).mono ?_; rintro e wn ⟨rfl, nn63, rfl⟩))
      refine At.retRex (j := k) (lo := w.heap.size + 1) ?_ Tryz.results159 (rex_mono (hpc.drewN _).rex fun x hx => ⟨hx.1.1, hx.1.2⟩) ?_ HK.out ?_ ?_
      · exact (hpc.drewN _).at'
      · omega
      · rfl
      · rfl

end Rx
end Go.Proofs.YtkhoccjfkkfipaaGreatDoor
