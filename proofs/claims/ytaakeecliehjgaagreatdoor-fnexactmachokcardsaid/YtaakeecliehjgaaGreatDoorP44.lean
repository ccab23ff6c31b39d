/-
  The specification's RexParse at all arguments.
  The law FnExactOpsOk, at every list of places and both numbers.
-/
import Derived.Test.YtaakeecliehjgaaGreatDoorP42
import Derived.Test.YtaakeecliehjgaaGreatDoorP43
import Derived.Test.YtaakeecliehjgaaGreatDoorP27
namespace Go.Proofs.YtaakeecliehjgaaGreatDoor
open Go.RowKit
namespace Rx

theorem sAtomN {p : Nat} {s : ByteArray} (hs : s.size ≤ 1000) : ∀ n deep, n + deep = 41 → TellsF 146 p s deep (atomN (gOf s) s.size n) := by
  intro n
  have hg : ∀ i, s.size ≤ i → gOf s i = 256 := fun i h => gOf_out h
  induction n with
  | zero =>
    intro deep hd
    obtain rfl : deep = 41 := by omega
    exact sAtomDeep hs
  | succ n ih =>
    intro deep hd
    have h1 := ih (deep + 1) (by omega)
    have h2 := sPiece hs (atomN_in hg n) h1
    have h3 := sPart hs (fun i t j h => pieceAt_in hg (atomN_in hg n) h) h2
    have h4 := sPattern hs (fun i t j h => partAt_in hg (atomN_in hg n) h) h3
    exact sAtom hs (by omega) (fun i t j h hi => (patAt_in hg (atomN_in hg n) h).2 hi) (fun i w h hi => sSet h hi hs) h4

theorem sPatN {p : Nat} {s : ByteArray} (hs : s.size ≤ 1000) : TellsF 95 p s 0 (patN (gOf s) s.size 41) := by
  have hg : ∀ i, s.size ≤ i → gOf s i = 256 := fun i h => gOf_out h
  have h1 := sAtomN (p := p) hs 41 0 (by omega)
  have h2 := sPiece hs (atomN_in hg 41) h1
  have h3 := sPart hs (fun i t j h => pieceAt_in hg (atomN_in hg 41) h) h2
  exact sPattern hs (fun i t j h => partAt_in hg (atomN_in hg 41) h) h3

theorem parse_is {s : ByteArray} (hs : ¬ 60 < s.size) : parseV s = wholeV (gOf s) s.size 41 := by
  unfold parseV
  rw [if_neg hs]
  exact whole_agree (fun i h => gOf_out h) (by omega) (by omega) (by omega) (by omega)

theorem ret_pair {fn : Func} {K L : Nat} {R : Ending → World → Prop} {a : Act} {W : World} {B : Nat} {v0 v1 v2 v3 v4 x : Value} (hf : fn.results = #[.cell K 128, .tmp L]) (ht : a.tmps[K]? = some (.pointer (some ⟨B, 0, none⟩))) (hx : a.tmps[L]? = some x) (hd : a.defers = [])
    (hV : Var W B v0 v1 v2 v3 v4) (hR : R (.returned (.tuple #[.agg #[v0, v1, v2, v3, v4], x])) W) : bodyPost Tryz.prog fn R .ret a W := by
  obtain ⟨x0, x1, x2, x3, x4⟩ := hV.cell
  refine bodyPost_ret ?_ hd hR
  simp [results, hf, ht, hx, go_sem, x0, x1, x2, x3, x4]

theorem frozen_row {W : World} {b : Nat} {cs : Array Value} {T : TypeId} (h : W.heap[b]? = some (.cells cs T (0, 0))) (k : Nat) : W.frozen? ⟨b, k, none⟩ = false := by
  simp [World.frozen?, h]

theorem below_put5 {w W : World} (h : Below w.heap.size w W) (a b c d u : Value) : Below w.heap.size w (put5 W w.heap.size a b c d u) := by
  unfold put5
  exact ((((h.setCell (Nat.le_refl _) _).setCell (Nat.le_refl _) _).setCell (Nat.le_refl _) _).setCell (Nat.le_refl _) _).setCell (Nat.le_refl _) _

set_option maxRecDepth 100000 in
theorem sRexParse (s : ByteArray) (w : World) : Calls Tryz.prog 77 #[.string s] w fun e w' => RexOut (parseV s) w e w' := by
  obtain ⟨R, hR⟩ : ∃ R, R = parseV s := ⟨_, rfl⟩
  rw [← hR]
  have hV0 : Var (w.alloc (.cells #[.int .i64 0, .int .i64 0, .string ⟨#[]⟩, .bool false, .slice none 0 0] 128)) w.heap.size (.int .i64 0) (.int .i64 0) (.string ⟨#[]⟩) (.bool false) (.slice none 0 0) := heap_alloc_last _ _
  have hB0 : Below w.heap.size w (w.alloc (.cells #[.int .i64 0, .int .i64 0, .string ⟨#[]⟩, .bool false, .slice none 0 0] 128)) := (Below.refl _ w).alloc (Nat.le_refl _) _
  by_cases hlen : 60 < s.size
  · have HR : Hid (R = none) := by show R = none; rw [hR]; unfold parseV; rw [if_pos hlen]
    have e1 : decide ((60 : Int) < s.size) = true := decide_eq_true (by omega)
    have e2 : decide (60 < s.size) = true := decide_eq_true hlen
    clear hR hlen
    go_enter Tryz.func77, Tryz.ntmps77
    go_wp2_with fail
    refine ret_pair Tryz.results77 rfl rfl rfl hV0 ?_
    rw [HR.out]
    exact ⟨rfl, hB0⟩
  · rw [parse_is hlen] at hR
    have hs : s.size ≤ 1000 := by omega
    have e1 : decide ((60 : Int) < s.size) = false := decide_eq_false (by omega)
    have e2 : decide (60 < s.size) = false := decide_eq_false hlen
    obtain ⟨o1, ho1⟩ : ∃ o1, o1 = Obj.cells #[.int .i64 0, .int .i64 0, .string ⟨#[]⟩, .bool false, .slice none 0 0] 128 := ⟨_, rfl⟩
    obtain ⟨o2, ho2⟩ : ∃ o2, o2 = Obj.cells #[.string s, .int .i64 0, .bool false] 151 := ⟨_, rfl⟩
    have hrow : ((w.alloc o1).alloc o2).heap[w.heap.size + 1]? = some (.cells #[.string s, .int .i64 0, .bool false] 151 (0, 0)) := by
      rw [ho2, show w.heap.size + 1 = (w.alloc o1).heap.size by simp]; exact heap_alloc_last _ _
    have hC0 : Cs (w.heap.size + 1) s ((0 : Nat) : Int) false ((w.alloc o1).alloc o2) := by
      refine ⟨?_, ?_, ?_, ?_, ?_⟩
      · rw [cell_of_row _ _ 0 _ _ _ hrow]; rfl
      · rw [cell_of_row _ _ 1 _ _ _ hrow]; rfl
      · rw [cell_of_row _ _ 2 _ _ _ hrow]; rfl
      · exact frozen_row hrow _
      · exact frozen_row hrow _
    have hK : ∀ w1 : World, ((w.alloc o1).alloc o2).grownBy w1 (some (w.heap.size + 1)) → Var w1 w.heap.size (.int .i64 0) (.int .i64 0) (.string ⟨#[]⟩) (.bool false) (.slice none 0 0) ∧ Below w.heap.size w w1 ∧ w.heap.size < w1.heap.size ∧ w.heap.size + 1 < w1.heap.size := by
      intro w1 hg
      have hz := hg.size
      simp at hz
      refine ⟨?_, (((Below.refl _ w).alloc (Nat.le_refl _) _).alloc (by simp) _).grown hg (by simp; omega) (by simp), by omega, by omega⟩
      unfold Var
      rw [hg.block _ (by simp; omega) (by simp), Below.heap_alloc _ _ _ (by simp), ho1]
      exact heap_alloc_last _ _
    have hP := sPatN (p := w.heap.size + 1) hs
    subst ho1 ho2
    rcases hq : patN (gOf s) s.size 41 0 with _ | ⟨t, j⟩
    · have HR : Hid (R = none) := by show R = none; rw [hR]; unfold wholeV; rw [hq]
      clear hR
      go_enter Tryz.func77, Tryz.ntmps77
      go_wp2_with (go_at_call 95; refine (hP 0 _ hC0 (Nat.zero_le _)).mono ?_; intro e w1 h1; obtain ⟨a, b, c, d, u, j', rfl, h5, hC, hgr⟩ := tells_none h1 hq; obtain ⟨y1, y2, y3, y4, y5, y6, y7, rfl, rfl, rfl, rfl, rfl⟩ := h5; obtain ⟨hV1, hB1, hl1, hl2⟩ := hK w1 hgr; have k0 := hC.text; have k1 := hC.pos; have k2 := hC.bad; have u0 := hV1.frozen; have v0 := hV1.cell)
      refine ret_pair Tryz.results77 rfl rfl rfl ((put5_var hV1 _ _ _ _ _).kept (Below.heap_alloc _ _ _ ?_)) ?_
      · simpa using hl1
      · rw [HR.out]
        exact ⟨rfl, (below_put5 hB1 _ _ _ _ _).alloc (by rw [put5_size]; omega) _⟩
    · have hcnt := patN_cnt (fun i h => gOf_out h) hq
      have hjs := (patN_in (fun i h => gOf_out h) hq).2 (Nat.zero_le _)
      have hdc := dep_cnt t
      have hx2 : ∀ (w1 : World) {y1 y2 : Nat} {y3 : List UInt8} {y4 : Bool} {y5 : Option Addr} {y6 y7 : Nat}, RexIs w1 t (Iv ((w.alloc (.cells #[.int .i64 0, .int .i64 0, .string ⟨#[]⟩, .bool false, .slice none 0 0] 128)).alloc (.cells #[.string s, .int .i64 0, .bool false] 151)).heap.size w1.heap.size) [.int .i64 y1, .int .i64 y2, .string ⟨y3.toArray⟩, .bool y4, .slice y5 y6 y7] → RexIs (w1.alloc (.cells #[.int .i64 y1, .int .i64 y2, .string ⟨y3.toArray⟩, .bool y4, .slice y5 y6 y7] 128)) t (Iv (w.heap.size + 2) w1.heap.size) [.int .i64 y1, .int .i64 y2, .string ⟨y3.toArray⟩, .bool y4, .slice y5 y6 y7] := by
        intro w1 y1 y2 y3 y4 y5 y6 y7 hx
        refine rex_mono (rex_frame t _ _ (fun k hk => Below.heap_alloc _ _ _ hk.2) hx) fun k hk => ?_
        have h1 := hk.1
        simp at h1
        exact ⟨h1, hk.2⟩
      by_cases hj : j = s.size
      · subst hj
        by_cases hd : dep t ≤ 12
        · have HR : Hid (R = some t) := by show R = _; rw [hR]; unfold wholeV; rw [hq]; simp [hd]
          have d1 : decide ((12 : Int) < dep t) = false := decide_eq_false (by omega)
          have d2 : decide (12 < dep t) = false := decide_eq_false (by omega)
          clear hR hd
          go_enter Tryz.func77, Tryz.ntmps77
          go_wp2_with (first | (go_at_call 95; refine (hP 0 _ hC0 (Nat.zero_le _)).mono ?_; intro e w1 h1; obtain ⟨a, b, c, d, u, rfl, hx, hC, hgr⟩ := tells_some h1 hq; obtain ⟨y1, y2, y3, y4, y5, y6, y7, rfl, rfl, rfl, rfl, rfl⟩ := rex_cells hx; obtain ⟨hV1, hB1, hl1, hl2⟩ := hK w1 hgr; have k0 := hC.text; have k1 := hC.pos; have k2 := hC.bad; have u0 := hV1.frozen; have v0 := hV1.cell) | (go_at_call 96; refine (sDeep (dep t) t (Nat.le_refl _) (by omega) _ (Iv (w.heap.size + 2) w1.heap.size) _ _ _ _ _ (hx2 w1 hx) (fun k hk => by have := hk.2; simp; omega)).mono ?_; rintro e w2 ⟨rfl, hb2⟩; have hV2 := hV1.kept ((hb2.block _ (by simp; omega)).trans (Below.heap_alloc _ _ _ hl1)); have u2 := hV2.frozen; have v2 := hV2.cell; have hr2 := (heap_alloc_last w1 (.cells #[.int .i64 y1, .int .i64 y2, .string ⟨y3.toArray⟩, .bool y4, .slice y5 y6 y7] 128)); have hV3 : Var w2 w1.heap.size (.int .i64 y1) (.int .i64 y2) (.string ⟨y3.toArray⟩) (.bool y4) (.slice y5 y6 y7) := (hb2.block _ (by simp)).trans hr2; have r0 := hV3.cell.1; have r1 := hV3.cell.2.1; have r2 := hV3.cell.2.2.1; have r3 := hV3.cell.2.2.2.1; have r4 := hV3.cell.2.2.2.2; have hB2 : Below w.heap.size w w2 := (hB1.alloc (by omega) _).trans (hb2.mono (by simp; omega))))
          refine ret_pair Tryz.results77 rfl rfl rfl (put5_var hV2 _ _ _ _ _) ?_
          rw [HR.out]
          refine ⟨_, _, _, _, _, rfl, below_put5 hB2 _ _ _ _ _, ?_⟩
          refine rex_mono (rex_frame t _ _ (fun k hk => ?_) (hx2 w1 hx)) fun k hk => ?_
          · have h1 := hk.1
            have h2 := hk.2
            exact (put5_block _ (by omega) _ _ _ _ _).trans (hb2.block k (by simp; omega))
          · have h1 := hk.1
            have h2 := hk.2
            have h3 := hb2.size
            simp at h3
            exact ⟨by omega, by simp; omega⟩
        · have HR : Hid (R = none) := by show R = _; rw [hR]; unfold wholeV; rw [hq]; simp [hd]
          have d1 : decide ((12 : Int) < dep t) = true := decide_eq_true (by omega)
          have d2 : decide (12 < dep t) = true := decide_eq_true (by omega)
          clear hR hd
          go_enter Tryz.func77, Tryz.ntmps77
          go_wp2_with (first | (go_at_call 95; refine (hP 0 _ hC0 (Nat.zero_le _)).mono ?_; intro e w1 h1; obtain ⟨a, b, c, d, u, rfl, hx, hC, hgr⟩ := tells_some h1 hq; obtain ⟨y1, y2, y3, y4, y5, y6, y7, rfl, rfl, rfl, rfl, rfl⟩ := rex_cells hx; obtain ⟨hV1, hB1, hl1, hl2⟩ := hK w1 hgr; have k0 := hC.text; have k1 := hC.pos; have k2 := hC.bad; have u0 := hV1.frozen; have v0 := hV1.cell) | (go_at_call 96; refine (sDeep (dep t) t (Nat.le_refl _) (by omega) _ (Iv (w.heap.size + 2) w1.heap.size) _ _ _ _ _ (hx2 w1 hx) (fun k hk => by have := hk.2; simp; omega)).mono ?_; rintro e w2 ⟨rfl, hb2⟩; have hV2 := hV1.kept ((hb2.block _ (by simp; omega)).trans (Below.heap_alloc _ _ _ hl1)); have u2 := hV2.frozen; have v2 := hV2.cell; have hr2 := (heap_alloc_last w1 (.cells #[.int .i64 y1, .int .i64 y2, .string ⟨y3.toArray⟩, .bool y4, .slice y5 y6 y7] 128)); have hV3 : Var w2 w1.heap.size (.int .i64 y1) (.int .i64 y2) (.string ⟨y3.toArray⟩) (.bool y4) (.slice y5 y6 y7) := (hb2.block _ (by simp)).trans hr2; have r0 := hV3.cell.1; have r1 := hV3.cell.2.1; have r2 := hV3.cell.2.2.1; have r3 := hV3.cell.2.2.2.1; have r4 := hV3.cell.2.2.2.2; have hB2 : Below w.heap.size w w2 := (hB1.alloc (by omega) _).trans (hb2.mono (by simp; omega))))
          refine ret_pair Tryz.results77 rfl rfl rfl (put5_var hV2 _ _ _ _ _) ?_
          rw [HR.out]
          exact ⟨rfl, below_put5 hB2 _ _ _ _ _⟩
      · have HR : Hid (R = none) := by show R = _; rw [hR]; unfold wholeV; rw [hq]; simp [hj]
        have j1 : ((j : Int) != (s.size : Int)) = true := by simp; omega
        have j2 : ((j : Int) == (s.size : Int)) = false := by simp; omega
        clear hR
        go_enter Tryz.func77, Tryz.ntmps77
        go_wp2_with (go_at_call 95; refine (hP 0 _ hC0 (Nat.zero_le _)).mono ?_; intro e w1 h1; obtain ⟨a, b, c, d, u, rfl, hx, hC, hgr⟩ := tells_some h1 hq; obtain ⟨y1, y2, y3, y4, y5, y6, y7, rfl, rfl, rfl, rfl, rfl⟩ := rex_cells hx; obtain ⟨hV1, hB1, hl1, hl2⟩ := hK w1 hgr; have k0 := hC.text; have k1 := hC.pos; have k2 := hC.bad; have u0 := hV1.frozen; have v0 := hV1.cell)
        refine ret_pair Tryz.results77 rfl rfl rfl ((put5_var hV1 _ _ _ _ _).kept (Below.heap_alloc _ _ _ ?_)) ?_
        · simpa using hl1
        · rw [HR.out]
          exact ⟨rfl, (below_put5 hB1 _ _ _ _ _).alloc (by rw [put5_size]; omega) _⟩

end Rx
end Go.Proofs.YtaakeecliehjgaaGreatDoor
namespace Go.Proofs.YtaakeecliehjgaaGreatDoor
open Go.RowKit
namespace Oc
open St (Vl RdV)

/-- A text that is a pattern. -/
def patB (s : ByteArray) : Bool := (Rx.parseV s).isSome

theorem sl_of {w : World} {base e size n : Nat} {v : Value} {xs : List Value} (h : w.ownsRow base e size v n xs) : ∃ (ao : Option Addr) (n' cap' : Nat), v = .slice ao n' cap' := by
  rcases h.2 with ⟨hn, _⟩ | ⟨g, cap, cur, hv, _⟩
  · exact ⟨_, _, _, hn⟩
  · exact ⟨_, _, _, hv⟩
theorem told_of {f : Nat} {s : ByteArray} {w : World} (h : Calls Tryz.prog f #[.string s] w fun e w' => Rx.RexOut (Rx.parseV s) w e w') : Told f (patB s) s w := by
  refine h.mono ?_
  intro e w'' hR
  unfold patB
  unfold Rx.RexOut at hR
  cases hp : Rx.parseV s with
  | none => rw [hp] at hR; obtain ⟨rfl, hb''⟩ := hR; exact ⟨⟨_, _, _, _, _, _, _, rfl⟩, hb''⟩
  | some tr =>
    rw [hp] at hR
    obtain ⟨a, b, c, d, u, rfl, hb'', hI⟩ := hR
    obtain ⟨op, cc, st, no, ks, rfl⟩ := Rx.rex_node hI
    rw [Rx.rex_nd] at hI
    obtain ⟨v, ys, he, ho', -⟩ := hI
    simp at he
    obtain ⟨rfl, rfl, rfl, rfl, rfl⟩ := he
    obtain ⟨ao', n', cap', rfl⟩ := sl_of ho'
    exact ⟨⟨_, _, _, _, _, _, _, rfl⟩, hb''⟩
theorem parseI : ParseI patB := fun s w a b hS hs => told_of (Rx.iRexParse s b w hS.2 (by omega))
theorem parseS : ParseS patB := fun s w => told_of (Rx.sRexParse s w)

end Oc
end Go.Proofs.YtaakeecliehjgaaGreatDoor
