/-
  The specification's parser: an atom.
  The specification's parser: a piece.
  The specification's parser: lists of Kids that are being made.
  The specification's parser: the walk over a piece.
  The specification's parser: a part.
  The specification's parser: a pattern.
  The specification's parser: the walk over a set.
  The specification's RexParse at all arguments.
-/
import Derived.Test.YtgdnlmaacnnfiaaGreatDoorP39
namespace Go.Proofs.YtgdnlmaacnnfiaaGreatDoor
open Go.RowKit
namespace Rx

set_option maxHeartbeats 2000000 in
theorem sAtomDeep {p : Nat} {s : ByteArray} (_hs : s.size ≤ 1000) : TellsF 119 p s 41 (fun _ => none) := by
  intro i w h hi
  have hA := At.start h
  have hp := h.lt
  have c0 := hA.cs.text
  have c1 := hA.cs.pos
  have c2 := hA.cs.bad
  have f2 := hA.cs.fr2
  rcases Nat.lt_or_ge i s.size with hq | hq
  · have e3 : decide ((s.size : Int) ≤ i) = false := decide_eq_false (by omega)
    have e4 : decide (s.size ≤ i) = false := decide_eq_false (by omega)
    go_enter Tryz.func119, Tryz.ntmps119
    go_wp2_with fail
    go_quiet (fail)
    go_wp2_with fail
    refine At.retBad ?_ Tryz.results119 Five.zero rfl ?_ ?_
    · exact ⟨_, (hA.drewN _).spoil true⟩
    · rfl
    · rfl
  · have e3 : decide ((s.size : Int) ≤ i) = true := decide_eq_true (by omega)
    have e4 : decide (s.size ≤ i) = true := decide_eq_true (by omega)
    go_enter Tryz.func119, Tryz.ntmps119
    go_wp2_with fail
    go_quiet (fail)
    go_wp2_with fail
    refine At.retBad ?_ Tryz.results119 Five.zero rfl ?_ ?_
    · exact ⟨_, (hA.drewN _).spoil true⟩
    · rfl
    · rfl

/-- What l3Set tells. -/
def SetsF (p : Nat) (s : ByteArray) : Prop :=
  ∀ (i : Nat) (w : World), Cs p s i false w → i ≤ s.size → Calls Tryz.prog 124 #[.pointer (some ⟨p, 0, none⟩)] w fun e w' => Tells p s w (setAt (gOf s) s.size i) e w'

theorem tells_none {p : Nat} {s : ByteArray} {w w' : World} {r : Option (Data × Nat)} {e : Ending} (h : Tells p s w r e w') (hr : r = none) : ∃ (a b c d u : Value) (i : Int), e = .returned (.agg #[a, b, c, d, u]) ∧ Five a b c d u ∧ Cs p s i true w' ∧ w.grownBy w' (some p) := by
  rw [hr] at h
  exact h
theorem tells_some {p : Nat} {s : ByteArray} {w w' : World} {r : Option (Data × Nat)} {e : Ending} {t : Data} {j : Nat} (h : Tells p s w r e w') (hr : r = some (t, j)) : ∃ a b c d u, e = .returned (.agg #[a, b, c, d, u]) ∧ RexIs w' t (Iv w.heap.size w'.heap.size) [a, b, c, d, u] ∧ Cs p s j false w' ∧ w.grownBy w' (some p) := by
  rw [hr] at h
  exact h

theorem rex_keep {w1 W : World} {p lo : Nat} {t : Data} {cs : List Value} (h : RexIs w1 t (Iv lo w1.heap.size) cs) (hg : w1.grownBy W (some p)) (hp : p < lo) : RexIs W t (Iv lo W.heap.size) cs :=
  rex_mono (rex_frame t _ _ (fun b hb => hg.block b hb.2 (by have := hb.1; simp; omega)) h) fun _ hb => ⟨hb.1, Nat.lt_of_lt_of_le hb.2 hg.size⟩

theorem wrap_byte (b : UInt8) : wrap64 (b.toNat : Int) = (b.toNat : Int) := by
  have := b.toNat_lt
  unfold wrap64; omega

set_option maxHeartbeats 2000000 in
set_option maxRecDepth 100000 in
theorem sAtom {p : Nat} {s : ByteArray} {deep : Nat} {F : Nat → Option (Data × Nat)} (hs : s.size ≤ 1000) (hd : deep ≤ 40) (hin : ∀ i t j, F i = some (t, j) → i ≤ s.size → j ≤ s.size) (hS : SetsF p s)
    (hF : TellsF 88 p s (deep + 1) F) : TellsF 119 p s deep (atomAt (gOf s) s.size F) := by
  intro i w h hi
  have hA := At.start h
  have hp := h.lt
  have c0 := hA.cs.text
  have c1 := hA.cs.pos
  have c2 := hA.cs.bad
  have f1 := hA.cs.fr1
  have f2 := hA.cs.fr2
  have hdd : (deep : Int) ≤ 40 := by omega
  have d1 : decide ((40 : Int) < deep) = false := decide_eq_false (by omega)
  have d2 : decide (40 < deep) = false := decide_eq_false (by omega)
  obtain ⟨dp, hdp⟩ : ∃ dp, dp = deep + 1 := ⟨_, rfl⟩
  have d3 : (deep : Int) + 1 = (dp : Int) := by omega
  rw [← hdp] at hF
  clear hdp
  obtain ⟨R, hR⟩ : ∃ R, R = atomAt (gOf s) s.size F i := ⟨_, rfl⟩
  rw [← hR]
  unfold atomAt at hR
  clear hd
  rcases Nat.lt_or_ge i s.size with hq | hq
  · have e3 : decide ((s.size : Int) ≤ i) = false := decide_eq_false (by omega)
    have e4 : decide (s.size ≤ i) = false := decide_eq_false (by omega)
    have hg := gOf_in hq
    have hbl := s[i].toNat_lt
    have hbi : (i : Int) ≤ 1000 := by omega
    obtain ⟨i1, hi1⟩ : ∃ i1, i1 = i + 1 := ⟨_, rfl⟩
    have t1 : (i : Int) + 1 = (i1 : Int) := by omega
    have i1s : i1 ≤ s.size := by omega
    have i1b : (i1 : Int) ≤ 1000 := by omega
    rw [if_neg (by omega), ← hi1] at hR
    clear hi h hi1
    by_cases q40 : gOf s i = 40
    · rw [if_pos q40] at hR
      have eb : (s[i].toNat : Int) = 40 := by omega
      have HR : Hid (R = shut (gOf s) (F i1)) := hR
      clear hR hg q40 hbl
      rcases hf : F i1 with _ | ⟨t, j⟩
      · have HR2 : Hid (R = none) := by show R = none; rw [HR.out, hf]; rfl
        go_enter Tryz.func119, Tryz.ntmps119
        go_wp2_with fail
        go_quiet (fail)
        go_wp2_with fail
        go_quiet (fail)
        go_wp2_with (first | (go_at_call 88; refine (hF i1 _ ((hA.drewN _).pos _).cs i1s).mono ?_; intro e w1 h1; obtain ⟨a, b, c, d, u, j', rfl, h5, hC, hgr⟩ := tells_none h1 hf; have hA1 := ((hA.drewN _).pos _).grown hgr hC; obtain ⟨y1, y2, y3, y4, y5, y6, y7, rfl, rfl, rfl, rfl, rfl⟩ := h5; have k1 := hC.pos; have k2 := hC.bad; have g1 := hC.fr1; have g2 := hC.fr2; have l1 := hC.lt; have l2 := hA1.size; have v0 := hA1.res.cell; have u0 := hA1.res.frozen) | (go_at_call 96; refine (sNowBad (hA1.alloc _).cs _).mono ?_; rintro e w2 ⟨rfl, n2, rfl⟩))
        refine At.retBad ?_ Tryz.results119 ⟨y1, y2, y3, y4, y5, y6, y7, rfl, rfl, rfl, rfl, rfl⟩ HR2.out ?_ ?_
        · exact ⟨_, (((hA1.alloc _).drewN _).spoil true).pos _⟩
        · rfl
        · rfl
      · have hj := hin i1 t j hf i1s
        by_cases h41 : gOf s j = 41
        · have HR2 : Hid (R = some (t, j + 1)) := by show R = _; rw [HR.out, hf]; simp [shut, h41]
          have e41 : decide (gOf s j = 41) = true := decide_eq_true h41
          obtain ⟨j1, hj1⟩ : ∃ j1, j1 = j + 1 := ⟨_, rfl⟩
          rw [← hj1] at HR2
          have t2 : (j : Int) + 1 = (j1 : Int) := by omega
          have bj : (j : Int) ≤ 1000 := by omega
          clear hj1 h41 HR
          go_enter Tryz.func119, Tryz.ntmps119
          go_wp2_with fail
          go_quiet (fail)
          go_wp2_with fail
          go_quiet (fail)
          go_wp2_with (first | (go_at_call 88; refine (hF i1 _ ((hA.drewN _).pos _).cs i1s).mono ?_; intro e w1 h1; obtain ⟨a, b, c, d, u, rfl, hx, hC, hgr⟩ := tells_some h1 hf; have hA1 := ((hA.drewN _).pos _).grown hgr hC; obtain ⟨y1, y2, y3, y4, y5, y6, y7, rfl, rfl, rfl, rfl, rfl⟩ := rex_cells hx; have k1 := hC.pos; have k2 := hC.bad; have g1 := hC.fr1; have g2 := hC.fr2; have l1 := hC.lt; have l2 := hA1.size; have v0 := hA1.res.cell; have u0 := hA1.res.frozen) | (go_at_call 96; refine (sNow (hA1.alloc _).cs hj 41 41 (by omega) rfl).mono ?_; rintro e w2 ⟨rfl, n2, rfl⟩))
          refine At.retRex (j := j1) ?_ Tryz.results119 (rex_keep (p := p) hx ?_ ?_) ?_ HR2.out ?_ ?_
          · exact ((hA1.alloc _).drewN _).pos _
          · exact (grown_drewN (World.grownBy_alloc _ _ _) _).trans (grown_set _ ⟨p, 1, none⟩ _)
          · simp; omega
          · simp
          · rfl
          · rfl
        · have HR2 : Hid (R = none) := by show R = _; rw [HR.out, hf]; simp [shut, h41]
          have e41 : decide (gOf s j = 41) = false := decide_eq_false h41
          have bj : (j : Int) ≤ 1000 := by omega
          clear h41 HR
          go_enter Tryz.func119, Tryz.ntmps119
          go_wp2_with fail
          go_quiet (fail)
          go_wp2_with fail
          go_quiet (fail)
          go_wp2_with (first | (go_at_call 88; refine (hF i1 _ ((hA.drewN _).pos _).cs i1s).mono ?_; intro e w1 h1; obtain ⟨a, b, c, d, u, rfl, hx, hC, hgr⟩ := tells_some h1 hf; have hA1 := ((hA.drewN _).pos _).grown hgr hC; obtain ⟨y1, y2, y3, y4, y5, y6, y7, rfl, rfl, rfl, rfl, rfl⟩ := rex_cells hx; have k1 := hC.pos; have k2 := hC.bad; have g1 := hC.fr1; have g2 := hC.fr2; have l1 := hC.lt; have l2 := hA1.size; have v0 := hA1.res.cell; have u0 := hA1.res.frozen) | (go_at_call 96; refine (sNow (hA1.alloc _).cs hj 41 41 (by omega) rfl).mono ?_; rintro e w2 ⟨rfl, n2, rfl⟩))
          refine At.retBad ?_ Tryz.results119 ⟨y1, y2, _, y4, y5, y6, y7, rfl, rfl, rfl, rfl, rfl⟩ HR2.out ?_ ?_
          · exact ⟨_, (((hA1.alloc _).drewN _).spoil true).pos _⟩
          · rfl
          · rfl
    rw [if_neg q40] at hR
    by_cases q46 : gOf s i = 46
    · rw [if_pos q46] at hR
      have eb : (s[i].toNat : Int) = 46 := by omega
      have HR : Hid (R = some (leaf 2, i1)) := hR
      clear hR hg q46 hbl hin hF hS
      go_enter Tryz.func119, Tryz.ntmps119
      go_wp2_with fail
      go_quiet (fail)
      go_wp2_with fail
      go_quiet (fail)
      go_wp2_with fail
      refine At.retLeaf (op := 2) (c := 0) (set := []) (no := false) (j := i1) ?_ Tryz.results119 HR.out ?_ ?_ ?_ ?_ ?_ ?_ ?_
      · exact (hA.drewN _).pos _
      all_goals rfl
    rw [if_neg q46] at hR
    by_cases q94 : gOf s i = 94
    · rw [if_pos q94] at hR
      have eb : (s[i].toNat : Int) = 94 := by omega
      have HR : Hid (R = some (leaf 4, i1)) := hR
      clear hR hg q94 hbl hin hF hS
      go_enter Tryz.func119, Tryz.ntmps119
      go_wp2_with fail
      go_quiet (fail)
      go_wp2_with fail
      go_quiet (fail)
      go_wp2_with fail
      refine At.retLeaf (op := 4) (c := 0) (set := []) (no := false) (j := i1) ?_ Tryz.results119 HR.out ?_ ?_ ?_ ?_ ?_ ?_ ?_
      · exact (hA.drewN _).pos _
      all_goals rfl
    rw [if_neg q94] at hR
    by_cases q36 : gOf s i = 36
    · rw [if_pos q36] at hR
      have eb : (s[i].toNat : Int) = 36 := by omega
      have HR : Hid (R = some (leaf 5, i1)) := hR
      clear hR hg q36 hbl hin hF hS
      go_enter Tryz.func119, Tryz.ntmps119
      go_wp2_with fail
      go_quiet (fail)
      go_wp2_with fail
      go_quiet (fail)
      go_wp2_with fail
      refine At.retLeaf (op := 5) (c := 0) (set := []) (no := false) (j := i1) ?_ Tryz.results119 HR.out ?_ ?_ ?_ ?_ ?_ ?_ ?_
      · exact (hA.drewN _).pos _
      all_goals rfl
    rw [if_neg q36] at hR
    by_cases q91 : gOf s i = 91
    · rw [if_pos q91] at hR
      have eb : (s[i].toNat : Int) = 91 := by omega
      have HR : Hid (R = setAt (gOf s) s.size i1) := hR
      clear hR hg q91 hbl hin hF
      rcases hf : setAt (gOf s) s.size i1 with _ | ⟨t, j⟩
      · have HR2 : Hid (R = none) := HR.out.trans hf
        go_enter Tryz.func119, Tryz.ntmps119
        go_wp2_with fail
        go_quiet (fail)
        go_wp2_with fail
        go_quiet (fail)
        go_wp2_with (go_at_call 124; refine (hS i1 _ ((hA.drewN _).pos _).cs i1s).mono ?_; intro e w1 h1; obtain ⟨a, b, c, d, u, j', rfl, h5, hC, hgr⟩ := tells_none h1 hf; have hA1 := ((hA.drewN _).pos _).grown hgr hC; obtain ⟨y1, y2, y3, y4, y5, y6, y7, rfl, rfl, rfl, rfl, rfl⟩ := h5; have v0 := hA1.res.cell; have u0 := hA1.res.frozen)
        refine At.retBad ?_ Tryz.results119 ⟨y1, y2, y3, y4, y5, y6, y7, rfl, rfl, rfl, rfl, rfl⟩ HR2.out ?_ ?_
        · exact ⟨_, hA1⟩
        · rfl
        · rfl
      · have HR2 : Hid (R = some (t, j)) := HR.out.trans hf
        go_enter Tryz.func119, Tryz.ntmps119
        go_wp2_with fail
        go_quiet (fail)
        go_wp2_with fail
        go_quiet (fail)
        go_wp2_with (go_at_call 124; refine (hS i1 _ ((hA.drewN _).pos _).cs i1s).mono ?_; intro e w1 h1; obtain ⟨a, b, c, d, u, rfl, hx, hC, hgr⟩ := tells_some h1 hf; have hA1 := ((hA.drewN _).pos _).grown hgr hC; obtain ⟨y1, y2, y3, y4, y5, y6, y7, rfl, rfl, rfl, rfl, rfl⟩ := rex_cells hx; have v0 := hA1.res.cell; have u0 := hA1.res.frozen)
        refine At.retRex (j := j) ?_ Tryz.results119 hx ?_ HR2.out ?_ ?_
        · exact hA1
        · simp
        · rfl
        · rfl
    rw [if_neg q91] at hR
    clear hS hin hF
    by_cases q92 : gOf s i = 92
    · rw [if_pos q92] at hR
      have eb : (s[i].toNat : Int) = 92 := by omega
      rcases Nat.lt_or_ge i1 s.size with hq1 | hq1
      · have hg1 := gOf_in hq1
        have hb1 := s[i1].toNat_lt
        obtain ⟨i2, hi2⟩ : ∃ i2, i2 = i1 + 1 := ⟨_, rfl⟩
        have HR : Hid (R = some (chr (gOf s i1), i2)) := by show R = _; rw [hR, if_neg (by omega), show i + 2 = i2 by omega]
        have t2 : (i1 : Int) + 1 = (i2 : Int) := by omega
        have e5 : decide ((s.size : Int) ≤ i1) = false := decide_eq_false (by omega)
        have e6 : decide (s.size ≤ i1) = false := decide_eq_false (by omega)
        have HG : Hid (gOf s i1 = s[i1].toNat) := hg1
        clear hR hg q92 hbl hg1 hb1 hi2
        go_enter Tryz.func119, Tryz.ntmps119
        go_wp2_with fail
        go_quiet (fail)
        go_wp2_with fail
        go_quiet (fail)
        go_wp2_with fail
        go_quiet (fail)
        go_wp2_with fail
        go_quiet (fail)
        go_wp2_with fail
        refine At.retLeaf (op := 1) (c := gOf s i1) (set := []) (no := false) (j := i2) ?_ Tryz.results119 HR.out ?_ ?_ ?_ ?_ ?_ ?_ ?_
        · exact (((hA.drewN _).pos _).drewN _).pos _
        · rfl
        · rw [HG.out, wrap_byte]
        all_goals rfl
      · have HR : Hid (R = none) := by show R = _; rw [hR, if_pos (gOf_out (by omega))]
        have e5 : decide ((s.size : Int) ≤ i1) = true := decide_eq_true (by omega)
        have e6 : decide (s.size ≤ i1) = true := decide_eq_true (by omega)
        clear hR hg q92 hbl
        go_enter Tryz.func119, Tryz.ntmps119
        go_wp2_with fail
        go_quiet (fail)
        go_wp2_with fail
        go_quiet (fail)
        go_wp2_with fail
        go_quiet (fail)
        go_wp2_with fail
        refine At.retBad ?_ Tryz.results119 Five.zero HR.out ?_ ?_
        · exact ⟨_, (((hA.drewN _).pos _).drewN _).spoil true⟩
        · rfl
        · rfl
    rw [if_neg q92] at hR
    by_cases q42 : gOf s i = 42
    · rw [if_pos (by omega)] at hR
      have eb : (s[i].toNat : Int) = 42 := by omega
      have HR : Hid (R = none) := hR
      clear hR hg q42 hbl
      go_enter Tryz.func119, Tryz.ntmps119
      go_wp2_with fail
      go_quiet (fail)
      go_wp2_with fail
      go_quiet (fail)
      go_wp2_with fail
      refine At.retBad ?_ Tryz.results119 ⟨1, _, _, false, none, 0, 0, rfl, rfl, rfl, rfl, rfl⟩ HR.out ?_ ?_
      · exact ⟨_, ((hA.drewN _).pos _).spoil true⟩
      · rfl
      · rfl
    by_cases q43 : gOf s i = 43
    · rw [if_pos (by omega)] at hR
      have eb : (s[i].toNat : Int) = 43 := by omega
      have HR : Hid (R = none) := hR
      clear hR hg q43 hbl
      go_enter Tryz.func119, Tryz.ntmps119
      go_wp2_with fail
      go_quiet (fail)
      go_wp2_with fail
      go_quiet (fail)
      go_wp2_with fail
      refine At.retBad ?_ Tryz.results119 ⟨1, _, _, false, none, 0, 0, rfl, rfl, rfl, rfl, rfl⟩ HR.out ?_ ?_
      · exact ⟨_, ((hA.drewN _).pos _).spoil true⟩
      · rfl
      · rfl
    by_cases q63 : gOf s i = 63
    · rw [if_pos (by omega)] at hR
      have eb : (s[i].toNat : Int) = 63 := by omega
      have HR : Hid (R = none) := hR
      clear hR hg q63 hbl
      go_enter Tryz.func119, Tryz.ntmps119
      go_wp2_with fail
      go_quiet (fail)
      go_wp2_with fail
      go_quiet (fail)
      go_wp2_with fail
      refine At.retBad ?_ Tryz.results119 ⟨1, _, _, false, none, 0, 0, rfl, rfl, rfl, rfl, rfl⟩ HR.out ?_ ?_
      · exact ⟨_, ((hA.drewN _).pos _).spoil true⟩
      · rfl
      · rfl
    rw [if_neg (by omega)] at hR
    have HR : Hid (R = some (chr (gOf s i), i1)) := hR
    have n40 : ((s[i].toNat : Int) == 40) = false := by simp; omega
    have n46 : ((s[i].toNat : Int) == 46) = false := by simp; omega
    have n94 : ((s[i].toNat : Int) == 94) = false := by simp; omega
    have n36 : ((s[i].toNat : Int) == 36) = false := by simp; omega
    have n91 : ((s[i].toNat : Int) == 91) = false := by simp; omega
    have n92 : ((s[i].toNat : Int) == 92) = false := by simp; omega
    have n42 : ((s[i].toNat : Int) == 42) = false := by simp; omega
    have n43 : ((s[i].toNat : Int) == 43) = false := by simp; omega
    have n63 : ((s[i].toNat : Int) == 63) = false := by simp; omega
    have HG : Hid (gOf s i = s[i].toNat) := hg
    clear hR hg hbl q40 q46 q94 q36 q91 q92 q42 q43 q63
    go_enter Tryz.func119, Tryz.ntmps119
    go_wp2_with fail
    go_quiet (fail)
    go_wp2_with fail
    go_quiet (fail)
    go_wp2_with fail
    refine At.retLeaf (op := 1) (c := gOf s i) (set := []) (no := false) (j := i1) ?_ Tryz.results119 HR.out ?_ ?_ ?_ ?_ ?_ ?_ ?_
    · exact (hA.drewN _).pos _
    · rfl
    · rw [HG.out, wrap_byte]
    all_goals rfl
  · rw [if_pos (gOf_out hq)] at hR
    have HR : Hid (R = none) := hR
    have e3 : decide ((s.size : Int) ≤ i) = true := decide_eq_true (by omega)
    have e4 : decide (s.size ≤ i) = true := decide_eq_true (by omega)
    clear hR hin hF hS
    go_enter Tryz.func119, Tryz.ntmps119
    go_wp2_with fail
    go_quiet (fail)
    go_wp2_with fail
    refine At.retBad ?_ Tryz.results119 Five.zero HR.out ?_ ?_
    · exact ⟨_, (hA.drewN _).spoil true⟩
    · rfl
    · rfl

end Rx
end Go.Proofs.YtgdnlmaacnnfiaaGreatDoor

namespace Go.Proofs.YtgdnlmaacnnfiaaGreatDoor
open Go.RowKit
namespace Rx

theorem rexs_one {w : World} {t : Data} {S S' : Nat → Prop} {cs : List Value} (h : RexIs w t S cs) (hS : ∀ k, S k → S' k) : RexsIs w [t] S' cs :=
  rexs_snoc (ts := []) (S1 := fun _ => False) (S2 := S) (xs := []) (by simp only [RexsIs]) h (fun _ h => h.elim) hS

theorem rex_one {w : World} {t : Data} {S S' : Nat → Prop} {cs : List Value} {g op : Nat} (h : RexIs w t S cs) (ho : w.ownsRow 0 26 5 (.slice (some ⟨g, 0, none⟩) 1 1) 1 cs) (hg : S' g) (hS : ∀ k, S k → S' k ∧ k ≠ g) :
    RexIs w (one op t) S' [.int .i64 op, .int .i64 0, .string ⟨#[]⟩, .bool false, .slice (some ⟨g, 0, none⟩) 1 1] := by
  unfold one
  rw [rex_nd]
  refine ⟨_, cs, rfl, ho, fun k hk => ?_, rexs_one h fun k hk => ⟨(hS k hk).1, fun e => ?_⟩⟩
  · simp [Value.ownBlock] at hk
    subst hk
    exact hg
  · simp [Value.ownBlock] at e
    exact (hS k hk).2 e.symm

/-- The piece that is being made: in the variable at block q. -/
structure Pc (p q : Nat) (s : ByteArray) (w : World) (k : Int) (t : Data) (a b c d u : Value) (W : World) : Prop where
  at' : At p s w k false W
  var : Var W q a b c d u
  rex : RexIs W t (fun x => Iv (w.heap.size + 1) W.heap.size x ∧ x ≠ q) [a, b, c, d, u]
  lo : w.heap.size < q

theorem Pc.drewN {p q : Nat} {s : ByteArray} {w W : World} {k : Int} {t : Data} {a b c d u : Value} (h : Pc p q s w k t a b c d u W) (n : Nat) : Pc p q s w k t a b c d u (W.drewN n) :=
  ⟨h.at'.drewN n, h.var, rex_frame (w := W) (w' := W.drewN n) t (fun x => Iv (w.heap.size + 1) W.heap.size x ∧ x ≠ q) _ (fun _ _ => rfl) h.rex, h.lo⟩

theorem meas {N k k' p : Nat} {w W : World} (h : posC p w = k) (h' : posC p W = k') (h1 : k < N) (h2 : k < k') : N - posC p W < N - posC p w := by
  rw [h, h']; omega

theorem Pc.next {p q : Nat} {s : ByteArray} {w W : World} {k : Int} {t : Data} {a b c d u : Value} (h : Pc p q s w k t a b c d u W) (j : Int) (op : Nat) :
    Pc p q s w j (one op t) (.int .i64 op) (.int .i64 0) (.string ⟨#[]⟩) (.bool false) (.slice (some ⟨W.heap.size + 1, 0, none⟩) 1 1)
      (((put5 (W.setCell ⟨p, 1, none⟩ (.int .i64 j)) q (.int .i64 op) (.int .i64 0) (.string ⟨#[]⟩) (.bool false) (.slice (some ⟨W.heap.size + 1, 0, none⟩) 1 1)).alloc (.cells #[a, b, c, d, u] 26)).alloc (.cells #[a, b, c, d, u] 26)) := by
  have hlo := h.lo
  have hlt := h.var.lt
  have hp := h.at'.lt
  obtain ⟨V, hV⟩ : ∃ V, V = put5 (W.setCell ⟨p, 1, none⟩ (.int .i64 j)) q (.int .i64 op) (.int .i64 0) (.string ⟨#[]⟩) (.bool false) (.slice (some ⟨W.heap.size + 1, 0, none⟩) 1 1) := ⟨_, rfl⟩
  have hVz : V.heap.size = W.heap.size := by rw [hV, put5_size]; simp
  have hVb : ∀ x, x ≠ q → x ≠ p → V.heap[x]? = W.heap[x]? := fun x h1 h2 => by rw [hV, put5_block _ h1, Below.heap_setCell _ _ _ _ h2]
  have hVv : Var V q (.int .i64 op) (.int .i64 0) (.string ⟨#[]⟩) (.bool false) (.slice (some ⟨W.heap.size + 1, 0, none⟩) 1 1) := by
    rw [hV]
    exact put5_var (h.var.kept (Below.heap_setCell _ _ _ _ (show q ≠ p by omega))) _ _ _ _ _
  have hVa : At p s w j false V := by
    have h1 := h.at'.pos j
    rw [hV]
    exact ⟨h1.cs.kept (put5_block _ (by omega) _ _ _ _ _), h1.res.kept (put5_block _ (by omega) _ _ _ _ _), put5_grown h1.gr (by omega) _ _ _ _ _, hp⟩
  rw [← hV]
  clear hV
  have hsz : (V.alloc (.cells #[a, b, c, d, u] 26)).heap.size = W.heap.size + 1 := by simp [hVz]
  refine ⟨(hVa.alloc _).alloc _, hVv.kept ((Below.heap_alloc _ _ _ (by omega)).trans (Below.heap_alloc _ _ _ (by omega))), ?_, hlo⟩
  refine rex_one (S := fun x => Iv (w.heap.size + 1) W.heap.size x ∧ x ≠ q) (g := W.heap.size + 1) (op := op) (cs := [a, b, c, d, u]) ?_ ?_ ?_ ?_
  · refine rex_frame t _ _ (fun x hx => ?_) h.rex
    have hx1 := hx.1.1
    have hx2 := hx.1.2
    have hx3 := hx.2
    rw [Below.heap_alloc _ _ _ (by omega), Below.heap_alloc _ _ _ (by omega), hVb x hx3 (by omega)]
  · rw [← hsz]
    exact World.ownsRow_lit _ #[a, b, c, d, u] 1 (Nat.zero_le _) (by unfold maxLen; omega) rfl
  · refine ⟨⟨by omega, by simp [hVz]⟩, by omega⟩
  · rintro x ⟨⟨x1, x2⟩, x3⟩
    refine ⟨⟨⟨x1, by simp [hVz]; omega⟩, x3⟩, by omega⟩

end Rx
end Go.Proofs.YtgdnlmaacnnfiaaGreatDoor

namespace Go.Proofs.YtgdnlmaacnnfiaaGreatDoor
open Go.RowKit
namespace Rx

theorem kids_append {wr w2 w3 : World} {B p : Nat} {ts : List Data} {t : Data} {v v' : Value} {xs cs : List Value} {S : Nat → Prop} {o : Obj} (hown : wr.ownsRow B 26 5 v ts.length xs) (hks : RexsIs wr ts S xs) (hS : ∀ k, S k → B ≤ k ∧ k < wr.heap.size ∧ v.ownBlock ≠ some k)
    (hB : B ≤ wr.heap.size) (hp : p < B) (hg : wr.grownBy w2 (some p)) (hv : RexIs w2 t (Iv wr.heap.size w2.heap.size) cs) (hown3 : w3.ownsRow B 26 5 v' (ts.length + 1) (xs ++ cs))
    (hgr : (w2.alloc o).grownBy w3 v.ownBlock) (hb : v'.ownBlock = v.ownBlock ∨ v'.ownBlock = some (w2.alloc o).heap.size) : Kids w3 B (ts ++ [t]) v' := by
  refine kids_snoc (w := wr) (w1 := w2) hks hS hB hv hg.size (fun k h1 h2 _ => hg.block k h2 (by simp; omega)) (fun k hk => (hown.lt k hk).2) hown3 (Nat.le_trans (by simp) hgr.size) (fun k h1 h2 => ?_) ?_
  · exact (hgr.block k (by simp; omega) (Ne.symm h2)).trans (Below.heap_alloc _ _ _ h1)
  · rcases hb with h | h
    · exact .inl h
    · exact .inr ⟨_, h, by simp⟩

theorem kids_made (w : World) {B : Nat} (hB : B ≤ w.heap.size) : Kids (w.alloc (.cells #[] 26)) B [] (.slice (some ⟨w.heap.size, 0, none⟩) 0 0) :=
  ⟨[], fun _ => False, World.ownsRow_made w #[] 0 hB (by unfold maxLen; omega) rfl, by simp only [RexsIs], fun _ h => h.elim⟩

theorem kids_first {w : World} {B : Nat} {t : Data} {a b c d u : Value} (hB : B ≤ w.heap.size) (hx : RexIs w t (Iv B w.heap.size) [a, b, c, d, u]) : Kids (w.alloc (.cells #[a, b, c, d, u] 26)) B [t] (.slice (some ⟨w.heap.size, 0, none⟩) 1 1) := by
  refine ⟨[a, b, c, d, u], Iv B w.heap.size, World.ownsRow_lit w #[a, b, c, d, u] 1 hB (by unfold maxLen; omega) rfl, rexs_one (rex_frame t _ _ (fun k hk => Below.heap_alloc _ _ _ hk.2) hx) (fun _ h => h), fun k hk => ?_⟩
  have h1 := hk.1
  have h2 := hk.2
  refine ⟨h1, by simp; omega, fun e => ?_⟩
  simp [Value.ownBlock] at e
  omega

theorem kids_kept {w w' : World} {B : Nat} {ts : List Data} {v : Value} (h : Kids w B ts v) (hg : ∀ k, B ≤ k → k < w.heap.size → w'.heap[k]? = w.heap[k]?) (hs : w.heap.size ≤ w'.heap.size) : Kids w' B ts v := by
  obtain ⟨xs, S, ho, hk, hS⟩ := h
  refine ⟨xs, S, owns_same ho fun g hv => hg g (ho.lt g hv).1 (ho.lt g hv).2, rexs_frame (fun k hk => hg k (hS k hk).1 (hS k hk).2.1) hk, fun k hk => ⟨(hS k hk).1, by have := (hS k hk).2.1; omega, (hS k hk).2.2⟩⟩

theorem owns_head {w : World} {B : Nat} {v a b c d u : Value} (h : w.ownsRow B 26 5 v 1 [a, b, c, d, u]) : ∃ g cap, v = .slice (some ⟨g, 0, none⟩) 1 cap ∧ B ≤ g ∧ w.cell? ⟨g, 0, none⟩ = some a ∧ w.cell? ⟨g, 1, none⟩ = some b ∧ w.cell? ⟨g, 2, none⟩ = some c ∧ w.cell? ⟨g, 3, none⟩ = some d ∧ w.cell? ⟨g, 4, none⟩ = some u := by
  rcases h.2 with ⟨_, h0⟩ | ⟨g, cap, cur, rfl, hg, _⟩
  · omega
  · refine ⟨g, cap, rfl, hg, ?_, ?_, ?_, ?_, ?_⟩
    · rw [h.cellAt 0 (by omega)]; rfl
    · rw [h.cellAt 1 (by omega)]; rfl
    · rw [h.cellAt 2 (by omega)]; rfl
    · rw [h.cellAt 3 (by omega)]; rfl
    · rw [h.cellAt 4 (by omega)]; rfl

theorem kids_head {w : World} {B : Nat} {t : Data} {v : Value} (h : Kids w B [t] v) : ∃ g cap a b c d u, v = .slice (some ⟨g, 0, none⟩) 1 cap ∧ B ≤ g ∧ RexIs w t (Iv B w.heap.size) [a, b, c, d, u] ∧ w.cell? ⟨g, 0, none⟩ = some a ∧ w.cell? ⟨g, 1, none⟩ = some b ∧ w.cell? ⟨g, 2, none⟩ = some c ∧ w.cell? ⟨g, 3, none⟩ = some d ∧ w.cell? ⟨g, 4, none⟩ = some u := by
  obtain ⟨xs, S, ho, hk, hS⟩ := h
  simp only [RexsIs] at hk
  obtain ⟨A, B', c1, c2, rfl, h1, h2, h3, h4⟩ := hk
  simp only [List.append_nil, h2] at ho
  have hl := rex_len h1
  obtain ⟨a, b, c, d, u, rfl⟩ : ∃ a b c d u, c1 = [a, b, c, d, u] := by
    match c1, hl with
    | [a, b, c, d, u], _ => exact ⟨a, b, c, d, u, rfl⟩
  obtain ⟨g, cap, hv, hB, hc⟩ := owns_head ho
  exact ⟨g, cap, a, b, c, d, u, hv, hB, rex_mono h1 fun k hk => ⟨(hS k (h3 k hk).1).1, (hS k (h3 k hk).1).2.1⟩, hc⟩

theorem kids_len' {w : World} {B : Nat} {ts : List Data} {v : Value} (h : Kids w B ts v) : ∃ ao cap, v = .slice ao ts.length cap := by
  obtain ⟨xs, S, ho, _⟩ := h
  rcases ho.2 with ⟨rfl, hn⟩ | ⟨g, cap, cur, rfl, _⟩
  · rw [hn]; exact ⟨_, _, rfl⟩
  · exact ⟨_, _, rfl⟩

theorem owns_len' {w : World} {B n : Nat} {v : Value} {xs : List Value} (h : w.ownsRow B 26 5 v n xs) : ∃ ao cap, v = .slice ao n cap := by
  rcases h.2 with ⟨rfl, hn⟩ | ⟨g, cap, cur, rfl, _⟩
  · rw [hn]; exact ⟨_, _, rfl⟩
  · exact ⟨_, _, rfl⟩

/-- A list that was made of what is none. -/
def KBad (p : Nat) (s : ByteArray) (w : World) (v : Value) (W : World) : Prop :=
  ∃ (k : Int) (n : Nat) (xs : List Value), At p s w k true W ∧ W.ownsRow (w.heap.size + 1) 26 5 v n xs ∧ 1 ≤ n ∧ (n = 1 → ∃ a b c d u, xs = [a, b, c, d, u] ∧ Five a b c d u)

/-- How a list comes out. -/
def KEnd (p : Nat) (s : ByteArray) (w : World) (RS : Option (List Data × Nat)) (v : Value) (W : World) : Prop :=
  (∃ (k : Nat) (ts : List Data), RS = some (ts, k) ∧ k ≤ s.size ∧ At p s w k false W ∧ Kids W (w.heap.size + 1) ts v) ∨ (RS = none ∧ KBad p s w v W)

/-- How much is left. -/
def left (p N : Nat) (w : World) : Nat := match w.cell? ⟨p, 2, none⟩ with
  | some (.bool false) => N + 1 - posC p w
  | _ => 0
theorem left_good {p N : Nat} {s : ByteArray} {i : Nat} {w : World} (h : Cs p s i false w) : left p N w = N + 1 - i := by unfold left; rw [h.bad, posC_is h]
theorem left_bad {p N : Nat} {s : ByteArray} {i : Int} {w : World} (h : Cs p s i true w) : left p N w = 0 := by unfold left; rw [h.bad]
theorem left_lt {p N : Nat} {s : ByteArray} {i j : Nat} {w W : World} (h : Cs p s i false w) (h' : Cs p s j false W) (hi : i ≤ N) (hj : i < j) : left p N W < left p N w := by rw [left_good h, left_good h']; omega
theorem left_lt_bad {p N : Nat} {s : ByteArray} {i : Nat} {j : Int} {w W : World} (h : Cs p s i false w) (h' : Cs p s j true W) (hi : i ≤ N) : left p N W < left p N w := by rw [left_good h, left_bad h']; omega

end Rx
end Go.Proofs.YtgdnlmaacnnfiaaGreatDoor

namespace Go.Proofs.YtgdnlmaacnnfiaaGreatDoor
open Go.RowKit
namespace Rx

set_option maxHeartbeats 2000000 in
set_option maxRecDepth 100000 in
theorem sPiece {p : Nat} {s : ByteArray} {deep : Nat} {A : Nat → Option (Data × Nat)} (hs : s.size ≤ 1000) (hin : ∀ i t j, A i = some (t, j) → i < j ∧ j ≤ s.size)
    (hAt : TellsF 119 p s deep A) : TellsF 110 p s deep (pieceAt (gOf s) s.size A) := by
  intro i w h hi
  have hA := At.start h
  have hp := h.lt
  obtain ⟨R, hR⟩ : ∃ R, R = pieceAt (gOf s) s.size A i := ⟨_, rfl⟩
  rw [← hR]
  unfold pieceAt at hR
  rcases hf : A i with _ | ⟨t, j⟩
  · rw [hf] at hR
    have HR : Hid (R = none) := hR
    clear hR
    go_enter Tryz.func110, Tryz.ntmps110
    go_wp2_with (go_at_call 119; refine (hAt i _ hA.cs hi).mono ?_; intro e w1 h1; obtain ⟨a, b, c, d, u, j', rfl, h5, hC, hgr⟩ := tells_none h1 hf; have hA1 := hA.grown hgr hC; obtain ⟨y1, y2, y3, y4, y5, y6, y7, rfl, rfl, rfl, rfl, rfl⟩ := h5)
    have l2 := hA1.size
    have hA2 := hA1.alloc (.cells #[.int .i64 y1, .int .i64 y2, .string y3, .bool y4, .slice y5 y6 y7] 26)
    have hV2 : Var (w1.alloc (.cells #[.int .i64 y1, .int .i64 y2, .string y3, .bool y4, .slice y5 y6 y7] 26)) w1.heap.size (.int .i64 y1) (.int .i64 y2) (.string y3) (.bool y4) (.slice y5 y6 y7) := heap_alloc_last _ _
    obtain ⟨W, hW⟩ : ∃ W, W = w1.alloc (.cells #[.int .i64 y1, .int .i64 y2, .string y3, .bool y4, .slice y5 y6 y7] 26) := ⟨_, rfl⟩
    rw [← hW] at hA2 hV2 ⊢
    have hq : w.heap.size < w1.heap.size := l2
    clear hW
    go_loopw [6, 7] (fun _ _ wr => wr = W) (fun _ _ _ => 0)
    case atStart => rfl
    case round =>
      subst hrel
      have k2 := hA2.cs.bad
      have v0 := hA2.res.cell
      have u0 := hA2.res.frozen
      have v1 := hV2.cell.1
      have v2 := hV2.cell.2.1
      have v3 := hV2.cell.2.2.1
      have v4 := hV2.cell.2.2.2.1
      have v5 := hV2.cell.2.2.2.2
      go_wp2_with fail
      refine At.retBad ?_ Tryz.results110 ⟨y1, y2, y3, y4, y5, y6, y7, rfl, rfl, rfl, rfl, rfl⟩ HR.out ?_ ?_
      · exact ⟨_, hA2⟩
      · rfl
      · rfl
  · rw [hf] at hR
    obtain ⟨RS, hRS⟩ : ∃ RS, stars (gOf s) (s.size + 1) t j = RS := ⟨_, rfl⟩
    simp only [hRS] at hR
    have HR : Hid (R = some RS) := hR
    have HL : Hid (stars (gOf s) (s.size + 1) t j = RS) := hRS
    obtain ⟨j1, j2⟩ := hin i t j hf
    clear hR hRS
    go_enter Tryz.func110, Tryz.ntmps110
    go_wp2_with (go_at_call 119; refine (hAt i _ hA.cs hi).mono ?_; intro e w1 h1; obtain ⟨a, b, c, d, u, rfl, hx, hC, hgr⟩ := tells_some h1 hf; have hA1 := hA.grown hgr hC; obtain ⟨y1, y2, y3, y4, y5, y6, y7, rfl, rfl, rfl, rfl, rfl⟩ := rex_cells hx)
    have hq : w.heap.size < w1.heap.size := hA1.size
    have hpc0 : Pc p w1.heap.size s w j t (.int .i64 y1) (.int .i64 y2) (.string ⟨y3.toArray⟩) (.bool y4) (.slice y5 y6 y7) (w1.alloc (.cells #[.int .i64 y1, .int .i64 y2, .string ⟨y3.toArray⟩, .bool y4, .slice y5 y6 y7] 26)) := by
      refine ⟨hA1.alloc _, heap_alloc_last _ _, ?_, hq⟩
      refine rex_mono (rex_frame t _ _ (fun x hx => Below.heap_alloc _ _ _ hx.2) hx) fun x hx => ?_
      have x1 := hx.1
      have x2 := hx.2
      simp at x1
      exact ⟨⟨x1, by simp; omega⟩, by omega⟩
    obtain ⟨q, hqq⟩ : ∃ q, q = w1.heap.size := ⟨_, rfl⟩
    obtain ⟨W, hW⟩ : ∃ W, W = w1.alloc (.cells #[.int .i64 y1, .int .i64 y2, .string ⟨y3.toArray⟩, .bool y4, .slice y5 y6 y7] 26) := ⟨_, rfl⟩
    rw [← hW, ← hqq] at hpc0
    rw [← hW, ← hqq]
    rw [← hqq] at hq
    have hj0 : Hid (j ≤ s.size) := j2
    clear hW hqq hx hC hgr hA1 hA h hi hf hin hAt j1 j2 h1
    go_loopw [6, 7] (fun _ _ wr => ∃ (k f : Nat) (t' : Data) (a b c d u : Value), Pc p q s w k t' a b c d u wr ∧ k ≤ s.size ∧ s.size < f + k ∧ stars (gOf s) f t' k = RS) (fun _ _ wr => s.size - posC p wr)
    case atStart => exact ⟨j, s.size + 1, t, _, _, _, _, _, hpc0, hj0.out, by omega, HL.out⟩
    case round =>
      clear hpc0 HL hj0
      obtain ⟨k, f, t', a, b, c, d, u, hpc, hk, hfk, hRk⟩ := hrel
      obtain ⟨f, rfl⟩ : ∃ f', f = f' + 1 := ⟨f - 1, by omega⟩
      rw [stars_step] at hRk
      obtain ⟨op, cc, ss, no, ao, n, cap, rfl, rfl, rfl, rfl, rfl⟩ := rex_cells hpc.rex
      have HP : Hid (posC p wr = k) := posC_is hpc.at'.cs
      have k1 := hpc.at'.cs.pos
      have k2 := hpc.at'.cs.bad
      have g1 := hpc.at'.cs.fr1
      have lq := hpc.var.lt
      have v1 := hpc.var.cell.1
      have v2 := hpc.var.cell.2.1
      have v3 := hpc.var.cell.2.2.1
      have v4 := hpc.var.cell.2.2.2.1
      have v5 := hpc.var.cell.2.2.2.2
      have uq := hpc.var.frozen
      have bk : (k : Int) ≤ 1000 := by omega
      obtain ⟨k', hk'⟩ : ∃ k', k' = k + 1 := ⟨_, rfl⟩
      have t1 : (k : Int) + 1 = (k' : Int) := by omega
      rw [← hk'] at hRk
      by_cases q42 : gOf s k = 42
      · rw [if_pos q42] at hRk
        have HK : Hid (stars (gOf s) f (one 8 t') k' = RS) := hRk
        have klt := in_of (s := s) (i := k) (by omega)
        have HK2 : Hid (k' = k + 1) := hk'
        have d42 : decide (gOf s k = 42) = true := decide_eq_true q42
        clear hRk hk' q42
        go_wp2_with (first | (go_at_call 96; with_reducible refine (sNow hpc.at'.cs hk 42 42 (by omega) rfl).mono ?_; rintro e wn ⟨rfl, nn42, rfl⟩) | (go_at_call 96; with_reducible refine (sNow (hpc.at'.cs.drewN _) hk 43 43 (by omega) rfl).mono ?_; rintro e wn ⟨rfl, nn43, rfl⟩) | (go_at_call 96; with_reducible refine (sNow (hpc.at'.cs.drewN _) hk 63 63 (by omega) rfl).mono ?_; rintro e wn ⟨rfl, nn63, rfl⟩))
        go_roundw
        case rel =>
          refine ⟨k', f, one 8 t', _, _, _, _, _, (hpc.drewN _).next k' 8, ?_, ?_, HK.out⟩
          · have := HK2.out; omega
          · have := HK2.out; omega
        case measure => exact meas HP.out (posC_is ((hpc.drewN _).next k' 8).at'.cs) klt (by have := HK2.out; omega)
      rw [if_neg q42] at hRk
      by_cases q43 : gOf s k = 43
      · rw [if_pos q43] at hRk
        have HK : Hid (stars (gOf s) f (one 9 t') k' = RS) := hRk
        have klt := in_of (s := s) (i := k) (by omega)
        have HK2 : Hid (k' = k + 1) := hk'
        have d42 : decide (gOf s k = 42) = false := decide_eq_false q42
        have d43 : decide (gOf s k = 43) = true := decide_eq_true q43
        clear hRk hk' q42 q43
        go_wp2_with (first | (go_at_call 96; with_reducible refine (sNow hpc.at'.cs hk 42 42 (by omega) rfl).mono ?_; rintro e wn ⟨rfl, nn42, rfl⟩) | (go_at_call 96; with_reducible refine (sNow (hpc.at'.cs.drewN _) hk 43 43 (by omega) rfl).mono ?_; rintro e wn ⟨rfl, nn43, rfl⟩) | (go_at_call 96; with_reducible refine (sNow (hpc.at'.cs.drewN _) hk 63 63 (by omega) rfl).mono ?_; rintro e wn ⟨rfl, nn63, rfl⟩))
        go_roundw
        case rel =>
          refine ⟨k', f, one 9 t', _, _, _, _, _, (hpc.drewN _).next k' 9, ?_, ?_, HK.out⟩
          · have := HK2.out; omega
          · have := HK2.out; omega
        case measure => exact meas HP.out (posC_is ((hpc.drewN _).next k' 9).at'.cs) klt (by have := HK2.out; omega)
      rw [if_neg q43] at hRk
      by_cases q63 : gOf s k = 63
      · rw [if_pos q63] at hRk
        have HK : Hid (stars (gOf s) f (one 10 t') k' = RS) := hRk
        have klt := in_of (s := s) (i := k) (by omega)
        have HK2 : Hid (k' = k + 1) := hk'
        have d42 : decide (gOf s k = 42) = false := decide_eq_false q42
        have d43 : decide (gOf s k = 43) = false := decide_eq_false q43
        have d63 : decide (gOf s k = 63) = true := decide_eq_true q63
        clear hRk hk' q42 q43 q63
        go_wp2_with (first | (go_at_call 96; with_reducible refine (sNow hpc.at'.cs hk 42 42 (by omega) rfl).mono ?_; rintro e wn ⟨rfl, nn42, rfl⟩) | (go_at_call 96; with_reducible refine (sNow (hpc.at'.cs.drewN _) hk 43 43 (by omega) rfl).mono ?_; rintro e wn ⟨rfl, nn43, rfl⟩) | (go_at_call 96; with_reducible refine (sNow (hpc.at'.cs.drewN _) hk 63 63 (by omega) rfl).mono ?_; rintro e wn ⟨rfl, nn63, rfl⟩))
        go_roundw
        case rel =>
          refine ⟨k', f, one 10 t', _, _, _, _, _, (hpc.drewN _).next k' 10, ?_, ?_, HK.out⟩
          · have := HK2.out; omega
          · have := HK2.out; omega
        case measure => exact meas HP.out (posC_is ((hpc.drewN _).next k' 10).at'.cs) klt (by have := HK2.out; omega)
      rw [if_neg q63] at hRk
      have d42 : decide (gOf s k = 42) = false := decide_eq_false q42
      have d43 : decide (gOf s k = 43) = false := decide_eq_false q43
      have d63 : decide (gOf s k = 63) = false := decide_eq_false q63
      have HK : Hid (R = some (t', k)) := by show R = _; rw [HR.out, ← hRk]
      have v0 := hpc.at'.res.cell
      have u0 := hpc.at'.res.frozen
      clear hRk hk' q42 q43 q63
      go_wp2_with (first | (go_at_call 96; with_reducible refine (sNow hpc.at'.cs hk 42 42 (by omega) rfl).mono ?_; rintro e wn ⟨rfl, nn42, rfl⟩) | (go_at_call 96; with_reducible refine (sNow (hpc.at'.cs.drewN _) hk 43 43 (by omega) rfl).mono ?_; rintro e wn ⟨rfl, nn43, rfl⟩) | (go_at_call 96; with_reducible refine (sNow (hpc.at'.cs.drewN _) hk 63 63 (by omega) rfl).mono ?_; rintro e wn ⟨rfl, nn63, rfl⟩))
      refine At.retRex (j := k) (lo := w.heap.size + 1) ?_ Tryz.results110 (rex_mono (hpc.drewN _).rex fun x hx => ⟨hx.1.1, hx.1.2⟩) ?_ HK.out ?_ ?_
      · exact (hpc.drewN _).at'
      · omega
      · rfl
      · rfl

end Rx
end Go.Proofs.YtgdnlmaacnnfiaaGreatDoor

namespace Go.Proofs.YtgdnlmaacnnfiaaGreatDoor
open Go.RowKit
namespace Rx

set_option maxHeartbeats 2000000 in
set_option maxRecDepth 100000 in
theorem sPart {p : Nat} {s : ByteArray} {deep : Nat} {A : Nat → Option (Data × Nat)} (hs : s.size ≤ 1000) (hin : ∀ i t j, pieceAt (gOf s) s.size A i = some (t, j) → i < j ∧ j ≤ s.size)
    (hP : TellsF 110 p s deep (pieceAt (gOf s) s.size A)) : TellsF 95 p s deep (partAt (gOf s) s.size A) := by
  intro i w h hi
  have hA := At.start h
  have hp := h.lt
  obtain ⟨R, hR⟩ : ∃ R, R = partAt (gOf s) s.size A i := ⟨_, rfl⟩
  rw [← hR]
  unfold partAt at hR
  obtain ⟨RS, hRS⟩ : ∃ RS, partLoop (gOf s) s.size A (s.size + 1) i [] = RS := ⟨_, rfl⟩
  rw [hRS] at hR
  have HL : Hid (partLoop (gOf s) s.size A (s.size + 1) i [] = RS) := hRS
  have HR : Hid (R = partEnd RS) := hR
  clear hR hRS
  obtain ⟨i0, hi0, hz0, hz1, hz2⟩ := info_parts Tryz.info26r
  go_enter Tryz.func95, Tryz.ntmps95
  go_upto_block 0 with fail
  go_cut [5] (fun v wx => KEnd p s w RS v wx)
  case first =>
    go_wp2_with fail
    go_loopw [5] (fun v wr => (∃ (k f : Nat) (ts : List Data), At p s w k false wr ∧ k ≤ s.size ∧ ts.length ≤ k ∧ Kids wr (w.heap.size + 1) ts v ∧ s.size < f + k ∧ partLoop (gOf s) s.size A f k ts = RS) ∨ (RS = none ∧ KBad p s w v wr)) (fun _ wr => left p s.size wr)
    case atStart =>
      refine .inl ⟨i, s.size + 1, [], hA.alloc _, hi, Nat.zero_le _, ?_, by omega, HL.out⟩
      have := kids_made (w.alloc (.cells #[.int .i64 0, .int .i64 0, .string ⟨#[]⟩, .bool false, .slice none 0 0] 26)) (B := w.heap.size + 1) (by simp)
      simpa using this
    case round =>
      clear hA HL h hi HR
      rcases hrel with ⟨k, f, ts, hA1, hk, hlen, hK, hf, hRk⟩ | ⟨hRS, hB⟩
      · obtain ⟨f, rfl⟩ : ∃ f', f = f' + 1 := ⟨f - 1, by omega⟩
        rw [partLoop_step] at hRk
        have c0 := hA1.cs.text
        have c1 := hA1.cs.pos
        have c2 := hA1.cs.bad
        by_cases hend : gOf s k = 256 ∨ gOf s k = 124 ∨ gOf s k = 41
        · rw [if_pos hend] at hRk
          have HE : Hid (RS = some (ts, k)) := hRk.symm
          clear hRk
          rcases Nat.lt_or_ge k s.size with hkl | hkl
          · have hg := gOf_in hkl
            have hbl := s[k].toNat_lt
            by_cases h124 : gOf s k = 124
            · have z1 : (s[k].toNat : Int) = 124 := by omega
              clear hend h124 hg hbl
              go_wp2_with fail
              go_quiet (fail)
              go_wp2_with fail
              go_meet
              exact .inl ⟨k, ts, HE.out, hk, hA1.drewN _, kids_kept hK (fun _ _ _ => rfl) (Nat.le_refl _)⟩
            · have z1 : (s[k].toNat : Int) = 41 := by omega
              clear hend h124 hg hbl
              go_wp2_with fail
              go_quiet (fail)
              go_wp2_with fail
              go_meet
              exact .inl ⟨k, ts, HE.out, hk, hA1.drewN _, kids_kept hK (fun _ _ _ => rfl) (Nat.le_refl _)⟩
          · have z1 : decide ((k : Int) < s.size) = false := decide_eq_false (by omega)
            have z2 : decide (k < s.size) = false := decide_eq_false (by omega)
            clear hend
            go_wp2_with fail
            go_quiet (fail)
            go_wp2_with fail
            go_meet
            exact .inl ⟨k, ts, HE.out, hk, hA1.drewN _, kids_kept hK (fun _ _ _ => rfl) (Nat.le_refl _)⟩
        · rw [if_neg hend] at hRk
          have hkl : k < s.size := in_of (fun e => hend (.inl e))
          have hg := gOf_in hkl
          have z1 : ((s[k].toNat : Int) != 124) = true := by simp; omega
          have z2 : ((s[k].toNat : Int) != 41) = true := by simp; omega
          obtain ⟨xs, S, hown, hks, hS⟩ := hK
          have hsz := hA1.size
          have hl1 : (ts.length : Int) ≤ 1000 := by omega
          clear hend hg
          rcases hq : pieceAt (gOf s) s.size A k with _ | ⟨t, j⟩
          · rw [hq] at hRk
            have HE : Hid (RS = none) := hRk.symm
            clear hRk
            go_wp2_with fail
            go_quiet (fail)
            go_wp2_with (first | (go_at_call 110; refine (hP k _ (hA1.drewN _).cs hk).mono ?_; intro e w1 h1; obtain ⟨a, b, c, d, u, j', rfl, h5, hC, hgr⟩ := tells_none h1 hq; obtain ⟨y1, y2, y3, y4, y5, y6, y7, rfl, rfl, rfl, rfl, rfl⟩ := h5; have hown1 := owns_grown hown (grown_drewN_left hgr) (by omega); have hsz1 := (grown_drewN_left hgr).size) | (at_builtin; refine wpList_append_own_at _ rfl _ _ 24 rfl (w.heap.size + 1) 26 i0 _ 5 64 Tryz.underlying24 hi0 hz0 hz1 hz2 rfl (by decide) _ _ _ rfl (hown1.alloc _) ⟨w1.heap.size, 0, none⟩ 1 1 [.int .i64 y1, .int .i64 y2, .string y3, .bool y4, .slice y5 y6 y7] rfl rfl (cell_five_new _ _ _ _ _ _) (by simp [Value.oneCell']) (by unfold maxLen; omega) (by omega) (by simp; omega) ?_; intro v' w3 hown3 hgr3 _ hb3))
            have hg1' := grown_drewN_left hgr
            have hA2 := ((hA1.drewN _).grown hgr hC).alloc (.cells #[.int .i64 y1, .int .i64 y2, .string y3, .bool y4, .slice y5 y6 y7] 26)
            have hA3 := hA2.grownOwn hgr3 (fun b hb => by have := (hown.lt b hb).1; omega)
            go_roundw
            case rel =>
              refine .inr ⟨HE.out, _, _, _, hA3, hown3, by omega, fun e => ?_⟩
              have hts : ts.length = 0 := by omega
              have hxs : xs = [] := List.length_eq_zero_iff.1 (by rw [hown.1, hts])
              exact ⟨_, _, _, _, _, by rw [hxs]; rfl, ⟨y1, y2, y3, y4, y5, y6, y7, rfl, rfl, rfl, rfl, rfl⟩⟩
            case measure => exact left_lt_bad hA1.cs hA3.cs hk
          · rw [hq] at hRk
            have HE : Hid (partLoop (gOf s) s.size A f j (ts ++ [t]) = RS) := hRk
            obtain ⟨j1, j2⟩ := hin k t j hq
            clear hRk
            go_wp2_with fail
            go_quiet (fail)
            go_wp2_with (first | (go_at_call 110; refine (hP k _ (hA1.drewN _).cs hk).mono ?_; intro e w1 h1; obtain ⟨a, b, c, d, u, rfl, hx, hC, hgr⟩ := tells_some h1 hq; obtain ⟨y1, y2, y3, y4, y5, y6, y7, rfl, rfl, rfl, rfl, rfl⟩ := rex_cells hx; have hown1 := owns_grown hown (grown_drewN_left hgr) (by omega); have hsz1 := (grown_drewN_left hgr).size) | (at_builtin; refine wpList_append_own_at _ rfl _ _ 24 rfl (w.heap.size + 1) 26 i0 _ 5 64 Tryz.underlying24 hi0 hz0 hz1 hz2 rfl (by decide) _ _ _ rfl (hown1.alloc _) ⟨w1.heap.size, 0, none⟩ 1 1 [.int .i64 y1, .int .i64 y2, .string ⟨y3.toArray⟩, .bool y4, .slice y5 y6 y7] rfl rfl (cell_five_new _ _ _ _ _ _) (by simp [Value.oneCell']) (by unfold maxLen; omega) (by omega) (by simp; omega) ?_; intro v' w3 hown3 hgr3 _ hb3))
            have hg1' := grown_drewN_left hgr
            have hA2 := ((hA1.drewN _).grown hgr hC).alloc (.cells #[.int .i64 y1, .int .i64 y2, .string ⟨y3.toArray⟩, .bool y4, .slice y5 y6 y7] 26)
            have hA3 := hA2.grownOwn hgr3 (fun b hb => by have := (hown.lt b hb).1; omega)
            go_roundw
            case rel => exact .inl ⟨j, f, ts ++ [t], hA3, j2, by simp; omega, kids_append hown hks hS (by omega) (by omega) hg1' hx hown3 hgr3 hb3, by omega, HE.out⟩
            case measure => exact left_lt hA1.cs hA3.cs hk j1
      · obtain ⟨kb, n, xs, hA1, hown, hn1, hn⟩ := hB
        have c2 := hA1.cs.bad
        have HE : Hid (RS = none) := hRS
        clear hRS
        go_wp2_with fail
        go_quiet (fail)
        go_wp2_with fail
        go_meet
        exact .inr ⟨HE.out, kb, n, xs, hA1.drewN _, hown, hn1, hn⟩
  case rest =>
    clear hA HL h hi hP hin
    rcases hcut with ⟨k, ts, hRS, hk, hA1, hK⟩ | ⟨hRS, kb, n, xs, hA1, hown, hn1, hn⟩
    · have v0 := hA1.res.cell
      have u0 := hA1.res.frozen
      rcases ts with _ | ⟨t1, _ | ⟨t2, ts⟩⟩
      · have HR2 : Hid (R = some (leaf 11, k)) := by show R = _; rw [HR.out, hRS]; rfl
        obtain ⟨ao, cap, rfl⟩ := kids_len' hK
        clear hK
        go_wp2_with fail
        refine At.retLeaf (op := 11) (c := 0) (set := []) (no := false) (j := k) ?_ Tryz.results95 HR2.out ?_ ?_ ?_ ?_ ?_ ?_ ?_
        · exact hA1
        all_goals rfl
      · have HR2 : Hid (R = some (t1, k)) := by show R = _; rw [HR.out, hRS]; rfl
        obtain ⟨g, cap, a, b, c, d, u, rfl, hB, hx, x0, x1, x2, x3, x4⟩ := kids_head hK
        obtain ⟨y1, y2, y3, y4, y5, y6, y7, rfl, rfl, rfl, rfl, rfl⟩ := rex_cells hx
        have hgn : w.heap.size < g := by omega
        clear hK
        go_wp2_with fail
        refine At.retRex (j := k) ?_ Tryz.results95 hx ?_ HR2.out ?_ ?_
        · exact hA1
        · omega
        · rfl
        · rfl
      · have HR2 : Hid (R = some (nd 6 0 [] false (t1 :: t2 :: ts), k)) := by show R = _; rw [HR.out, hRS]; rfl
        have hx := kids_rex hK 6 0 [] false
        obtain ⟨ao, cap, rfl⟩ := kids_len' hK
        obtain ⟨n, hn⟩ : ∃ n, n = (t1 :: t2 :: ts).length := ⟨_, rfl⟩
        rw [← hn] at hx ⊢
        have n0 : ((n : Int) == 0) = false := by rw [hn]; simp; omega
        have n1 : ((n : Int) == 1) = false := by rw [hn]; simp; omega
        clear hn hK
        go_wp2_with fail
        refine At.retRex (j := k) ?_ Tryz.results95 hx ?_ HR2.out ?_ ?_
        · exact hA1
        · omega
        · rfl
        · rfl
    · have v0 := hA1.res.cell
      have u0 := hA1.res.frozen
      have HR2 : Hid (R = none) := by show R = _; rw [HR.out, hRS]; rfl
      by_cases h1 : n = 1
      · obtain ⟨a, b, c, d, u, rfl, h5⟩ := hn h1
        subst h1
        obtain ⟨g, cap, rfl, hB, x0, x1, x2, x3, x4⟩ := owns_head hown
        obtain ⟨y1, y2, y3, y4, y5, y6, y7, rfl, rfl, rfl, rfl, rfl⟩ := h5
        have hgn : w.heap.size < g := by omega
        clear hown hn hn1
        go_wp2_with fail
        refine At.retBad ?_ Tryz.results95 ⟨y1, y2, y3, y4, y5, y6, y7, rfl, rfl, rfl, rfl, rfl⟩ HR2.out ?_ ?_
        · exact ⟨_, hA1⟩
        · rfl
        · rfl
      · obtain ⟨ao, cap, rfl⟩ := owns_len' hown
        have n0 : ((n : Int) == 0) = false := by simp; omega
        have n1 : ((n : Int) == 1) = false := by simp; omega
        clear hown hn hn1 h1
        go_wp2_with fail
        refine At.retBad ?_ Tryz.results95 ⟨6, 0, _, false, _, _, _, rfl, rfl, rfl, rfl, rfl⟩ HR2.out ?_ ?_
        · exact ⟨_, hA1⟩
        · rfl
        · rfl

end Rx
end Go.Proofs.YtgdnlmaacnnfiaaGreatDoor

namespace Go.Proofs.YtgdnlmaacnnfiaaGreatDoor
open Go.RowKit
namespace Rx

theorem patLoop_ne (g : Nat → Nat) (N : Nat) (A : Nat → Option (Data × Nat)) : ∀ (f i : Nat) (ts us : List Data) (j : Nat), ts ≠ [] → patLoop g N A f i ts = some (us, j) → us ≠ []
  | 0, _, _, _, _, _, h => by simp [patLoop] at h
  | f + 1, i, ts, us, j, hne, h => by
    rw [patLoop_step] at h
    split at h
    · split at h
      · simp at h
      · exact patLoop_ne g N A f _ _ us j (by simp) h
    · simp at h
      rw [← h.1]
      exact hne

set_option maxHeartbeats 2000000 in
set_option maxRecDepth 100000 in
theorem sPattern {p : Nat} {s : ByteArray} {deep : Nat} {A : Nat → Option (Data × Nat)} (hs : s.size ≤ 1000) (hin : ∀ i t j, partAt (gOf s) s.size A i = some (t, j) → i ≤ j ∧ (i ≤ s.size → j ≤ s.size))
    (hP : TellsF 95 p s deep (partAt (gOf s) s.size A)) : TellsF 88 p s deep (patAt (gOf s) s.size A) := by
  intro i w h hi
  have hA := At.start h
  have hp := h.lt
  obtain ⟨R, hR⟩ : ∃ R, R = patAt (gOf s) s.size A i := ⟨_, rfl⟩
  rw [← hR]
  unfold patAt at hR
  obtain ⟨RS, hRS⟩ : ∃ RS, RS = match partAt (gOf s) s.size A i with
    | none => none
    | some (t, j) => patLoop (gOf s) s.size A (s.size + 1) j [t] := ⟨_, rfl⟩
  have HR : Hid (R = patEnd RS) := by
    show R = patEnd RS
    rw [hR, hRS]
    cases partAt (gOf s) s.size A i <;> rfl
  have HL : Hid (RS = match partAt (gOf s) s.size A i with
    | none => none
    | some (t, j) => patLoop (gOf s) s.size A (s.size + 1) j [t]) := hRS
  have hne : ∀ us j, RS = some (us, j) → us ≠ [] := by
    intro us j e
    rw [hRS] at e
    split at e
    · simp at e
    · exact patLoop_ne _ _ _ _ _ _ us j (by simp) e
  clear hR hRS
  obtain ⟨i0, hi0, hz0, hz1, hz2⟩ := info_parts Tryz.info26r
  go_enter Tryz.func88, Tryz.ntmps88
  go_upto_region 1 with fail
  go_cut [5] (fun v wx => (∃ (k : Nat) (t : Data), At p s w k false wx ∧ k ≤ s.size ∧ i ≤ k ∧ Kids wx (w.heap.size + 1) [t] v ∧ patLoop (gOf s) s.size A (s.size + 1) k [t] = RS) ∨ (RS = none ∧ KBad p s w v wx))
  case first =>
    rcases hq : partAt (gOf s) s.size A i with _ | ⟨t, j⟩
    · have HE : Hid (RS = none) := by show RS = _; rw [HL.out, hq]
      clear HL HR hne
      go_wp2_with (go_at_call 95; refine (hP i _ hA.cs hi).mono ?_; intro e w1 h1; obtain ⟨a, b, c, d, u, j', rfl, h5, hC, hgr⟩ := tells_none h1 hq; obtain ⟨y1, y2, y3, y4, y5, y6, y7, rfl, rfl, rfl, rfl, rfl⟩ := h5)
      have hA1 := hA.grown hgr hC
      have hsz := hA1.size
      go_meet
      refine .inr ⟨HE.out, _, 1, _, hA1.alloc _, World.ownsRow_lit w1 #[.int .i64 y1, .int .i64 y2, .string y3, .bool y4, .slice y5 y6 y7] 1 (by omega) (by unfold maxLen; omega) rfl, by omega, fun _ => ⟨_, _, _, _, _, rfl, ⟨y1, y2, y3, y4, y5, y6, y7, rfl, rfl, rfl, rfl, rfl⟩⟩⟩
    · have HE : Hid (patLoop (gOf s) s.size A (s.size + 1) j [t] = RS) := by show _ = RS; rw [HL.out, hq]
      obtain ⟨j1, j2⟩ := hin i t j hq
      clear HL HR hne
      go_wp2_with (go_at_call 95; refine (hP i _ hA.cs hi).mono ?_; intro e w1 h1; obtain ⟨a, b, c, d, u, rfl, hx, hC, hgr⟩ := tells_some h1 hq; obtain ⟨y1, y2, y3, y4, y5, y6, y7, rfl, rfl, rfl, rfl, rfl⟩ := rex_cells hx)
      have hA1 := hA.grown hgr hC
      have hsz := hA1.size
      have hx' : RexIs w1 t (Iv (w.heap.size + 1) w1.heap.size) [.int .i64 y1, .int .i64 y2, .string ⟨y3.toArray⟩, .bool y4, .slice y5 y6 y7] := by simpa using hx
      go_meet
      exact .inl ⟨j, t, hA1.alloc _, j2 hi, j1, kids_first (by omega) hx', HE.out⟩
  case rest =>
  have hc0 := hcut
  clear hA HL h hcut
  go_upto_block 0 with fail
  go_cut [5] (fun v wx => KEnd p s w RS v wx)
  case first =>
    go_wp2_with fail
    go_loopw [5] (fun v wr => (∃ (k f : Nat) (ts : List Data), At p s w k false wr ∧ k ≤ s.size ∧ ts.length ≤ k + 1 ∧ Kids wr (w.heap.size + 1) ts v ∧ s.size < f + k ∧ patLoop (gOf s) s.size A f k ts = RS) ∨ (RS = none ∧ KBad p s w v wr)) (fun _ wr => left p s.size wr)
    case atStart =>
      rcases hc0 with ⟨k, t, hA1, hk, hik, hK, hE⟩ | hB
      · exact .inl ⟨k, s.size + 1, [t], hA1, hk, by simp, hK, by omega, hE⟩
      · exact .inr hB
    case round =>
      clear hc0 hi HR hne
      rcases hrel with ⟨k, f, ts, hA1, hk, hlen, hK, hf, hRk⟩ | ⟨hRS, hB⟩
      · obtain ⟨f, rfl⟩ : ∃ f', f = f' + 1 := ⟨f - 1, by omega⟩
        rw [patLoop_step] at hRk
        have c0 := hA1.cs.text
        have c1 := hA1.cs.pos
        have c2 := hA1.cs.bad
        have f1 := hA1.cs.fr1
        by_cases h124 : gOf s k = 124
        · rw [if_pos h124] at hRk
          have hkl := in_of (s := s) (i := k) (by omega)
          have d1 : decide (gOf s k = 124) = true := decide_eq_true h124
          obtain ⟨k1, hk1⟩ : ∃ k1, k1 = k + 1 := ⟨_, rfl⟩
          have t1 : (k : Int) + 1 = (k1 : Int) := by omega
          have bk : (k : Int) ≤ 1000 := by omega
          have k1s : k1 ≤ s.size := by omega
          rw [← hk1] at hRk
          obtain ⟨xs, S, hown, hks, hS⟩ := hK
          have hsz := hA1.size
          have hl1 : (ts.length : Int) ≤ 1001 := by omega
          have hkk : Hid (k1 = k + 1) := hk1
          clear h124 hk1
          rcases hq : partAt (gOf s) s.size A k1 with _ | ⟨t, j⟩
          · rw [hq] at hRk
            have HE : Hid (RS = none) := hRk.symm
            clear hRk
            go_wp2_with (first | (go_at_call 96; refine (sNow hA1.cs hk 124 124 (by omega) rfl).mono ?_; rintro e wn ⟨rfl, nn, rfl⟩) | (go_at_call 95; refine (hP k1 _ ((hA1.drewN _).pos _).cs k1s).mono ?_; intro e w1 h1; obtain ⟨a, b, c, d, u, j', rfl, h5, hC, hgr⟩ := tells_none h1 hq; obtain ⟨y1, y2, y3, y4, y5, y6, y7, rfl, rfl, rfl, rfl, rfl⟩ := h5; have hg1' : wr.grownBy w1 (some p) := (grown_drewN (World.grownBy.refl _ _) _).trans ((grown_set _ ⟨p, 1, none⟩ _).trans hgr); have hown1 := owns_grown hown hg1' (by omega); have hsz1 := hg1'.size) | (at_builtin; refine wpList_append_own_at _ rfl _ _ 24 rfl (w.heap.size + 1) 26 i0 _ 5 64 Tryz.underlying24 hi0 hz0 hz1 hz2 rfl (by decide) _ _ _ rfl (hown1.alloc _) ⟨w1.heap.size, 0, none⟩ 1 1 [.int .i64 y1, .int .i64 y2, .string y3, .bool y4, .slice y5 y6 y7] rfl rfl (cell_five_new _ _ _ _ _ _) (by simp [Value.oneCell']) (by unfold maxLen; omega) (by omega) (by simp; omega) ?_; intro v' w3 hown3 hgr3 _ hb3))
            have hA2 := (hA1.grown hg1' hC).alloc (.cells #[.int .i64 y1, .int .i64 y2, .string y3, .bool y4, .slice y5 y6 y7] 26)
            have hA3 := hA2.grownOwn hgr3 (fun b hb => by have := (hown.lt b hb).1; omega)
            go_roundw
            case rel =>
              refine .inr ⟨HE.out, _, _, _, hA3, hown3, by omega, fun e => ?_⟩
              have hts : ts.length = 0 := by omega
              have hxs : xs = [] := List.length_eq_zero_iff.1 (by rw [hown.1, hts])
              exact ⟨_, _, _, _, _, by rw [hxs]; rfl, ⟨y1, y2, y3, y4, y5, y6, y7, rfl, rfl, rfl, rfl, rfl⟩⟩
            case measure => exact left_lt_bad hA1.cs hA3.cs hk
          · rw [hq] at hRk
            have HE : Hid (patLoop (gOf s) s.size A f j (ts ++ [t]) = RS) := hRk
            obtain ⟨j1, j2⟩ := hin k1 t j hq
            clear hRk
            go_wp2_with (first | (go_at_call 96; refine (sNow hA1.cs hk 124 124 (by omega) rfl).mono ?_; rintro e wn ⟨rfl, nn, rfl⟩) | (go_at_call 95; refine (hP k1 _ ((hA1.drewN _).pos _).cs k1s).mono ?_; intro e w1 h1; obtain ⟨a, b, c, d, u, rfl, hx, hC, hgr⟩ := tells_some h1 hq; obtain ⟨y1, y2, y3, y4, y5, y6, y7, rfl, rfl, rfl, rfl, rfl⟩ := rex_cells hx; have hg1' : wr.grownBy w1 (some p) := (grown_drewN (World.grownBy.refl _ _) _).trans ((grown_set _ ⟨p, 1, none⟩ _).trans hgr); have hown1 := owns_grown hown hg1' (by omega); have hsz1 := hg1'.size) | (at_builtin; refine wpList_append_own_at _ rfl _ _ 24 rfl (w.heap.size + 1) 26 i0 _ 5 64 Tryz.underlying24 hi0 hz0 hz1 hz2 rfl (by decide) _ _ _ rfl (hown1.alloc _) ⟨w1.heap.size, 0, none⟩ 1 1 [.int .i64 y1, .int .i64 y2, .string ⟨y3.toArray⟩, .bool y4, .slice y5 y6 y7] rfl rfl (cell_five_new _ _ _ _ _ _) (by simp [Value.oneCell']) (by unfold maxLen; omega) (by omega) (by simp; omega) ?_; intro v' w3 hown3 hgr3 _ hb3))
            have hx' : RexIs w1 t (Iv wr.heap.size w1.heap.size) [.int .i64 y1, .int .i64 y2, .string ⟨y3.toArray⟩, .bool y4, .slice y5 y6 y7] := by simpa using hx
            have hA2 := (hA1.grown hg1' hC).alloc (.cells #[.int .i64 y1, .int .i64 y2, .string ⟨y3.toArray⟩, .bool y4, .slice y5 y6 y7] 26)
            have hA3 := hA2.grownOwn hgr3 (fun b hb => by have := (hown.lt b hb).1; omega)
            have hkk' := hkk.out
            go_roundw
            case rel => exact .inl ⟨j, f, ts ++ [t], hA3, j2 k1s, by simp; omega, kids_append hown hks hS (by omega) (by omega) hg1' hx' hown3 hgr3 hb3, by omega, HE.out⟩
            case measure => exact left_lt hA1.cs hA3.cs hk (by omega)
        · rw [if_neg h124] at hRk
          have HE : Hid (RS = some (ts, k)) := hRk.symm
          have d1 : decide (gOf s k = 124) = false := decide_eq_false h124
          clear hRk h124
          go_wp2_with (go_at_call 96; refine (sNow hA1.cs hk 124 124 (by omega) rfl).mono ?_; rintro e wn ⟨rfl, nn, rfl⟩)
          go_meet
          exact .inl ⟨k, ts, HE.out, hk, hA1.drewN _, kids_kept hK (fun _ _ _ => rfl) (Nat.le_refl _)⟩
      · obtain ⟨kb, n, xs, hA1, hown, hn1, hn⟩ := hB
        have HE : Hid (RS = none) := hRS
        clear hRS
        go_wp2_with (go_at_call 96; refine (sNowBad hA1.cs _).mono ?_; rintro e wn ⟨rfl, nn, rfl⟩)
        go_meet
        exact .inr ⟨HE.out, kb, n, xs, hA1.drewN _, hown, hn1, hn⟩
  case rest =>
    clear hc0 hi hP hin
    rcases hcut with ⟨k, ts, hRS, hk, hA1, hK⟩ | ⟨hRS, kb, n, xs, hA1, hown, hn1, hn⟩
    · have v0 := hA1.res.cell
      have u0 := hA1.res.frozen
      rcases ts with _ | ⟨t1, _ | ⟨t2, ts⟩⟩
      · exact absurd rfl (hne _ _ hRS)
      · have HR2 : Hid (R = some (t1, k)) := by show R = _; rw [HR.out, hRS]; rfl
        obtain ⟨g, cap, a, b, c, d, u, rfl, hB, hx, x0, x1, x2, x3, x4⟩ := kids_head hK
        obtain ⟨y1, y2, y3, y4, y5, y6, y7, rfl, rfl, rfl, rfl, rfl⟩ := rex_cells hx
        have hgn : w.heap.size < g := by omega
        clear hK
        go_wp2_with fail
        refine At.retRex (j := k) ?_ Tryz.results88 hx ?_ HR2.out ?_ ?_
        · exact hA1
        · omega
        · rfl
        · rfl
      · have HR2 : Hid (R = some (nd 7 0 [] false (t1 :: t2 :: ts), k)) := by show R = _; rw [HR.out, hRS]; rfl
        have hx := kids_rex hK 7 0 [] false
        obtain ⟨ao, cap, rfl⟩ := kids_len' hK
        obtain ⟨n, hn⟩ : ∃ n, n = (t1 :: t2 :: ts).length := ⟨_, rfl⟩
        rw [← hn] at hx ⊢
        have n0 : ((n : Int) == 0) = false := by rw [hn]; simp; omega
        have n1 : ((n : Int) == 1) = false := by rw [hn]; simp; omega
        clear hn hK
        go_wp2_with fail
        refine At.retRex (j := k) ?_ Tryz.results88 hx ?_ HR2.out ?_ ?_
        · exact hA1
        · omega
        · rfl
        · rfl
    · have v0 := hA1.res.cell
      have u0 := hA1.res.frozen
      have HR2 : Hid (R = none) := by show R = _; rw [HR.out, hRS]; rfl
      by_cases h1 : n = 1
      · obtain ⟨a, b, c, d, u, rfl, h5⟩ := hn h1
        subst h1
        obtain ⟨g, cap, rfl, hB, x0, x1, x2, x3, x4⟩ := owns_head hown
        obtain ⟨y1, y2, y3, y4, y5, y6, y7, rfl, rfl, rfl, rfl, rfl⟩ := h5
        have hgn : w.heap.size < g := by omega
        clear hown hn hn1
        go_wp2_with fail
        refine At.retBad ?_ Tryz.results88 ⟨y1, y2, y3, y4, y5, y6, y7, rfl, rfl, rfl, rfl, rfl⟩ HR2.out ?_ ?_
        · exact ⟨_, hA1⟩
        · rfl
        · rfl
      · obtain ⟨ao, cap, rfl⟩ := owns_len' hown
        have n0 : ((n : Int) == 0) = false := by simp; omega
        have n1 : ((n : Int) == 1) = false := by simp; omega
        clear hown hn hn1 h1
        go_wp2_with fail
        refine At.retBad ?_ Tryz.results88 ⟨7, 0, _, false, _, _, _, rfl, rfl, rfl, rfl, rfl⟩ HR2.out ?_ ?_
        · exact ⟨_, hA1⟩
        · rfl
        · rfl

end Rx
end Go.Proofs.YtgdnlmaacnnfiaaGreatDoor

namespace Go.Proofs.YtgdnlmaacnnfiaaGreatDoor
open Go.RowKit
namespace Rx

theorem wrap64_byte (b : UInt8) : wrap64 (b.toNat : Int) = (b.toNat : Int) := by
  have := b.toNat_lt
  unfold wrap64; omega

set_option maxHeartbeats 4000000 in
set_option maxRecDepth 100000 in
theorem sSet {p : Nat} {s : ByteArray} {i : Nat} {w : World} (h : Cs p s i false w) (hi : i ≤ s.size) (hs : s.size ≤ 1000) :
    Calls Tryz.prog 124 #[.pointer (some ⟨p, 0, none⟩)] w fun e w' => Tells p s w (setAt (gOf s) s.size i) e w' := by
  obtain ⟨j0, hj0⟩ : ∃ j0, j0 = if gOf s i = 94 then i + 1 else i := ⟨_, rfl⟩
  obtain ⟨no, hno⟩ : ∃ no, no = decide (gOf s i = 94) := ⟨_, rfl⟩
  have hj0le : j0 ≤ s.size := by
    rw [hj0]
    split
    · have := in_of (s := s) (i := i) (by omega); omega
    · exact hi
  obtain ⟨RL, hRL⟩ : ∃ RL, setLoop (gOf s) (s.size + 1) j0 (fun _ => false) = RL := ⟨_, rfl⟩
  have HR : Hid (setAt (gOf s) s.size i = setEnd no RL) := by
    show setAt (gOf s) s.size i = setEnd no RL
    unfold setAt; rw [← hj0, ← hno, hRL]
  have HL : Hid (SetR (gOf s) s.size j0 0 (s.size + 1) false (fun _ => false) RL) := ⟨fun h => by simp at h, fun _ => ⟨by omega, hRL, by simp [bytesOf]⟩⟩
  generalize setAt (gOf s) s.size i = R at HR ⊢
  clear hRL
  have hp := h.lt
  obtain ⟨W2, hW2⟩ : ∃ W2, W2 = (w.alloc (.cells #[.int .i64 0, .int .i64 0, .string ⟨#[]⟩, .bool false, .slice none 0 0] 26)).alloc (.cells #[.int .i64 3, .int .i64 0, .string ⟨#[]⟩, .bool false, .slice none 0 0] 26) := ⟨_, rfl⟩
  have hC2 : Cs p s i false W2 := by rw [hW2]; exact (h.alloc _).alloc _
  have hV2 : Var W2 w.heap.size (.int .i64 0) (.int .i64 0) (.string ⟨#[]⟩) (.bool false) (.slice none 0 0) := by
    rw [hW2]; exact (Below.heap_alloc _ _ _ (by simp)).trans (heap_alloc_last _ _)
  have hV3 : Var W2 (w.heap.size + 1) (.int .i64 3) (.int .i64 0) (.string ⟨#[]⟩) (.bool false) (.slice none 0 0) := by
    rw [hW2]; unfold Var; rw [show w.heap.size + 1 = (w.alloc (.cells #[.int .i64 0, .int .i64 0, .string ⟨#[]⟩, .bool false, .slice none 0 0] 26)).heap.size by simp]; exact heap_alloc_last _ _
  have hg2 : w.grownBy W2 (some p) := by rw [hW2]; exact (World.grownBy_alloc _ _ _).trans (World.grownBy_alloc _ _ _)
  have hz2 : W2.heap.size = w.heap.size + 2 := by rw [hW2]; simp
  subst hW2
  have Hno : Hid (no = decide (gOf s i = 94)) := hno
  have Hj0 : Hid (j0 = if gOf s i = 94 then i + 1 else i) := hj0
  clear hno hj0
  go_enter Tryz.func124, Tryz.ntmps124
  go_upto_if 13 with (go_at_call 96; refine (sNow hC2 hi 94 94 (by omega) rfl).mono ?_; rintro e wa ⟨rfl, na, rfl⟩; rw [← Hno.out])
  go_cut [] (fun wx => Cs p s j0 false wx ∧ Var wx w.heap.size (.int .i64 0) (.int .i64 0) (.string ⟨#[]⟩) (.bool false) (.slice none 0 0) ∧ Var wx (w.heap.size + 1) (.int .i64 3) (.int .i64 0) (.string ⟨#[]⟩) (.bool no) (.slice none 0 0) ∧ w.grownBy wx (some p) ∧ wx.heap.size = w.heap.size + 2)
  case first =>
    cases no with
    | true =>
      have h94 : gOf s i = 94 := of_decide_eq_true Hno.out.symm
      have Hj : Hid (j0 = i + 1) := Hj0.out.trans (if_pos h94)
      have c1 := hC2.pos
      have f1 := hC2.fr1
      have f2 := hV3.frozen 3
      have c2 := hV3.cell.2.2.2.1
      have bi : (i : Int) ≤ 1000 := by omega
      clear h94
      go_wp2_with fail
      go_meet
      rw [Hj.out]
      have hp1 : w.heap.size + 1 ≠ p := by omega
      have hp0 : w.heap.size ≠ p := by omega
      refine ⟨?_, ?_, ?_, ?_, ?_⟩
      · exact ((hC2.drewN na).set ((i : Int) + 1)).kept (Below.heap_setCell _ ⟨w.heap.size + 1, 3, none⟩ _ _ (by show p ≠ w.heap.size + 1; omega))
      · exact hV2.kept ((Below.heap_setCell _ _ _ _ (show w.heap.size ≠ w.heap.size + 1 by omega)).trans (Below.heap_setCell _ _ _ _ hp0))
      · exact (Var.kept (w := ((w.alloc (.cells #[.int .i64 0, .int .i64 0, .string ⟨#[]⟩, .bool false, .slice none 0 0] 26)).alloc (.cells #[.int .i64 3, .int .i64 0, .string ⟨#[]⟩, .bool false, .slice none 0 0] 26)).drewN na) hV3 (Below.heap_setCell _ _ _ _ hp1)).set3 _
      · exact grown_set_new ((grown_drewN hg2 na).trans (grown_set _ ⟨p, 1, none⟩ _)) (show w.heap.size ≤ w.heap.size + 1 by omega) _
      · simp
    | false =>
      have h94 : ¬ gOf s i = 94 := of_decide_eq_false Hno.out.symm
      have Hj : Hid (j0 = i) := Hj0.out.trans (if_neg h94)
      clear h94
      go_wp2_with fail
      go_meet
      rw [Hj.out]
      exact ⟨hC2.drewN _, hV2, hV3, grown_drewN hg2 _, hz2⟩
  case rest =>
    obtain ⟨hC3, hV4, hV5, hg3, hz3⟩ := hcut
    clear hC2 hV2 hV3 hg2 hz2 h hi Hno Hj0
    have mk := mk256
    have hSt : St p s w no j0 false (fun _ => false) (wc.alloc (.cells (marks fun _ => false) 4)) := by
      refine ⟨hC3.alloc _, hV4.kept (Below.heap_alloc _ _ _ (by omega)), hV5.kept (Below.heap_alloc _ _ _ (by omega)), ?_, hg3.trans (World.grownBy_alloc _ _ _), by simp [hz3], hp⟩
      rw [← hz3]
      exact heap_alloc_last _ _
    have HS : Hid (j0 ≤ s.size) := hj0le
    clear hC3 hV4 hV5 hg3 hj0le
    go_upto_block 0 with fail
    go_cut [5, 6, 7, 8] (fun v5 v6 v7 v8 wx => ∃ (k m f : Nat) (bad : Bool) (M : Nat → Bool), v5 = .int .i64 m ∧ m ≤ k ∧ k ≤ s.size ∧ (k < s.size → gOf s k = 93) ∧ St p s w no k bad M wx ∧ SetR (gOf s) s.size k m f bad M RL)
    case first =>
      go_wp2_with fail
      go_loopw [5] (fun v5 wr => ∃ (k m f : Nat) (bad : Bool) (M : Nat → Bool), v5 = .int .i64 m ∧ m ≤ k ∧ k ≤ s.size ∧ St p s w no k bad M wr ∧ SetR (gOf s) s.size k m f bad M RL) (fun _ wr => s.size - posC p wr)
      case atStart => exact ⟨j0, 0, _, false, _, rfl, Nat.zero_le _, HS.out, hSt, HL.out⟩
      case round =>
        clear hSt HL HS mk
        obtain ⟨k, m, f, bad, M, rfl, hm, hk, hst, hR⟩ := hrel
        have HR2 : Hid (SetR (gOf s) s.size k m f bad M RL) := hR
        have HP : Hid (posC p wr = k) := posC_is hst.cs
        have c1 := hst.cs.text
        have c2 := hst.cs.pos
        have f1 := hst.cs.fr1
        have f2 := hst.cs.fr2
        clear hR
        rcases Nat.lt_or_ge k s.size with hkl | hkl
        · have hg1 := gOf_in hkl
          by_cases h93 : gOf s k = 93
          · have e93 : (s[k].toNat : Int) = 93 := by omega
            go_wp2_with fail
            go_quiet (fail)
            go_wp2_with fail
            go_meet
            exact ⟨k, m, f, bad, M, rfl, hm, hk, fun _ => h93, hst.drewN _, HR2.out⟩
          · have e93 : ¬ (s[k].toNat : Int) = 93 := by omega
            obtain ⟨row, hrow⟩ : ∃ row, row = rowB (gOf s) k := ⟨_, rfl⟩
            have HW : Hid (row = rowB (gOf s) k) := hrow
            have h93' : Hid (¬ gOf s k = 93) := h93
            have bk : (k : Int) < 1000 := by omega
            obtain ⟨lo, hlo⟩ : ∃ lo, lo = gOf s k := ⟨_, rfl⟩
            have HLo : Hid (lo = gOf s k) := hlo
            have blo : lo < 256 := by have := s[k].toNat_lt; omega
            have hw : wrap64 (s[k].toNat : Int) = (lo : Int) := by rw [hlo, hg1]; exact wrap64_byte s[k]
            obtain ⟨k1, hk1⟩ : ∃ k1, k1 = k + 1 := ⟨_, rfl⟩
            obtain ⟨k2, hk2⟩ : ∃ k2, k2 = k + 2 := ⟨_, rfl⟩
            have t1 : (k : Int) + 1 = (k1 : Int) := by omega
            have t2 : (k1 : Int) + 1 = (k2 : Int) := by omega
            have T1 : Hid (k1 = k + 1) := hk1
            have T2 : Hid (k2 = k + 2) := hk2
            clear hrow h93 hlo hg1 hk1 hk2
            go_wp2_with fail
            go_quiet (fail)
            go_wp2_with fail
            go_quiet (fail)
            go_upto_region 11 with fail
            go_cut [98] from 23 to 134 (fun v wx => v = .bool row ∧ St p s w no k1 bad M wx)
            case first =>
              have r1 := T1.out
              have r2 := T2.out
              by_cases q1 : k2 < s.size
              · have hk1 : k1 < s.size := by omega
                have hg2 : gOf s (k + 1) = s[k1].toNat := by rw [← r1]; exact gOf_in hk1
                have hg3 : gOf s (k + 2) = s[k2].toNat := by rw [← r2]; exact gOf_in q1
                have b3 := s[k2].toNat_lt
                by_cases q2 : gOf s (k + 1) = 45
                · by_cases q3 : gOf s (k + 2) = 93
                  · have R1 : Hid (row = false) := HW.out.trans (decide_eq_false (by omega))
                    have z1 : (s[k1].toNat : Int) = 45 := by omega
                    have z2 : (s[k2].toNat : Int) = 93 := by omega
                    clear hg2 hg3 q2 q3 b3 r1 r2
                    go_quiet (fail)
                    go_wp2
                    go_meet
                    exact ⟨by rw [R1.out], ((hst.drewN _).pos _).drewN _⟩
                  · have R1 : Hid (row = true) := HW.out.trans (decide_eq_true ⟨q2, q3, by omega⟩)
                    have z1 : (s[k1].toNat : Int) = 45 := by omega
                    have z2 : ((s[k2].toNat : Int) != 93) = true := by simp; omega
                    clear hg2 hg3 q2 q3 b3 r1 r2
                    go_quiet (fail)
                    go_wp2
                    go_meet
                    exact ⟨by rw [R1.out], ((hst.drewN _).pos _).drewN _⟩
                · have R1 : Hid (row = false) := HW.out.trans (decide_eq_false (by omega))
                  have z1 : ((s[k1].toNat : Int) == 45) = false := by simp; omega
                  clear hg2 hg3 q2 b3 r1 r2
                  go_quiet (fail)
                  go_wp2
                  go_meet
                  exact ⟨by rw [R1.out], ((hst.drewN _).pos _).drewN _⟩
              · have R1 : Hid (row = false) := HW.out.trans (decide_eq_false (by have := gOf_out (s := s) (i := k + 2) (by omega); omega))
                have z1 : decide ((k2 : Int) < s.size) = false := decide_eq_false (by omega)
                have z2 : decide (k2 < s.size) = false := decide_eq_false (by omega)
                clear r1 r2
                go_quiet (fail)
                go_wp2
                go_meet
                exact ⟨by rw [R1.out], ((hst.drewN _).pos _).drewN _⟩
            case rest =>
              obtain ⟨hv, hst1⟩ := hcut
              subst hv
              rw [hw]
              clear hst c1 c2 f1 f2 hw
              have c1 := hst1.cs.text
              have c2 := hst1.cs.pos
              have f1 := hst1.cs.fr1
              obtain ⟨hi, hhi⟩ : ∃ hi, hi = if row then gOf s (k + 2) else lo := ⟨_, rfl⟩
              obtain ⟨k3, hk3⟩ : ∃ k3, k3 = if row then k + 3 else k + 1 := ⟨_, rfl⟩
              have HH : Hid (hi = if row then gOf s (k + 2) else lo) := hhi
              have HK : Hid (k3 = if row then k + 3 else k + 1) := hk3
              clear hhi hk3
              go_upto_if 98 with fail
              go_cut [7] from 23 to 134 (fun v wx => v = .int .i64 (hi : Int) ∧ St p s w no k3 bad M wx)
              case first =>
                cases row with
                | true =>
                  have hrw := of_decide_eq_true HW.out.symm
                  have q1 : k2 < s.size := by rw [T2.out]; exact in_of hrw.2.2
                  have hg3 : gOf s (k + 2) = s[k2].toNat := by rw [← T2.out]; exact gOf_in q1
                  have b3 := s[k2].toNat_lt
                  have H3 : Hid (hi = gOf s (k + 2)) := HH.out
                  have hw2 : wrap64 (s[k2].toNat : Int) = (hi : Int) := by rw [H3.out, hg3]; exact wrap64_byte _
                  have t3 : (k1 : Int) + 2 = (k3 : Int) := by have := T1.out; have : k3 = k + 3 := HK.out; omega
                  clear hrw hg3 b3
                  go_wp2_with fail
                  go_quiet (fail)
                  go_wp2_with fail
                  go_meet
                  exact ⟨by rw [hw2], (hst1.drewN _).pos _⟩
                | false =>
                  have H3 : hi = lo := HH.out
                  have H4 : k3 = k1 := HK.out.trans T1.out.symm
                  subst H3 H4
                  go_wp2_with fail
                  go_meet
                  exact ⟨rfl, hst1⟩
              case rest =>
                obtain ⟨hv, hst2⟩ := hcut
                subst hv
                clear hst1 c1 c2 f1 t1 t2
                have f2 := hst2.cs.fr2
                have c3 := hst2.cs.bad
                go_upto_if 120 with fail
                go_cut [] from 23 to 134 (fun wx => St p s w no k3 (bad || decide (hi < lo)) M wx)
                case first =>
                  by_cases hl : hi < lo
                  · have l1 : decide ((hi : Int) < lo) = true := decide_eq_true (by omega)
                    have l2 : decide (hi < lo) = true := decide_eq_true hl
                    go_wp2_with fail
                    go_meet
                    rw [l2, Bool.or_true]
                    exact hst2.spoil true
                  · have l1 : decide ((hi : Int) < lo) = false := decide_eq_false (by omega)
                    have l2 : decide (hi < lo) = false := decide_eq_false hl
                    go_wp2_with fail
                    go_meet
                    rw [l2, Bool.or_false]
                    exact hst2
                case rest =>
                  have hst3 := hcut
                  clear hst2 f2 hcut c3
                  obtain ⟨f', HX, x1, x2, x3, x4⟩ : ∃ f', SetR (gOf s) s.size k3 (m + 1) f' (bad || decide (hi < lo)) (if lo ≤ hi then spanOn M lo hi else M) RL ∧ m + 1 ≤ k3 ∧ k3 ≤ s.size ∧ k < k3 ∧ hi < 256 := by
                    have hl := HLo.out
                    cases row with
                    | true =>
                      have hrw := of_decide_eq_true HW.out.symm
                      have q1 := in_of hrw.2.2
                      have h1 : hi = gOf s (k + 2) := HH.out
                      have h2 : k3 = k + 3 := HK.out
                      obtain ⟨f', h3⟩ := setR_row HR2.out hkl h93'.out HW.out.symm
                      rw [h1, h2, hl]
                      exact ⟨f', h3, by omega, by omega, by omega, by rw [gOf_in q1]; have := s[k + 2].toNat_lt; omega⟩
                    | false =>
                      have h1 : hi = gOf s k := HH.out.trans hl
                      have h2 : k3 = k + 1 := HK.out
                      obtain ⟨f', h3⟩ := setR_one HR2.out hkl h93'.out HW.out.symm
                      rw [h1, h2, hl, decide_eq_false (Nat.lt_irrefl _), Bool.or_false, if_pos (Nat.le_refl _)]
                      exact ⟨f', h3, by omega, by omega, by omega, by omega⟩
                  have HX' : Hid (SetR (gOf s) s.size k3 (m + 1) f' (bad || decide (hi < lo)) (if lo ≤ hi then spanOn M lo hi else M) RL) := HX
                  clear HX HR2 HW HK HH h93' T1 T2
                  generalize (bad || decide (hi < lo)) = bad' at hst3 HX'
                  go_wp2_with fail
                  go_loopw [8] (fun v wq => ∃ n : Nat, v = .int .i64 n ∧ lo ≤ n ∧ (n ≤ hi + 1 ∨ n = lo) ∧ St p s w no k3 bad' (spanTo M lo n) wq) (fun v _ => 300 - (intOf v).toNat)
                  case atStart => exact ⟨lo, rfl, Nat.le_refl _, .inr rfl, by rw [spanTo_zero]; exact hst3⟩
                  case round =>
                    obtain ⟨n, rfl, n1, n2, hst5⟩ := hrel
                    by_cases hn : n ≤ hi
                    · have hc := hs_cell hst5.hs (k := n) (by omega)
                      have hfr := hs_frozen (k := n) hst5.hs
                      have hn2 : n < 256 := by omega
                      go_wp2_with fail
                      go_roundw
                      case rel =>
                        refine ⟨n + 1, by go_num, by omega, by omega, ?_⟩
                        rw [← spanTo_next M n1]
                        exact hst5.mark n
                      case measure => simp [intOf]; omega
                    · have HM : Hid (spanTo M lo n = if lo ≤ hi then spanOn M lo hi else M) := by
                        show spanTo M lo n = if lo ≤ hi then spanOn M lo hi else M
                        by_cases hlh : lo ≤ hi
                        · obtain rfl : n = hi + 1 := by omega
                          rw [if_pos hlh, spanTo_all]
                        · obtain rfl : n = lo := by omega
                          rw [if_neg hlh, spanTo_zero]
                      have hmm : (m : Int) < 1000 := by omega
                      go_wp2_with fail
                      go_roundw
                      case rel =>
                        rw [HM.out] at hst5
                        exact ⟨k3, m + 1, f', bad', _, by go_num, x1, x2, hst5, HX'.out⟩
                      case measure => rw [HP.out, posC_is hst5.cs]; omega
        · have e3 : decide ((k : Int) < s.size) = false := decide_eq_false (by omega)
          have e4 : decide (k < s.size) = false := decide_eq_false (by omega)
          have e5 : ¬ k < s.size := by omega
          go_wp2_with fail
          go_quiet (fail)
          go_wp2_with fail
          go_meet
          exact ⟨k, m, f, bad, M, rfl, hm, hk, fun h => absurd h e5, hst.drewN _, HR2.out⟩
    case rest =>
      obtain ⟨k, m, f, bad, M, hv, hm, hk, h93, hst, hR⟩ := hcut
      subst hv
      obtain ⟨z1, z2⟩ := setR_end (no := no) hR hk h93
      obtain ⟨out, hout⟩ : ∃ out, out = (decide (s.size ≤ k) || decide (m = 0)) := ⟨_, rfl⟩
      rw [← hout] at z1 z2
      have HO : Hid (out = (decide (s.size ≤ k) || decide (m = 0))) := hout
      have Z1 : Hid ((bad || out) = true → R = none) := fun h => HR.out.trans (z1 h)
      have Z2 : Hid ((bad || out) = false → R = some (setOf M no, k + 1)) := fun h => HR.out.trans (z2 h)
      clear hR z1 z2 hout hSt HL HS mk HR h93
      have c1 := hst.cs.text
      have c2 := hst.cs.pos
      have c3 := hst.cs.bad
      have f1 := hst.cs.fr1
      have f2 := hst.cs.fr2
      go_upto_region 21 with fail
      go_cut [148] (fun v wx => v = .bool out ∧ St p s w no k bad M wx)
      case first =>
        by_cases q1 : s.size ≤ k
        · have R1 : Hid (out = true) := by show out = true; rw [HO.out, decide_eq_true q1]; rfl
          have e1 : decide ((s.size : Int) ≤ (k : Int)) = true := decide_eq_true (by omega)
          have e2 : decide (s.size ≤ k) = true := decide_eq_true (by omega)
          go_quiet (fail)
          go_wp2
          go_meet
          exact ⟨by rw [R1.out], hst.drewN _⟩
        · have e1 : decide ((s.size : Int) ≤ (k : Int)) = false := decide_eq_false (by omega)
          have e2 : decide (s.size ≤ k) = false := decide_eq_false (by omega)
          have R1 : Hid (out = decide (m = 0)) := by show out = _; rw [HO.out, e2]; rfl
          have e3 : ((m : Int) == 0) = decide (m = 0) := nat_eqb m 0
          go_quiet (fail)
          go_wp2
          go_meet
          exact ⟨by rw [R1.out], hst.drewN _⟩
      case rest =>
        obtain ⟨hv, hst1⟩ := hcut
        subst hv
        clear hst c1 c2 c3 f1 f2 HO
        have c1 := hst1.cs.text
        have c2 := hst1.cs.pos
        have c3 := hst1.cs.bad
        have f1 := hst1.cs.fr1
        have f2 := hst1.cs.fr2
        go_upto_if 148 with fail
        go_cut [] (fun wx => St p s w no k (bad || out) M wx)
        case first =>
          cases out with
          | true =>
            go_wp2_with fail
            go_meet
            rw [Bool.or_true]
            exact hst1.spoil true
          | false =>
            go_wp2_with fail
            go_meet
            rw [Bool.or_false]
            exact hst1
        case rest =>
          have hst2 := hcut
          generalize (bad || out) = bad' at hst2 Z1 Z2
          clear hst1 c1 c2 c3 f1 f2 hcut
          have hst3 := hst2.pos ((k : Int) + 1)
          have c2 := hst2.cs.pos
          have f1 := hst2.cs.fr1
          have bk : (k : Int) ≤ 1000 := by omega
          obtain ⟨i0, hi0, hz0, hz1, hz2⟩ := info_parts Tryz.info5r
          obtain ⟨W3, hW3⟩ : ∃ W3, W3 = wc.setCell ⟨p, 1, none⟩ (.int .i64 ((k : Int) + 1)) := ⟨_, rfl⟩
          rw [← hW3] at hst3
          have sz2 := hst2.sz
          go_wp2_with fail
          rw [← hW3]
          have hsz3 := hst3.sz
          have hMc : ∀ j, j < 256 → W3.cell? ⟨w.heap.size + 2, j, none⟩ = some (.bool (M j)) := fun j hj => hs_cell hst3.hs hj
          clear hW3 hst2 c2 f1 sz2
          go_loopw [9, 10] (fun v i wr => ∃ k : Nat, k ≤ 256 ∧ i = .int .i64 k ∧ wr.ownsRow (w.heap.size + 3) 5 1 v (upTo M k).length (u8s (upTo M k)) ∧ Below (w.heap.size + 3) W3 wr) (fun _ i _ => 256 - (intOf i).toNat)
          case atStart =>
            refine ⟨0, by omega, rfl, ?_, (Below.refl _ W3).alloc (by omega) _⟩
            rw [← hsz3]
            exact World.ownsRow_made W3 #[] 0 (Nat.le_refl _) (by unfold maxLen; omega) rfl
          case round =>
            obtain ⟨k', hk', rfl, hown, hnx⟩ := hrel
            have hlen := upTo_len M k'
            have hszr := hnx.size
            have hlt2 : w.heap.size + 2 < w.heap.size + 3 := by omega
            by_cases hkl : k' < 256
            · have hcM : wr.cell? ⟨w.heap.size + 2, k', none⟩ = some (.bool (M k')) := (World.cell?_of_block (hnx.block _ hlt2)).trans (hMc k' hkl)
              by_cases hM : M k' = true
              · rw [hM] at hcM
                go_wp2_with (first | (at_builtin; refine wpList_append_own_at _ rfl _ _ 22 rfl (w.heap.size + 3) 5 i0 (.int .u8 0) 1 1 Tryz.underlying22 hi0 hz0 hz1 hz2 rfl (by decide) _ _ _ rfl (hown.alloc _) ⟨wr.heap.size, 0, none⟩ 1 1 [.int .u8 k'] rfl rfl (cell_one_new _ _ _) (by simp [Value.oneCell']) (by unfold maxLen; omega) (by omega) (by simp; omega) ?_; intro v' w1 hown' hgrow _ _))
                rw [← List.length_singleton (a := Value.int .u8 (k' : Int))] at hown'
                go_roundw
                case rel =>
                  refine ⟨k' + 1, by omega, by go_num, ?_, ?_⟩
                  · rw [upTo_in hM]
                    simpa [u8s] using hown'
                  · exact (hnx.alloc (by omega) _).grown hgrow (by simp; omega) (fun b hb => (hown.lt b hb).1)
                case measure => simp [intOf]; omega
              · have hM : M k' = false := by simpa using hM
                rw [hM] at hcM
                go_wp2_with fail
                go_roundw
                case rel => exact ⟨k' + 1, by omega, by go_num, by rw [upTo_out hM]; exact hown, hnx⟩
                case measure => simp [intOf]; omega
            · obtain rfl : k' = 256 := by omega
              have hcv := conv_owned hown (fun b hb => List.mem_range.1 (List.mem_filter.1 hb).1)
              have H : Hid ((upTo M 256).map UInt8.ofNat = bytesOf M) := rfl
              have hV := hst3.rv.kept (hnx.block _ (by omega))
              have hV0 := hst3.res.kept (hnx.block _ (by omega))
              have x0 := hV.cell.1
              have x1 := hV.cell.2.1
              have x2 := hV.cell.2.2.1
              have x3 := hV.cell.2.2.2.1
              have x4 := hV.cell.2.2.2.2
              have xf := hV.frozen 2
              have y0 := hV0.frozen 0
              have y1 := hV0.frozen 1
              have y2 := hV0.frozen 2
              have y3 := hV0.frozen 3
              have y4 := hV0.frozen 4
              have y5 := hV0.cell.1
              have y6 := hV0.cell.2.1
              have y7 := hV0.cell.2.2.1
              have y8 := hV0.cell.2.2.2.1
              have y9 := hV0.cell.2.2.2.2
              go_wp2_with fail
              have hp1 : p ≠ w.heap.size + 1 := by omega
              have hp0 : p ≠ w.heap.size := by omega
              have hnx' : Below W3.heap.size W3 wr := by rw [hsz3]; exact hnx
              have hCf := (hst3.cs.kept (hnx.block p (by omega))).kept (Below.heap_setCell wr ⟨w.heap.size + 1, 2, none⟩ (.string ⟨((upTo M 256).map UInt8.ofNat).toArray⟩) p hp1)
              have hgf : w.grownBy (wr.setCell ⟨w.heap.size + 1, 2, none⟩ (.string ⟨((upTo M 256).map UInt8.ofNat).toArray⟩)) (some p) := grown_set_new (hst3.gr.trans (grown_of_below hnx' _)) (show w.heap.size ≤ w.heap.size + 1 by omega) _
              have hVf := put5_var (hV0.kept (Below.heap_setCell wr ⟨w.heap.size + 1, 2, none⟩ (.string ⟨((upTo M 256).map UInt8.ofNat).toArray⟩) w.heap.size (show w.heap.size ≠ w.heap.size + 1 by omega))) (.int .i64 3) (.int .i64 0) (.string ⟨((upTo M 256).map UInt8.ofNat).toArray⟩) (.bool no) (.slice none 0 0)
              have hF := hVf.cell
              refine bodyPost_ret (v := .agg #[.int .i64 3, .int .i64 0, .string ⟨((upTo M 256).map UInt8.ofNat).toArray⟩, .bool no, .slice none 0 0]) ?_ rfl ?_
              · have x0 := hF.1
                have x1 := hF.2.1
                have x2 := hF.2.2.1
                have x3 := hF.2.2.2.1
                have x4 := hF.2.2.2.2
                clear hF hVf hCf hgf hV hV0 hst3 hnx' hcv hMc
                unfold put5 at x0 x1 x2 x3 x4
                simp [results, Tryz.results124, go_sem, x0, x1, x2, x3, x4]
              · show Tells p s w R _ (put5 (wr.setCell ⟨w.heap.size + 1, 2, none⟩ (.string ⟨((upTo M 256).map UInt8.ofNat).toArray⟩)) w.heap.size (.int .i64 3) (.int .i64 0) (.string ⟨((upTo M 256).map UInt8.ofNat).toArray⟩) (.bool no) (.slice none 0 0))
                have hCz := hCf.kept (put5_block _ hp0 (.int .i64 3) (.int .i64 0) (.string ⟨((upTo M 256).map UInt8.ofNat).toArray⟩) (.bool no) (.slice none 0 0))
                have hgz := put5_grown hgf (Nat.le_refl _) (.int .i64 3) (.int .i64 0) (.string ⟨((upTo M 256).map UInt8.ofNat).toArray⟩) (.bool no) (.slice none 0 0)
                cases bad' with
                | true =>
                  rw [Z1.out rfl]
                  exact ⟨_, _, _, _, _, _, rfl, ⟨3, 0, _, no, none, 0, 0, rfl, rfl, rfl, rfl, rfl⟩, hCz, hgz⟩
                | false =>
                  rw [Z2.out rfl]
                  exact ⟨_, _, _, _, _, rfl, rex_leaf _ _ 3 0 (bytesOf M) no, hCz, hgz⟩

end Rx
end Go.Proofs.YtgdnlmaacnnfiaaGreatDoor

namespace Go.Proofs.YtgdnlmaacnnfiaaGreatDoor
open Go.RowKit
namespace Rx

theorem sAtomN {p : Nat} {s : ByteArray} (hs : s.size ≤ 1000) : ∀ n deep, n + deep = 41 → TellsF 119 p s deep (atomN (gOf s) s.size n) := by
  intro n
  have hg : ∀ i, s.size ≤ i → gOf s i = 256 := fun i h => gOf_out h
  induction n with
  | zero =>
    intro deep hd
    obtain rfl : deep = 41 := by omega
    exact sAtomDeep hs
  | succ n ih =>
    intro deep hd
    have h1 := ih (deep + 1) (by omega)
    have h2 := sPiece hs (atomN_in hg n) h1
    have h3 := sPart hs (fun i t j h => pieceAt_in hg (atomN_in hg n) h) h2
    have h4 := sPattern hs (fun i t j h => partAt_in hg (atomN_in hg n) h) h3
    exact sAtom hs (by omega) (fun i t j h hi => (patAt_in hg (atomN_in hg n) h).2 hi) (fun i w h hi => sSet h hi hs) h4

theorem sPatN {p : Nat} {s : ByteArray} (hs : s.size ≤ 1000) : TellsF 88 p s 0 (patN (gOf s) s.size 41) := by
  have hg : ∀ i, s.size ≤ i → gOf s i = 256 := fun i h => gOf_out h
  have h1 := sAtomN (p := p) hs 41 0 (by omega)
  have h2 := sPiece hs (atomN_in hg 41) h1
  have h3 := sPart hs (fun i t j h => pieceAt_in hg (atomN_in hg 41) h) h2
  exact sPattern hs (fun i t j h => partAt_in hg (atomN_in hg 41) h) h3

theorem parse_is {s : ByteArray} (hs : ¬ 60 < s.size) : parseV s = wholeV (gOf s) s.size 41 := by
  unfold parseV
  rw [if_neg hs]
  exact whole_agree (fun i h => gOf_out h) (by omega) (by omega) (by omega) (by omega)

theorem ret_pair {fn : Func} {K L : Nat} {R : Ending → World → Prop} {a : Act} {W : World} {B : Nat} {v0 v1 v2 v3 v4 x : Value} (hf : fn.results = #[.cell K 26, .tmp L]) (ht : a.tmps[K]? = some (.pointer (some ⟨B, 0, none⟩))) (hx : a.tmps[L]? = some x) (hd : a.defers = [])
    (hV : Var W B v0 v1 v2 v3 v4) (hR : R (.returned (.tuple #[.agg #[v0, v1, v2, v3, v4], x])) W) : bodyPost Tryz.prog fn R .ret a W := by
  obtain ⟨x0, x1, x2, x3, x4⟩ := hV.cell
  refine bodyPost_ret ?_ hd hR
  simp [results, hf, ht, hx, go_sem, x0, x1, x2, x3, x4]

theorem frozen_row {W : World} {b : Nat} {cs : Array Value} {T : TypeId} (h : W.heap[b]? = some (.cells cs T (0, 0))) (k : Nat) : W.frozen? ⟨b, k, none⟩ = false := by
  simp [World.frozen?, h]

theorem below_put5 {w W : World} (h : Below w.heap.size w W) (a b c d u : Value) : Below w.heap.size w (put5 W w.heap.size a b c d u) := by
  unfold put5
  exact ((((h.setCell (Nat.le_refl _) _).setCell (Nat.le_refl _) _).setCell (Nat.le_refl _) _).setCell (Nat.le_refl _) _).setCell (Nat.le_refl _) _

set_option maxRecDepth 100000 in
theorem sRexParse (s : ByteArray) (w : World) : Calls Tryz.prog 67 #[.string s] w fun e w' => RexOut (parseV s) w e w' := by
  obtain ⟨R, hR⟩ : ∃ R, R = parseV s := ⟨_, rfl⟩
  rw [← hR]
  have hV0 : Var (w.alloc (.cells #[.int .i64 0, .int .i64 0, .string ⟨#[]⟩, .bool false, .slice none 0 0] 26)) w.heap.size (.int .i64 0) (.int .i64 0) (.string ⟨#[]⟩) (.bool false) (.slice none 0 0) := heap_alloc_last _ _
  have hB0 : Below w.heap.size w (w.alloc (.cells #[.int .i64 0, .int .i64 0, .string ⟨#[]⟩, .bool false, .slice none 0 0] 26)) := (Below.refl _ w).alloc (Nat.le_refl _) _
  by_cases hlen : 60 < s.size
  · have HR : Hid (R = none) := by show R = none; rw [hR]; unfold parseV; rw [if_pos hlen]
    have e1 : decide ((60 : Int) < s.size) = true := decide_eq_true (by omega)
    have e2 : decide (60 < s.size) = true := decide_eq_true hlen
    clear hR hlen
    go_enter Tryz.func67, Tryz.ntmps67
    go_wp2_with fail
    refine ret_pair Tryz.results67 rfl rfl rfl hV0 ?_
    rw [HR.out]
    exact ⟨rfl, hB0⟩
  · rw [parse_is hlen] at hR
    have hs : s.size ≤ 1000 := by omega
    have e1 : decide ((60 : Int) < s.size) = false := decide_eq_false (by omega)
    have e2 : decide (60 < s.size) = false := decide_eq_false hlen
    obtain ⟨o1, ho1⟩ : ∃ o1, o1 = Obj.cells #[.int .i64 0, .int .i64 0, .string ⟨#[]⟩, .bool false, .slice none 0 0] 26 := ⟨_, rfl⟩
    obtain ⟨o2, ho2⟩ : ∃ o2, o2 = Obj.cells #[.string s, .int .i64 0, .bool false] 149 := ⟨_, rfl⟩
    have hrow : ((w.alloc o1).alloc o2).heap[w.heap.size + 1]? = some (.cells #[.string s, .int .i64 0, .bool false] 149 (0, 0)) := by
      rw [ho2, show w.heap.size + 1 = (w.alloc o1).heap.size by simp]; exact heap_alloc_last _ _
    have hC0 : Cs (w.heap.size + 1) s ((0 : Nat) : Int) false ((w.alloc o1).alloc o2) := by
      refine ⟨?_, ?_, ?_, ?_, ?_⟩
      · rw [cell_of_row _ _ 0 _ _ _ hrow]; rfl
      · rw [cell_of_row _ _ 1 _ _ _ hrow]; rfl
      · rw [cell_of_row _ _ 2 _ _ _ hrow]; rfl
      · exact frozen_row hrow _
      · exact frozen_row hrow _
    have hK : ∀ w1 : World, ((w.alloc o1).alloc o2).grownBy w1 (some (w.heap.size + 1)) → Var w1 w.heap.size (.int .i64 0) (.int .i64 0) (.string ⟨#[]⟩) (.bool false) (.slice none 0 0) ∧ Below w.heap.size w w1 ∧ w.heap.size < w1.heap.size ∧ w.heap.size + 1 < w1.heap.size := by
      intro w1 hg
      have hz := hg.size
      simp at hz
      refine ⟨?_, (((Below.refl _ w).alloc (Nat.le_refl _) _).alloc (by simp) _).grown hg (by simp; omega) (by simp), by omega, by omega⟩
      unfold Var
      rw [hg.block _ (by simp; omega) (by simp), Below.heap_alloc _ _ _ (by simp), ho1]
      exact heap_alloc_last _ _
    have hP := sPatN (p := w.heap.size + 1) hs
    subst ho1 ho2
    rcases hq : patN (gOf s) s.size 41 0 with _ | ⟨t, j⟩
    · have HR : Hid (R = none) := by show R = none; rw [hR]; unfold wholeV; rw [hq]
      clear hR
      go_enter Tryz.func67, Tryz.ntmps67
      go_wp2_with (go_at_call 88; refine (hP 0 _ hC0 (Nat.zero_le _)).mono ?_; intro e w1 h1; obtain ⟨a, b, c, d, u, j', rfl, h5, hC, hgr⟩ := tells_none h1 hq; obtain ⟨y1, y2, y3, y4, y5, y6, y7, rfl, rfl, rfl, rfl, rfl⟩ := h5; obtain ⟨hV1, hB1, hl1, hl2⟩ := hK w1 hgr; have k0 := hC.text; have k1 := hC.pos; have k2 := hC.bad; have u0 := hV1.frozen; have v0 := hV1.cell)
      refine ret_pair Tryz.results67 rfl rfl rfl ((put5_var hV1 _ _ _ _ _).kept (Below.heap_alloc _ _ _ ?_)) ?_
      · simpa using hl1
      · rw [HR.out]
        exact ⟨rfl, (below_put5 hB1 _ _ _ _ _).alloc (by rw [put5_size]; omega) _⟩
    · have hcnt := patN_cnt (fun i h => gOf_out h) hq
      have hjs := (patN_in (fun i h => gOf_out h) hq).2 (Nat.zero_le _)
      have hdc := dep_cnt t
      have hx2 : ∀ (w1 : World) {y1 y2 : Nat} {y3 : List UInt8} {y4 : Bool} {y5 : Option Addr} {y6 y7 : Nat}, RexIs w1 t (Iv ((w.alloc (.cells #[.int .i64 0, .int .i64 0, .string ⟨#[]⟩, .bool false, .slice none 0 0] 26)).alloc (.cells #[.string s, .int .i64 0, .bool false] 149)).heap.size w1.heap.size) [.int .i64 y1, .int .i64 y2, .string ⟨y3.toArray⟩, .bool y4, .slice y5 y6 y7] → RexIs (w1.alloc (.cells #[.int .i64 y1, .int .i64 y2, .string ⟨y3.toArray⟩, .bool y4, .slice y5 y6 y7] 26)) t (Iv (w.heap.size + 2) w1.heap.size) [.int .i64 y1, .int .i64 y2, .string ⟨y3.toArray⟩, .bool y4, .slice y5 y6 y7] := by
        intro w1 y1 y2 y3 y4 y5 y6 y7 hx
        refine rex_mono (rex_frame t _ _ (fun k hk => Below.heap_alloc _ _ _ hk.2) hx) fun k hk => ?_
        have h1 := hk.1
        simp at h1
        exact ⟨h1, hk.2⟩
      by_cases hj : j = s.size
      · subst hj
        by_cases hd : dep t ≤ 12
        · have HR : Hid (R = some t) := by show R = _; rw [hR]; unfold wholeV; rw [hq]; simp [hd]
          have d1 : decide ((12 : Int) < dep t) = false := decide_eq_false (by omega)
          have d2 : decide (12 < dep t) = false := decide_eq_false (by omega)
          clear hR hd
          go_enter Tryz.func67, Tryz.ntmps67
          go_wp2_with (first | (go_at_call 88; refine (hP 0 _ hC0 (Nat.zero_le _)).mono ?_; intro e w1 h1; obtain ⟨a, b, c, d, u, rfl, hx, hC, hgr⟩ := tells_some h1 hq; obtain ⟨y1, y2, y3, y4, y5, y6, y7, rfl, rfl, rfl, rfl, rfl⟩ := rex_cells hx; obtain ⟨hV1, hB1, hl1, hl2⟩ := hK w1 hgr; have k0 := hC.text; have k1 := hC.pos; have k2 := hC.bad; have u0 := hV1.frozen; have v0 := hV1.cell) | (go_at_call 56; refine (sDeep (dep t) t (Nat.le_refl _) (by omega) _ (Iv (w.heap.size + 2) w1.heap.size) _ _ _ _ _ (hx2 w1 hx) (fun k hk => by have := hk.2; simp; omega)).mono ?_; rintro e w2 ⟨rfl, hb2⟩; have hV2 := hV1.kept ((hb2.block _ (by simp; omega)).trans (Below.heap_alloc _ _ _ hl1)); have u2 := hV2.frozen; have v2 := hV2.cell; have hr2 := (heap_alloc_last w1 (.cells #[.int .i64 y1, .int .i64 y2, .string ⟨y3.toArray⟩, .bool y4, .slice y5 y6 y7] 26)); have hV3 : Var w2 w1.heap.size (.int .i64 y1) (.int .i64 y2) (.string ⟨y3.toArray⟩) (.bool y4) (.slice y5 y6 y7) := (hb2.block _ (by simp)).trans hr2; have r0 := hV3.cell.1; have r1 := hV3.cell.2.1; have r2 := hV3.cell.2.2.1; have r3 := hV3.cell.2.2.2.1; have r4 := hV3.cell.2.2.2.2; have hB2 : Below w.heap.size w w2 := (hB1.alloc (by omega) _).trans (hb2.mono (by simp; omega))))
          refine ret_pair Tryz.results67 rfl rfl rfl (put5_var hV2 _ _ _ _ _) ?_
          rw [HR.out]
          refine ⟨_, _, _, _, _, rfl, below_put5 hB2 _ _ _ _ _, ?_⟩
          refine rex_mono (rex_frame t _ _ (fun k hk => ?_) (hx2 w1 hx)) fun k hk => ?_
          · have h1 := hk.1
            have h2 := hk.2
            exact (put5_block _ (by omega) _ _ _ _ _).trans (hb2.block k (by simp; omega))
          · have h1 := hk.1
            have h2 := hk.2
            have h3 := hb2.size
            simp at h3
            exact ⟨by omega, by simp; omega⟩
        · have HR : Hid (R = none) := by show R = _; rw [hR]; unfold wholeV; rw [hq]; simp [hd]
          have d1 : decide ((12 : Int) < dep t) = true := decide_eq_true (by omega)
          have d2 : decide (12 < dep t) = true := decide_eq_true (by omega)
          clear hR hd
          go_enter Tryz.func67, Tryz.ntmps67
          go_wp2_with (first | (go_at_call 88; refine (hP 0 _ hC0 (Nat.zero_le _)).mono ?_; intro e w1 h1; obtain ⟨a, b, c, d, u, rfl, hx, hC, hgr⟩ := tells_some h1 hq; obtain ⟨y1, y2, y3, y4, y5, y6, y7, rfl, rfl, rfl, rfl, rfl⟩ := rex_cells hx; obtain ⟨hV1, hB1, hl1, hl2⟩ := hK w1 hgr; have k0 := hC.text; have k1 := hC.pos; have k2 := hC.bad; have u0 := hV1.frozen; have v0 := hV1.cell) | (go_at_call 56; refine (sDeep (dep t) t (Nat.le_refl _) (by omega) _ (Iv (w.heap.size + 2) w1.heap.size) _ _ _ _ _ (hx2 w1 hx) (fun k hk => by have := hk.2; simp; omega)).mono ?_; rintro e w2 ⟨rfl, hb2⟩; have hV2 := hV1.kept ((hb2.block _ (by simp; omega)).trans (Below.heap_alloc _ _ _ hl1)); have u2 := hV2.frozen; have v2 := hV2.cell; have hr2 := (heap_alloc_last w1 (.cells #[.int .i64 y1, .int .i64 y2, .string ⟨y3.toArray⟩, .bool y4, .slice y5 y6 y7] 26)); have hV3 : Var w2 w1.heap.size (.int .i64 y1) (.int .i64 y2) (.string ⟨y3.toArray⟩) (.bool y4) (.slice y5 y6 y7) := (hb2.block _ (by simp)).trans hr2; have r0 := hV3.cell.1; have r1 := hV3.cell.2.1; have r2 := hV3.cell.2.2.1; have r3 := hV3.cell.2.2.2.1; have r4 := hV3.cell.2.2.2.2; have hB2 : Below w.heap.size w w2 := (hB1.alloc (by omega) _).trans (hb2.mono (by simp; omega))))
          refine ret_pair Tryz.results67 rfl rfl rfl (put5_var hV2 _ _ _ _ _) ?_
          rw [HR.out]
          exact ⟨rfl, below_put5 hB2 _ _ _ _ _⟩
      · have HR : Hid (R = none) := by show R = _; rw [hR]; unfold wholeV; rw [hq]; simp [hj]
        have j1 : ((j : Int) != (s.size : Int)) = true := by simp; omega
        have j2 : ((j : Int) == (s.size : Int)) = false := by simp; omega
        clear hR
        go_enter Tryz.func67, Tryz.ntmps67
        go_wp2_with (go_at_call 88; refine (hP 0 _ hC0 (Nat.zero_le _)).mono ?_; intro e w1 h1; obtain ⟨a, b, c, d, u, rfl, hx, hC, hgr⟩ := tells_some h1 hq; obtain ⟨y1, y2, y3, y4, y5, y6, y7, rfl, rfl, rfl, rfl, rfl⟩ := rex_cells hx; obtain ⟨hV1, hB1, hl1, hl2⟩ := hK w1 hgr; have k0 := hC.text; have k1 := hC.pos; have k2 := hC.bad; have u0 := hV1.frozen; have v0 := hV1.cell)
        refine ret_pair Tryz.results67 rfl rfl rfl ((put5_var hV1 _ _ _ _ _).kept (Below.heap_alloc _ _ _ ?_)) ?_
        · simpa using hl1
        · rw [HR.out]
          exact ⟨rfl, (below_put5 hB1 _ _ _ _ _).alloc (by rw [put5_size]; omega) _⟩

end Rx
end Go.Proofs.YtgdnlmaacnnfiaaGreatDoor

