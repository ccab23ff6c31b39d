/-
  The specification's parser: an atom.
  The specification's parser: a piece.
-/
import Derived.Test.YtkhoccjfkkfipaaGreatDoorP37
namespace Go.Proofs.YtkhoccjfkkfipaaGreatDoor
open Go.RowKit
namespace Rx

set_option maxHeartbeats 2000000 in
theorem sAtomDeep {p : Nat} {s : ByteArray} (_hs : s.size ≤ 1000) : TellsF 172 p s 41 (fun _ => none) := by
  intro i w h hi
  have hA := At.start h
  have hp := h.lt
  have c0 := hA.cs.text
  have c1 := hA.cs.pos
  have c2 := hA.cs.bad
  have f2 := hA.cs.fr2
  rcases Nat.lt_or_ge i s.size with hq | hq
  · have e3 : decide ((s.size : Int) ≤ i) = false := decide_eq_false (by omega)
    have e4 : decide (s.size ≤ i) = false := decide_eq_false (by omega)
    go_enter Tryz.func172, Tryz.ntmps172
    go_wp2_with fail
    go_quiet (fail)
    go_wp2_with fail
    refine At.retBad ?_ Tryz.results172 Five.zero rfl ?_ ?_
    · exact ⟨_, (hA.drewN _).spoil true⟩
    · rfl
    · rfl
  · have e3 : decide ((s.size : Int) ≤ i) = true := decide_eq_true (by omega)
    have e4 : decide (s.size ≤ i) = true := decide_eq_true (by omega)
    go_enter Tryz.func172, Tryz.ntmps172
    go_wp2_with fail
    go_quiet (fail)
    go_wp2_with fail
    refine At.retBad ?_ Tryz.results172 Five.zero rfl ?_ ?_
    · exact ⟨_, (hA.drewN _).spoil true⟩
    · rfl
    · rfl

/-- What l3Set tells. -/
def SetsF (p : Nat) (s : ByteArray) : Prop :=
  ∀ (i : Nat) (w : World), Cs p s i false w → i ≤ s.size → Calls Tryz.prog 180 #[.pointer (some ⟨p, 0, none⟩)] w fun e w' => Tells p s w (setAt (gOf s) s.size i) e w'

theorem tells_none {p : Nat} {s : ByteArray} {w w' : World} {r : Option (Data × Nat)} {e : Ending} (h : Tells p s w r e w') (hr : r = none) : ∃ (a b c d u : Value) (i : Int), e = .returned (.agg #[a, b, c, d, u]) ∧ Five a b c d u ∧ Cs p s i true w' ∧ w.grownBy w' (some p) := by
  rw [hr] at h
  exact h
theorem tells_some {p : Nat} {s : ByteArray} {w w' : World} {r : Option (Data × Nat)} {e : Ending} {t : Data} {j : Nat} (h : Tells p s w r e w') (hr : r = some (t, j)) : ∃ a b c d u, e = .returned (.agg #[a, b, c, d, u]) ∧ RexIs w' t (Iv w.heap.size w'.heap.size) [a, b, c, d, u] ∧ Cs p s j false w' ∧ w.grownBy w' (some p) := by
  rw [hr] at h
  exact h

theorem rex_keep {w1 W : World} {p lo : Nat} {t : Data} {cs : List Value} (h : RexIs w1 t (Iv lo w1.heap.size) cs) (hg : w1.grownBy W (some p)) (hp : p < lo) : RexIs W t (Iv lo W.heap.size) cs :=
  rex_mono (rex_frame t _ _ (fun b hb => hg.block b hb.2 (by have := hb.1; simp; omega)) h) fun _ hb => ⟨hb.1, Nat.lt_of_lt_of_le hb.2 hg.size⟩

theorem wrap_byte (b : UInt8) : wrap64 (b.toNat : Int) = (b.toNat : Int) := by
  have := b.toNat_lt
  unfold wrap64; omega

set_option maxHeartbeats 2000000 in
set_option maxRecDepth 100000 in
theorem sAtom {p : Nat} {s : ByteArray} {deep : Nat} {F : Nat → Option (Data × Nat)} (hs : s.size ≤ 1000) (hd : deep ≤ 40) (hin : ∀ i t j, F i = some (t, j) → i ≤ s.size → j ≤ s.size) (hS : SetsF p s)
    (hF : TellsF 121 p s (deep + 1) F) : TellsF 172 p s deep (atomAt (gOf s) s.size F) := by
  intro i w h hi
  have hA := At.start h
  have hp := h.lt
  have c0 := hA.cs.text
  have c1 := hA.cs.pos
  have c2 := hA.cs.bad
  have f1 := hA.cs.fr1
  have f2 := hA.cs.fr2
  have hdd : (deep : Int) ≤ 40 := by omega
  have d1 : decide ((40 : Int) < deep) = false := decide_eq_false (by omega)
  have d2 : decide (40 < deep) = false := decide_eq_false (by omega)
  obtain ⟨dp, hdp⟩ : ∃ dp, dp = deep + 1 := ⟨_, rfl⟩
  have d3 : (deep : Int) + 1 = (dp : Int) := by omega
  rw [← hdp] at hF
  clear hdp
  obtain ⟨R, hR⟩ : ∃ R, R = atomAt (gOf s) s.size F i := ⟨_, rfl⟩
  rw [← hR]
  unfold atomAt at hR
  clear hd
  rcases Nat.lt_or_ge i s.size with hq | hq
  · have e3 : decide ((s.size : Int) ≤ i) = false := decide_eq_false (by omega)
    have e4 : decide (s.size ≤ i) = false := decide_eq_false (by omega)
    have hg := gOf_in hq
    have hbl := s[i].toNat_lt
    have hbi : (i : Int) ≤ 1000 := by omega
    obtain ⟨i1, hi1⟩ : ∃ i1, i1 = i + 1 := ⟨_, rfl⟩
    have t1 : (i : Int) + 1 = (i1 : Int) := by omega
    have i1s : i1 ≤ s.size := by omega
    have i1b : (i1 : Int) ≤ 1000 := by omega
    rw [if_neg (by omega), ← hi1] at hR
    clear hi h hi1
    by_cases q40 : gOf s i = 40
    · rw [if_pos q40] at hR
      have eb : (s[i].toNat : Int) = 40 := by omega
      have HR : Hid (R = shut (gOf s) (F i1)) := hR
      clear hR hg q40 hbl
      rcases hf : F i1 with _ | ⟨t, j⟩
      · have HR2 : Hid (R = none) := by show R = none; rw [HR.out, hf]; rfl
        go_enter Tryz.func172, Tryz.ntmps172
        go_wp2_with fail
        go_quiet (fail)
        go_wp2_with fail
        go_quiet (fail)
        go_wp2_with (first | (go_at_call 121; refine (hF i1 _ ((hA.drewN _).pos _).cs i1s).mono ?_; intro e w1 h1; obtain ⟨a, b, c, d, u, j', rfl, h5, hC, hgr⟩ := tells_none h1 hf; have hA1 := ((hA.drewN _).pos _).grown hgr hC; obtain ⟨y1, y2, y3, y4, y5, y6, y7, rfl, rfl, rfl, rfl, rfl⟩ := h5; have k1 := hC.pos; have k2 := hC.bad; have g1 := hC.fr1; have g2 := hC.fr2; have l1 := hC.lt; have l2 := hA1.size; have v0 := hA1.res.cell; have u0 := hA1.res.frozen) | (go_at_call 138; refine (sNowBad (hA1.alloc _).cs _).mono ?_; rintro e w2 ⟨rfl, n2, rfl⟩))
        refine At.retBad ?_ Tryz.results172 ⟨y1, y2, y3, y4, y5, y6, y7, rfl, rfl, rfl, rfl, rfl⟩ HR2.out ?_ ?_
        · exact ⟨_, (((hA1.alloc _).drewN _).spoil true).pos _⟩
        · rfl
        · rfl
      · have hj := hin i1 t j hf i1s
        by_cases h41 : gOf s j = 41
        · have HR2 : Hid (R = some (t, j + 1)) := by show R = _; rw [HR.out, hf]; simp [shut, h41]
          have e41 : decide (gOf s j = 41) = true := decide_eq_true h41
          obtain ⟨j1, hj1⟩ : ∃ j1, j1 = j + 1 := ⟨_, rfl⟩
          rw [← hj1] at HR2
          have t2 : (j : Int) + 1 = (j1 : Int) := by omega
          have bj : (j : Int) ≤ 1000 := by omega
          clear hj1 h41 HR
          go_enter Tryz.func172, Tryz.ntmps172
          go_wp2_with fail
          go_quiet (fail)
          go_wp2_with fail
          go_quiet (fail)
          go_wp2_with (first | (go_at_call 121; refine (hF i1 _ ((hA.drewN _).pos _).cs i1s).mono ?_; intro e w1 h1; obtain ⟨a, b, c, d, u, rfl, hx, hC, hgr⟩ := tells_some h1 hf; have hA1 := ((hA.drewN _).pos _).grown hgr hC; obtain ⟨y1, y2, y3, y4, y5, y6, y7, rfl, rfl, rfl, rfl, rfl⟩ := rex_cells hx; have k1 := hC.pos; have k2 := hC.bad; have g1 := hC.fr1; have g2 := hC.fr2; have l1 := hC.lt; have l2 := hA1.size; have v0 := hA1.res.cell; have u0 := hA1.res.frozen) | (go_at_call 138; refine (sNow (hA1.alloc _).cs hj 41 41 (by omega) rfl).mono ?_; rintro e w2 ⟨rfl, n2, rfl⟩))
          refine At.retRex (j := j1) ?_ Tryz.results172 (rex_keep (p := p) hx ?_ ?_) ?_ HR2.out ?_ ?_
          · exact ((hA1.alloc _).drewN _).pos _
          · exact (grown_drewN (World.grownBy_alloc _ _ _) _).trans (grown_set _ ⟨p, 1, none⟩ _)
          · simp; omega
          · simp
          · rfl
          · rfl
        · have HR2 : Hid (R = none) := by show R = _; rw [HR.out, hf]; simp [shut, h41]
          have e41 : decide (gOf s j = 41) = false := decide_eq_false h41
          have bj : (j : Int) ≤ 1000 := by omega
          clear h41 HR
          go_enter Tryz.func172, Tryz.ntmps172
          go_wp2_with fail
          go_quiet (fail)
          go_wp2_with fail
          go_quiet (fail)
          go_wp2_with (first | (go_at_call 121; refine (hF i1 _ ((hA.drewN _).pos _).cs i1s).mono ?_; intro e w1 h1; obtain ⟨a, b, c, d, u, rfl, hx, hC, hgr⟩ := tells_some h1 hf; have hA1 := ((hA.drewN _).pos _).grown hgr hC; obtain ⟨y1, y2, y3, y4, y5, y6, y7, rfl, rfl, rfl, rfl, rfl⟩ := rex_cells hx; have k1 := hC.pos; have k2 := hC.bad; have g1 := hC.fr1; have g2 := hC.fr2; have l1 := hC.lt; have l2 := hA1.size; have v0 := hA1.res.cell; have u0 := hA1.res.frozen) | (go_at_call 138; refine (sNow (hA1.alloc _).cs hj 41 41 (by omega) rfl).mono ?_; rintro e w2 ⟨rfl, n2, rfl⟩))
          refine At.retBad ?_ Tryz.results172 ⟨y1, y2, _, y4, y5, y6, y7, rfl, rfl, rfl, rfl, rfl⟩ HR2.out ?_ ?_
          · exact ⟨_, (((hA1.alloc _).drewN _).spoil true).pos _⟩
          · rfl
          · rfl
    rw [if_neg q40] at hR
    by_cases q46 : gOf s i = 46
    · rw [if_pos q46] at hR
      have eb : (s[i].toNat : Int) = 46 := by omega
      have HR : Hid (R = some (leaf 2, i1)) := hR
      clear hR hg q46 hbl hin hF hS
      go_enter Tryz.func172, Tryz.ntmps172
      go_wp2_with fail
      go_quiet (fail)
      go_wp2_with fail
      go_quiet (fail)
      go_wp2_with fail
      refine At.retLeaf (op := 2) (c := 0) (set := []) (no := false) (j := i1) ?_ Tryz.results172 HR.out ?_ ?_ ?_ ?_ ?_ ?_ ?_
      · exact (hA.drewN _).pos _
      all_goals rfl
    rw [if_neg q46] at hR
    by_cases q94 : gOf s i = 94
    · rw [if_pos q94] at hR
      have eb : (s[i].toNat : Int) = 94 := by omega
      have HR : Hid (R = some (leaf 4, i1)) := hR
      clear hR hg q94 hbl hin hF hS
      go_enter Tryz.func172, Tryz.ntmps172
      go_wp2_with fail
      go_quiet (fail)
      go_wp2_with fail
      go_quiet (fail)
      go_wp2_with fail
      refine At.retLeaf (op := 4) (c := 0) (set := []) (no := false) (j := i1) ?_ Tryz.results172 HR.out ?_ ?_ ?_ ?_ ?_ ?_ ?_
      · exact (hA.drewN _).pos _
      all_goals rfl
    rw [if_neg q94] at hR
    by_cases q36 : gOf s i = 36
    · rw [if_pos q36] at hR
      have eb : (s[i].toNat : Int) = 36 := by omega
      have HR : Hid (R = some (leaf 5, i1)) := hR
      clear hR hg q36 hbl hin hF hS
      go_enter Tryz.func172, Tryz.ntmps172
      go_wp2_with fail
      go_quiet (fail)
      go_wp2_with fail
      go_quiet (fail)
      go_wp2_with fail
      refine At.retLeaf (op := 5) (c := 0) (set := []) (no := false) (j := i1) ?_ Tryz.results172 HR.out ?_ ?_ ?_ ?_ ?_ ?_ ?_
      · exact (hA.drewN _).pos _
      all_goals rfl
    rw [if_neg q36] at hR
    by_cases q91 : gOf s i = 91
    · rw [if_pos q91] at hR
      have eb : (s[i].toNat : Int) = 91 := by omega
      have HR : Hid (R = setAt (gOf s) s.size i1) := hR
      clear hR hg q91 hbl hin hF
      rcases hf : setAt (gOf s) s.size i1 with _ | ⟨t, j⟩
      · have HR2 : Hid (R = none) := HR.out.trans hf
        go_enter Tryz.func172, Tryz.ntmps172
        go_wp2_with fail
        go_quiet (fail)
        go_wp2_with fail
        go_quiet (fail)
        go_wp2_with (go_at_call 180; refine (hS i1 _ ((hA.drewN _).pos _).cs i1s).mono ?_; intro e w1 h1; obtain ⟨a, b, c, d, u, j', rfl, h5, hC, hgr⟩ := tells_none h1 hf; have hA1 := ((hA.drewN _).pos _).grown hgr hC; obtain ⟨y1, y2, y3, y4, y5, y6, y7, rfl, rfl, rfl, rfl, rfl⟩ := h5; have v0 := hA1.res.cell; have u0 := hA1.res.frozen)
        refine At.retBad ?_ Tryz.results172 ⟨y1, y2, y3, y4, y5, y6, y7, rfl, rfl, rfl, rfl, rfl⟩ HR2.out ?_ ?_
        · exact ⟨_, hA1⟩
        · rfl
        · rfl
      · have HR2 : Hid (R = some (t, j)) := HR.out.trans hf
        go_enter Tryz.func172, Tryz.ntmps172
        go_wp2_with fail
        go_quiet (fail)
        go_wp2_with fail
        go_quiet (fail)
        go_wp2_with (go_at_call 180; refine (hS i1 _ ((hA.drewN _).pos _).cs i1s).mono ?_; intro e w1 h1; obtain ⟨a, b, c, d, u, rfl, hx, hC, hgr⟩ := tells_some h1 hf; have hA1 := ((hA.drewN _).pos _).grown hgr hC; obtain ⟨y1, y2, y3, y4, y5, y6, y7, rfl, rfl, rfl, rfl, rfl⟩ := rex_cells hx; have v0 := hA1.res.cell; have u0 := hA1.res.frozen)
        refine At.retRex (j := j) ?_ Tryz.results172 hx ?_ HR2.out ?_ ?_
        · exact hA1
        · simp
        · rfl
        · rfl
    rw [if_neg q91] at hR
    clear hS hin hF
    by_cases q92 : gOf s i = 92
    · rw [if_pos q92] at hR
      have eb : (s[i].toNat : Int) = 92 := by omega
      rcases Nat.lt_or_ge i1 s.size with hq1 | hq1
      · have hg1 := gOf_in hq1
        have hb1 := s[i1].toNat_lt
        obtain ⟨i2, hi2⟩ : ∃ i2, i2 = i1 + 1 := ⟨_, rfl⟩
        have HR : Hid (R = some (chr (gOf s i1), i2)) := by show R = _; rw [hR, if_neg (by omega), show i + 2 = i2 by omega]
        have t2 : (i1 : Int) + 1 = (i2 : Int) := by omega
        have e5 : decide ((s.size : Int) ≤ i1) = false := decide_eq_false (by omega)
        have e6 : decide (s.size ≤ i1) = false := decide_eq_false (by omega)
        have HG : Hid (gOf s i1 = s[i1].toNat) := hg1
        clear hR hg q92 hbl hg1 hb1 hi2
        go_enter Tryz.func172, Tryz.ntmps172
        go_wp2_with fail
        go_quiet (fail)
        go_wp2_with fail
        go_quiet (fail)
        go_wp2_with fail
        go_quiet (fail)
        go_wp2_with fail
        go_quiet (fail)
        go_wp2_with fail
        refine At.retLeaf (op := 1) (c := gOf s i1) (set := []) (no := false) (j := i2) ?_ Tryz.results172 HR.out ?_ ?_ ?_ ?_ ?_ ?_ ?_
        · exact (((hA.drewN _).pos _).drewN _).pos _
        · rfl
        · rw [HG.out, wrap_byte]
        all_goals rfl
      · have HR : Hid (R = none) := by show R = _; rw [hR, if_pos (gOf_out (by omega))]
        have e5 : decide ((s.size : Int) ≤ i1) = true := decide_eq_true (by omega)
        have e6 : decide (s.size ≤ i1) = true := decide_eq_true (by omega)
        clear hR hg q92 hbl
        go_enter Tryz.func172, Tryz.ntmps172
        go_wp2_with fail
        go_quiet (fail)
        go_wp2_with fail
        go_quiet (fail)
        go_wp2_with fail
        go_quiet (fail)
        go_wp2_with fail
        refine At.retBad ?_ Tryz.results172 Five.zero HR.out ?_ ?_
        · exact ⟨_, (((hA.drewN _).pos _).drewN _).spoil true⟩
        · rfl
        · rfl
    rw [if_neg q92] at hR
    by_cases q42 : gOf s i = 42
    · rw [if_pos (by omega)] at hR
      have eb : (s[i].toNat : Int) = 42 := by omega
      have HR : Hid (R = none) := hR
      clear hR hg q42 hbl
      go_enter Tryz.func172, Tryz.ntmps172
      go_wp2_with fail
      go_quiet (fail)
      go_wp2_with fail
      go_quiet (fail)
      go_wp2_with fail
      refine At.retBad ?_ Tryz.results172 ⟨1, _, _, false, none, 0, 0, rfl, rfl, rfl, rfl, rfl⟩ HR.out ?_ ?_
      · exact ⟨_, ((hA.drewN _).pos _).spoil true⟩
      · rfl
      · rfl
    by_cases q43 : gOf s i = 43
    · rw [if_pos (by omega)] at hR
      have eb : (s[i].toNat : Int) = 43 := by omega
      have HR : Hid (R = none) := hR
      clear hR hg q43 hbl
      go_enter Tryz.func172, Tryz.ntmps172
      go_wp2_with fail
      go_quiet (fail)
      go_wp2_with fail
      go_quiet (fail)
      go_wp2_with fail
      refine At.retBad ?_ Tryz.results172 ⟨1, _, _, false, none, 0, 0, rfl, rfl, rfl, rfl, rfl⟩ HR.out ?_ ?_
      · exact ⟨_, ((hA.drewN _).pos _).spoil true⟩
      · rfl
      · rfl
    by_cases q63 : gOf s i = 63
    · rw [if_pos (by omega)] at hR
      have eb : (s[i].toNat : Int) = 63 := by omega
      have HR : Hid (R = none) := hR
      clear hR hg q63 hbl
      go_enter Tryz.func172, Tryz.ntmps172
      go_wp2_with fail
      go_quiet (fail)
      go_wp2_with fail
      go_quiet (fail)
      go_wp2_with fail
      refine At.retBad ?_ Tryz.results172 ⟨1, _, _, false, none, 0, 0, rfl, rfl, rfl, rfl, rfl⟩ HR.out ?_ ?_
      · exact ⟨_, ((hA.drewN _).pos _).spoil true⟩
      · rfl
      · rfl
    rw [if_neg (by omega)] at hR
    have HR : Hid (R = some (chr (gOf s i), i1)) := hR
    have n40 : ((s[i].toNat : Int) == 40) = false := by simp; omega
    have n46 : ((s[i].toNat : Int) == 46) = false := by simp; omega
    have n94 : ((s[i].toNat : Int) == 94) = false := by simp; omega
    have n36 : ((s[i].toNat : Int) == 36) = false := by simp; omega
    have n91 : ((s[i].toNat : Int) == 91) = false := by simp; omega
    have n92 : ((s[i].toNat : Int) == 92) = false := by simp; omega
    have n42 : ((s[i].toNat : Int) == 42) = false := by simp; omega
    have n43 : ((s[i].toNat : Int) == 43) = false := by simp; omega
    have n63 : ((s[i].toNat : Int) == 63) = false := by simp; omega
    have HG : Hid (gOf s i = s[i].toNat) := hg
    clear hR hg hbl q40 q46 q94 q36 q91 q92 q42 q43 q63
    go_enter Tryz.func172, Tryz.ntmps172
    go_wp2_with fail
    go_quiet (fail)
    go_wp2_with fail
    go_quiet (fail)
    go_wp2_with fail
    refine At.retLeaf (op := 1) (c := gOf s i) (set := []) (no := false) (j := i1) ?_ Tryz.results172 HR.out ?_ ?_ ?_ ?_ ?_ ?_ ?_
    · exact (hA.drewN _).pos _
    · rfl
    · rw [HG.out, wrap_byte]
    all_goals rfl
  · rw [if_pos (gOf_out hq)] at hR
    have HR : Hid (R = none) := hR
    have e3 : decide ((s.size : Int) ≤ i) = true := decide_eq_true (by omega)
    have e4 : decide (s.size ≤ i) = true := decide_eq_true (by omega)
    clear hR hin hF hS
    go_enter Tryz.func172, Tryz.ntmps172
    go_wp2_with fail
    go_quiet (fail)
    go_wp2_with fail
    refine At.retBad ?_ Tryz.results172 Five.zero HR.out ?_ ?_
    · exact ⟨_, (hA.drewN _).spoil true⟩
    · rfl
    · rfl

end Rx
end Go.Proofs.YtkhoccjfkkfipaaGreatDoor
namespace Go.Proofs.YtkhoccjfkkfipaaGreatDoor
open Go.RowKit
namespace Rx

theorem rexs_one {w : World} {t : Data} {S S' : Nat → Prop} {cs : List Value} (h : RexIs w t S cs) (hS : ∀ k, S k → S' k) : RexsIs w [t] S' cs :=
  rexs_snoc (ts := []) (S1 := fun _ => False) (S2 := S) (xs := []) (by simp only [RexsIs]) h (fun _ h => h.elim) hS

theorem rex_one {w : World} {t : Data} {S S' : Nat → Prop} {cs : List Value} {g op : Nat} (h : RexIs w t S cs) (ho : w.ownsRow 0 149 5 (.slice (some ⟨g, 0, none⟩) 1 1) 1 cs) (hg : S' g) (hS : ∀ k, S k → S' k ∧ k ≠ g) :
    RexIs w (one op t) S' [.int .i64 op, .int .i64 0, .string ⟨#[]⟩, .bool false, .slice (some ⟨g, 0, none⟩) 1 1] := by
  unfold one
  rw [rex_nd]
  refine ⟨_, cs, rfl, ho, fun k hk => ?_, rexs_one h fun k hk => ⟨(hS k hk).1, fun e => ?_⟩⟩
  · simp [Value.ownBlock] at hk
    subst hk
    exact hg
  · simp [Value.ownBlock] at e
    exact (hS k hk).2 e.symm

/-- The piece that is being made: in the variable at block q. -/
structure Pc (p q : Nat) (s : ByteArray) (w : World) (k : Int) (t : Data) (a b c d u : Value) (W : World) : Prop where
  at' : At p s w k false W
  var : Var W q a b c d u
  rex : RexIs W t (fun x => Iv (w.heap.size + 1) W.heap.size x ∧ x ≠ q) [a, b, c, d, u]
  lo : w.heap.size < q

theorem Pc.drewN {p q : Nat} {s : ByteArray} {w W : World} {k : Int} {t : Data} {a b c d u : Value} (h : Pc p q s w k t a b c d u W) (n : Nat) : Pc p q s w k t a b c d u (W.drewN n) :=
  ⟨h.at'.drewN n, h.var, rex_frame (w := W) (w' := W.drewN n) t (fun x => Iv (w.heap.size + 1) W.heap.size x ∧ x ≠ q) _ (fun _ _ => rfl) h.rex, h.lo⟩

theorem meas {N k k' p : Nat} {w W : World} (h : posC p w = k) (h' : posC p W = k') (h1 : k < N) (h2 : k < k') : N - posC p W < N - posC p w := by
  rw [h, h']; omega

theorem Pc.next {p q : Nat} {s : ByteArray} {w W : World} {k : Int} {t : Data} {a b c d u : Value} (h : Pc p q s w k t a b c d u W) (j : Int) (op : Nat) :
    Pc p q s w j (one op t) (.int .i64 op) (.int .i64 0) (.string ⟨#[]⟩) (.bool false) (.slice (some ⟨W.heap.size + 1, 0, none⟩) 1 1)
      (((put5 (W.setCell ⟨p, 1, none⟩ (.int .i64 j)) q (.int .i64 op) (.int .i64 0) (.string ⟨#[]⟩) (.bool false) (.slice (some ⟨W.heap.size + 1, 0, none⟩) 1 1)).alloc (.cells #[a, b, c, d, u] 149)).alloc (.cells #[a, b, c, d, u] 149)) := by
  have hlo := h.lo
  have hlt := h.var.lt
  have hp := h.at'.lt
  obtain ⟨V, hV⟩ : ∃ V, V = put5 (W.setCell ⟨p, 1, none⟩ (.int .i64 j)) q (.int .i64 op) (.int .i64 0) (.string ⟨#[]⟩) (.bool false) (.slice (some ⟨W.heap.size + 1, 0, none⟩) 1 1) := ⟨_, rfl⟩
  have hVz : V.heap.size = W.heap.size := by rw [hV, put5_size]; simp
  have hVb : ∀ x, x ≠ q → x ≠ p → V.heap[x]? = W.heap[x]? := fun x h1 h2 => by rw [hV, put5_block _ h1, Below.heap_setCell _ _ _ _ h2]
  have hVv : Var V q (.int .i64 op) (.int .i64 0) (.string ⟨#[]⟩) (.bool false) (.slice (some ⟨W.heap.size + 1, 0, none⟩) 1 1) := by
    rw [hV]
    exact put5_var (h.var.kept (Below.heap_setCell _ _ _ _ (show q ≠ p by omega))) _ _ _ _ _
  have hVa : At p s w j false V := by
    have h1 := h.at'.pos j
    rw [hV]
    exact ⟨h1.cs.kept (put5_block _ (by omega) _ _ _ _ _), h1.res.kept (put5_block _ (by omega) _ _ _ _ _), put5_grown h1.gr (by omega) _ _ _ _ _, hp⟩
  rw [← hV]
  clear hV
  have hsz : (V.alloc (.cells #[a, b, c, d, u] 149)).heap.size = W.heap.size + 1 := by simp [hVz]
  refine ⟨(hVa.alloc _).alloc _, hVv.kept ((Below.heap_alloc _ _ _ (by omega)).trans (Below.heap_alloc _ _ _ (by omega))), ?_, hlo⟩
  refine rex_one (S := fun x => Iv (w.heap.size + 1) W.heap.size x ∧ x ≠ q) (g := W.heap.size + 1) (op := op) (cs := [a, b, c, d, u]) ?_ ?_ ?_ ?_
  · refine rex_frame t _ _ (fun x hx => ?_) h.rex
    have hx1 := hx.1.1
    have hx2 := hx.1.2
    have hx3 := hx.2
    rw [Below.heap_alloc _ _ _ (by omega), Below.heap_alloc _ _ _ (by omega), hVb x hx3 (by omega)]
  · rw [← hsz]
    exact World.ownsRow_lit _ #[a, b, c, d, u] 1 (Nat.zero_le _) (by unfold maxLen; omega) rfl
  · refine ⟨⟨by omega, by simp [hVz]⟩, by omega⟩
  · rintro x ⟨⟨x1, x2⟩, x3⟩
    refine ⟨⟨⟨x1, by simp [hVz]; omega⟩, x3⟩, by omega⟩

end Rx
end Go.Proofs.YtkhoccjfkkfipaaGreatDoor
