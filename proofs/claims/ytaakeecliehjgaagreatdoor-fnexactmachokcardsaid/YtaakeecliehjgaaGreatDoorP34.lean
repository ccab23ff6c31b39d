/-
  Whole patterns of chapter 3: parts, whole.
-/
import Derived.Test.YtaakeecliehjgaaGreatDoorP33
namespace Go.Proofs.YtaakeecliehjgaaGreatDoor
open Go.RowKit
namespace Rx

theorem patLoop_step (g : Nat → Nat) (N : Nat) (A : Nat → Option (Data × Nat)) (f i : Nat) (ts : List Data) : patLoop g N A (f + 1) i ts = if g i = 124 then (match partAt g N A (i + 1) with
      | none => none
      | some (t, j) => patLoop g N A f j (ts ++ [t])) else some (ts, i) := rfl

/-- A list of one. -/
theorem pats_single {w1 : World} {B : Nat} {t : Data} {v : Value} (hv : PatIs w1 t (Iv B w1.heap.size) v) (hB : B ≤ w1.heap.size) : Pats (w1.alloc (.cells #[v] 159)) B [t] (.slice (some ⟨w1.heap.size, 0, none⟩) 1 1) := by
  refine ⟨[v], Iv B w1.heap.size, ⟨rfl, .inr ⟨w1.heap.size, 1, #[v], rfl, hB, heap_alloc_last w1 _, Nat.le_refl _, by decide, rfl, rfl⟩⟩, ?_, ?_⟩
  · simp only [PatsIs]
    exact ⟨v, [], rfl, pat_frame (fun k hk => Below.heap_alloc _ _ _ hk.2) (fun _ h => h) t v hv, rfl⟩
  · intro k hk
    have := hk.2
    exact ⟨hk.1, by simp; omega, by simp [Value.ownBlock]; omega⟩

theorem iParts {p : Nat} {s : ByteArray} {a : Addr} {m : Nat} {A : Nat → Option (Data × Nat)} (hs : s.size ≤ 1000) (hin : ∀ i t j, partAt (gOf s) s.size A i = some (t, j) → i ≤ j ∧ (i ≤ s.size → j ≤ s.size))
    (hA : Parses 139 p s a m (partAt (gOf s) s.size A)) : Parses 125 p s a m (patAt (gOf s) s.size A) := by
  intro i w h hi hm
  obtain ⟨R, hR⟩ : ∃ R, R = patAt (gOf s) s.size A i := ⟨_, rfl⟩
  rw [← hR]
  unfold patAt at hR
  have hpw := h.lt
  have hew := h.elt
  rcases hq : partAt (gOf s) s.size A i with _ | ⟨t0, j0⟩
  · rw [hq] at hR
    have HR : Hid (R = none) := hR
    clear hR
    go_enter Tryz.func125, Tryz.ntmps125
    go_wp2_with (go_at_call 139; refine (hA i w h hi hm).mono ?_; intro e w1 h1; obtain ⟨rfl, hg1⟩ := reads_none h1 hq)
    refine ⟨rfl, ?_⟩
    rw [HR.out]
    exact ⟨rfl, hg1⟩
  rw [hq] at hR
  obtain ⟨j1, j2⟩ := hin i t0 j0 hq
  have j2 := j2 hi
  obtain ⟨RS, hRS⟩ : ∃ RS, patLoop (gOf s) s.size A (s.size + 1) j0 [t0] = RS := ⟨_, rfl⟩
  have HL : Hid (patLoop (gOf s) s.size A (s.size + 1) j0 [t0] = RS) := hRS
  have HR : Hid (R = patEnd RS) := by show _ = _; rw [hR, ← hRS]
  clear hR hRS
  obtain ⟨i0, hi0, hz0, hz1, hz2⟩ := info_parts Tryz.info159r
  go_enter Tryz.func125, Tryz.ntmps125
  go_wp2_with (go_at_call 139; refine (hA i w h hi hm).mono ?_; intro e w1 h1; obtain ⟨v0, rfl, hv0, h2, hg1⟩ := reads_some h1 hq; obtain ⟨T0, x0, rfl⟩ := pat_iface hv0)
  have hP0 := pats_single hv0 hg1.size
  have hr0 : Rd p s a j0 (w1.alloc (.cells #[.iface T0 x0] 159)) := h2.grown (World.grownBy_alloc _ _ none) (by simp) (by simp)
  go_loopw [3] (fun v wr => ∃ k ts f, Rd p s a k wr ∧ m ≤ k ∧ k ≤ s.size ∧ 1 ≤ ts.length ∧ ts.length ≤ k + 1 ∧ Pats wr w.heap.size ts v ∧ s.size < f + k ∧ patLoop (gOf s) s.size A f k ts = RS ∧ w.grownBy wr (some p)) (fun _ wr => s.size - posOf p wr)
  case atStart => exact ⟨j0, [t0], s.size + 1, hr0, by omega, j2, by simp, by simp, hP0, by omega, HL.out, hg1.trans (World.grownBy_alloc _ _ _)⟩
  case round =>
    clear h HL hi hm hP0 hr0 h1 hv0 h2 hg1
    obtain ⟨k, ts, f, hr, hmk, hk, hlen1, hlen, hPs, hf, hR, hg⟩ := hrel
    obtain ⟨f, rfl⟩ : ∃ f', f = f' + 1 := ⟨f - 1, by omega⟩
    rw [patLoop_step] at hR
    have HP : Hid (posOf p wr = k) := posOf_is hr
    by_cases hor : gOf s k = 124
    · rw [if_pos hor] at hR
      have hkl := in_of (s := s) (i := k) (by omega)
      have e1 : decide (gOf s k = 124) = true := decide_eq_true hor
      rcases hq2 : partAt (gOf s) s.size A (k + 1) with _ | ⟨t, j⟩
      · rw [hq2] at hR
        have HR2 : Hid (R = none) := by show _ = _; rw [HR.out, ← hR]; rfl
        clear hR HR hPs
        go_wp2_with (first | (go_at_call 140; refine (iTakeIfC hr hk hs 124 124 (by omega) (by omega)).mono ?_; rintro e wa ⟨rfl, ha, ga⟩; rw [if_pos hor] at ha) | (go_at_call 139; refine (hA (k + 1) _ ha (by omega) (by omega)).mono ?_; intro e w2 h1; obtain ⟨rfl, hg1⟩ := reads_none h1 hq2))
        refine ⟨rfl, ?_⟩
        rw [HR2.out]
        exact ⟨rfl, (hg.trans ga).trans hg1⟩
      · rw [hq2] at hR
        have HR2 : Hid (patLoop (gOf s) s.size A f j (ts ++ [t]) = RS) := hR
        obtain ⟨k1, k2⟩ := hin (k + 1) t j hq2
        have k2 := k2 hkl
        obtain ⟨xs, S, hown, hps, hS⟩ := hPs
        have hsz := hg.size
        have hl1 : (ts.length : Int) ≤ 1001 := by omega
        clear hR HR hlen1
        go_wp2_with (first | (go_at_call 140; refine (iTakeIfC hr hk hs 124 124 (by omega) (by omega)).mono ?_; rintro e wa ⟨rfl, ha, ga⟩; rw [if_pos hor] at ha) | (go_at_call 139; refine (hA (k + 1) _ ha (by omega) (by omega)).mono ?_; intro e w2 h1; obtain ⟨v1, rfl, hv1, h2, hg1⟩ := reads_some h1 hq2; obtain ⟨T1, x1, rfl⟩ := pat_iface hv1; have hown1 := owns_grown hown (ga.trans hg1) hpw; have hsz1 := (ga.trans hg1).size) | (at_builtin; refine wpList_append_own_at _ rfl _ _ 199 rfl w.heap.size 159 i0 .nilIface 1 16 Tryz.underlying199 hi0 hz0 hz1 hz2 rfl (by decide) _ _ _ rfl (hown1.alloc _) ⟨w2.heap.size, 0, none⟩ 1 1 [.iface T1 x1] rfl rfl (cell_one_new _ _ _) (by simp [Value.oneCell']) (by unfold maxLen; omega) (by omega) (by simp; omega) ?_; intro v' w3 hown3 hgr3 _ hb3))
        have hg1' := ga.trans hg1
        have hown0 : ∀ b, (Value.ownBlock u3) = some b → w.heap.size ≤ b := fun b hb => (hown.lt b hb).1
        have hr3 : Rd p s a j w3 := (h2.grown (World.grownBy_alloc _ _ none) (by simp) (by simp)).grown hgr3 (fun e => by have := hown0 _ e; omega) (fun e => by have := hown0 _ e; omega)
        have hv1' : PatIs w2 t (Iv wr.heap.size w2.heap.size) (.iface T1 x1) := pat_frame (fun _ _ => rfl) (fun b hb => ⟨Nat.le_trans ga.size hb.1, hb.2⟩) t _ hv1
        go_roundw
        case rel => exact ⟨j, ts ++ [t], f, hr3, by omega, k2, by simp, by simp; omega, pats_append hown hps hS hsz hpw hg1' hv1' hown3 hgr3 hb3, by omega, HR2.out, grown_own (hg.trans (hg1'.trans (World.grownBy_alloc _ _ _))) hgr3 hown0⟩
        case measure => rw [HP.out, posOf_is hr3]; omega
    · rw [if_neg hor] at hR
      have HR2 : Hid (R = some (orOf ts, k)) := by show _ = _; rw [HR.out, ← hR]; rfl
      have e1 : decide (gOf s k = 124) = false := decide_eq_false hor
      clear hR HR
      rcases ts with _ | ⟨t1, _ | ⟨t2, ts⟩⟩
      · simp at hlen1
      · obtain ⟨ao, cap, rfl⟩ := pats_len' hPs
        obtain ⟨x, b, hx, hb, hc⟩ := pats_head hPs
        have hao := ao_of hPs hb
        subst hao
        have hbb : w.heap.size ≤ b := by
          obtain ⟨xs, S, hown, _⟩ := hPs
          exact (hown.lt b hb).1
        clear hPs hlen1 hlen
        go_wp2_with (go_at_call 140; refine (iTakeIfC hr hk hs 124 124 (by omega) (by omega)).mono ?_; rintro e wa ⟨rfl, ha, ga⟩; rw [if_neg hor] at ha; have hc2 := ga.cell hc (by simp; omega))
        go_ret
        rw [HR2.out]
        exact ⟨_, rfl, pat_grown hx ga hpw (Nat.le_refl _) (Nat.le_refl _) ga.size, ha, hg.trans ga⟩
      · obtain ⟨ao, cap, rfl⟩ := pats_len' hPs
        have hx := (pats_pat hPs).2
        obtain ⟨n, hn⟩ : ∃ n, n = (t1 :: t2 :: ts).length := ⟨_, rfl⟩
        rw [← hn] at hx ⊢
        have n1 : ((n : Int) == 1) = false := by rw [hn]; simp; omega
        clear hn hlen hlen1 hPs
        go_wp2_with (go_at_call 140; refine (iTakeIfC hr hk hs 124 124 (by omega) (by omega)).mono ?_; rintro e wa ⟨rfl, ha, ga⟩; rw [if_neg hor] at ha)
        go_ret
        rw [HR2.out]
        exact ⟨_, rfl, pat_grown hx ga hpw (Nat.le_refl _) (Nat.le_refl _) ga.size, ha, hg.trans ga⟩

/-- Brackets as deep as there is room for. -/
theorem iPat {p : Nat} {s : ByteArray} {a : Addr} (hs : s.size ≤ 1000) : ∀ n, Parses 125 p s a (s.size + 1 - n) (patN (gOf s) s.size n) := by
  intro n
  induction n with
  | zero => intro i w _ hi hm; omega
  | succ n ih =>
    have hAn := atomN_in (g := gOf s) (N := s.size) gOf_end (n + 1)
    have hpn := fun i t j (h : patN (gOf s) s.size n i = some (t, j)) => patN_in (g := gOf s) gOf_end h
    have h1 : Parses 155 p s a (s.size + 1 - (n + 1)) (atomN (gOf s) s.size (n + 1)) := by
      refine iAtom hs hpn ?_
      intro i w h hi hm
      exact ih i w h hi (by omega)
    have h2 := iPiece hs hAn h1
    have h3 := iPart hs (fun i t j h => pieceAt_in gOf_end hAn h) h2
    exact iParts hs (fun i t j h => partAt_in gOf_end hAn h) h3

/-- The whole text. -/
def endOf (s : ByteArray) (r : Option (Data × Nat)) : Option (Data × Nat) := match r with
  | none => none
  | some (t, j) => if j = s.size then some (t, j) else none

theorem iWhole {p : Nat} {s : ByteArray} {a : Addr} {w : World} (hs : s.size ≤ 1000) (h : Rd p s a 0 w) (n : Nat) (hn : s.size < n) :
    Calls Tryz.prog 104 #[.pointer (some ⟨p, 0, none⟩)] w fun e w' => Reads p s a w (endOf s (patN (gOf s) s.size n 0)) e w' := by
  obtain ⟨R, hR⟩ : ∃ R, R = endOf s (patN (gOf s) s.size n 0) := ⟨_, rfl⟩
  rw [← hR]
  unfold endOf at hR
  rcases hq : patN (gOf s) s.size n 0 with _ | ⟨t, j⟩
  · rw [hq] at hR
    have HR : Hid (R = none) := hR
    clear hR
    go_enter Tryz.func104, Tryz.ntmps104
    go_wp2_with (go_at_call 125; refine (iPat hs n 0 w h (by omega) (by omega)).mono ?_; intro e w1 h1; obtain ⟨rfl, hg1⟩ := reads_none h1 hq)
    refine ⟨rfl, ?_⟩
    rw [HR.out]
    exact ⟨rfl, hg1⟩
  · rw [hq] at hR
    have hj := (patN_in (g := gOf s) gOf_end hq).2 (by omega)
    by_cases he : j = s.size
    · have HR : Hid (R = some (t, j)) := by show _ = _; rw [hR]; simp [he]
      have e1 : decide (gOf s j = 256) = true := decide_eq_true (gOf_out (by omega))
      clear hR he
      go_enter Tryz.func104, Tryz.ntmps104
      go_wp2_with (first | (go_at_call 125; refine (iPat hs n 0 w h (by omega) (by omega)).mono ?_; intro e w1 h1; obtain ⟨v, rfl, hv, h2, hg1⟩ := reads_some h1 hq) | (go_at_call 126; refine (iAtEnd h2 hj).mono ?_; rintro e wa ⟨rfl, na, rfl⟩))
      go_ret
      rw [HR.out]
      exact ⟨_, rfl, pat_same hv rfl, h2.drewN _, grown_drewN hg1 _⟩
    · have HR : Hid (R = none) := by show _ = _; rw [hR]; simp [he]
      have e1 : decide (gOf s j = 256) = false := decide_eq_false (by have := gOf_lt (s := s) (i := j) (by omega); omega)
      clear hR
      go_enter Tryz.func104, Tryz.ntmps104
      go_wp2_with (first | (go_at_call 125; refine (iPat hs n 0 w h (by omega) (by omega)).mono ?_; intro e w1 h1; obtain ⟨v, rfl, hv, h2, hg1⟩ := reads_some h1 hq; have c2 := h2.err) | (go_at_call 126; refine (iAtEnd h2 hj).mono ?_; rintro e wa ⟨rfl, na, rfl⟩))
      refine ⟨rfl, ?_⟩
      rw [HR.out]
      exact ⟨rfl, grown_drewN hg1 _⟩

end Rx
end Go.Proofs.YtaakeecliehjgaaGreatDoor
