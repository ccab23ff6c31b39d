/-
  Pieces, parts and whole patterns of chapter 3.
-/
import Derived.Test.YtkhoccjfkkfipaaGreatDoorP31
namespace Go.Proofs.YtkhoccjfkkfipaaGreatDoor
open Go.RowKit
namespace Rx

theorem stars_step (g : Nat → Nat) (f : Nat) (t : Data) (i : Nat) : stars g (f + 1) t i = if g i = 42 then stars g f (one 8 t) (i + 1) else if g i = 43 then stars g f (one 9 t) (i + 1) else if g i = 63 then stars g f (one 10 t) (i + 1) else (t, i) := rfl

theorem iPiece {p : Nat} {s : ByteArray} {a : Addr} {m : Nat} {A : Nat → Option (Data × Nat)} (hs : s.size ≤ 1000) (hin : ∀ i t j, A i = some (t, j) → i < j ∧ j ≤ s.size)
    (hA : Parses 181 p s a m A) : Parses 175 p s a m (pieceAt (gOf s) s.size A) := by
  intro i w h hi hm
  obtain ⟨R, hR⟩ : ∃ R, R = pieceAt (gOf s) s.size A i := ⟨_, rfl⟩
  rw [← hR]
  unfold pieceAt at hR
  rcases hq : A i with _ | ⟨t0, j0⟩
  · rw [hq] at hR
    have HR : Hid (R = none) := hR
    clear hR
    go_enter Tryz.func175, Tryz.ntmps175
    go_wp2_with (go_at_call 181; refine (hA i w h hi hm).mono ?_; intro e w1 h1; obtain ⟨rfl, hg1⟩ := reads_none h1 hq)
    refine ⟨rfl, ?_⟩
    rw [HR.out]
    exact ⟨rfl, hg1⟩
  · rw [hq] at hR
    have hj0 := (hin i t0 j0 hq).2
    obtain ⟨RS, hRS⟩ : ∃ RS, stars (gOf s) (s.size + 1) t0 j0 = RS := ⟨_, rfl⟩
    have HL : Hid (stars (gOf s) (s.size + 1) t0 j0 = RS) := hRS
    have HR : Hid (R = some RS) := by show R = _; rw [hR, ← hRS]
    clear hR hRS
    go_enter Tryz.func175, Tryz.ntmps175
    go_wp2_with (go_at_call 181; refine (hA i w h hi hm).mono ?_; intro e w1 h1; obtain ⟨v0, rfl, hv0, h2, hg1⟩ := reads_some h1 hq)
    go_loopw [3] (fun v wr => ∃ k t f, Rd p s a k wr ∧ k ≤ s.size ∧ PatIs wr t (Iv w.heap.size wr.heap.size) v ∧ s.size < f + k ∧ stars (gOf s) f t k = RS ∧ w.grownBy wr (some p)) (fun _ wr => s.size - posOf p wr)
    case atStart => exact ⟨j0, t0, s.size + 1, h2, hj0, hv0, by omega, HL.out, hg1⟩
    case round =>
      clear h1 hv0 h2 hg1 HL
      obtain ⟨k, t, f, hr, hk, hv, hf, hR, hg⟩ := hrel
      obtain ⟨f, rfl⟩ : ∃ f', f = f' + 1 := ⟨f - 1, by omega⟩
      obtain ⟨T, x, rfl⟩ := pat_iface hv
      rw [stars_step] at hR
      have HP : Hid (posOf p wr = k) := posOf_is hr
      have hlt : gOf s k = 42 ∨ gOf s k = 43 ∨ gOf s k = 63 → k < s.size := fun h => in_of (by omega)
      have hlo := h.lt
      by_cases h42 : gOf s k = 42
      · rw [if_pos h42] at hR
        have HR2 : Hid (stars (gOf s) f (one 8 t) (k + 1) = RS) := hR
        clear hR
        have hkl := hlt (by omega)
        clear hlt
        have e42 : decide (gOf s k = 42) = true := decide_eq_true h42
        go_wp2_with (first | (go_at_call 166; with_reducible refine (iTakeIfC hr hk hs 42 42 (by omega) (by omega)).mono ?_; rintro e wa ⟨rfl, ha, ga⟩; rw [if_pos h42] at ha))
        have gg := ga
        go_roundw
        case rel => exact ⟨k + 1, one 8 t, f, ha, hkl, (pat_one (pat_grown hv gg hlo (Nat.le_refl _) (Nat.le_refl _) gg.size)).1, by omega, HR2.out, hg.trans gg⟩
        case measure => rw [HP.out, posOf_is ha]; omega
      rw [if_neg h42] at hR
      by_cases h43 : gOf s k = 43
      · rw [if_pos h43] at hR
        have HR2 : Hid (stars (gOf s) f (one 9 t) (k + 1) = RS) := hR
        clear hR
        have hkl := hlt (by omega)
        clear hlt
        have e42 : decide (gOf s k = 42) = false := decide_eq_false h42
        have e43 : decide (gOf s k = 43) = true := decide_eq_true h43
        go_wp2_with (first | (go_at_call 166; with_reducible refine (iTakeIfC hr hk hs 42 42 (by omega) (by omega)).mono ?_; rintro e wa ⟨rfl, ha, ga⟩; rw [if_neg h42] at ha) | (go_at_call 166; with_reducible refine (iTakeIfC ha hk hs 43 43 (by omega) (by omega)).mono ?_; rintro e wb ⟨rfl, hb, gb⟩; rw [if_pos h43] at hb))
        have gg := (ga.trans gb)
        go_roundw
        case rel => exact ⟨k + 1, one 9 t, f, hb, hkl, (pat_one (pat_grown hv gg hlo (Nat.le_refl _) (Nat.le_refl _) gg.size)).2.1, by omega, HR2.out, hg.trans gg⟩
        case measure => rw [HP.out, posOf_is hb]; omega
      rw [if_neg h43] at hR
      by_cases h63 : gOf s k = 63
      · rw [if_pos h63] at hR
        have HR2 : Hid (stars (gOf s) f (one 10 t) (k + 1) = RS) := hR
        clear hR
        have hkl := hlt (by omega)
        clear hlt
        have e42 : decide (gOf s k = 42) = false := decide_eq_false h42
        have e43 : decide (gOf s k = 43) = false := decide_eq_false h43
        have e63 : decide (gOf s k = 63) = true := decide_eq_true h63
        go_wp2_with (first | (go_at_call 166; with_reducible refine (iTakeIfC hr hk hs 42 42 (by omega) (by omega)).mono ?_; rintro e wa ⟨rfl, ha, ga⟩; rw [if_neg h42] at ha) | (go_at_call 166; with_reducible refine (iTakeIfC ha hk hs 43 43 (by omega) (by omega)).mono ?_; rintro e wb ⟨rfl, hb, gb⟩; rw [if_neg h43] at hb) | (go_at_call 166; with_reducible refine (iTakeIfC hb hk hs 63 63 (by omega) (by omega)).mono ?_; rintro e wc ⟨rfl, hc, gc⟩; rw [if_pos h63] at hc))
        have gg := ((ga.trans gb).trans gc)
        go_roundw
        case rel => exact ⟨k + 1, one 10 t, f, hc, hkl, (pat_one (pat_grown hv gg hlo (Nat.le_refl _) (Nat.le_refl _) gg.size)).2.2, by omega, HR2.out, hg.trans gg⟩
        case measure => rw [HP.out, posOf_is hc]; omega
      rw [if_neg h63] at hR
      have HR2 : Hid ((t, k) = RS) := hR
      clear hR hlt
      have e42 : decide (gOf s k = 42) = false := decide_eq_false h42
      have e43 : decide (gOf s k = 43) = false := decide_eq_false h43
      have e63 : decide (gOf s k = 63) = false := decide_eq_false h63
      go_wp2_with (first | (go_at_call 166; with_reducible refine (iTakeIfC hr hk hs 42 42 (by omega) (by omega)).mono ?_; rintro e wa ⟨rfl, ha, ga⟩; rw [if_neg h42] at ha) | (go_at_call 166; with_reducible refine (iTakeIfC ha hk hs 43 43 (by omega) (by omega)).mono ?_; rintro e wb ⟨rfl, hb, gb⟩; rw [if_neg h43] at hb) | (go_at_call 166; with_reducible refine (iTakeIfC hb hk hs 63 63 (by omega) (by omega)).mono ?_; rintro e wc ⟨rfl, hc, gc⟩; rw [if_neg h63] at hc))
      have gg := (ga.trans gb).trans gc
      go_ret
      rw [HR.out, ← HR2.out]
      exact ⟨_, rfl, pat_grown hv gg hlo (Nat.le_refl _) (Nat.le_refl _) gg.size, hc, hg.trans gg⟩

theorem grown_own {w w2 w3 : World} {row row' : Option Nat} (h : w.grownBy w2 row) (h' : w2.grownBy w3 row') (ho : ∀ k, row' = some k → w.heap.size ≤ k) : w.grownBy w3 row :=
  ⟨h'.os.trans h.os, h'.tape.trans h.tape, h'.output.trans h.output, Nat.le_trans h.size h'.size, fun k hk hne => (h'.block k (Nat.lt_of_lt_of_le hk h.size) fun e => by have := ho k e.symm; omega).trans (h.block k hk hne)⟩

theorem owns_grown {w w' : World} {B p e size n : Nat} {v : Value} {xs : List Value} (h : w.ownsRow B e size v n xs) (hg : w.grownBy w' (some p)) (hp : p < B) : w'.ownsRow B e size v n xs :=
  owns_same h fun g hv => hg.block g (h.lt g hv).2 (by have := (h.lt g hv).1; simp; omega)

theorem pats_append {wr w2 w3 : World} {B p : Nat} {ts : List Data} {t : Data} {v v' x : Value} {xs : List Value} {S : Nat → Prop} {o : Obj} (hown : wr.ownsRow B 179 1 v ts.length xs) (hps : PatsIs wr ts S xs) (hS : ∀ k, S k → B ≤ k ∧ k < wr.heap.size ∧ v.ownBlock ≠ some k)
    (hB : B ≤ wr.heap.size) (hp : p < B) (hg : wr.grownBy w2 (some p)) (hv : PatIs w2 t (Iv wr.heap.size w2.heap.size) x) (hown3 : w3.ownsRow B 179 1 v' (ts.length + 1) (xs ++ [x]))
    (hgr : (w2.alloc o).grownBy w3 v.ownBlock) (hb : v'.ownBlock = v.ownBlock ∨ v'.ownBlock = some (w2.alloc o).heap.size) : Pats w3 B (ts ++ [t]) v' := by
  refine pats_more (w := wr) (w1 := w2) hps hS hB hv hg.size (fun k h1 h2 _ => hg.block k h2 (by simp; omega)) (fun k hk => (hown.lt k hk).2) hown3 (Nat.le_trans (by simp) hgr.size) (fun k h1 h2 => ?_) ?_
  · exact (hgr.block k (by simp; omega) (Ne.symm h2)).trans (Below.heap_alloc _ _ _ h1)
  · rcases hb with h | h
    · exact .inl h
    · exact .inr ⟨_, h, by simp⟩

theorem pats_len' {w : World} {B : Nat} {ts : List Data} {v : Value} (h : Pats w B ts v) : ∃ ao cap, v = .slice ao ts.length cap := by
  obtain ⟨xs, S, ho, _⟩ := h
  rcases ho.2 with ⟨rfl, hn⟩ | ⟨g, cap, cur, rfl, _⟩
  · rw [hn]; exact ⟨_, _, rfl⟩
  · exact ⟨_, _, rfl⟩

theorem ao_of {w : World} {B b n cap : Nat} {ts : List Data} {ao : Option Addr} (h : Pats w B ts (.slice ao n cap)) (hb : Value.ownBlock (.slice ao n cap) = some b) : ao = some ⟨b, 0, none⟩ := by
  obtain ⟨xs, S, ho, _⟩ := h
  rcases ho.2 with ⟨h, _⟩ | ⟨g, cap', cur, h, _⟩
  · simp at h; obtain ⟨rfl, _⟩ := h; simp [Value.ownBlock] at hb
  · simp at h; obtain ⟨rfl, _⟩ := h; simp [Value.ownBlock] at hb; rw [hb]

theorem pat_same {w w' : World} {t : Data} {S : Nat → Prop} {v : Value} (h : PatIs w t S v) (hw : w'.heap = w.heap) : PatIs w' t S v := pat_frame (fun k _ => by rw [hw]) (fun _ h => h) t v h

theorem Tryz.info179r : (Tryz.prog.info? 179).map (fun i => (i.zero, i.size, i.bytes)) = some (some .nilIface, 1, 16) := by kernel_rfl

theorem partLoop_step (g : Nat → Nat) (N : Nat) (A : Nat → Option (Data × Nat)) (f i : Nat) (ts : List Data) : partLoop g N A (f + 1) i ts = if g i = 256 ∨ g i = 124 ∨ g i = 41 then some (ts, i) else match pieceAt g N A i with
      | none => none
      | some (t, j) => partLoop g N A f j (ts ++ [t]) := rfl

theorem iPart {p : Nat} {s : ByteArray} {a : Addr} {m : Nat} {A : Nat → Option (Data × Nat)} (hs : s.size ≤ 1000) (hin : ∀ i t j, pieceAt (gOf s) s.size A i = some (t, j) → i < j ∧ j ≤ s.size)
    (hA : Parses 175 p s a m (pieceAt (gOf s) s.size A)) : Parses 165 p s a m (partAt (gOf s) s.size A) := by
  intro i w h hi hm
  obtain ⟨R, hR⟩ : ∃ R, R = partAt (gOf s) s.size A i := ⟨_, rfl⟩
  rw [← hR]
  unfold partAt at hR
  obtain ⟨RS, hRS⟩ : ∃ RS, partLoop (gOf s) s.size A (s.size + 1) i [] = RS := ⟨_, rfl⟩
  rw [hRS] at hR
  have HL : Hid (partLoop (gOf s) s.size A (s.size + 1) i [] = RS) := hRS
  have HR : Hid (R = partEnd RS) := hR
  clear hR hRS
  obtain ⟨i0, hi0, hz0, hz1, hz2⟩ := info_parts Tryz.info179r
  have hpw := h.lt
  have hew := h.elt
  go_enter Tryz.func165, Tryz.ntmps165
  go_wp2_with fail
  go_loopw [3] (fun v wr => ∃ k ts f, Rd p s a k wr ∧ m ≤ k ∧ k ≤ s.size ∧ ts.length ≤ k ∧ Pats wr w.heap.size ts v ∧ s.size < f + k ∧ partLoop (gOf s) s.size A f k ts = RS ∧ w.grownBy wr (some p)) (fun _ wr => s.size - posOf p wr)
  case atStart => exact ⟨i, [], s.size + 1, h, hm, hi, Nat.zero_le _, pats_nil _ _, by omega, HL.out, World.grownBy.refl _ _⟩
  case round =>
    clear h HL hi hm
    obtain ⟨k, ts, f, hr, hmk, hk, hlen, hPs, hf, hR, hg⟩ := hrel
    obtain ⟨f, rfl⟩ : ∃ f', f = f' + 1 := ⟨f - 1, by omega⟩
    rw [partLoop_step] at hR
    have HP : Hid (posOf p wr = k) := posOf_is hr
    by_cases hend : gOf s k = 256 ∨ gOf s k = 124 ∨ gOf s k = 41
    · rw [if_pos hend] at hR
      have HR2 : Hid (R = some (catOf ts, k)) := by show _ = _; rw [HR.out, ← hR]; rfl
      clear hR HR
      rcases hend with hend | hend | hend
      · have e1 : decide (gOf s k = 256) = true := decide_eq_true (by omega)
        clear hend
        rcases ts with _ | ⟨t1, _ | ⟨t2, ts⟩⟩
        · obtain ⟨ao, cap, rfl⟩ := pats_len' hPs
          clear hPs
          go_wp2_with (first | (go_at_call 152; refine (iAtEnd hr hk).mono ?_; rintro e wa ⟨rfl, na, rfl⟩) | (go_at_call 174; with_reducible refine (iSeesC (hr.drewN _) hk 124 124 (by omega) (by omega)).mono ?_; rintro e wa ⟨rfl, nb, rfl⟩) | (go_at_call 174; with_reducible refine (iSeesC (hr.drewN _) hk 41 41 (by omega) (by omega)).mono ?_; rintro e wa ⟨rfl, nc, rfl⟩))
          go_ret
          rw [HR2.out]
          exact ⟨_, rfl, pat_leaf (.inr (.inr (.inr (.inr (.inr ⟨rfl, rfl, rfl, rfl, rfl⟩))))), hr.drewN _, grown_drewN hg _⟩
        · obtain ⟨ao, cap, rfl⟩ := pats_len' hPs
          obtain ⟨x, b, hx, hb, hc⟩ := pats_head hPs
          have hao := ao_of hPs hb
          subst hao
          clear hPs
          go_wp2_with (first | (go_at_call 152; refine (iAtEnd hr hk).mono ?_; rintro e wa ⟨rfl, na, rfl⟩) | (go_at_call 174; with_reducible refine (iSeesC (hr.drewN _) hk 124 124 (by omega) (by omega)).mono ?_; rintro e wa ⟨rfl, nb, rfl⟩) | (go_at_call 174; with_reducible refine (iSeesC (hr.drewN _) hk 41 41 (by omega) (by omega)).mono ?_; rintro e wa ⟨rfl, nc, rfl⟩))
          go_ret
          rw [HR2.out]
          exact ⟨_, rfl, pat_same hx rfl, hr.drewN _, grown_drewN hg _⟩
        · obtain ⟨ao, cap, rfl⟩ := pats_len' hPs
          have hx := (pats_pat hPs).1
          obtain ⟨n, hn⟩ : ∃ n, n = (t1 :: t2 :: ts).length := ⟨_, rfl⟩
          rw [← hn] at hx ⊢
          have n0 : ((n : Int) == 0) = false := by rw [hn]; simp; omega
          have n1 : ((n : Int) == 1) = false := by rw [hn]; simp; omega
          clear hn hlen
          clear hPs
          go_wp2_with (first | (go_at_call 152; refine (iAtEnd hr hk).mono ?_; rintro e wa ⟨rfl, na, rfl⟩) | (go_at_call 174; with_reducible refine (iSeesC (hr.drewN _) hk 124 124 (by omega) (by omega)).mono ?_; rintro e wa ⟨rfl, nb, rfl⟩) | (go_at_call 174; with_reducible refine (iSeesC (hr.drewN _) hk 41 41 (by omega) (by omega)).mono ?_; rintro e wa ⟨rfl, nc, rfl⟩))
          go_ret
          rw [HR2.out]
          exact ⟨_, rfl, pat_same hx rfl, hr.drewN _, grown_drewN hg _⟩
      · have e1 : decide (gOf s k = 256) = false := decide_eq_false (by omega)
        have e2 : decide (gOf s k = 124) = true := decide_eq_true (by omega)
        clear hend
        rcases ts with _ | ⟨t1, _ | ⟨t2, ts⟩⟩
        · obtain ⟨ao, cap, rfl⟩ := pats_len' hPs
          clear hPs
          go_wp2_with (first | (go_at_call 152; refine (iAtEnd hr hk).mono ?_; rintro e wa ⟨rfl, na, rfl⟩) | (go_at_call 174; with_reducible refine (iSeesC (hr.drewN _) hk 124 124 (by omega) (by omega)).mono ?_; rintro e wa ⟨rfl, nb, rfl⟩) | (go_at_call 174; with_reducible refine (iSeesC (hr.drewN _) hk 41 41 (by omega) (by omega)).mono ?_; rintro e wa ⟨rfl, nc, rfl⟩))
          go_ret
          rw [HR2.out]
          exact ⟨_, rfl, pat_leaf (.inr (.inr (.inr (.inr (.inr ⟨rfl, rfl, rfl, rfl, rfl⟩))))), hr.drewN _, grown_drewN hg _⟩
        · obtain ⟨ao, cap, rfl⟩ := pats_len' hPs
          obtain ⟨x, b, hx, hb, hc⟩ := pats_head hPs
          have hao := ao_of hPs hb
          subst hao
          clear hPs
          go_wp2_with (first | (go_at_call 152; refine (iAtEnd hr hk).mono ?_; rintro e wa ⟨rfl, na, rfl⟩) | (go_at_call 174; with_reducible refine (iSeesC (hr.drewN _) hk 124 124 (by omega) (by omega)).mono ?_; rintro e wa ⟨rfl, nb, rfl⟩) | (go_at_call 174; with_reducible refine (iSeesC (hr.drewN _) hk 41 41 (by omega) (by omega)).mono ?_; rintro e wa ⟨rfl, nc, rfl⟩))
          go_ret
          rw [HR2.out]
          exact ⟨_, rfl, pat_same hx rfl, hr.drewN _, grown_drewN hg _⟩
        · obtain ⟨ao, cap, rfl⟩ := pats_len' hPs
          have hx := (pats_pat hPs).1
          obtain ⟨n, hn⟩ : ∃ n, n = (t1 :: t2 :: ts).length := ⟨_, rfl⟩
          rw [← hn] at hx ⊢
          have n0 : ((n : Int) == 0) = false := by rw [hn]; simp; omega
          have n1 : ((n : Int) == 1) = false := by rw [hn]; simp; omega
          clear hn hlen
          clear hPs
          go_wp2_with (first | (go_at_call 152; refine (iAtEnd hr hk).mono ?_; rintro e wa ⟨rfl, na, rfl⟩) | (go_at_call 174; with_reducible refine (iSeesC (hr.drewN _) hk 124 124 (by omega) (by omega)).mono ?_; rintro e wa ⟨rfl, nb, rfl⟩) | (go_at_call 174; with_reducible refine (iSeesC (hr.drewN _) hk 41 41 (by omega) (by omega)).mono ?_; rintro e wa ⟨rfl, nc, rfl⟩))
          go_ret
          rw [HR2.out]
          exact ⟨_, rfl, pat_same hx rfl, hr.drewN _, grown_drewN hg _⟩
      · have e1 : decide (gOf s k = 256) = false := decide_eq_false (by omega)
        have e2 : decide (gOf s k = 124) = false := decide_eq_false (by omega)
        have e3 : decide (gOf s k = 41) = true := decide_eq_true (by omega)
        clear hend
        rcases ts with _ | ⟨t1, _ | ⟨t2, ts⟩⟩
        · obtain ⟨ao, cap, rfl⟩ := pats_len' hPs
          clear hPs
          go_wp2_with (first | (go_at_call 152; refine (iAtEnd hr hk).mono ?_; rintro e wa ⟨rfl, na, rfl⟩) | (go_at_call 174; with_reducible refine (iSeesC (hr.drewN _) hk 124 124 (by omega) (by omega)).mono ?_; rintro e wa ⟨rfl, nb, rfl⟩) | (go_at_call 174; with_reducible refine (iSeesC (hr.drewN _) hk 41 41 (by omega) (by omega)).mono ?_; rintro e wa ⟨rfl, nc, rfl⟩))
          go_ret
          rw [HR2.out]
          exact ⟨_, rfl, pat_leaf (.inr (.inr (.inr (.inr (.inr ⟨rfl, rfl, rfl, rfl, rfl⟩))))), hr.drewN _, grown_drewN hg _⟩
        · obtain ⟨ao, cap, rfl⟩ := pats_len' hPs
          obtain ⟨x, b, hx, hb, hc⟩ := pats_head hPs
          have hao := ao_of hPs hb
          subst hao
          clear hPs
          go_wp2_with (first | (go_at_call 152; refine (iAtEnd hr hk).mono ?_; rintro e wa ⟨rfl, na, rfl⟩) | (go_at_call 174; with_reducible refine (iSeesC (hr.drewN _) hk 124 124 (by omega) (by omega)).mono ?_; rintro e wa ⟨rfl, nb, rfl⟩) | (go_at_call 174; with_reducible refine (iSeesC (hr.drewN _) hk 41 41 (by omega) (by omega)).mono ?_; rintro e wa ⟨rfl, nc, rfl⟩))
          go_ret
          rw [HR2.out]
          exact ⟨_, rfl, pat_same hx rfl, hr.drewN _, grown_drewN hg _⟩
        · obtain ⟨ao, cap, rfl⟩ := pats_len' hPs
          have hx := (pats_pat hPs).1
          obtain ⟨n, hn⟩ : ∃ n, n = (t1 :: t2 :: ts).length := ⟨_, rfl⟩
          rw [← hn] at hx ⊢
          have n0 : ((n : Int) == 0) = false := by rw [hn]; simp; omega
          have n1 : ((n : Int) == 1) = false := by rw [hn]; simp; omega
          clear hn hlen
          clear hPs
          go_wp2_with (first | (go_at_call 152; refine (iAtEnd hr hk).mono ?_; rintro e wa ⟨rfl, na, rfl⟩) | (go_at_call 174; with_reducible refine (iSeesC (hr.drewN _) hk 124 124 (by omega) (by omega)).mono ?_; rintro e wa ⟨rfl, nb, rfl⟩) | (go_at_call 174; with_reducible refine (iSeesC (hr.drewN _) hk 41 41 (by omega) (by omega)).mono ?_; rintro e wa ⟨rfl, nc, rfl⟩))
          go_ret
          rw [HR2.out]
          exact ⟨_, rfl, pat_same hx rfl, hr.drewN _, grown_drewN hg _⟩
    · rw [if_neg hend] at hR
      have e1 : decide (gOf s k = 256) = false := decide_eq_false (by omega)
      have e2 : decide (gOf s k = 124) = false := decide_eq_false (by omega)
      have e3 : decide (gOf s k = 41) = false := decide_eq_false (by omega)
      clear hend
      rcases hq : pieceAt (gOf s) s.size A k with _ | ⟨t, j⟩
      · rw [hq] at hR
        have HR2 : Hid (R = none) := by show _ = _; rw [HR.out, ← hR]; rfl
        clear hR HR hPs
        go_wp2_with (first | (go_at_call 152; refine (iAtEnd hr hk).mono ?_; rintro e wa ⟨rfl, na, rfl⟩) | (go_at_call 174; with_reducible refine (iSeesC (hr.drewN _) hk 124 124 (by omega) (by omega)).mono ?_; rintro e wa ⟨rfl, nb, rfl⟩) | (go_at_call 174; with_reducible refine (iSeesC (hr.drewN _) hk 41 41 (by omega) (by omega)).mono ?_; rintro e wa ⟨rfl, nc, rfl⟩) | (go_at_call 175; refine (hA k _ (hr.drewN _) hk hmk).mono ?_; intro e w1 h1; obtain ⟨rfl, hg1⟩ := reads_none h1 hq))
        refine ⟨rfl, ?_⟩
        rw [HR2.out]
        exact ⟨rfl, hg.trans (grown_drewN_left hg1)⟩
      · rw [hq] at hR
        have HR2 : Hid (partLoop (gOf s) s.size A f j (ts ++ [t]) = RS) := hR
        obtain ⟨j1, j2⟩ := hin k t j hq
        obtain ⟨xs, S, hown, hps, hS⟩ := hPs
        have hsz := hg.size
        have hl1 : (ts.length : Int) ≤ 1000 := by omega
        clear hR HR
        go_wp2_with (first | (go_at_call 152; refine (iAtEnd hr hk).mono ?_; rintro e wa ⟨rfl, na, rfl⟩) | (go_at_call 174; with_reducible refine (iSeesC (hr.drewN _) hk 124 124 (by omega) (by omega)).mono ?_; rintro e wa ⟨rfl, nb, rfl⟩) | (go_at_call 174; with_reducible refine (iSeesC (hr.drewN _) hk 41 41 (by omega) (by omega)).mono ?_; rintro e wa ⟨rfl, nc, rfl⟩) | (go_at_call 175; refine (hA k _ (hr.drewN _) hk hmk).mono ?_; intro e w1 h1; obtain ⟨v1, rfl, hv1, h2, hg1⟩ := reads_some h1 hq; obtain ⟨T1, x1, rfl⟩ := pat_iface hv1; have hown1 := owns_grown hown (grown_drewN_left hg1) hpw; have hsz1 := (grown_drewN_left hg1).size) | (at_builtin; refine wpList_append_own_at _ rfl _ _ 220 rfl w.heap.size 179 i0 .nilIface 1 16 Tryz.underlying220 hi0 hz0 hz1 hz2 rfl (by decide) _ _ _ rfl (hown1.alloc _) ⟨w1.heap.size, 0, none⟩ 1 1 [.iface T1 x1] rfl rfl (cell_one_new _ _ _) (by simp [Value.oneCell']) (by unfold maxLen; omega) (by omega) (by simp; omega) ?_; intro v' w3 hown3 hgr3 _ hb3))
        have hg1' := grown_drewN_left hg1
        have hown0 : ∀ b, (Value.ownBlock u3) = some b → w.heap.size ≤ b := fun b hb => (hown.lt b hb).1
        have hr3 : Rd p s a j w3 := (h2.grown (World.grownBy_alloc _ _ none) (by simp) (by simp)).grown hgr3 (fun e => by have := hown0 _ e; omega) (fun e => by have := hown0 _ e; omega)
        go_roundw
        case rel => exact ⟨j, ts ++ [t], f, hr3, by omega, j2, by simp; omega, pats_append hown hps hS hsz hpw hg1' hv1 hown3 hgr3 hb3, by omega, HR2.out, grown_own (hg.trans (hg1'.trans (World.grownBy_alloc _ _ _))) hgr3 hown0⟩
        case measure => rw [HP.out, posOf_is hr3]; omega

end Rx
end Go.Proofs.YtkhoccjfkkfipaaGreatDoor
