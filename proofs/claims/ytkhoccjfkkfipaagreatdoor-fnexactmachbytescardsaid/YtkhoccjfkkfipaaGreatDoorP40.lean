/-
  The specification's parser: a part.
  The specification's parser: a pattern.
-/
import Derived.Test.YtkhoccjfkkfipaaGreatDoorP39
namespace Go.Proofs.YtkhoccjfkkfipaaGreatDoor
open Go.RowKit
namespace Rx

set_option maxHeartbeats 2000000 in
set_option maxRecDepth 100000 in
theorem sPart {p : Nat} {s : ByteArray} {deep : Nat} {A : Nat → Option (Data × Nat)} (hs : s.size ≤ 1000) (hin : ∀ i t j, pieceAt (gOf s) s.size A i = some (t, j) → i < j ∧ j ≤ s.size)
    (hP : TellsF 159 p s deep (pieceAt (gOf s) s.size A)) : TellsF 137 p s deep (partAt (gOf s) s.size A) := by
  intro i w h hi
  have hA := At.start h
  have hp := h.lt
  obtain ⟨R, hR⟩ : ∃ R, R = partAt (gOf s) s.size A i := ⟨_, rfl⟩
  rw [← hR]
  unfold partAt at hR
  obtain ⟨RS, hRS⟩ : ∃ RS, partLoop (gOf s) s.size A (s.size + 1) i [] = RS := ⟨_, rfl⟩
  rw [hRS] at hR
  have HL : Hid (partLoop (gOf s) s.size A (s.size + 1) i [] = RS) := hRS
  have HR : Hid (R = partEnd RS) := hR
  clear hR hRS
  obtain ⟨i0, hi0, hz0, hz1, hz2⟩ := info_parts Tryz.info149r
  go_enter Tryz.func137, Tryz.ntmps137
  go_upto_block 0 with fail
  go_cut [5] (fun v wx => KEnd p s w RS v wx)
  case first =>
    go_wp2_with fail
    go_loopw [5] (fun v wr => (∃ (k f : Nat) (ts : List Data), At p s w k false wr ∧ k ≤ s.size ∧ ts.length ≤ k ∧ Kids wr (w.heap.size + 1) ts v ∧ s.size < f + k ∧ partLoop (gOf s) s.size A f k ts = RS) ∨ (RS = none ∧ KBad p s w v wr)) (fun _ wr => left p s.size wr)
    case atStart =>
      refine .inl ⟨i, s.size + 1, [], hA.alloc _, hi, Nat.zero_le _, ?_, by omega, HL.out⟩
      have := kids_made (w.alloc (.cells #[.int .i64 0, .int .i64 0, .string ⟨#[]⟩, .bool false, .slice none 0 0] 149)) (B := w.heap.size + 1) (by simp)
      simpa using this
    case round =>
      clear hA HL h hi HR
      rcases hrel with ⟨k, f, ts, hA1, hk, hlen, hK, hf, hRk⟩ | ⟨hRS, hB⟩
      · obtain ⟨f, rfl⟩ : ∃ f', f = f' + 1 := ⟨f - 1, by omega⟩
        rw [partLoop_step] at hRk
        have c0 := hA1.cs.text
        have c1 := hA1.cs.pos
        have c2 := hA1.cs.bad
        by_cases hend : gOf s k = 256 ∨ gOf s k = 124 ∨ gOf s k = 41
        · rw [if_pos hend] at hRk
          have HE : Hid (RS = some (ts, k)) := hRk.symm
          clear hRk
          rcases Nat.lt_or_ge k s.size with hkl | hkl
          · have hg := gOf_in hkl
            have hbl := s[k].toNat_lt
            by_cases h124 : gOf s k = 124
            · have z1 : (s[k].toNat : Int) = 124 := by omega
              clear hend h124 hg hbl
              go_wp2_with fail
              go_quiet (fail)
              go_wp2_with fail
              go_meet
              exact .inl ⟨k, ts, HE.out, hk, hA1.drewN _, kids_kept hK (fun _ _ _ => rfl) (Nat.le_refl _)⟩
            · have z1 : (s[k].toNat : Int) = 41 := by omega
              clear hend h124 hg hbl
              go_wp2_with fail
              go_quiet (fail)
              go_wp2_with fail
              go_meet
              exact .inl ⟨k, ts, HE.out, hk, hA1.drewN _, kids_kept hK (fun _ _ _ => rfl) (Nat.le_refl _)⟩
          · have z1 : decide ((k : Int) < s.size) = false := decide_eq_false (by omega)
            have z2 : decide (k < s.size) = false := decide_eq_false (by omega)
            clear hend
            go_wp2_with fail
            go_quiet (fail)
            go_wp2_with fail
            go_meet
            exact .inl ⟨k, ts, HE.out, hk, hA1.drewN _, kids_kept hK (fun _ _ _ => rfl) (Nat.le_refl _)⟩
        · rw [if_neg hend] at hRk
          have hkl : k < s.size := in_of (fun e => hend (.inl e))
          have hg := gOf_in hkl
          have z1 : ((s[k].toNat : Int) != 124) = true := by simp; omega
          have z2 : ((s[k].toNat : Int) != 41) = true := by simp; omega
          obtain ⟨xs, S, hown, hks, hS⟩ := hK
          have hsz := hA1.size
          have hl1 : (ts.length : Int) ≤ 1000 := by omega
          clear hend hg
          rcases hq : pieceAt (gOf s) s.size A k with _ | ⟨t, j⟩
          · rw [hq] at hRk
            have HE : Hid (RS = none) := hRk.symm
            clear hRk
            go_wp2_with fail
            go_quiet (fail)
            go_wp2_with (first | (go_at_call 159; refine (hP k _ (hA1.drewN _).cs hk).mono ?_; intro e w1 h1; obtain ⟨a, b, c, d, u, j', rfl, h5, hC, hgr⟩ := tells_none h1 hq; obtain ⟨y1, y2, y3, y4, y5, y6, y7, rfl, rfl, rfl, rfl, rfl⟩ := h5; have hown1 := owns_grown hown (grown_drewN_left hgr) (by omega); have hsz1 := (grown_drewN_left hgr).size) | (at_builtin; refine wpList_append_own_at _ rfl _ _ 147 rfl (w.heap.size + 1) 149 i0 _ 5 64 Tryz.underlying147 hi0 hz0 hz1 hz2 rfl (by decide) _ _ _ rfl (hown1.alloc _) ⟨w1.heap.size, 0, none⟩ 1 1 [.int .i64 y1, .int .i64 y2, .string y3, .bool y4, .slice y5 y6 y7] rfl rfl (cell_five_new _ _ _ _ _ _) (by simp [Value.oneCell']) (by unfold maxLen; omega) (by omega) (by simp; omega) ?_; intro v' w3 hown3 hgr3 _ hb3))
            have hg1' := grown_drewN_left hgr
            have hA2 := ((hA1.drewN _).grown hgr hC).alloc (.cells #[.int .i64 y1, .int .i64 y2, .string y3, .bool y4, .slice y5 y6 y7] 149)
            have hA3 := hA2.grownOwn hgr3 (fun b hb => by have := (hown.lt b hb).1; omega)
            go_roundw
            case rel =>
              refine .inr ⟨HE.out, _, _, _, hA3, hown3, by omega, fun e => ?_⟩
              have hts : ts.length = 0 := by omega
              have hxs : xs = [] := List.length_eq_zero_iff.1 (by rw [hown.1, hts])
              exact ⟨_, _, _, _, _, by rw [hxs]; rfl, ⟨y1, y2, y3, y4, y5, y6, y7, rfl, rfl, rfl, rfl, rfl⟩⟩
            case measure => exact left_lt_bad hA1.cs hA3.cs hk
          · rw [hq] at hRk
            have HE : Hid (partLoop (gOf s) s.size A f j (ts ++ [t]) = RS) := hRk
            obtain ⟨j1, j2⟩ := hin k t j hq
            clear hRk
            go_wp2_with fail
            go_quiet (fail)
            go_wp2_with (first | (go_at_call 159; refine (hP k _ (hA1.drewN _).cs hk).mono ?_; intro e w1 h1; obtain ⟨a, b, c, d, u, rfl, hx, hC, hgr⟩ := tells_some h1 hq; obtain ⟨y1, y2, y3, y4, y5, y6, y7, rfl, rfl, rfl, rfl, rfl⟩ := rex_cells hx; have hown1 := owns_grown hown (grown_drewN_left hgr) (by omega); have hsz1 := (grown_drewN_left hgr).size) | (at_builtin; refine wpList_append_own_at _ rfl _ _ 147 rfl (w.heap.size + 1) 149 i0 _ 5 64 Tryz.underlying147 hi0 hz0 hz1 hz2 rfl (by decide) _ _ _ rfl (hown1.alloc _) ⟨w1.heap.size, 0, none⟩ 1 1 [.int .i64 y1, .int .i64 y2, .string ⟨y3.toArray⟩, .bool y4, .slice y5 y6 y7] rfl rfl (cell_five_new _ _ _ _ _ _) (by simp [Value.oneCell']) (by unfold maxLen; omega) (by omega) (by simp; omega) ?_; intro v' w3 hown3 hgr3 _ hb3))
            have hg1' := grown_drewN_left hgr
            have hA2 := ((hA1.drewN _).grown hgr hC).alloc (.cells #[.int .i64 y1, .int .i64 y2, .string ⟨y3.toArray⟩, .bool y4, .slice y5 y6 y7] 149)
            have hA3 := hA2.grownOwn hgr3 (fun b hb => by have := (hown.lt b hb).1; omega)
            go_roundw
            case rel => exact .inl ⟨j, f, ts ++ [t], hA3, j2, by simp; omega, kids_append hown hks hS (by omega) (by omega) hg1' hx hown3 hgr3 hb3, by omega, HE.out⟩
            case measure => exact left_lt hA1.cs hA3.cs hk j1
      · obtain ⟨kb, n, xs, hA1, hown, hn1, hn⟩ := hB
        have c2 := hA1.cs.bad
        have HE : Hid (RS = none) := hRS
        clear hRS
        go_wp2_with fail
        go_quiet (fail)
        go_wp2_with fail
        go_meet
        exact .inr ⟨HE.out, kb, n, xs, hA1.drewN _, hown, hn1, hn⟩
  case rest =>
    clear hA HL h hi hP hin
    rcases hcut with ⟨k, ts, hRS, hk, hA1, hK⟩ | ⟨hRS, kb, n, xs, hA1, hown, hn1, hn⟩
    · have v0 := hA1.res.cell
      have u0 := hA1.res.frozen
      rcases ts with _ | ⟨t1, _ | ⟨t2, ts⟩⟩
      · have HR2 : Hid (R = some (leaf 11, k)) := by show R = _; rw [HR.out, hRS]; rfl
        obtain ⟨ao, cap, rfl⟩ := kids_len' hK
        clear hK
        go_wp2_with fail
        refine At.retLeaf (op := 11) (c := 0) (set := []) (no := false) (j := k) ?_ Tryz.results137 HR2.out ?_ ?_ ?_ ?_ ?_ ?_ ?_
        · exact hA1
        all_goals rfl
      · have HR2 : Hid (R = some (t1, k)) := by show R = _; rw [HR.out, hRS]; rfl
        obtain ⟨g, cap, a, b, c, d, u, rfl, hB, hx, x0, x1, x2, x3, x4⟩ := kids_head hK
        obtain ⟨y1, y2, y3, y4, y5, y6, y7, rfl, rfl, rfl, rfl, rfl⟩ := rex_cells hx
        have hgn : w.heap.size < g := by omega
        clear hK
        go_wp2_with fail
        refine At.retRex (j := k) ?_ Tryz.results137 hx ?_ HR2.out ?_ ?_
        · exact hA1
        · omega
        · rfl
        · rfl
      · have HR2 : Hid (R = some (nd 6 0 [] false (t1 :: t2 :: ts), k)) := by show R = _; rw [HR.out, hRS]; rfl
        have hx := kids_rex hK 6 0 [] false
        obtain ⟨ao, cap, rfl⟩ := kids_len' hK
        obtain ⟨n, hn⟩ : ∃ n, n = (t1 :: t2 :: ts).length := ⟨_, rfl⟩
        rw [← hn] at hx ⊢
        have n0 : ((n : Int) == 0) = false := by rw [hn]; simp; omega
        have n1 : ((n : Int) == 1) = false := by rw [hn]; simp; omega
        clear hn hK
        go_wp2_with fail
        refine At.retRex (j := k) ?_ Tryz.results137 hx ?_ HR2.out ?_ ?_
        · exact hA1
        · omega
        · rfl
        · rfl
    · have v0 := hA1.res.cell
      have u0 := hA1.res.frozen
      have HR2 : Hid (R = none) := by show R = _; rw [HR.out, hRS]; rfl
      by_cases h1 : n = 1
      · obtain ⟨a, b, c, d, u, rfl, h5⟩ := hn h1
        subst h1
        obtain ⟨g, cap, rfl, hB, x0, x1, x2, x3, x4⟩ := owns_head hown
        obtain ⟨y1, y2, y3, y4, y5, y6, y7, rfl, rfl, rfl, rfl, rfl⟩ := h5
        have hgn : w.heap.size < g := by omega
        clear hown hn hn1
        go_wp2_with fail
        refine At.retBad ?_ Tryz.results137 ⟨y1, y2, y3, y4, y5, y6, y7, rfl, rfl, rfl, rfl, rfl⟩ HR2.out ?_ ?_
        · exact ⟨_, hA1⟩
        · rfl
        · rfl
      · obtain ⟨ao, cap, rfl⟩ := owns_len' hown
        have n0 : ((n : Int) == 0) = false := by simp; omega
        have n1 : ((n : Int) == 1) = false := by simp; omega
        clear hown hn hn1 h1
        go_wp2_with fail
        refine At.retBad ?_ Tryz.results137 ⟨6, 0, _, false, _, _, _, rfl, rfl, rfl, rfl, rfl⟩ HR2.out ?_ ?_
        · exact ⟨_, hA1⟩
        · rfl
        · rfl

end Rx
end Go.Proofs.YtkhoccjfkkfipaaGreatDoor
namespace Go.Proofs.YtkhoccjfkkfipaaGreatDoor
open Go.RowKit
namespace Rx

theorem patLoop_ne (g : Nat → Nat) (N : Nat) (A : Nat → Option (Data × Nat)) : ∀ (f i : Nat) (ts us : List Data) (j : Nat), ts ≠ [] → patLoop g N A f i ts = some (us, j) → us ≠ []
  | 0, _, _, _, _, _, h => by simp [patLoop] at h
  | f + 1, i, ts, us, j, hne, h => by
    rw [patLoop_step] at h
    split at h
    · split at h
      · simp at h
      · exact patLoop_ne g N A f _ _ us j (by simp) h
    · simp at h
      rw [← h.1]
      exact hne

set_option maxHeartbeats 2000000 in
set_option maxRecDepth 100000 in
theorem sPattern {p : Nat} {s : ByteArray} {deep : Nat} {A : Nat → Option (Data × Nat)} (hs : s.size ≤ 1000) (hin : ∀ i t j, partAt (gOf s) s.size A i = some (t, j) → i ≤ j ∧ (i ≤ s.size → j ≤ s.size))
    (hP : TellsF 137 p s deep (partAt (gOf s) s.size A)) : TellsF 121 p s deep (patAt (gOf s) s.size A) := by
  intro i w h hi
  have hA := At.start h
  have hp := h.lt
  obtain ⟨R, hR⟩ : ∃ R, R = patAt (gOf s) s.size A i := ⟨_, rfl⟩
  rw [← hR]
  unfold patAt at hR
  obtain ⟨RS, hRS⟩ : ∃ RS, RS = match partAt (gOf s) s.size A i with
    | none => none
    | some (t, j) => patLoop (gOf s) s.size A (s.size + 1) j [t] := ⟨_, rfl⟩
  have HR : Hid (R = patEnd RS) := by
    show R = patEnd RS
    rw [hR, hRS]
    cases partAt (gOf s) s.size A i <;> rfl
  have HL : Hid (RS = match partAt (gOf s) s.size A i with
    | none => none
    | some (t, j) => patLoop (gOf s) s.size A (s.size + 1) j [t]) := hRS
  have hne : ∀ us j, RS = some (us, j) → us ≠ [] := by
    intro us j e
    rw [hRS] at e
    split at e
    · simp at e
    · exact patLoop_ne _ _ _ _ _ _ us j (by simp) e
  clear hR hRS
  obtain ⟨i0, hi0, hz0, hz1, hz2⟩ := info_parts Tryz.info149r
  go_enter Tryz.func121, Tryz.ntmps121
  go_upto_region 1 with fail
  go_cut [5] (fun v wx => (∃ (k : Nat) (t : Data), At p s w k false wx ∧ k ≤ s.size ∧ i ≤ k ∧ Kids wx (w.heap.size + 1) [t] v ∧ patLoop (gOf s) s.size A (s.size + 1) k [t] = RS) ∨ (RS = none ∧ KBad p s w v wx))
  case first =>
    rcases hq : partAt (gOf s) s.size A i with _ | ⟨t, j⟩
    · have HE : Hid (RS = none) := by show RS = _; rw [HL.out, hq]
      clear HL HR hne
      go_wp2_with (go_at_call 137; refine (hP i _ hA.cs hi).mono ?_; intro e w1 h1; obtain ⟨a, b, c, d, u, j', rfl, h5, hC, hgr⟩ := tells_none h1 hq; obtain ⟨y1, y2, y3, y4, y5, y6, y7, rfl, rfl, rfl, rfl, rfl⟩ := h5)
      have hA1 := hA.grown hgr hC
      have hsz := hA1.size
      go_meet
      refine .inr ⟨HE.out, _, 1, _, hA1.alloc _, World.ownsRow_lit w1 #[.int .i64 y1, .int .i64 y2, .string y3, .bool y4, .slice y5 y6 y7] 1 (by omega) (by unfold maxLen; omega) rfl, by omega, fun _ => ⟨_, _, _, _, _, rfl, ⟨y1, y2, y3, y4, y5, y6, y7, rfl, rfl, rfl, rfl, rfl⟩⟩⟩
    · have HE : Hid (patLoop (gOf s) s.size A (s.size + 1) j [t] = RS) := by show _ = RS; rw [HL.out, hq]
      obtain ⟨j1, j2⟩ := hin i t j hq
      clear HL HR hne
      go_wp2_with (go_at_call 137; refine (hP i _ hA.cs hi).mono ?_; intro e w1 h1; obtain ⟨a, b, c, d, u, rfl, hx, hC, hgr⟩ := tells_some h1 hq; obtain ⟨y1, y2, y3, y4, y5, y6, y7, rfl, rfl, rfl, rfl, rfl⟩ := rex_cells hx)
      have hA1 := hA.grown hgr hC
      have hsz := hA1.size
      have hx' : RexIs w1 t (Iv (w.heap.size + 1) w1.heap.size) [.int .i64 y1, .int .i64 y2, .string ⟨y3.toArray⟩, .bool y4, .slice y5 y6 y7] := by simpa using hx
      go_meet
      exact .inl ⟨j, t, hA1.alloc _, j2 hi, j1, kids_first (by omega) hx', HE.out⟩
  case rest =>
  have hc0 := hcut
  clear hA HL h hcut
  go_upto_block 0 with fail
  go_cut [5] (fun v wx => KEnd p s w RS v wx)
  case first =>
    go_wp2_with fail
    go_loopw [5] (fun v wr => (∃ (k f : Nat) (ts : List Data), At p s w k false wr ∧ k ≤ s.size ∧ ts.length ≤ k + 1 ∧ Kids wr (w.heap.size + 1) ts v ∧ s.size < f + k ∧ patLoop (gOf s) s.size A f k ts = RS) ∨ (RS = none ∧ KBad p s w v wr)) (fun _ wr => left p s.size wr)
    case atStart =>
      rcases hc0 with ⟨k, t, hA1, hk, hik, hK, hE⟩ | hB
      · exact .inl ⟨k, s.size + 1, [t], hA1, hk, by simp, hK, by omega, hE⟩
      · exact .inr hB
    case round =>
      clear hc0 hi HR hne
      rcases hrel with ⟨k, f, ts, hA1, hk, hlen, hK, hf, hRk⟩ | ⟨hRS, hB⟩
      · obtain ⟨f, rfl⟩ : ∃ f', f = f' + 1 := ⟨f - 1, by omega⟩
        rw [patLoop_step] at hRk
        have c0 := hA1.cs.text
        have c1 := hA1.cs.pos
        have c2 := hA1.cs.bad
        have f1 := hA1.cs.fr1
        by_cases h124 : gOf s k = 124
        · rw [if_pos h124] at hRk
          have hkl := in_of (s := s) (i := k) (by omega)
          have d1 : decide (gOf s k = 124) = true := decide_eq_true h124
          obtain ⟨k1, hk1⟩ : ∃ k1, k1 = k + 1 := ⟨_, rfl⟩
          have t1 : (k : Int) + 1 = (k1 : Int) := by omega
          have bk : (k : Int) ≤ 1000 := by omega
          have k1s : k1 ≤ s.size := by omega
          rw [← hk1] at hRk
          obtain ⟨xs, S, hown, hks, hS⟩ := hK
          have hsz := hA1.size
          have hl1 : (ts.length : Int) ≤ 1001 := by omega
          have hkk : Hid (k1 = k + 1) := hk1
          clear h124 hk1
          rcases hq : partAt (gOf s) s.size A k1 with _ | ⟨t, j⟩
          · rw [hq] at hRk
            have HE : Hid (RS = none) := hRk.symm
            clear hRk
            go_wp2_with (first | (go_at_call 138; refine (sNow hA1.cs hk 124 124 (by omega) rfl).mono ?_; rintro e wn ⟨rfl, nn, rfl⟩) | (go_at_call 137; refine (hP k1 _ ((hA1.drewN _).pos _).cs k1s).mono ?_; intro e w1 h1; obtain ⟨a, b, c, d, u, j', rfl, h5, hC, hgr⟩ := tells_none h1 hq; obtain ⟨y1, y2, y3, y4, y5, y6, y7, rfl, rfl, rfl, rfl, rfl⟩ := h5; have hg1' : wr.grownBy w1 (some p) := (grown_drewN (World.grownBy.refl _ _) _).trans ((grown_set _ ⟨p, 1, none⟩ _).trans hgr); have hown1 := owns_grown hown hg1' (by omega); have hsz1 := hg1'.size) | (at_builtin; refine wpList_append_own_at _ rfl _ _ 147 rfl (w.heap.size + 1) 149 i0 _ 5 64 Tryz.underlying147 hi0 hz0 hz1 hz2 rfl (by decide) _ _ _ rfl (hown1.alloc _) ⟨w1.heap.size, 0, none⟩ 1 1 [.int .i64 y1, .int .i64 y2, .string y3, .bool y4, .slice y5 y6 y7] rfl rfl (cell_five_new _ _ _ _ _ _) (by simp [Value.oneCell']) (by unfold maxLen; omega) (by omega) (by simp; omega) ?_; intro v' w3 hown3 hgr3 _ hb3))
            have hA2 := (hA1.grown hg1' hC).alloc (.cells #[.int .i64 y1, .int .i64 y2, .string y3, .bool y4, .slice y5 y6 y7] 149)
            have hA3 := hA2.grownOwn hgr3 (fun b hb => by have := (hown.lt b hb).1; omega)
            go_roundw
            case rel =>
              refine .inr ⟨HE.out, _, _, _, hA3, hown3, by omega, fun e => ?_⟩
              have hts : ts.length = 0 := by omega
              have hxs : xs = [] := List.length_eq_zero_iff.1 (by rw [hown.1, hts])
              exact ⟨_, _, _, _, _, by rw [hxs]; rfl, ⟨y1, y2, y3, y4, y5, y6, y7, rfl, rfl, rfl, rfl, rfl⟩⟩
            case measure => exact left_lt_bad hA1.cs hA3.cs hk
          · rw [hq] at hRk
            have HE : Hid (patLoop (gOf s) s.size A f j (ts ++ [t]) = RS) := hRk
            obtain ⟨j1, j2⟩ := hin k1 t j hq
            clear hRk
            go_wp2_with (first | (go_at_call 138; refine (sNow hA1.cs hk 124 124 (by omega) rfl).mono ?_; rintro e wn ⟨rfl, nn, rfl⟩) | (go_at_call 137; refine (hP k1 _ ((hA1.drewN _).pos _).cs k1s).mono ?_; intro e w1 h1; obtain ⟨a, b, c, d, u, rfl, hx, hC, hgr⟩ := tells_some h1 hq; obtain ⟨y1, y2, y3, y4, y5, y6, y7, rfl, rfl, rfl, rfl, rfl⟩ := rex_cells hx; have hg1' : wr.grownBy w1 (some p) := (grown_drewN (World.grownBy.refl _ _) _).trans ((grown_set _ ⟨p, 1, none⟩ _).trans hgr); have hown1 := owns_grown hown hg1' (by omega); have hsz1 := hg1'.size) | (at_builtin; refine wpList_append_own_at _ rfl _ _ 147 rfl (w.heap.size + 1) 149 i0 _ 5 64 Tryz.underlying147 hi0 hz0 hz1 hz2 rfl (by decide) _ _ _ rfl (hown1.alloc _) ⟨w1.heap.size, 0, none⟩ 1 1 [.int .i64 y1, .int .i64 y2, .string ⟨y3.toArray⟩, .bool y4, .slice y5 y6 y7] rfl rfl (cell_five_new _ _ _ _ _ _) (by simp [Value.oneCell']) (by unfold maxLen; omega) (by omega) (by simp; omega) ?_; intro v' w3 hown3 hgr3 _ hb3))
            have hx' : RexIs w1 t (Iv wr.heap.size w1.heap.size) [.int .i64 y1, .int .i64 y2, .string ⟨y3.toArray⟩, .bool y4, .slice y5 y6 y7] := by simpa using hx
            have hA2 := (hA1.grown hg1' hC).alloc (.cells #[.int .i64 y1, .int .i64 y2, .string ⟨y3.toArray⟩, .bool y4, .slice y5 y6 y7] 149)
            have hA3 := hA2.grownOwn hgr3 (fun b hb => by have := (hown.lt b hb).1; omega)
            have hkk' := hkk.out
            go_roundw
            case rel => exact .inl ⟨j, f, ts ++ [t], hA3, j2 k1s, by simp; omega, kids_append hown hks hS (by omega) (by omega) hg1' hx' hown3 hgr3 hb3, by omega, HE.out⟩
            case measure => exact left_lt hA1.cs hA3.cs hk (by omega)
        · rw [if_neg h124] at hRk
          have HE : Hid (RS = some (ts, k)) := hRk.symm
          have d1 : decide (gOf s k = 124) = false := decide_eq_false h124
          clear hRk h124
          go_wp2_with (go_at_call 138; refine (sNow hA1.cs hk 124 124 (by omega) rfl).mono ?_; rintro e wn ⟨rfl, nn, rfl⟩)
          go_meet
          exact .inl ⟨k, ts, HE.out, hk, hA1.drewN _, kids_kept hK (fun _ _ _ => rfl) (Nat.le_refl _)⟩
      · obtain ⟨kb, n, xs, hA1, hown, hn1, hn⟩ := hB
        have HE : Hid (RS = none) := hRS
        clear hRS
        go_wp2_with (go_at_call 138; refine (sNowBad hA1.cs _).mono ?_; rintro e wn ⟨rfl, nn, rfl⟩)
        go_meet
        exact .inr ⟨HE.out, kb, n, xs, hA1.drewN _, hown, hn1, hn⟩
  case rest =>
    clear hc0 hi hP hin
    rcases hcut with ⟨k, ts, hRS, hk, hA1, hK⟩ | ⟨hRS, kb, n, xs, hA1, hown, hn1, hn⟩
    · have v0 := hA1.res.cell
      have u0 := hA1.res.frozen
      rcases ts with _ | ⟨t1, _ | ⟨t2, ts⟩⟩
      · exact absurd rfl (hne _ _ hRS)
      · have HR2 : Hid (R = some (t1, k)) := by show R = _; rw [HR.out, hRS]; rfl
        obtain ⟨g, cap, a, b, c, d, u, rfl, hB, hx, x0, x1, x2, x3, x4⟩ := kids_head hK
        obtain ⟨y1, y2, y3, y4, y5, y6, y7, rfl, rfl, rfl, rfl, rfl⟩ := rex_cells hx
        have hgn : w.heap.size < g := by omega
        clear hK
        go_wp2_with fail
        refine At.retRex (j := k) ?_ Tryz.results121 hx ?_ HR2.out ?_ ?_
        · exact hA1
        · omega
        · rfl
        · rfl
      · have HR2 : Hid (R = some (nd 7 0 [] false (t1 :: t2 :: ts), k)) := by show R = _; rw [HR.out, hRS]; rfl
        have hx := kids_rex hK 7 0 [] false
        obtain ⟨ao, cap, rfl⟩ := kids_len' hK
        obtain ⟨n, hn⟩ : ∃ n, n = (t1 :: t2 :: ts).length := ⟨_, rfl⟩
        rw [← hn] at hx ⊢
        have n0 : ((n : Int) == 0) = false := by rw [hn]; simp; omega
        have n1 : ((n : Int) == 1) = false := by rw [hn]; simp; omega
        clear hn hK
        go_wp2_with fail
        refine At.retRex (j := k) ?_ Tryz.results121 hx ?_ HR2.out ?_ ?_
        · exact hA1
        · omega
        · rfl
        · rfl
    · have v0 := hA1.res.cell
      have u0 := hA1.res.frozen
      have HR2 : Hid (R = none) := by show R = _; rw [HR.out, hRS]; rfl
      by_cases h1 : n = 1
      · obtain ⟨a, b, c, d, u, rfl, h5⟩ := hn h1
        subst h1
        obtain ⟨g, cap, rfl, hB, x0, x1, x2, x3, x4⟩ := owns_head hown
        obtain ⟨y1, y2, y3, y4, y5, y6, y7, rfl, rfl, rfl, rfl, rfl⟩ := h5
        have hgn : w.heap.size < g := by omega
        clear hown hn hn1
        go_wp2_with fail
        refine At.retBad ?_ Tryz.results121 ⟨y1, y2, y3, y4, y5, y6, y7, rfl, rfl, rfl, rfl, rfl⟩ HR2.out ?_ ?_
        · exact ⟨_, hA1⟩
        · rfl
        · rfl
      · obtain ⟨ao, cap, rfl⟩ := owns_len' hown
        have n0 : ((n : Int) == 0) = false := by simp; omega
        have n1 : ((n : Int) == 1) = false := by simp; omega
        clear hown hn hn1 h1
        go_wp2_with fail
        refine At.retBad ?_ Tryz.results121 ⟨7, 0, _, false, _, _, _, rfl, rfl, rfl, rfl, rfl⟩ HR2.out ?_ ?_
        · exact ⟨_, hA1⟩
        · rfl
        · rfl

end Rx
end Go.Proofs.YtkhoccjfkkfipaaGreatDoor
