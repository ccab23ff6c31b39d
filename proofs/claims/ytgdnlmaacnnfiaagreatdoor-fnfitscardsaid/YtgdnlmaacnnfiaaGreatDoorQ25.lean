/-
  patternOf at a Rex of any numbers: it panics, or tells a pattern that is right.
  The program's sameRex at any two Rex: it tells whether they are the same.
-/
import Derived.Test.YtgdnlmaacnnfiaaGreatDoorQ24
namespace Go.Proofs.YtgdnlmaacnnfiaaGreatDoor
open Go.RowKit
namespace Rx

theorem cnt_Z (op c : Int) (s : List UInt8) (no : Bool) (ks : List Data) : cnt (ndZ op c s no ks) = cnts ks + 1 := by simp [ndZ, cnt]
theorem cnt_leaf (op c : Nat) (s : List UInt8) (no : Bool) : cnt (nd op c s no []) = 1 := by rw [cnt_nd]; simp [cnts]

set_option maxHeartbeats 4000000 in
set_option maxRecDepth 100000 in
theorem iPatternOfZ {W : World} {ad : Addr} (hSet : SetOk W) (he : ErrAt ad W) : ∀ (room : Nat) (t : Data), SetsZ t → room ≤ 1000 → cnt t ≤ 100000 → PatOkZ W ad room t := by
  intro room
  induction room with
  | zero =>
    intro t _ _ _ w S a b c d u hW h hS
    obtain ⟨op, cc, ss, no, ao, n, cap, rfl, rfl, rfl, rfl, rfl⟩ := rexZ_cells h
    have he' : ErrAt ad w := he.on hW
    have hlt := World.block_lt_of_cell? w _ he'
    unfold ErrAt at he'
    clear h
    go_enter Tryz.func22, Tryz.ntmps22
    go_wp2_with fail
    exact ⟨rfl, .inr ⟨rfl, (Below.refl _ w).alloc (Nat.le_refl _) _⟩⟩
  | succ room ih =>
    intro t hZ hroom hcnt w S a b c d u hW h hS
    have hrI : (room : Int) ≤ 1000 := by omega
    have r1 : ((room + 1 : Nat) : Int) = (room : Int) + 1 := by omega
    have hb : ∀ o, Below w.heap.size w (w.alloc o) := fun o => (Below.refl _ w).alloc (Nat.le_refl _) o
    obtain ⟨op, cc, ss, no, ks, rfl⟩ := rexZ_node h
    obtain ⟨hZk, hZs⟩ := setsZ_nd hZ
    rw [cnt_Z] at hcnt ⊢
    rw [rexZ_nd] at h
    obtain ⟨v, xs, hcs, hown, hg, hxs⟩ := h
    simp at hcs
    obtain ⟨rfl, rfl, rfl, rfl, rfl⟩ := hcs
    have he' : ∀ o, ErrAt ad (w.alloc o) := fun o => (he.on hW).on (hb o)
    have hlt0 := World.block_lt_of_cell? w _ (he.on hW)
    obtain ⟨ao, cap, rfl⟩ := owns_slice hown
    rw [r1]
    by_cases h1 : op = 1
    · subst h1
      obtain ⟨b', hb', hw8⟩ : ∃ b' : Nat, b' < 256 ∧ IntKind.u8.wrap cc = b' := ⟨(cc % 256).toNat, by omega, by rw [IntKind.wrap_u8]; omega⟩
      clear hown ih hxs hg he'
      go_enter Tryz.func22, Tryz.ntmps22
      go_wp2_with fail
      go_ret
      exact .inl ⟨chr b', _, rfl, .inl ⟨b', hb', rfl⟩, by unfold chr; rw [cnt_leaf]; omega, pat_leaf (.inl ⟨rfl, hb', rfl, rfl, rfl⟩), hb _⟩
    by_cases h2 : op = 2
    · subst h2
      clear hown ih hxs hg he'
      go_enter Tryz.func22, Tryz.ntmps22
      go_wp2_with fail
      go_ret
      exact .inl ⟨leaf 2, _, rfl, .inr (.inl ⟨2, .inl rfl, rfl⟩), by unfold leaf; rw [cnt_leaf]; omega, pat_leaf (.inr (.inl ⟨rfl, rfl, rfl, rfl, rfl⟩)), hb _⟩
    by_cases h3 : op = 3
    · subst h3
      obtain ⟨o1, ho1⟩ : ∃ o1, o1 = Obj.cells #[.int .i64 3, .int .i64 cc, .string ⟨ss.toArray⟩, .bool no, .slice ao ks.length cap] 26 := ⟨_, rfl⟩
      rcases hZs with ⟨M, hM, rfl⟩ | rfl | rfl
      · have call := hSet M no (w.alloc o1) hM (hW.alloc hW.size _)
        subst ho1
        clear hown ih hxs hg he'
        go_enter Tryz.func22, Tryz.ntmps22
        go_wp2_with (go_at_call 53; refine call.mono ?_; rintro e w2 ⟨rfl, hb2⟩)
        go_ret
        exact .inl ⟨setOf M no, _, rfl, .inr (.inr (.inl ⟨M, no, hM, rfl⟩)), by unfold setOf; rw [cnt_leaf]; omega, pat_leaf (.inr (.inr (.inl ⟨rfl, rfl, rfl⟩))), (hb _).trans (hb2.mono (by simp))⟩
      · have call := iSetNone ad no (w.alloc o1) (he' o1)
        subst ho1
        clear hown ih hxs hg he'
        go_enter Tryz.func22, Tryz.ntmps22
        go_wp2_with (go_at_call 53; refine call.mono ?_; rintro e w2 ⟨rfl, hb2⟩)
        exact ⟨rfl, .inr ⟨rfl, (hb _).trans (hb2.mono (by simp))⟩⟩
      · have call := iSetBa ad no (w.alloc o1) (he' o1)
        subst ho1
        clear hown ih hxs hg he'
        go_enter Tryz.func22, Tryz.ntmps22
        go_wp2_with (go_at_call 53; refine call.mono ?_; rintro e w2 ⟨rfl, hb2⟩)
        exact ⟨rfl, .inr ⟨rfl, (hb _).trans (hb2.mono (by simp))⟩⟩
    by_cases h4 : op = 4
    · subst h4
      clear hown ih hxs hg he'
      go_enter Tryz.func22, Tryz.ntmps22
      go_wp2_with fail
      go_ret
      exact .inl ⟨leaf 4, _, rfl, .inr (.inl ⟨4, .inr (.inl rfl), rfl⟩), by unfold leaf; rw [cnt_leaf]; omega, pat_leaf (.inr (.inr (.inr (.inl ⟨rfl, rfl, rfl, rfl, rfl⟩)))), hb _⟩
    by_cases h5 : op = 5
    · subst h5
      clear hown ih hxs hg he'
      go_enter Tryz.func22, Tryz.ntmps22
      go_wp2_with fail
      go_ret
      exact .inl ⟨leaf 5, _, rfl, .inr (.inl ⟨5, .inr (.inr (.inl rfl)), rfl⟩), by unfold leaf; rw [cnt_leaf]; omega, pat_leaf (.inr (.inr (.inr (.inr (.inl ⟨rfl, rfl, rfl, rfl, rfl⟩))))), hb _⟩
    by_cases h6 : op = 6
    · subst h6
      obtain ⟨o1, ho1⟩ : ∃ o1, o1 = Obj.cells #[.int .i64 6, .int .i64 cc, .string ⟨ss.toArray⟩, .bool no, .slice ao ks.length cap] 26 := ⟨_, rfl⟩
      have hlt : ∀ b, Value.ownBlock (.slice ao ks.length cap) = some b → b < w.heap.size := fun b hb => (hown.lt b hb).2
      have hlen := cnts_len ks
      have call : Calls Tryz.prog 54 #[.slice ao ks.length cap, .int .i64 room] (w.alloc o1) fun e w' => (∃ ts v, e = .returned v ∧ 2 ≤ ts.length ∧ (∀ t ∈ ts, RightD room t) ∧ cnts ts ≤ cnts ks ∧ Pats w' (w.alloc o1).heap.size ts v ∧ Below (w.alloc o1).heap.size (w.alloc o1) w') ∨ NoPat ad (w.alloc o1) e w' := by
        by_cases hl : ks.length < 2
        · exact (iManyFew room _ (w.alloc o1) xs (he' o1) hl (owns_same hown fun b hb' => Below.heap_alloc _ _ _ (hlt b hb'))).mono fun e w' h => .inr h
        · exact iManyOfZ (by omega) (fun t ht => ih t (setsZs_mem hZk ht) (by omega) (by have := cnts_mem ht; omega)) (by omega) (by omega) (w.alloc o1) (hW.alloc hW.size _) _ _ _ (owns_same hown fun b hb' => Below.heap_alloc _ _ _ (hlt b hb')) (rexZs_frame_of _ _ _ (fun t _ => rexZ_frame t) (fun b hb' => Below.heap_alloc _ _ _ (hS b hb'.1)) hxs) (fun b hb' => by have := hS b hb'.1; simp; omega)
      subst ho1
      clear hown ih hxs hg he'
      go_enter Tryz.func22, Tryz.ntmps22
      go_wp2_with fail
      refine call.mono ?_
      rintro e w2 (⟨ts, v2, rfl, h2, hR2, hc2, hv2, hb2⟩ | ⟨rfl, hb2⟩)
      · go_wp2_with fail
        go_ret
        exact .inl ⟨nd 6 0 [] false ts, _, rfl, .inr (.inr (.inr (.inr ⟨6, ts, .inl rfl, rfl, h2, hR2⟩))), by rw [cnt_nd]; omega, pat_frame (fun _ _ => rfl) (fun b hb' => ⟨by have := hb'.1; simp at this; omega, hb'.2⟩) _ _ (pats_pat hv2).1, (hb _).trans (hb2.mono (by simp))⟩
      · exact ⟨rfl, .inr ⟨rfl, (hb _).trans (hb2.mono (by simp))⟩⟩
    by_cases h7 : op = 7
    · subst h7
      obtain ⟨o1, ho1⟩ : ∃ o1, o1 = Obj.cells #[.int .i64 7, .int .i64 cc, .string ⟨ss.toArray⟩, .bool no, .slice ao ks.length cap] 26 := ⟨_, rfl⟩
      have hlt : ∀ b, Value.ownBlock (.slice ao ks.length cap) = some b → b < w.heap.size := fun b hb => (hown.lt b hb).2
      have hlen := cnts_len ks
      have call : Calls Tryz.prog 54 #[.slice ao ks.length cap, .int .i64 room] (w.alloc o1) fun e w' => (∃ ts v, e = .returned v ∧ 2 ≤ ts.length ∧ (∀ t ∈ ts, RightD room t) ∧ cnts ts ≤ cnts ks ∧ Pats w' (w.alloc o1).heap.size ts v ∧ Below (w.alloc o1).heap.size (w.alloc o1) w') ∨ NoPat ad (w.alloc o1) e w' := by
        by_cases hl : ks.length < 2
        · exact (iManyFew room _ (w.alloc o1) xs (he' o1) hl (owns_same hown fun b hb' => Below.heap_alloc _ _ _ (hlt b hb'))).mono fun e w' h => .inr h
        · exact iManyOfZ (by omega) (fun t ht => ih t (setsZs_mem hZk ht) (by omega) (by have := cnts_mem ht; omega)) (by omega) (by omega) (w.alloc o1) (hW.alloc hW.size _) _ _ _ (owns_same hown fun b hb' => Below.heap_alloc _ _ _ (hlt b hb')) (rexZs_frame_of _ _ _ (fun t _ => rexZ_frame t) (fun b hb' => Below.heap_alloc _ _ _ (hS b hb'.1)) hxs) (fun b hb' => by have := hS b hb'.1; simp; omega)
      subst ho1
      clear hown ih hxs hg he'
      go_enter Tryz.func22, Tryz.ntmps22
      go_wp2_with fail
      refine call.mono ?_
      rintro e w2 (⟨ts, v2, rfl, h2, hR2, hc2, hv2, hb2⟩ | ⟨rfl, hb2⟩)
      · go_wp2_with fail
        go_ret
        exact .inl ⟨nd 7 0 [] false ts, _, rfl, .inr (.inr (.inr (.inr ⟨7, ts, .inr rfl, rfl, h2, hR2⟩))), by rw [cnt_nd]; omega, pat_frame (fun _ _ => rfl) (fun b hb' => ⟨by have := hb'.1; simp at this; omega, hb'.2⟩) _ _ (pats_pat hv2).2, (hb _).trans (hb2.mono (by simp))⟩
      · exact ⟨rfl, .inr ⟨rfl, (hb _).trans (hb2.mono (by simp))⟩⟩
    by_cases h8 : op = 8
    · subst h8
      obtain ⟨o1, ho1⟩ : ∃ o1, o1 = Obj.cells #[.int .i64 8, .int .i64 cc, .string ⟨ss.toArray⟩, .bool no, .slice ao ks.length cap] 26 := ⟨_, rfl⟩
      have hlt : ∀ b, Value.ownBlock (.slice ao ks.length cap) = some b → b < w.heap.size := fun b hb => (hown.lt b hb).2
      have call : Calls Tryz.prog 55 #[.slice ao ks.length cap, .int .i64 room] (w.alloc o1) fun e w' => PatRetZ ad room (cnts ks) (w.alloc o1) e w' := by
        by_cases hl : ks.length = 1
        · obtain ⟨k, rfl⟩ : ∃ k, ks = [k] := List.length_eq_one_iff.1 hl
          have h := iOnlyOfZ (by omega) (ih k (setsZs_mem hZk (by simp)) (by omega) (by simp [cnts] at hcnt; omega)) (w.alloc o1) (hW.alloc hW.size _) _ _ _ (owns_same hown fun b hb' => Below.heap_alloc _ _ _ (hlt b hb')) (rexZs_frame_of _ _ _ (fun t _ => rexZ_frame t) (fun b hb' => Below.heap_alloc _ _ _ (hS b hb'.1)) hxs) (fun b hb' => by have := hS b hb'.1; simp; omega)
          have e : cnts [k] = cnt k := by simp [cnts]
          rw [e]
          exact h
        · exact (iOnlyNot room _ (w.alloc o1) xs (he' o1) hl (owns_same hown fun b hb' => Below.heap_alloc _ _ _ (hlt b hb'))).mono fun e w' h => .inr h
      have hend : ∀ t2 w2 v2, PatIs w2 t2 (Iv (w.alloc o1).heap.size w2.heap.size) v2 → PatIs w2 t2 (Iv w.heap.size w2.heap.size) v2 := fun t2 w2 v2 hv => pat_frame (fun _ _ => rfl) (fun b hb' => ⟨by have := hb'.1; simp at this; omega, hb'.2⟩) t2 v2 hv
      subst ho1
      clear hown ih hxs hg he'
      go_enter Tryz.func22, Tryz.ntmps22
      go_wp2_with fail
      refine call.mono ?_
      rintro e w2 (⟨t2, v2, rfl, hR2, hc2, hv2, hb2⟩ | ⟨rfl, hb2⟩)
      · obtain ⟨T2, y2, rfl⟩ := pat_iface hv2
        go_wp2_with fail
        go_ret
        exact .inl ⟨one 8 t2, _, rfl, .inr (.inr (.inr (.inl ⟨8, t2, .inl rfl, rfl, hR2⟩))), by unfold one; rw [cnt_nd]; simp [cnts]; omega, (pat_one (hend _ _ _ hv2)).1, (hb _).trans (hb2.mono (by simp))⟩
      · exact ⟨rfl, .inr ⟨rfl, (hb _).trans (hb2.mono (by simp))⟩⟩
    by_cases h9 : op = 9
    · subst h9
      obtain ⟨o1, ho1⟩ : ∃ o1, o1 = Obj.cells #[.int .i64 9, .int .i64 cc, .string ⟨ss.toArray⟩, .bool no, .slice ao ks.length cap] 26 := ⟨_, rfl⟩
      have hlt : ∀ b, Value.ownBlock (.slice ao ks.length cap) = some b → b < w.heap.size := fun b hb => (hown.lt b hb).2
      have call : Calls Tryz.prog 55 #[.slice ao ks.length cap, .int .i64 room] (w.alloc o1) fun e w' => PatRetZ ad room (cnts ks) (w.alloc o1) e w' := by
        by_cases hl : ks.length = 1
        · obtain ⟨k, rfl⟩ : ∃ k, ks = [k] := List.length_eq_one_iff.1 hl
          have h := iOnlyOfZ (by omega) (ih k (setsZs_mem hZk (by simp)) (by omega) (by simp [cnts] at hcnt; omega)) (w.alloc o1) (hW.alloc hW.size _) _ _ _ (owns_same hown fun b hb' => Below.heap_alloc _ _ _ (hlt b hb')) (rexZs_frame_of _ _ _ (fun t _ => rexZ_frame t) (fun b hb' => Below.heap_alloc _ _ _ (hS b hb'.1)) hxs) (fun b hb' => by have := hS b hb'.1; simp; omega)
          have e : cnts [k] = cnt k := by simp [cnts]
          rw [e]
          exact h
        · exact (iOnlyNot room _ (w.alloc o1) xs (he' o1) hl (owns_same hown fun b hb' => Below.heap_alloc _ _ _ (hlt b hb'))).mono fun e w' h => .inr h
      have hend : ∀ t2 w2 v2, PatIs w2 t2 (Iv (w.alloc o1).heap.size w2.heap.size) v2 → PatIs w2 t2 (Iv w.heap.size w2.heap.size) v2 := fun t2 w2 v2 hv => pat_frame (fun _ _ => rfl) (fun b hb' => ⟨by have := hb'.1; simp at this; omega, hb'.2⟩) t2 v2 hv
      subst ho1
      clear hown ih hxs hg he'
      go_enter Tryz.func22, Tryz.ntmps22
      go_wp2_with fail
      refine call.mono ?_
      rintro e w2 (⟨t2, v2, rfl, hR2, hc2, hv2, hb2⟩ | ⟨rfl, hb2⟩)
      · obtain ⟨T2, y2, rfl⟩ := pat_iface hv2
        go_wp2_with fail
        go_ret
        exact .inl ⟨one 9 t2, _, rfl, .inr (.inr (.inr (.inl ⟨9, t2, .inr (.inl rfl), rfl, hR2⟩))), by unfold one; rw [cnt_nd]; simp [cnts]; omega, (pat_one (hend _ _ _ hv2)).2.1, (hb _).trans (hb2.mono (by simp))⟩
      · exact ⟨rfl, .inr ⟨rfl, (hb _).trans (hb2.mono (by simp))⟩⟩
    by_cases h10 : op = 10
    · subst h10
      obtain ⟨o1, ho1⟩ : ∃ o1, o1 = Obj.cells #[.int .i64 10, .int .i64 cc, .string ⟨ss.toArray⟩, .bool no, .slice ao ks.length cap] 26 := ⟨_, rfl⟩
      have hlt : ∀ b, Value.ownBlock (.slice ao ks.length cap) = some b → b < w.heap.size := fun b hb => (hown.lt b hb).2
      have call : Calls Tryz.prog 55 #[.slice ao ks.length cap, .int .i64 room] (w.alloc o1) fun e w' => PatRetZ ad room (cnts ks) (w.alloc o1) e w' := by
        by_cases hl : ks.length = 1
        · obtain ⟨k, rfl⟩ : ∃ k, ks = [k] := List.length_eq_one_iff.1 hl
          have h := iOnlyOfZ (by omega) (ih k (setsZs_mem hZk (by simp)) (by omega) (by simp [cnts] at hcnt; omega)) (w.alloc o1) (hW.alloc hW.size _) _ _ _ (owns_same hown fun b hb' => Below.heap_alloc _ _ _ (hlt b hb')) (rexZs_frame_of _ _ _ (fun t _ => rexZ_frame t) (fun b hb' => Below.heap_alloc _ _ _ (hS b hb'.1)) hxs) (fun b hb' => by have := hS b hb'.1; simp; omega)
          have e : cnts [k] = cnt k := by simp [cnts]
          rw [e]
          exact h
        · exact (iOnlyNot room _ (w.alloc o1) xs (he' o1) hl (owns_same hown fun b hb' => Below.heap_alloc _ _ _ (hlt b hb'))).mono fun e w' h => .inr h
      have hend : ∀ t2 w2 v2, PatIs w2 t2 (Iv (w.alloc o1).heap.size w2.heap.size) v2 → PatIs w2 t2 (Iv w.heap.size w2.heap.size) v2 := fun t2 w2 v2 hv => pat_frame (fun _ _ => rfl) (fun b hb' => ⟨by have := hb'.1; simp at this; omega, hb'.2⟩) t2 v2 hv
      subst ho1
      clear hown ih hxs hg he'
      go_enter Tryz.func22, Tryz.ntmps22
      go_wp2_with fail
      refine call.mono ?_
      rintro e w2 (⟨t2, v2, rfl, hR2, hc2, hv2, hb2⟩ | ⟨rfl, hb2⟩)
      · obtain ⟨T2, y2, rfl⟩ := pat_iface hv2
        go_wp2_with fail
        go_ret
        exact .inl ⟨one 10 t2, _, rfl, .inr (.inr (.inr (.inl ⟨10, t2, .inr (.inr rfl), rfl, hR2⟩))), by unfold one; rw [cnt_nd]; simp [cnts]; omega, (pat_one (hend _ _ _ hv2)).2.2, (hb _).trans (hb2.mono (by simp))⟩
      · exact ⟨rfl, .inr ⟨rfl, (hb _).trans (hb2.mono (by simp))⟩⟩
    by_cases h11 : op = 11
    · subst h11
      clear hown ih hxs hg he'
      go_enter Tryz.func22, Tryz.ntmps22
      go_wp2_with fail
      go_ret
      exact .inl ⟨leaf 11, _, rfl, .inr (.inl ⟨11, .inr (.inr (.inr rfl)), rfl⟩), by unfold leaf; rw [cnt_leaf]; omega, pat_leaf (.inr (.inr (.inr (.inr (.inr ⟨rfl, rfl, rfl, rfl, rfl⟩))))), hb _⟩
    have e1 : (op == 1) = false := by simp [h1]
    have e2 : (op == 2) = false := by simp [h2]
    have e3 : (op == 3) = false := by simp [h3]
    have e4 : (op == 4) = false := by simp [h4]
    have e5 : (op == 5) = false := by simp [h5]
    have e6 : (op == 6) = false := by simp [h6]
    have e7 : (op == 7) = false := by simp [h7]
    have e8 : (op == 8) = false := by simp [h8]
    have e9 : (op == 9) = false := by simp [h9]
    have e10 : (op == 10) = false := by simp [h10]
    have e11 : (op == 11) = false := by simp [h11]
    have hE := he.on hW
    unfold ErrAt at hE
    clear h1 h2 h3 h4 h5 h6 h7 h8 h9 h10 h11 hown ih hxs hg he'
    go_enter Tryz.func22, Tryz.ntmps22
    go_wp2_with fail
    exact ⟨rfl, .inr ⟨rfl, hb _⟩⟩
end Rx
end Go.Proofs.YtgdnlmaacnnfiaaGreatDoor

namespace Go.Proofs.YtgdnlmaacnnfiaaGreatDoor
open Go.RowKit
namespace Rx

/-- Told: whether P. -/
def TellsSame (P : Prop) (w : World) (e : Ending) (w' : World) : Prop := ∃ b, e = .returned (.bool b) ∧ (b = true ↔ P) ∧ Below w.heap.size w w'
def SameOkZ (t t' : Data) : Prop := ∀ (w : World) (S1 S2 : Nat → Prop) (a b c d u a' b' c' d' u' : Value), RexZ w t S1 [a, b, c, d, u] → RexZ w t' S2 [a', b', c', d', u'] → (∀ k, S1 k → k < w.heap.size) → (∀ k, S2 k → k < w.heap.size) →
  Calls Tryz.prog 31 #[.agg #[a, b, c, d, u], .agg #[a', b', c', d', u']] w fun e w' => TellsSame (t = t') w e w'

theorem take_same {ks ks' : List Data} (hl : ks.length = ks'.length) (h : ∀ i, i < ks.length → ks[i]? = ks'[i]?) : ks = ks' := by
  refine List.ext_getElem? fun i => ?_
  by_cases hi : i < ks.length
  · exact h i hi
  · rw [List.getElem?_eq_none (by omega), List.getElem?_eq_none (by omega)]

set_option maxHeartbeats 1000000 in
set_option maxRecDepth 100000 in
theorem iEqualFuncZ {ks ks' : List Data} (hk : ∀ t ∈ ks, ∀ t' ∈ ks', SameOkZ t t') (hn : ks.length ≤ 100000) (hn' : ks'.length ≤ 100000) (w : World) (S1 S2 : Nat → Prop) (v v' : Value) (xs ys : List Value) (ho : w.ownsRow 0 26 5 v ks.length xs) (ho' : w.ownsRow 0 26 5 v' ks'.length ys)
    (hx : RexZs w ks S1 xs) (hy : RexZs w ks' S2 ys) (hS1 : ∀ k, S1 k → k < w.heap.size) (hS2 : ∀ k, S2 k → k < w.heap.size) :
    Calls Tryz.prog 63 #[v, v', .func (.func 31) #[] #[]] w fun e w' => TellsSame (ks = ks') w e w' := by
  obtain ⟨ao, cap, rfl⟩ := owns_slice ho
  obtain ⟨ao', cap', rfl⟩ := owns_slice ho'
  have hnI : (ks.length : Int) ≤ 100000 := by omega
  have hnI' : (ks'.length : Int) ≤ 100000 := by omega
  by_cases hl : ks.length = ks'.length
  · have HL : Hid (ks.length = ks'.length) := hl
    rw [← hl]
    clear hnI' hl
    go_enter Tryz.func63, Tryz.ntmps63
    go_wp2_with fail
    go_loopw [17] (fun i wr => ∃ k : Nat, k ≤ ks.length ∧ i = .int .i64 k ∧ (∀ i, i < k → ks[i]? = ks'[i]?) ∧ Below w.heap.size w wr) (fun i _ => ks.length - (intOf i).toNat)
    case atStart => exact ⟨0, Nat.zero_le _, rfl, fun i hi => absurd hi (Nat.not_lt_zero _), Below.refl _ _⟩
    case round =>
      obtain ⟨k, hkn, rfl, hall, hb⟩ := hrel
      have hsz := hb.size
      by_cases hkl : k < ks.length
      · have hkl' : k < ks'.length := HL.out ▸ hkl
        have hki : ks[k]? = some ks[k] := List.getElem?_eq_getElem hkl
        have hki' : ks'[k]? = some ks'[k] := List.getElem?_eq_getElem hkl'
        obtain ⟨T1, a, b, c, d, u, x0, x1, x2, x3, x4, hr1, hs1⟩ := rexZs_at hx hki
        obtain ⟨T2, a', b', c', d', u', y0, y1, y2, y3, y4, hr2, hs2⟩ := rexZs_at hy hki'
        obtain ⟨g, rfl, hg, hc⟩ := row_cells ho hkl
        obtain ⟨g', rfl, hg', hc'⟩ := row_cells ho' hkl'
        have cc : ∀ j x, xs[j]? = some x → wr.cell? ⟨g, j, none⟩ = some x := fun j x hx => (hb.cell (p := ⟨g, j, none⟩) hg).trans (hc j x hx)
        have cc' : ∀ j x, ys[j]? = some x → wr.cell? ⟨g', j, none⟩ = some x := fun j x hx => (hb.cell (p := ⟨g', j, none⟩) hg').trans (hc' j x hx)
        have p0 := cc _ _ x0
        have p1 := cc _ _ x1
        have p2 := cc _ _ x2
        have p3 := cc _ _ x3
        have p4 := cc _ _ x4
        have q0 := cc' _ _ y0
        have q1 := cc' _ _ y1
        have q2 := cc' _ _ y2
        have q3 := cc' _ _ y3
        have q4 := cc' _ _ y4
        have hg2 : g < wr.heap.size := by omega
        have hg2' : g' < wr.heap.size := by omega
        obtain ⟨op, c1, ss, no, a1, n1, cap1, rfl, rfl, rfl, rfl, rfl⟩ := rexZ_cells hr1
        obtain ⟨op', c1', ss', no', a1', n1', cap1', rfl, rfl, rfl, rfl, rfl⟩ := rexZ_cells hr2
        obtain ⟨w2, hw2⟩ : ∃ w2, w2 = (wr.alloc (.cells #[.int .i64 op, .int .i64 c1, .string ⟨ss.toArray⟩, .bool no, .slice a1 n1 cap1] 26)).alloc (.cells #[.int .i64 op', .int .i64 c1', .string ⟨ss'.toArray⟩, .bool no', .slice a1' n1' cap1'] 26) := ⟨_, rfl⟩
        have hb2 : Below wr.heap.size wr w2 := by rw [hw2]; exact ((Below.refl _ wr).alloc (Nat.le_refl _) _).alloc (by simp) _
        have call := hk ks[k] (List.getElem_mem hkl) ks'[k] (List.getElem_mem hkl') w2 T1 T2 _ _ _ _ _ _ _ _ _ _ (rexZ_frame (w' := w2) _ _ _ (fun j hj => (hb2.block j (by have := hS1 j (hs1 j hj); omega)).trans (hb.block j (hS1 j (hs1 j hj)))) hr1) (rexZ_frame (w' := w2) _ _ _ (fun j hj => (hb2.block j (by have := hS2 j (hs2 j hj); omega)).trans (hb.block j (hS2 j (hs2 j hj)))) hr2) (fun j hj => by have := hS1 j (hs1 j hj); have := hb2.size; omega) (fun j hj => by have := hS2 j (hs2 j hj); have := hb2.size; omega)
        subst hw2
        obtain ⟨P, hP⟩ : ∃ P : Prop, P = (ks[k] = ks'[k]) := ⟨_, rfl⟩
        rw [← hP] at call
        have HP : Hid (P = (ks[k] = ks'[k])) := hP
        have HA : Hid (∀ i, i < k → ks[i]? = ks'[i]?) := hall
        clear x0 x1 x2 x3 x4 y0 y1 y2 y3 y4 hc hc' cc cc' hr1 hr2 hs1 hs2 hx hy ho ho' hk hP hall
        go_wp2_with fail
        refine call.mono ?_
        rintro e w3 ⟨b, rfl, hbP, hb3⟩
        cases b with
        | true =>
          have HE : Hid (ks[k]? = ks'[k]?) := by
            show _ = _
            rw [hki, hki', ← HP.out.mp (hbP.1 rfl)]
          clear hki hki' hbP
          go_wp2_with fail
          go_roundw
          case rel =>
            refine ⟨k + 1, by omega, by go_num, fun i hi => ?_, hb.trans ((hb2.trans (hb3.mono (by simp; omega))).mono hsz)⟩
            rcases Nat.lt_or_ge i k with h | h
            · exact HA.out i h
            · obtain rfl : i = k := by omega
              exact HE.out
          case measure => simp [intOf]; omega
        | false =>
          have HN : Hid (¬ ks = ks') := fun e => by
            have : ¬ P := fun h => by simpa using hbP.2 h
            refine this (HP.out.mpr ?_)
            have e2 : ks[k]? = ks'[k]? := by rw [e]
            rw [hki, hki'] at e2
            exact Option.some.inj e2
          clear hki hki' hbP
          go_wp2_with fail
          go_ret
          exact ⟨false, rfl, by simpa using HN.out, hb.trans ((hb2.trans (hb3.mono (by simp; omega))).mono hsz)⟩
      · obtain rfl : k = ks.length := by omega
        have HE : Hid (ks = ks') := take_same HL.out hall
        clear hall
        go_wp2_with fail
        go_ret
        exact ⟨true, rfl, by simpa using HE.out, hb⟩
  · have hlI : ((ks.length : Int) != (ks'.length : Int)) = true := by simp; omega
    have HN : Hid (¬ ks = ks') := fun e => hl (by rw [e])
    clear hl
    go_enter Tryz.func63, Tryz.ntmps63
    go_wp2_with fail
    go_ret
    exact ⟨false, rfl, by simpa using HN.out, Below.refl _ _⟩

end Rx
end Go.Proofs.YtgdnlmaacnnfiaaGreatDoor

