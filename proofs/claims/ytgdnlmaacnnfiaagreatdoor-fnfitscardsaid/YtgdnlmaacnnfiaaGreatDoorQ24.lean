/-
  Lists of numbers of our own that are sorted, and runs made one.
  The program's list of places: next, put, putFork, forkHere: how many there are.
-/
import Derived.Test.YtgdnlmaacnnfiaaGreatDoorQ15
import Derived.Test.YtgdnlmaacnnfiaaGreatDoorQ01
import Derived.Sort.OwnSortedInts
import Derived.Test.YtgdnlmaacnnfiaaGreatDoorQ08
namespace Go.Proofs.YtgdnlmaacnnfiaaGreatDoor
open Go.RowKit
namespace Mt
open Rx Clo

def sortL (l : List Int) : List Int := l.mergeSort fun x y => decide (x ≤ y)
theorem sortL_len (l : List Int) : (sortL l).length = l.length := by unfold sortL; exact List.length_mergeSort _
theorem sortL_mem (l : List Int) (x : Int) : x ∈ sortL l ↔ x ∈ l := by unfold sortL; exact List.mem_mergeSort
theorem sortL_up (l : List Int) : (sortL l).Pairwise (· ≤ ·) := by
  have h := List.pairwise_mergeSort (le := fun x y : Int => decide (x ≤ y)) (fun a b c h1 h2 => by simp at *; omega) (fun a b => by simp; omega) l
  unfold sortL
  exact h.imp fun h => by simpa using h

theorem iSort {B : Nat} {v : Value} {l : List Int} {w : World} (h : w.ownsRow B 3 1 v l.length (ints l)) (hl : l.length ≤ 4000000) :
    Calls Tryz.prog 73 #[v] w fun e w' => e = .returned (.tuple #[]) ∧ w'.ownsRow B 3 1 v l.length (ints (sortL l)) ∧ w.grownBy w' v.ownBlock := by
  rcases Nat.eq_zero_or_pos l.length with h0 | h0
  · obtain ⟨ao, cap, rfl⟩ := owns_len h
    have hn : l = [] := List.eq_nil_of_length_eq_zero h0
    subst hn
    refine (Tryz.slices_Sort_int_none ao cap w).mono ?_
    rintro e w' ⟨rfl, rfl⟩
    exact ⟨rfl, by simpa [sortL] using h, World.grownBy.refl _ _⟩
  · rcases h.2 with ⟨_, h1⟩ | ⟨g, cap, cur, rfl, hg, hh, h1, h2, h3, h4⟩
    · omega
    · have hH := holds_of_blockI (ss := l) hh (by simpa [ints] using h4)
      refine (Tryz.slices_Sort_int g 0 cap l w hH (heap_lt hh) (by omega)).mono ?_
      rintro e w' ⟨rfl, n, os, rfl⟩
      exact ⟨rfl, ownsRow_sortedI (ts := sortL l) (sortL_len l) hg hh h1 h2 h3, grownBy_sortedI _⟩

theorem owns_prefix {w : World} {base e g n cap : Nat} {xs ys : List Value} (h : w.ownsRow base e 1 (.slice (some ⟨g, 0, none⟩) n cap) n (xs ++ ys)) : w.ownsRow base e 1 (.slice (some ⟨g, 0, none⟩) xs.length cap) xs.length xs := by
  have hl := h.1
  rw [List.length_append, Nat.mul_one] at hl
  rcases h.2 with ⟨h0, _⟩ | ⟨g', cap', cur, he, hg, hh, h1, h2, h3, h4⟩
  · cases h0
  · cases he
    refine ⟨by omega, .inr ⟨g, cap, cur, rfl, hg, hh, by omega, h2, h3, ?_⟩⟩
    rw [Nat.mul_one] at h4 ⊢
    have : cur.toList.take xs.length = (cur.toList.take n).take xs.length := by rw [List.take_take]; congr 1; omega
    rw [this, h4, List.take_left]

theorem compactUp {d : Array Int} (hs : ∀ i j, i ≤ j → j < d.size → d[i]! ≤ d[j]!) : ∀ m, m ≤ d.size →
    (∀ x, x ∈ Lib.compactUpTo d m ↔ ∃ j, j < m ∧ d[j]! = x) ∧ (Lib.compactUpTo d m).Pairwise (· < ·) := by
  intro m
  induction m with
  | zero => intro _; simp [Lib.compactUpTo]
  | succ m ih =>
    intro hm
    obtain ⟨h1, h2⟩ := ih (by omega)
    rw [Lib.compactUpTo_succ]
    by_cases hk : Lib.keeps d m = true
    · rw [if_pos hk]
      constructor
      · intro x
        rw [List.mem_append, h1]
        constructor
        · rintro (⟨j, hj, e⟩ | h)
          · exact ⟨j, by omega, e⟩
          · simp at h; exact ⟨m, by omega, h.symm⟩
        · rintro ⟨j, hj, e⟩
          rcases Nat.lt_or_ge j m with h | h
          · exact .inl ⟨j, h, e⟩
          · have : j = m := by omega
            subst this
            exact .inr (by simp [e])
      · rw [List.pairwise_append]
        refine ⟨h2, by simp, fun a ha b hb => ?_⟩
        simp at hb
        subst hb
        obtain ⟨j, hj, rfl⟩ := (h1 a).1 ha
        have h3 := hs j (m - 1) (by omega) (by omega)
        have h4 := hs (m - 1) m (by omega) (by omega)
        simp [Lib.keeps] at hk
        rcases hk with hk | hk
        · omega
        · omega
    · rw [if_neg hk]
      simp [Lib.keeps] at hk
      refine ⟨fun x => ?_, by simpa using h2⟩
      rw [List.append_nil, h1]
      constructor
      · rintro ⟨j, hj, e⟩
        exact ⟨j, by omega, e⟩
      · rintro ⟨j, hj, e⟩
        rcases Nat.lt_or_ge j m with h | h
        · exact ⟨j, h, e⟩
        · have : j = m := by omega
          subst this
          exact ⟨j - 1, by omega, by rw [← e, hk.2]⟩

theorem sorted_at {l : List Int} (h : l.Pairwise (· ≤ ·)) : ∀ i j, i ≤ j → j < l.toArray.size → l.toArray[i]! ≤ l.toArray[j]! := by
  intro i j hij hj
  have hj' : j < l.length := by simpa using hj
  rw [getElem!_pos _ i (by simp; omega), getElem!_pos _ j hj]
  rcases Nat.eq_or_lt_of_le hij with e | h1
  · subst e; exact Int.le_refl _
  · have := List.pairwise_iff_getElem.1 h i j (by omega) hj' h1
    simpa using this

/-- Runs of equals of a sorted list are one. -/
theorem compact_sorted {l : List Int} (h : l.Pairwise (· ≤ ·)) : (∀ x, x ∈ Lib.compact l ↔ x ∈ l) ∧ (Lib.compact l).Pairwise (· < ·) := by
  obtain ⟨h1, h2⟩ := compactUp (sorted_at h) l.length (by simp)
  refine ⟨fun x => ?_, h2⟩
  unfold Lib.compact
  rw [h1]
  constructor
  · rintro ⟨j, hj, rfl⟩
    rw [getElem!_pos _ j (by simpa using hj)]
    simp
  · intro hx
    obtain ⟨j, hj, rfl⟩ := List.getElem_of_mem hx
    exact ⟨j, hj, by rw [getElem!_pos _ j (by simpa using hj)]; simp⟩

theorem compact_le (l : List Int) : (Lib.compact l).length ≤ l.length := by
  unfold Lib.compact Lib.compactUpTo
  rw [List.length_map]
  exact Nat.le_trans (List.length_filter_le _ _) (by simp)

theorem iCompact {B : Nat} {v : Value} {l : List Int} {w : World} (h : w.ownsRow B 3 1 v l.length (ints l)) (hl : l.length ≤ 4000000) :
    Calls Tryz.prog 74 #[v] w fun e w' => ∃ v', e = .returned v' ∧ w'.ownsRow B 3 1 v' (Lib.compact l).length (ints (Lib.compact l)) ∧ w.grownBy w' v.ownBlock := by
  have hcl := compact_le l
  rcases Nat.eq_zero_or_pos l.length with h0 | h0
  · obtain ⟨ao, cap, rfl⟩ := owns_len h
    have hn : l = [] := List.eq_nil_of_length_eq_zero h0
    subst hn
    refine (Tryz.slices_Compact_int_empty ao cap w).mono ?_
    rintro e w' ⟨rfl, rfl⟩
    exact ⟨_, rfl, h, World.grownBy.refl _ _⟩
  · rcases h.2 with ⟨_, h1⟩ | ⟨g, cap, cur, rfl, hg, hh, h1, h2, h3, h4⟩
    · omega
    · have hH := holds_of_blockI (ss := l) hh (by simpa [ints] using h4)
      refine (Tryz.slices_Compact_int g 0 cap l w hH (by omega) h1).mono ?_
      rintro e w' ⟨rfl, q, rfl⟩
      have ho := ownsRow_sortedI (w := w) (n := q) (os := #[]) (ss := l) (ts := Lib.compact l ++ List.replicate (l.length - (Lib.compact l).length) 0) (by simp; omega) hg hh h1 h2 h3
      have hgr := grownBy_sortedI (w := w) (g := g) (n := q) (os := #[]) (Lib.compact l ++ List.replicate (l.length - (Lib.compact l).length) 0).toArray
      rw [Sort.grow_empty] at ho hgr
      rw [List.map_append] at ho
      have hp := owns_prefix ho
      rw [List.length_map] at hp
      exact ⟨_, rfl, hp, hgr⟩

end Mt
end Go.Proofs.YtgdnlmaacnnfiaaGreatDoor

namespace Go.Proofs.YtgdnlmaacnnfiaaGreatDoor
open Go.RowKit
namespace Rx

/-- The list at block p has n places; its row is at a block from B on. -/
def PL (B p n : Nat) (w : World) : Prop := ∃ (ao : Option Addr) (cap : Nat) (xs : List Value), w.cell? ⟨p, 0, none⟩ = some (.slice ao n cap) ∧ w.frozen? ⟨p, 0, none⟩ = false ∧ w.ownsRow B 67 6 (.slice ao n cap) n xs

/-- The row of the list at block p is at block k. -/
def RowAt (p : Nat) (w : World) (k : Nat) : Prop := ∃ (ao : Option Addr) (n cap : Nat), w.cell? ⟨p, 0, none⟩ = some (.slice ao n cap) ∧ Value.ownBlock (.slice ao n cap) = some k

/-- Nothing is turned but block p, and the row. -/
structure Ch (p B : Nat) (w w' : World) : Prop where
  os : w'.os = w.os
  tape : w'.tape = w.tape
  output : w'.output = w.output
  size : w.heap.size ≤ w'.heap.size
  block : ∀ k, k < B → k ≠ p → w'.heap[k]? = w.heap[k]?
  own : ∀ k, k < w.heap.size → k ≠ p → ¬ RowAt p w k → w'.heap[k]? = w.heap[k]? ∧ ¬ RowAt p w' k

theorem Ch.refl (p B : Nat) (w : World) : Ch p B w w := ⟨rfl, rfl, rfl, Nat.le_refl _, fun _ _ _ => rfl, fun _ _ _ h => ⟨rfl, h⟩⟩
theorem Ch.trans {p B : Nat} {a b c : World} (h : Ch p B a b) (k : Ch p B b c) : Ch p B a c :=
  ⟨k.os.trans h.os, k.tape.trans h.tape, k.output.trans h.output, Nat.le_trans h.size k.size, fun j h1 h2 => (k.block j h1 h2).trans (h.block j h1 h2), fun j h1 h2 h3 =>
    ⟨((k.own j (Nat.lt_of_lt_of_le h1 h.size) h2 (h.own j h1 h2 h3).2).1).trans (h.own j h1 h2 h3).1, (k.own j (Nat.lt_of_lt_of_le h1 h.size) h2 (h.own j h1 h2 h3).2).2⟩⟩
theorem rowAt_same {p k : Nat} {w w' : World} (h : w'.heap[p]? = w.heap[p]?) : RowAt p w' k ↔ RowAt p w k := by
  have hc : w'.cell? ⟨p, 0, none⟩ = w.cell? ⟨p, 0, none⟩ := World.cell?_of_block h
  unfold RowAt
  rw [hc]
theorem ch_below {p B : Nat} {w w' : World} (hp : p < w.heap.size) (hB : B ≤ w.heap.size) (h : Below w.heap.size w w') : Ch p B w w' :=
  ⟨h.os, h.tape, h.output, h.size, fun k hk _ => h.block k (by omega), fun k hk _ hr => ⟨h.block k hk, fun hr' => hr ((rowAt_same (h.block p hp)).1 hr')⟩⟩
theorem rowAt_is {p k : Nat} {w : World} {ao : Option Addr} {n cap : Nat} (h : w.cell? ⟨p, 0, none⟩ = some (.slice ao n cap)) : RowAt p w k ↔ Value.ownBlock (.slice ao n cap) = some k := by
  constructor
  · rintro ⟨ao', n', cap', h1, h2⟩
    rw [h] at h1
    simp at h1
    obtain ⟨rfl, rfl, rfl⟩ := h1
    exact h2
  · exact fun h2 => ⟨ao, n, cap, h, h2⟩
theorem PL.kept {B p n : Nat} {w w' : World} (h : PL B p n w) (hb : Below w.heap.size w w') : PL B p n w' := by
  obtain ⟨ao, cap, xs, h1, h2, h3⟩ := h
  have hl := World.block_lt_of_cell? w _ h1
  exact ⟨ao, cap, xs, (hb.cell (p := ⟨p, 0, none⟩) hl).trans h1, (hb.frozen (p := ⟨p, 0, none⟩) hl).trans h2, owns_same h3 fun g hg => hb.block g (h3.lt g hg).2⟩

theorem Tryz.infoPlacer : (Tryz.prog.info? 67).map (fun i => (i.zero, i.size, i.bytes)) = some (some (.agg #[.int .i64 0, .int .i64 0, .string ⟨#[]⟩, .bool false, .int .i64 0, .int .i64 0]), 6, 56) := by kernel_rfl

theorem iNext {B p n : Nat} {w : World} (h : PL B p n w) : Calls Tryz.prog 62 #[.pointer (some ⟨p, 0, none⟩)] w fun e w' => e = .returned (.int .i64 n) ∧ w' = w := by
  obtain ⟨ao, cap, xs, h1, h2, h3⟩ := h
  go_enter Tryz.func62, Tryz.ntmps62
  go_wp2_with fail
  go_ret
  exact ⟨rfl, rfl⟩

theorem cell_six_new (w : World) (a b c d u v : Value) : ∀ j x, [a, b, c, d, u, v][j]? = some x → (w.alloc (.cells #[a, b, c, d, u, v] 67)).cell? ((⟨w.heap.size, 0, none⟩ : Addr).add j) = some x := by
  intro j x hj
  have hadd : (⟨w.heap.size, 0, none⟩ : Addr).add j = ⟨w.heap.size, j, none⟩ := by unfold Addr.add; split <;> simp_all
  rw [hadd, cell_of_row _ _ j _ _ (0, 0) (heap_alloc_last w _)]
  simpa using hj

set_option maxHeartbeats 2000000 in
set_option maxRecDepth 100000 in
theorem iPut {B p n : Nat} {w : World} (h : PL B p n w) (hp : p < B) (hB : B ≤ w.heap.size) (hn : n ≤ 1000000) (op c a b : Int) (s : ByteArray) (no : Bool) :
    Calls Tryz.prog 29 #[.pointer (some ⟨p, 0, none⟩), .agg #[.int .i64 op, .int .i64 c, .string s, .bool no, .int .i64 a, .int .i64 b]] w fun e w' => e = .returned (.int .i64 n) ∧ PL B p (n + 1) w' ∧ Ch p B w w' := by
  obtain ⟨ao, cap, xs, h1, h2, h3⟩ := h
  obtain ⟨i0, hi0, hz0, hz1, hz2⟩ := info_parts Tryz.infoPlacer
  have hpl : p < w.heap.size := by omega
  have hnI : (n : Int) ≤ 1000000 := by omega
  have hk64 : Hid ((n + 1) * 56 ≤ 140737488355328) := by show _ ≤ _; omega
  have hkm : Hid (n + 1 ≤ maxLen) := by show _ ≤ _; unfold maxLen; omega
  have hownA : ∀ o o', (((w.alloc o).drew).alloc o').ownsRow B 67 6 (.slice ao n cap) n xs := fun o o' => ((h3.alloc o).drew).alloc o'
  have hownp : ∀ g, Value.ownBlock (.slice ao n cap) = some g → B ≤ g := fun g hg => (h3.lt g hg).1
  have hs1 : ((w.alloc (.cells #[.int .i64 op, .int .i64 c, .string s, .bool no, .int .i64 a, .int .i64 b] 67)).drew).heap.size = w.heap.size + 1 := World.size_alloc _ _
  have hc6 : ∀ j x, [.int .i64 op, .int .i64 c, .string s, .bool no, .int .i64 a, .int .i64 b][j]? = some x → (((w.alloc (.cells #[.int .i64 op, .int .i64 c, .string s, .bool no, .int .i64 a, .int .i64 b] 67)).drew).alloc (.cells #[.int .i64 op, .int .i64 c, .string s, .bool no, .int .i64 a, .int .i64 b] 67)).cell? ((⟨w.heap.size + 1, 0, none⟩ : Addr).add j) = some x := by
    intro j x hj
    have := cell_six_new ((w.alloc (.cells #[.int .i64 op, .int .i64 c, .string s, .bool no, .int .i64 a, .int .i64 b] 67)).drew) _ _ _ _ _ _ j x hj
    rwa [hs1] at this
  have hpb : ∀ w4, (((w.alloc (.cells #[.int .i64 op, .int .i64 c, .string s, .bool no, .int .i64 a, .int .i64 b] 67)).drew).alloc (.cells #[.int .i64 op, .int .i64 c, .string s, .bool no, .int .i64 a, .int .i64 b] 67)).grownBy w4 (Value.ownBlock (.slice ao n cap)) → w4.heap[p]? = w.heap[p]? := fun w4 hg => (hg.block p (by simp; omega) (fun e => by have := hownp p e.symm; omega)).trans ((Below.heap_alloc _ _ _ (by rw [hs1]; omega)).trans (Below.heap_alloc _ _ _ hpl))
  go_enter Tryz.func29, Tryz.ntmps29
  go_wp2_with fail
  go_region_law (first | (refine step_append_own rfl (.tmp 9) (.tmp 11) 32 rfl B 67 i0 _ 6 56 Tryz.underlying32 hi0 hz0 hz1 hz2 rfl (by decide) (.slice ao n cap) n xs (by simp [Act.eval]) (hownA _ _) ⟨w.heap.size + 1, 0, none⟩ 1 1 [.int .i64 op, .int .i64 c, .string s, .bool no, .int .i64 a, .int .i64 b] (by simp [Act.eval]) rfl hc6 (by simp [Value.oneCell']) hkm.out hk64.out (by simp; omega) ?_; intro v4 w4 hown4 hgr4 hb4; have c4 : w4.cell? ⟨p, 0, none⟩ = some (.slice ao n cap) := (World.cell?_of_block (hpb w4 hgr4)).trans h1; have f4 : w4.frozen? ⟨p, 0, none⟩ = false := (World.frozen?_of_block (hpb w4 hgr4)).trans h2; obtain ⟨ao4, cap4, rfl⟩ := owns_slice hown4))
  all_goals have hPL : PL B p (n + 1) (w4.setCell ⟨p, 0, none⟩ (.slice ao4 (n + 1) cap4)) := ⟨ao4, cap4, _, World.cell?_setCell_same _ _ _ c4, by simpa using f4, owns_same hown4 fun g hg => Below.heap_setCell _ _ _ _ (by have := (hown4.lt g hg).1; show g ≠ p; omega)⟩
  all_goals have hsame : ∀ k, k < w.heap.size → k ≠ p → Value.ownBlock (.slice ao n cap) ≠ some k → (w4.setCell ⟨p, 0, none⟩ (.slice ao4 (n + 1) cap4)).heap[k]? = w.heap[k]? := fun k h1 h2 h4 => (Below.heap_setCell _ ⟨p, 0, none⟩ _ _ h2).trans ((hgr4.block k (by simp; omega) (Ne.symm h4)).trans ((Below.heap_alloc _ _ _ (by first | (rw [hs1]; omega) | (simp; omega))).trans (Below.heap_alloc _ _ _ h1)))
  all_goals have HC : Hid (Ch p B w (w4.setCell ⟨p, 0, none⟩ (.slice ao4 (n + 1) cap4))) := ⟨hgr4.os, hgr4.tape, hgr4.output, Nat.le_trans (Nat.le_trans (by simp; omega) hgr4.size) (by simp), fun k h1 h2 => hsame k (by omega) h2 (fun e => by have := hownp k e; omega), fun k h1' h2' h3' => ⟨hsame k h1' h2' (fun e => h3' ((rowAt_is h1).2 e)), fun hr => by
    have hr2 := (rowAt_is (World.cell?_setCell_same _ _ _ c4)).1 hr
    rcases hb4 with e | e
    · rw [e] at hr2
      exact h3' ((rowAt_is h1).2 hr2)
    · rw [e] at hr2
      simp at hr2
      omega⟩⟩
  all_goals go_wp2_with fail
  all_goals refine (iNext hPL).mono ?_
  all_goals rintro e w5 ⟨rfl, hw⟩
  all_goals have hw := hw.symm
  all_goals subst hw
  all_goals go_wp2_with fail
  all_goals go_ret
  all_goals exact ⟨by simp, hPL, HC.out⟩

set_option maxRecDepth 100000 in
theorem iPutFork {B p n : Nat} {w : World} (h : PL B p n w) (hp : p < B) (hB : B ≤ w.heap.size) (hn : n ≤ 1000000) :
    Calls Tryz.prog 60 #[.pointer (some ⟨p, 0, none⟩)] w fun e w' => e = .returned (.int .i64 n) ∧ PL B p (n + 1) w' ∧ Ch p B w w' := by
  have hnI : (n : Int) ≤ 1000000 := by omega
  go_enter Tryz.func60, Tryz.ntmps60
  go_wp2_with fail
  refine (iNext h).mono ?_
  rintro e w5 ⟨rfl, hw⟩
  have hw := hw.symm
  subst hw
  go_wp2_with fail
  refine (iPut h hp hB hn _ _ _ _ _ _).mono ?_
  rintro e w6 ⟨rfl, hP, hC⟩
  go_wp2_with fail
  go_ret
  exact ⟨rfl, hP, hC⟩

theorem row_cell6 {w : World} {B n cap : Nat} {ao : Option Addr} {xs : List Value} (h : w.ownsRow B 67 6 (.slice ao n cap) n xs) {f : Nat} (hf : f < n) : ∃ g, ao = some ⟨g, 0, none⟩ ∧ B ≤ g ∧ g < w.heap.size ∧ ∀ j, j < 6 → ∃ v, w.cell? ⟨g, f * 6 + j, none⟩ = some v := by
  rcases h.2 with ⟨h0, hn⟩ | ⟨g, cap', cur, he, hg, _⟩
  · omega
  · simp at he
    obtain ⟨rfl, rfl⟩ := he
    refine ⟨g, rfl, hg, (h.lt g rfl).2, fun j hj => ?_⟩
    have hl : f * 6 + j < xs.length := by rw [h.1]; omega
    exact ⟨xs[f * 6 + j], by rw [h.cellAt _ (by omega)]; exact List.getElem?_eq_getElem hl⟩

set_option maxRecDepth 100000 in
theorem iForkHere {B p n f : Nat} {w : World} (h : PL B p n w) (hp : p < B) (hf : f < n) (hn : n ≤ 1000000) :
    Calls Tryz.prog 61 #[.pointer (some ⟨p, 0, none⟩), .int .i64 f] w fun e w' => e = .returned (.tuple #[]) ∧ PL B p n w' ∧ Ch p B w w' := by
  obtain ⟨ao, cap, xs, h1, h2, h3⟩ := h
  obtain ⟨g, rfl, hg, hgl, hcs⟩ := row_cell6 h3 hf
  obtain ⟨v5, q5⟩ := hcs 5 (by omega)
  have fz := h3.frozenAt (f * 6 + 5)
  have hfI : (f : Int) < n := by omega
  have hnI : (n : Int) ≤ 1000000 := by omega
  have call1 : Calls Tryz.prog 62 #[.pointer (some ⟨p, 0, none⟩)] w.drew fun e w' => e = .returned (.int .i64 n) ∧ w' = w.drew := iNext ⟨_, _, _, h1, h2, h3⟩
  have hPL : PL B p n ((w.setCell ⟨g, f * 6 + 5, none⟩ (.int .i64 n)).drew) := by
    refine ⟨_, _, _, (World.cell?_of_block (w := w) (Below.heap_setCell w ⟨g, f * 6 + 5, none⟩ (.int .i64 n) p (by show p ≠ g; omega))).trans h1, ?_, (h3.stored _ _).1⟩
    exact (World.frozen?_of_block (w := w) (Below.heap_setCell w ⟨g, f * 6 + 5, none⟩ (.int .i64 n) p (by show p ≠ g; omega))).trans h2
  have hpb : ((w.setCell ⟨g, f * 6 + 5, none⟩ (.int .i64 n)).drew).heap[p]? = w.heap[p]? := Below.heap_setCell w ⟨g, f * 6 + 5, none⟩ (.int .i64 n) p (by show p ≠ g; omega)
  have HC : Ch p B w ((w.setCell ⟨g, f * 6 + 5, none⟩ (.int .i64 n)).drew) := ⟨rfl, rfl, rfl, by show w.heap.size ≤ (w.setCell ⟨g, f * 6 + 5, none⟩ (.int .i64 n)).heap.size; simp, fun k h1 _ => Below.heap_setCell w ⟨g, f * 6 + 5, none⟩ (.int .i64 n) k (by show k ≠ g; omega), fun k hk1 hk2 hr => ⟨Below.heap_setCell w ⟨g, f * 6 + 5, none⟩ (.int .i64 n) k (fun e => hr ((rowAt_is h1).2 (by show some g = some k; rw [show k = g from e]))), fun hr' => hr ((rowAt_same hpb).1 hr')⟩⟩
  go_enter Tryz.func61, Tryz.ntmps61
  go_region_with (first | (go_at_call 62; refine call1.mono ?_; rintro e w2 ⟨rfl, hw⟩; have hw := hw.symm; subst hw))
  all_goals refine bodyPost_end (v := .tuple #[]) ?_ rfl ⟨rfl, hPL, HC⟩
  all_goals simp [results, Tryz.results61]

end Rx
end Go.Proofs.YtgdnlmaacnnfiaaGreatDoor

