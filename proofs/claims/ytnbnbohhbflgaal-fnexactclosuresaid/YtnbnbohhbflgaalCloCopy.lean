/-
  The laws' copies: toPlaceS, toIntS.
-/
import Derived.Test.YtnbnbohhbflgaalCloArgs
namespace Go.Proofs.Ytnbnbohhbflgaal
open Go.RowKit
namespace Clo

theorem ps_frozen {g n : Nat} {P : Nat → Pl} {w : World} (h : Ps g n P w) (k : Nat) : w.frozen? ⟨g, k, none⟩ = false := by
  unfold Ps at h
  simp [World.frozen?, h]

def putP (P : Nat → Pl) (k : Nat) (p : Pl) : Nat → Pl := fun j => if j = k then p else P j

theorem flat_put (P : Nat → Pl) {n k : Nat} (hk : k < n) (p : Pl) :
    ((((((flat P n).set! (k * 6) (.int .i64 p.op)).set! (k * 6 + 1) (.int .i64 p.c)).set! (k * 6 + 2) (.string p.set)).set! (k * 6 + 3) (.bool p.no)).set! (k * 6 + 4) (.int .i64 p.a)).set! (k * 6 + 5) (.int .i64 p.b) = flat (putP P k p) n := by
  apply Array.ext_getElem?
  intro j
  simp only [Array.set!_eq_setIfInBounds, Array.getElem?_setIfInBounds, Array.size_setIfInBounds, flat_size]
  have hb : k * 6 + 5 < n * 6 := by omega
  by_cases hj : j < n * 6
  · have hR : (flat (putP P k p) n)[j]? = some (cellP (putP P k p (j / 6)) (j % 6)) := by simp [flat, hj]
    have hL : (flat P n)[j]? = some (cellP (P (j / 6)) (j % 6)) := by simp [flat, hj]
    rw [hR]
    by_cases hd : j / 6 = k
    · have hp : putP P k p (j / 6) = p := by simp [putP, hd]
      rw [hp]
      have h6 : j % 6 < 6 := Nat.mod_lt _ (by omega)
      have hjj : j = k * 6 + j % 6 := by omega
      obtain ⟨r, hr⟩ : ∃ r, r = j % 6 := ⟨_, rfl⟩
      rw [← hr] at h6 hjj ⊢
      subst hjj
      match r, h6 with
      | 0, _ => simp [cellP]; omega
      | 1, _ => simp [cellP]; omega
      | 2, _ => simp [cellP]; omega
      | 3, _ => simp [cellP]; omega
      | 4, _ => simp [cellP]; omega
      | 5, _ => simp [cellP]; omega
    · have hp : putP P k p (j / 6) = P (j / 6) := by simp [putP, hd]
      rw [hp, hL]
      rw [if_neg (by omega), if_neg (by omega), if_neg (by omega), if_neg (by omega), if_neg (by omega), if_neg (by omega)]
  · have a1 : (flat P n)[j]? = none := Array.getElem?_eq_none (by rw [flat_size]; omega)
    have a2 : (flat (putP P k p) n)[j]? = none := Array.getElem?_eq_none (by rw [flat_size]; omega)
    rw [a1, a2, if_neg (by omega), if_neg (by omega), if_neg (by omega), if_neg (by omega), if_neg (by omega), if_neg (by omega)]

/-- A place put into its six cells. -/
def put6 (w : World) (g i : Nat) (p : Pl) : World := (((((w.setCell ⟨g, i, none⟩ (.int .i64 p.op)).setCell ⟨g, i + 1, none⟩ (.int .i64 p.c)).setCell ⟨g, i + 2, none⟩ (.string p.set)).setCell ⟨g, i + 3, none⟩ (.bool p.no)).setCell ⟨g, i + 4, none⟩ (.int .i64 p.a)).setCell ⟨g, i + 5, none⟩ (.int .i64 p.b)

theorem ps_put {g n k : Nat} {P : Nat → Pl} {w : World} (h : Ps g n P w) (hk : k < n) (p : Pl) : Ps g n (putP P k p) (put6 w g (k * 6) p) := by
  unfold Ps at h ⊢
  rw [← flat_put P hk p]
  simp [put6, World.setCell, Array.getElem?_modify, h]
theorem below_put6 {B : Nat} {W w : World} (h : Below B W w) {g : Nat} (hg : B ≤ g) (i : Nat) (p : Pl) : Below B W (put6 w g i p) := by
  unfold put6
  exact (((((h.setCell hg _).setCell hg _).setCell hg _).setCell hg _).setCell hg _).setCell hg _

theorem upP_next (P : Nat → Pl) (k : Nat) : putP (upP P k) k (P k) = upP P (k + 1) := by
  funext j
  unfold putP upP
  by_cases h : j = k
  · subst h; simp
  · rw [if_neg h]
    by_cases h2 : j < k
    · rw [if_pos h2, if_pos (by omega)]
    · rw [if_neg h2, if_neg (by omega)]
theorem flat_all (P : Nat → Pl) (n : Nat) : flat (upP P n) n = flat P n := by
  unfold flat
  apply Array.map_congr_left
  intro i hi
  have : i / 6 < n := by have := Array.mem_range.1 hi; omega
  simp [upP, this]

theorem Try.infoPlacer : (Try.prog.info? 40).map (fun i => (i.zero, i.size, i.bytes)) = some (some (.agg #[.int .i64 0, .int .i64 0, .string ⟨#[]⟩, .bool false, .int .i64 0, .int .i64 0]), 6, 56) := by kernel_rfl

theorem make_places (n : Nat) (hn : n ≤ 1048576) (w : World) : (Instr.makeSlice 25 (.int .i64 n) (.int .i64 n)).run Try.prog w = .ok (.slice (some ⟨w.heap.size, 0, none⟩) n n) (w.alloc (.cells (flat (fun _ => zeroP) n) 40)) := by
  obtain ⟨i0, hi0, hz0, hz1, hz2⟩ := info_parts Try.infoPlacer
  have := run_make (P := Try.prog) w 25 40 i0 _ Try.underlying25 hi0 hz0 .i64 .i64 n n (by omega) (Int.le_refl _) (by rw [hz2]; omega) (by omega)
  rw [this, hz1]
  simp only [Int.toNat_natCast]
  rw [← flat_made]
  rfl

set_option maxRecDepth 100000 in
theorem lToPlaceS {ao : Option Addr} {n cap : Nat} {P : Nat → Pl} {w : World} (hA : ArgP w ao n P) (hn : n ≤ 1048576) :
    Calls Try.prog 7 #[.slice ao n cap] w fun e w' => ∃ g, e = .returned (.slice (some ⟨g, 0, none⟩) n n) ∧ w.heap.size ≤ g ∧ Ps g n P w' ∧ Below w.heap.size w w' := by
  have hmk := make_places n hn
  have bn : (n : Int) ≤ 1048576 := by omega
  go_enter Try.func7, Try.ntmps7
  go_wp2_with fail
  go_loopw [4] (fun i wr => ∃ k : Nat, i = .int .i64 k ∧ k ≤ n ∧ Ps w.heap.size n (upP P k) wr ∧ Below w.heap.size w wr) (fun i _ => n - (intOf i).toNat)
  case atStart => exact ⟨0, rfl, Nat.zero_le _, heap_alloc_last _ _, (Below.refl _ w).alloc (Nat.le_refl _) _⟩
  case round =>
    obtain ⟨k, rfl, hk, hP, hb⟩ := hrel
    have hql := hP.lt
    by_cases hkl : k < n
    · obtain ⟨b, o, rfl, hbl, hss, c0, c1, c2, c3, c4, c5⟩ := hA.below hb k hkl
      go_wp2_with (go_at_call 20; refine (lToPlace (P k) _).mono ?_; rintro e w2 ⟨rfl, hb2⟩; have hP2 := hP.kept (hb2.block _ hql); have p0 := ps_at hP2 hkl 0 (by omega); have p1 := ps_at hP2 hkl 1 (by omega); have p2 := ps_at hP2 hkl 2 (by omega); have p3 := ps_at hP2 hkl 3 (by omega); have p4 := ps_at hP2 hkl 4 (by omega); have p5 := ps_at hP2 hkl 5 (by omega); simp only [Nat.add_zero] at p0; have fz := ps_frozen hP2)
      have hb3 : Below w.heap.size w w2 := hb.trans (hb2.mono hb.size)
      go_roundw
      case rel =>
        refine ⟨k + 1, by go_num, hkl, ?_, ?_⟩
        · rw [← upP_next]
          exact ps_put hP2 hkl (P k)
        · exact below_put6 hb3 (Nat.le_refl _) _ _
      case measure => simp [intOf]; omega
    · obtain rfl : k = n := by omega
      go_wp2_with fail
      go_ret
      refine ⟨_, rfl, Nat.le_refl _, ?_, hb⟩
      unfold Ps at hP ⊢
      rw [flat_all] at hP
      exact hP

theorem ints_made (n : Nat) : madeCells #[.int .i64 0] n = (ints (List.replicate n 0)).toArray := by
  apply Array.ext'
  rw [toList_madeCells_one]
  simp [ints]

theorem is_set {g : Nat} {l : List Int} {w : World} (h : Is g l w) (k : Nat) (x : Int) : Is g (l.set k x) (w.setCell ⟨g, k, none⟩ (.int .i64 x)) := by
  unfold Is at h ⊢
  have : (ints (l.set k x)).toArray = ((ints l).toArray).set! k (.int .i64 x) := by
    apply Array.ext'
    simp [ints, List.map_set]
  rw [this]
  simp [World.setCell, Array.getElem?_modify, h]
theorem is_frozen {g : Nat} {l : List Int} {w : World} (h : Is g l w) (k : Nat) : w.frozen? ⟨g, k, none⟩ = false := by
  unfold Is at h
  simp [World.frozen?, h]

def upL (l : List Int) (k : Nat) : List Int := l.take k ++ List.replicate (l.length - k) 0
theorem upL_len (l : List Int) {k : Nat} (h : k ≤ l.length) : (upL l k).length = l.length := by simp [upL]; omega
theorem upL_zero (l : List Int) : upL l 0 = List.replicate l.length 0 := by simp [upL]
theorem upL_all (l : List Int) : upL l l.length = l := by simp [upL]
theorem upL_next (l : List Int) {k : Nat} (h : k < l.length) : (upL l k).set k l[k] = upL l (k + 1) := by
  apply List.ext_getElem?
  intro j
  rw [List.getElem?_set]
  unfold upL
  by_cases e : k = j
  · subst e
    rw [if_pos rfl, if_pos (by simp; omega), List.getElem?_append_left (by simp; omega)]
    simp [h]
  · rw [if_neg e]
    by_cases h2 : j < k
    · rw [List.getElem?_append_left (by simp; omega), List.getElem?_append_left (by simp; omega), List.getElem?_take_of_lt h2, List.getElem?_take_of_lt (by omega)]
    · rw [List.getElem?_append_right (by simp; omega), List.getElem?_append_right (by simp; omega)]
      simp only [List.length_take, List.getElem?_replicate]
      by_cases h3 : j < l.length
      · rw [if_pos (by omega), if_pos (by omega)]
      · rw [if_neg (by omega), if_neg (by omega)]

set_option maxRecDepth 100000 in
theorem lToIntS {ao : Option Addr} {cap : Nat} {l : List Int} {w : World} (hA : ArgI w ao l) (hn : l.length ≤ 1048576) :
    Calls Try.prog 11 #[.slice ao l.length cap] w fun e w' => ∃ g, e = .returned (.slice (some ⟨g, 0, none⟩) l.length l.length) ∧ w.heap.size ≤ g ∧ Is g l w' ∧ Below w.heap.size w w' := by
  have hmk := run_make_row' (P := Try.prog) 29 3 (.int .i64 0) 8 Try.underlying29 Try.infoIntr rfl .i64 .i64 l.length (by omega) (by omega)
  have bn : (l.length : Int) ≤ 1048576 := by omega
  go_enter Try.func11, Try.ntmps11
  go_wp2_with fail
  go_loopw [4] (fun i wr => ∃ k : Nat, i = .int .i64 k ∧ k ≤ l.length ∧ Is w.heap.size (upL l k) wr ∧ Below w.heap.size w wr) (fun i _ => l.length - (intOf i).toNat)
  case atStart => exact ⟨0, rfl, Nat.zero_le _, by rw [upL_zero, ints_made]; exact heap_alloc_last _ _, (Below.refl _ w).alloc (Nat.le_refl _) _⟩
  case round =>
    obtain ⟨k, rfl, hk, hI, hb⟩ := hrel
    have hql := hI.lt
    by_cases hkl : k < l.length
    · obtain ⟨b, o, rfl, hbl, c0⟩ := hA.below hb k l[k] (List.getElem?_eq_getElem hkl)
      obtain ⟨y, hx⟩ : ∃ y, (upL l k)[k]? = some y := ⟨_, List.getElem?_eq_getElem (by rw [upL_len l hk]; exact hkl)⟩
      have q0 := is_cell hI hx
      have fz := is_frozen hI k
      go_wp2_with fail
      go_roundw
      case rel => exact ⟨k + 1, by go_num, hkl, by rw [← upL_next l hkl]; exact is_set hI k l[k], hb.setCell (Nat.le_refl _) _⟩
      case measure => simp [intOf]; omega
    · obtain rfl : k = l.length := by omega
      go_wp2_with fail
      go_ret
      rw [upL_all] at hI
      exact ⟨_, rfl, Nat.le_refl _, hI, hb⟩

end Clo
end Go.Proofs.Ytnbnbohhbflgaal
