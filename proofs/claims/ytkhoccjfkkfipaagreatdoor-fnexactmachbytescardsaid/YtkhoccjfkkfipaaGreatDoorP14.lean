/-
  Words of tidy trees: names, texts, patterns.
  Words of tidy trees: names, texts, patterns, gone through.
  Words of tidy trees, the program's: names, texts, patterns.
-/
import Derived.Test.YtkhoccjfkkfipaaGreatDoorP13
import Derived.Lib.IndexAny
import Derived.Laws.IdiomStrings
namespace Go.Proofs.YtkhoccjfkkfipaaGreatDoor
open Go.RowKit
namespace Ty

theorem sIn1 (x lo hi : Int) (w : World) : Calls Tryz.prog 45 #[.int .i64 x, .int .i64 lo, .int .i64 hi] w fun e w' => e = .returned (.bool (decide (lo ≤ x) && decide (x ≤ hi))) ∧ w' = w := by
  by_cases h : lo ≤ x <;> by_cases h2 : x ≤ hi
  all_goals
    rw [show decide (lo ≤ x) = _ from by first | exact decide_eq_true h | exact decide_eq_false h, show decide (x ≤ hi) = _ from by first | exact decide_eq_true h2 | exact decide_eq_false h2]
    go_enter Tryz.func45, Tryz.ntmps45
    go_wp2_with fail
    go_ret
    exact ⟨rfl, rfl⟩

def strV (s : List UInt8) : Value := .string ⟨s.toArray⟩
def StrRow (w : World) (g : Nat) (L : List (List UInt8)) : Prop := ∀ j s, L[j]? = some s → w.cell? ⟨g, j, none⟩ = some (.string ⟨s.toArray⟩)

set_option maxRecDepth 100000 in
theorem sWithin {L : List (List UInt8)} (hL : L.length ≤ 100) (s : List UInt8) (g cap : Nat) (w : World) (hw : StrRow w g L) :
    Calls Tryz.prog 67 #[.slice (some ⟨g, 0, none⟩) L.length cap, .string ⟨s.toArray⟩] w fun e w' => e = .returned (.bool (decide (s ∈ L))) ∧ w' = w := by
  have bn : (L.length : Int) ≤ 100 := by omega
  clear hL
  go_enter Tryz.func67, Tryz.ntmps67
  go_wp2_with fail
  go_loopw [5] (fun i wr => ∃ k : Nat, k ≤ L.length ∧ i = .int .i64 k ∧ wr = w ∧ s ∉ L.take k) (fun i _ => L.length - (intOf i).toNat)
  case atStart => exact ⟨0, by omega, rfl, rfl, by simp⟩
  case round =>
    obtain ⟨k, hk, rfl, rfl, hno⟩ := hrel
    by_cases hkl : k < L.length
    · have hki : L[k]? = some L[k] := List.getElem?_eq_getElem hkl
      have hc := hw k _ hki
      have bk : (k : Int) < L.length := by omega
      have hT : L.take (k + 1) = L.take k ++ [L[k]] := by rw [List.take_add_one, hki]; rfl
      by_cases hs : L[k] = s
      · have H : Hid (decide (s ∈ L) = true) := by show _ = _; simp; rw [← hs]; exact List.getElem_mem hkl
        rw [hs] at hc
        clear hki hT
        go_wp2_with fail
        go_ret
        exact ⟨by rw [H.out]; rfl, rfl⟩
      · have H : Hid (s ∉ L.take (k + 1)) := by show ¬ s ∈ _; rw [hT, List.mem_append]; rintro (h | h); exact hno h; exact hs (List.mem_singleton.1 h).symm
        have e1 : (L[k] == s) = false := beq_eq_false_iff_ne.2 hs
        clear hki hT hs hno
        go_wp2_with fail
        go_roundw
        case rel => exact ⟨k + 1, by omega, by go_num, by trivial, H.out⟩
        case measure => simp [intOf]; omega
    · obtain rfl : k = L.length := by omega
      rw [List.take_length] at hno
      have H : Hid (decide (s ∈ L) = false) := decide_eq_false hno
      go_wp2_with fail
      go_ret
      exact ⟨by rw [H.out]; rfl, rfl⟩

theorem strRow_new (w : World) (L : List (List UInt8)) (o : Obj) (ho : o = .cells (L.map strV).toArray 9) : StrRow (w.alloc o) w.heap.size L := fun j s h => by
  have := heap_alloc_new w o
  subst ho
  exact (cell_of_row _ _ j _ _ _ this).trans (by simp [h, strV])

theorem sCalls (w : World) : Calls Tryz.prog 102 #[] w fun e w' => e = .returned (.slice (some ⟨w.heap.size, 0, none⟩) 6 6) ∧ StrRow w' w.heap.size callL ∧ Below w.heap.size w w' := by
  obtain ⟨o, ho⟩ : ∃ o, o = Obj.cells (callL.map strV).toArray 9 := ⟨_, rfl⟩
  have h1 : Hid (StrRow (w.alloc o) w.heap.size callL) := strRow_new w callL o ho
  have h2 : Hid (Below w.heap.size w (w.alloc o)) := (Below.refl _ w).alloc (Nat.le_refl _) _
  subst ho
  go_enter Tryz.func102, Tryz.ntmps102
  go_wp2_with fail
  go_ret
  exact ⟨rfl, h1.out, h2.out⟩

theorem key_eq (s : List UInt8) : keyB s = (decide (s ∈ orderL ++ ownL) || callB s) := rfl
theorem sKeyword (s : List UInt8) (w : World) : Calls Tryz.prog 84 #[.string ⟨s.toArray⟩] w fun e w' => e = .returned (.bool (keyB s)) ∧ Below w.heap.size w w' := by
  obtain ⟨o, ho⟩ : ∃ o, o = Obj.cells ((orderL ++ ownL).map strV).toArray 9 := ⟨_, rfl⟩
  have h1 := strRow_new w _ o ho
  have h2 : Below w.heap.size w (w.alloc o) := (Below.refl _ w).alloc (Nat.le_refl _) _
  have c1 := sWithin (L := orderL ++ ownL) (by decide) s w.heap.size 9 _ h1
  have c2 := sCalls (w.alloc o)
  have c3 : ∀ w', StrRow w' (w.alloc o).heap.size callL → Calls Tryz.prog 67 #[.slice (some ⟨(w.alloc o).heap.size, 0, none⟩) 6 6, .string ⟨s.toArray⟩] w' fun e w'' => e = .returned (.bool (callB s)) ∧ w'' = w' := fun w' h => sWithin (L := callL) (by decide) s _ 6 w' h
  have HK : Hid (keyB s = (decide (s ∈ orderL ++ ownL) || callB s)) := key_eq s
  generalize hW : w.alloc o = W1 at *
  subst ho
  have HW := (show Hid _ from hW)
  clear hW h1
  have hlen : (orderL ++ ownL).length = 9 := rfl
  rw [hlen] at c1
  generalize decide (s ∈ orderL ++ ownL) = B1 at *
  generalize callB s = B2 at *
  generalize keyB s = B3 at *
  have HW1 : Hid (∀ (p : World → Prop), p W1 → p (w.alloc (.cells ((orderL ++ ownL).map strV).toArray 9))) := fun p hp => by rw [HW.out]; exact hp
  cases B1
  · go_enter Tryz.func84, Tryz.ntmps84
    go_wp2_with (first
      | (go_at_call 67; refine HW1.out (fun W => Calls _ _ _ W _) ?_; refine c1.mono ?_; rintro e w1 ⟨rfl, hw⟩; have hw := hw.symm; subst hw)
      | (go_at_call 102; refine c2.mono ?_; rintro e w2 ⟨rfl, hr, hb2⟩)
      | (go_at_call 67; refine (c3 _ hr).mono ?_; rintro e w3 ⟨rfl, hw⟩; have hw := hw.symm; subst hw))
    go_ret
    exact ⟨by rw [HK.out]; rfl, h2.trans (hb2.mono h2.size)⟩
  · go_enter Tryz.func84, Tryz.ntmps84
    go_wp2_with (first
      | (go_at_call 67; refine HW1.out (fun W => Calls _ _ _ W _) ?_; refine c1.mono ?_; rintro e w1 ⟨rfl, hw⟩; have hw := hw.symm; subst hw))
    go_ret
    exact ⟨by rw [HK.out]; rfl, h2⟩

end Ty
end Go.Proofs.YtkhoccjfkkfipaaGreatDoor
namespace Go.Proofs.YtkhoccjfkkfipaaGreatDoor
open Go.RowKit
namespace Ty

theorem ltr_cons (c : UInt8) (r : List UInt8) : lettersB (c :: r) = (letB c.toNat && lettersB r) := by simp [lettersB]
theorem toList_mk (s : List UInt8) : (⟨s.toArray⟩ : ByteArray).data.toList = s := rfl

set_option maxRecDepth 100000 in
theorem sName (s : List UInt8) (hs : s.length ≤ 1048576) (w : World) :
    Calls Tryz.prog 66 #[.string ⟨s.toArray⟩] w fun e w' => e = .returned (.bool (nameB s)) ∧ Below w.heap.size w w' := by
  have HN : Hid (nameB s = (lettersB s && (decide (0 < s.length) && decide (s.length ≤ 8) && freeB s))) := rfl
  have HF : Hid (freeB s = !keyB s) := key_free s
  have ck := sKeyword s
  obtain ⟨b, hb⟩ : ∃ b : ByteArray, b = ⟨s.toArray⟩ := ⟨_, rfl⟩
  have hl : s = b.data.toList := by subst hb; rfl
  have hsz : b.size = s.length := by subst hb; rfl
  rw [← hb] at ck ⊢
  have hsI : (b.size : Int) ≤ 1048576 := by omega
  have HZ : Hid (b.size = s.length) := hsz
  have HL : Hid (s = b.data.toList) := hl
  have cin := sIn1 (b.size : Int) 1 8
  generalize hNB : nameB s = N at *
  generalize hKB : keyB s = K at *
  clear hb hl hsz hs hNB hKB
  go_enter Tryz.func66, Tryz.ntmps66
  go_wp2_with fail
  go_loopw [3] (fun i wr => ∃ k : Nat, k ≤ b.size ∧ i = .int .i64 k ∧ wr = w ∧ lettersB b.data.toList = lettersB (b.data.toList.drop k)) (fun i _ => b.size - (intOf i).toNat)
  case atStart => exact ⟨0, by omega, rfl, rfl, rfl⟩
  case round =>
    obtain ⟨k, hk, rfl, rfl, hno⟩ := hrel
    by_cases hkl : k < b.size
    · rw [drop_at hkl, ltr_cons] at hno
      have call := sLetter b[k].toNat wr
      rcases hl : letB b[k].toNat with _ | _
      · rw [hl] at hno call
        have H : Hid (N = false) := by show _ = _; rw [HN.out, HL.out, hno]; simp
        clear hno HN HL
        go_wp2_with (go_at_call 83; refine call.mono ?_; rintro e w2 ⟨rfl, hw⟩; have hw := hw.symm; subst hw)
        go_ret
        exact ⟨by rw [H.out]; rfl, Below.refl _ _⟩
      · rw [hl] at hno call
        have H : Hid (lettersB b.data.toList = lettersB (b.data.toList.drop (k + 1))) := by show _ = _; rw [hno]; simp
        clear hno
        go_wp2_with (go_at_call 83; refine call.mono ?_; rintro e w2 ⟨rfl, hw⟩; have hw := hw.symm; subst hw)
        go_roundw
        case rel => exact ⟨k + 1, by omega, by go_num, by trivial, H.out⟩
        case measure => simp [intOf]; omega
    · obtain rfl : k = b.size := by omega
      rw [drop_end (Nat.le_refl _)] at hno
      have H : Hid (N = ((decide (1 ≤ (b.size : Int)) && decide ((b.size : Int) ≤ 8)) && !K)) := by
        show _ = _
        rw [HN.out, HF.out, HL.out, hno, ← HL.out, ← HZ.out, show decide (0 < b.size) = decide (1 ≤ (b.size : Int)) by rw [decide_eq_decide]; omega, show decide (b.size ≤ 8) = decide ((b.size : Int) ≤ 8) by rw [decide_eq_decide]; omega]
        simp [lettersB]
      clear hno HN HF HL
      generalize (decide (1 ≤ (b.size : Int)) && decide ((b.size : Int) ≤ 8)) = G at *
      cases G
      all_goals
        go_wp2_with (first
          | (go_at_call 45; refine (cin _).mono ?_; rintro e w2 ⟨rfl, hw⟩; have hw := hw.symm; subst hw)
          | (go_at_call 84; refine (ck _).mono ?_; rintro e w3 ⟨rfl, hb3⟩))
        go_ret
      · exact ⟨by rw [H.out]; simp, Below.refl _ _⟩
      · exact ⟨by rw [H.out]; simp, hb3⟩

end Ty
end Go.Proofs.YtkhoccjfkkfipaaGreatDoor
namespace Go.Proofs.YtkhoccjfkkfipaaGreatDoor
open Go.RowKit
namespace Ty

theorem nl_index (l : List UInt8) : decide (0 ≤ Lib.indexByte l 10) = !lineB l := by
  rw [← Lib.contains_iff_indexByte]
  induction l with
  | nil => rfl
  | cons c r ih =>
    rw [List.contains_cons, ih, line_cons]
    have : ((10 : UInt8) == c) = !decide (c.toNat ≠ 10) := by
      rw [Bool.eq_iff_iff]
      simp only [beq_iff_eq, Bool.not_eq_true', decide_eq_false_iff_not, ne_eq, Decidable.not_not]
      constructor
      · rintro rfl; rfl
      · intro h; exact UInt8.toNat.inj h.symm
    rw [this]
    cases decide (c.toNat ≠ 10) <;> simp

/-- A text as bytes of its own. -/
def ByteRow (w : World) (g : Nat) (s : ByteArray) : Prop := ∀ k (h : k < s.size), w.cell? ⟨g, k, none⟩ = some (.int .u8 s[k].toNat)
theorem bytes_cell (w : World) (s : ByteArray) (cap n m : Nat) (T : TypeId) : ByteRow (w.alloc (.cells (bytesRow s cap) T (n, m))).drew w.heap.size s := fun k h => by
  have h0 : (w.alloc (.cells (bytesRow s cap) T (n, m))).drew.heap[w.heap.size]? = some (.cells (bytesRow s cap) T (n, m)) := heap_alloc_new w _
  refine (cell_of_row _ _ k _ _ _ h0).trans ?_
  unfold bytesRow
  rw [Array.getElem?_append_left (by simpa using h), Array.getElem?_map, Array.getElem?_eq_getElem (by simpa using h)]
  rfl

set_option maxRecDepth 100000 in
theorem iTidyName (s : List UInt8) (hs : s.length ≤ 1048576) (w : World) :
    Calls Tryz.prog 105 #[.string ⟨s.toArray⟩] w fun e w' => e = .returned (.bool (nameB s)) ∧ Below w.heap.size w w' := by
  have HN : Hid (nameB s = (lettersB s && (decide (0 < s.length) && decide (s.length ≤ 8) && freeB s))) := rfl
  have ck := iIsFree s
  obtain ⟨b, hb⟩ : ∃ b : ByteArray, b = ⟨s.toArray⟩ := ⟨_, rfl⟩
  have hl : s = b.data.toList := by subst hb; rfl
  have hsz : b.size = s.length := by subst hb; rfl
  rw [← hb] at ck ⊢
  have hsI : (b.size : Int) ≤ 1048576 := by omega
  have HZ : Hid (b.size = s.length) := hsz
  have HL : Hid (s = b.data.toList) := hl
  generalize hNB : nameB s = N at *
  generalize hKB : freeB s = K at *
  clear hb hl hsz hs hNB hKB
  have hcv := fun w => run_bytes_of_string (P := Tryz.prog) w 9 35 5 b Tryz.underlying9 Tryz.underlying35 Tryz.underlying5
  have hrow := fun cap n m => bytes_cell w b cap n m 5
  have hbel : ∀ o, Below w.heap.size w (w.alloc o).drew := fun o => Below.drew ((Below.refl _ w).alloc (Nat.le_refl _) _)
  go_enter Tryz.func105, Tryz.ntmps105
  go_wp2_with fail
  have hrow := hrow (grownCap w b.size 0 5) (bytesRow b (grownCap w b.size 0 5)).size ((bytesRow b (grownCap w b.size 0 5)).size + 1)
  have hbel := hbel (.cells (bytesRow b (grownCap w b.size 0 5)) 5 ((bytesRow b (grownCap w b.size 0 5)).size, (bytesRow b (grownCap w b.size 0 5)).size + 1))
  generalize (w.alloc (.cells (bytesRow b (grownCap w b.size 0 5)) 5 ((bytesRow b (grownCap w b.size 0 5)).size, (bytesRow b (grownCap w b.size 0 5)).size + 1))).drew = w1 at *
  generalize grownCap w b.size 0 5 = cap at *
  go_loopw [8] (fun i wr => ∃ k : Nat, k ≤ b.size ∧ i = .int .i64 k ∧ wr = w1 ∧ lettersB b.data.toList = lettersB (b.data.toList.drop k)) (fun i _ => b.size - (intOf i).toNat)
  case atStart => exact ⟨0, by omega, rfl, rfl, rfl⟩
  case round =>
    obtain ⟨k, hk, rfl, rfl, hno⟩ := hrel
    by_cases hkl : k < b.size
    · rw [drop_at hkl, ltr_cons] at hno
      have hc := hrow k hkl
      have bk : (k : Int) < b.size := by omega
      have call := iIsLetter b[k].toNat wr
      rcases hl : letB b[k].toNat with _ | _
      · rw [hl] at hno call
        have H : Hid (N = false) := by show _ = _; rw [HN.out, HL.out, hno]; simp
        clear hno HN HL
        go_wp2_with (go_at_call 124; refine call.mono ?_; rintro e w2 ⟨rfl, hw⟩; have hw := hw.symm; subst hw)
        go_ret
        exact ⟨by rw [H.out]; rfl, hbel⟩
      · rw [hl] at hno call
        have H : Hid (lettersB b.data.toList = lettersB (b.data.toList.drop (k + 1))) := by show _ = _; rw [hno]; simp
        clear hno
        go_wp2_with (go_at_call 124; refine call.mono ?_; rintro e w2 ⟨rfl, hw⟩; have hw := hw.symm; subst hw)
        go_roundw
        case rel => exact ⟨k + 1, by omega, by go_num, by trivial, H.out⟩
        case measure => simp [intOf]; omega
    · obtain rfl : k = b.size := by omega
      rw [drop_end (Nat.le_refl _)] at hno
      have H : Hid (N = (decide (0 < b.size) && decide (b.size ≤ 8) && K)) := by
        show _ = _
        rw [HN.out, HL.out, hno, ← HL.out, ← HZ.out]
        simp [lettersB]
      clear hno HN HL
      by_cases h1 : 0 < b.size <;> by_cases h2 : b.size ≤ 8
      all_goals
        have i1 : (decide ((0 : Int) < b.size)) = decide (0 < b.size) := by rw [decide_eq_decide]; omega
        have i2 : (decide ((b.size : Int) ≤ 8)) = decide (b.size ≤ 8) := by rw [decide_eq_decide]; omega
        simp only [h1, h2, decide_true, decide_false] at i1 i2 H
        simp only [decide_eq_true_eq, decide_eq_false_iff_not] at i1 i2
        first
          | omega
          | (go_wp2_with (go_at_call 125; refine (ck _).mono ?_; rintro e w3 ⟨rfl, hw⟩; have hw := hw.symm; subst hw)
             go_ret
             exact ⟨by rw [H.out]; simp, hbel⟩)

end Ty
end Go.Proofs.YtkhoccjfkkfipaaGreatDoor
