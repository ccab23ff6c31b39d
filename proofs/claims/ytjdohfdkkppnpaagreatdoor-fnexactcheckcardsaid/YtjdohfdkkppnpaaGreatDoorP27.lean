/-
  Words of tidy trees: names, texts, patterns.
  Words of tidy trees: names, texts, patterns, gone through.
-/
import Derived.Test.YtjdohfdkkppnpaaGreatDoorP26
import Derived.Lib.IndexAny
namespace Go.Proofs.YtjdohfdkkppnpaaGreatDoor
open Go.RowKit
namespace Ty

theorem sIn1 (x lo hi : Int) (w : World) : Calls Tryz.prog 34 #[.int .i64 x, .int .i64 lo, .int .i64 hi] w fun e w' => e = .returned (.bool (decide (lo ≤ x) && decide (x ≤ hi))) ∧ w' = w := by
  by_cases h : lo ≤ x <;> by_cases h2 : x ≤ hi
  all_goals
    rw [show decide (lo ≤ x) = _ from by first | exact decide_eq_true h | exact decide_eq_false h, show decide (x ≤ hi) = _ from by first | exact decide_eq_true h2 | exact decide_eq_false h2]
    go_enter Tryz.func34, Tryz.ntmps34
    go_wp2_with fail
    go_ret
    exact ⟨rfl, rfl⟩

def strV (s : List UInt8) : Value := .string ⟨s.toArray⟩
def StrRow (w : World) (g : Nat) (L : List (List UInt8)) : Prop := ∀ j s, L[j]? = some s → w.cell? ⟨g, j, none⟩ = some (.string ⟨s.toArray⟩)

set_option maxRecDepth 100000 in
theorem sWithin {L : List (List UInt8)} (hL : L.length ≤ 100) (s : List UInt8) (g cap : Nat) (w : World) (hw : StrRow w g L) :
    Calls Tryz.prog 23 #[.slice (some ⟨g, 0, none⟩) L.length cap, .string ⟨s.toArray⟩] w fun e w' => e = .returned (.bool (decide (s ∈ L))) ∧ w' = w := by
  have bn : (L.length : Int) ≤ 100 := by omega
  clear hL
  go_enter Tryz.func23, Tryz.ntmps23
  go_wp2_with fail
  go_loopw [5] (fun i wr => ∃ k : Nat, k ≤ L.length ∧ i = .int .i64 k ∧ wr = w ∧ s ∉ L.take k) (fun i _ => L.length - (intOf i).toNat)
  case atStart => exact ⟨0, by omega, rfl, rfl, by simp⟩
  case round =>
    obtain ⟨k, hk, rfl, rfl, hno⟩ := hrel
    by_cases hkl : k < L.length
    · have hki : L[k]? = some L[k] := List.getElem?_eq_getElem hkl
      have hc := hw k _ hki
      have bk : (k : Int) < L.length := by omega
      have hT : L.take (k + 1) = L.take k ++ [L[k]] := by rw [List.take_add_one, hki]; rfl
      by_cases hs : L[k] = s
      · have H : Hid (decide (s ∈ L) = true) := by show _ = _; simp; rw [← hs]; exact List.getElem_mem hkl
        rw [hs] at hc
        clear hki hT
        go_wp2_with fail
        go_ret
        exact ⟨by rw [H.out]; rfl, rfl⟩
      · have H : Hid (s ∉ L.take (k + 1)) := by show ¬ s ∈ _; rw [hT, List.mem_append]; rintro (h | h); exact hno h; exact hs (List.mem_singleton.1 h).symm
        have e1 : (L[k] == s) = false := beq_eq_false_iff_ne.2 hs
        clear hki hT hs hno
        go_wp2_with fail
        go_roundw
        case rel => exact ⟨k + 1, by omega, by go_num, by trivial, H.out⟩
        case measure => simp [intOf]; omega
    · obtain rfl : k = L.length := by omega
      rw [List.take_length] at hno
      have H : Hid (decide (s ∈ L) = false) := decide_eq_false hno
      go_wp2_with fail
      go_ret
      exact ⟨by rw [H.out]; rfl, rfl⟩

theorem strRow_new (w : World) (L : List (List UInt8)) (o : Obj) (ho : o = .cells (L.map strV).toArray 9) : StrRow (w.alloc o) w.heap.size L := fun j s h => by
  have := heap_alloc_new w o
  subst ho
  exact (cell_of_row _ _ j _ _ _ this).trans (by simp [h, strV])

theorem sCalls (w : World) : Calls Tryz.prog 71 #[] w fun e w' => e = .returned (.slice (some ⟨w.heap.size, 0, none⟩) 6 6) ∧ StrRow w' w.heap.size callL ∧ Below w.heap.size w w' := by
  obtain ⟨o, ho⟩ : ∃ o, o = Obj.cells (callL.map strV).toArray 9 := ⟨_, rfl⟩
  have h1 : Hid (StrRow (w.alloc o) w.heap.size callL) := strRow_new w callL o ho
  have h2 : Hid (Below w.heap.size w (w.alloc o)) := (Below.refl _ w).alloc (Nat.le_refl _) _
  subst ho
  go_enter Tryz.func71, Tryz.ntmps71
  go_wp2_with fail
  go_ret
  exact ⟨rfl, h1.out, h2.out⟩

theorem key_eq (s : List UInt8) : keyB s = (decide (s ∈ orderL ++ ownL) || callB s) := rfl
theorem sKeyword (s : List UInt8) (w : World) : Calls Tryz.prog 104 #[.string ⟨s.toArray⟩] w fun e w' => e = .returned (.bool (keyB s)) ∧ Below w.heap.size w w' := by
  obtain ⟨o, ho⟩ : ∃ o, o = Obj.cells ((orderL ++ ownL).map strV).toArray 9 := ⟨_, rfl⟩
  have h1 := strRow_new w _ o ho
  have h2 : Below w.heap.size w (w.alloc o) := (Below.refl _ w).alloc (Nat.le_refl _) _
  have c1 := sWithin (L := orderL ++ ownL) (by decide) s w.heap.size 9 _ h1
  have c2 := sCalls (w.alloc o)
  have c3 : ∀ w', StrRow w' (w.alloc o).heap.size callL → Calls Tryz.prog 23 #[.slice (some ⟨(w.alloc o).heap.size, 0, none⟩) 6 6, .string ⟨s.toArray⟩] w' fun e w'' => e = .returned (.bool (callB s)) ∧ w'' = w' := fun w' h => sWithin (L := callL) (by decide) s _ 6 w' h
  have HK : Hid (keyB s = (decide (s ∈ orderL ++ ownL) || callB s)) := key_eq s
  generalize hW : w.alloc o = W1 at *
  subst ho
  have HW := (show Hid _ from hW)
  clear hW h1
  have hlen : (orderL ++ ownL).length = 9 := rfl
  rw [hlen] at c1
  generalize decide (s ∈ orderL ++ ownL) = B1 at *
  generalize callB s = B2 at *
  generalize keyB s = B3 at *
  have HW1 : Hid (∀ (p : World → Prop), p W1 → p (w.alloc (.cells ((orderL ++ ownL).map strV).toArray 9))) := fun p hp => by rw [HW.out]; exact hp
  cases B1
  · go_enter Tryz.func104, Tryz.ntmps104
    go_wp2_with (first
      | (go_at_call 23; refine HW1.out (fun W => Calls _ _ _ W _) ?_; refine c1.mono ?_; rintro e w1 ⟨rfl, hw⟩; have hw := hw.symm; subst hw)
      | (go_at_call 71; refine c2.mono ?_; rintro e w2 ⟨rfl, hr, hb2⟩)
      | (go_at_call 23; refine (c3 _ hr).mono ?_; rintro e w3 ⟨rfl, hw⟩; have hw := hw.symm; subst hw))
    go_ret
    exact ⟨by rw [HK.out]; rfl, h2.trans (hb2.mono h2.size)⟩
  · go_enter Tryz.func104, Tryz.ntmps104
    go_wp2_with (first
      | (go_at_call 23; refine HW1.out (fun W => Calls _ _ _ W _) ?_; refine c1.mono ?_; rintro e w1 ⟨rfl, hw⟩; have hw := hw.symm; subst hw))
    go_ret
    exact ⟨by rw [HK.out]; rfl, h2⟩

end Ty
end Go.Proofs.YtjdohfdkkppnpaaGreatDoor

namespace Go.Proofs.YtjdohfdkkppnpaaGreatDoor
open Go.RowKit
namespace Ty

theorem ltr_cons (c : UInt8) (r : List UInt8) : lettersB (c :: r) = (letB c.toNat && lettersB r) := by simp [lettersB]
theorem toList_mk (s : List UInt8) : (⟨s.toArray⟩ : ByteArray).data.toList = s := rfl

set_option maxRecDepth 100000 in
theorem sLine (s : ByteArray) (hs : (s.size : Int) ≤ 1048576) (w : World) :
    Calls Tryz.prog 68 #[.string s] w fun e w' => e = .returned (.bool (lineB s.data.toList)) ∧ w' = w := by
  go_enter Tryz.func68, Tryz.ntmps68
  go_wp2_with fail
  go_loopw [3] (fun i wr => ∃ k : Nat, k ≤ s.size ∧ i = .int .i64 k ∧ wr = w ∧ lineB s.data.toList = lineB (s.data.toList.drop k)) (fun i _ => s.size - (intOf i).toNat)
  case atStart => exact ⟨0, by omega, rfl, rfl, rfl⟩
  case round =>
    obtain ⟨k, hk, rfl, rfl, hno⟩ := hrel
    by_cases hkl : k < s.size
    · rw [drop_at hkl, line_cons] at hno
      by_cases hb : s[k].toNat = 10
      · have H : Hid (lineB s.data.toList = false) := by show _ = _; rw [hno, hb]; simp
        have e1 : (s[k].toNat : Int) = 10 := by omega
        have e2 : ((s[k].toNat : Int) == 10) = true := by rw [e1]; rfl
        clear hno
        go_wp2_with fail
        go_ret
        exact ⟨by rw [H.out]; rfl, rfl⟩
      · have H : Hid (lineB s.data.toList = lineB (s.data.toList.drop (k + 1))) := by show _ = _; rw [hno]; simp [hb]
        have e1 : ¬ (s[k].toNat : Int) = 10 := by omega
        have e2 : ((s[k].toNat : Int) == 10) = false := beq_eq_false_iff_ne.2 e1
        clear hno
        go_wp2_with fail
        go_roundw
        case rel => exact ⟨k + 1, by omega, by go_num, by trivial, H.out⟩
        case measure => simp [intOf]; omega
    · obtain rfl : k = s.size := by omega
      have H : Hid (lineB s.data.toList = true) := by show _ = _; rw [hno, drop_end (Nat.le_refl _)]; rfl
      clear hno
      go_wp2_with fail
      go_ret
      exact ⟨by rw [H.out]; rfl, rfl⟩

set_option maxRecDepth 100000 in
theorem sRex (s : ByteArray) (hs : (s.size : Int) ≤ 1048576) (w : World) :
    Calls Tryz.prog 69 #[.string s] w fun e w' => e = .returned (.bool (rexB s.data.toList)) ∧ w' = w := by
  have HR : Hid (rexB s.data.toList = (escB s.data.toList && lineB s.data.toList)) := rfl
  have call := sLine s hs w
  generalize rexB s.data.toList = R at *
  go_enter Tryz.func69, Tryz.ntmps69
  go_wp2_with fail
  go_loopw [3] (fun i wr => ∃ k : Nat, k ≤ s.size ∧ i = .int .i64 k ∧ wr = w ∧ escB s.data.toList = escB (s.data.toList.drop k)) (fun i _ => s.size - (intOf i).toNat)
  case atStart => exact ⟨0, by omega, rfl, rfl, rfl⟩
  case round =>
    obtain ⟨k, hk, rfl, rfl, hno⟩ := hrel
    by_cases hkl : k < s.size
    · rw [drop_at hkl] at hno
      by_cases hb : s[k].toNat = 92
      · have e1 : (s[k].toNat : Int) = 92 := by omega
        have e2 : ((s[k].toNat : Int) == 92) = true := by rw [e1]; rfl
        by_cases hk1 : k + 1 < s.size
        · rw [drop_at hk1, esc_two hb] at hno
          obtain ⟨k1, hk1e⟩ : ∃ k1, k1 = k + 1 := ⟨_, rfl⟩
          have t1 : (k : Int) + 1 = (k1 : Int) := by omega
          have hk2 : k1 < s.size := by omega
          have n1 : ¬ (k1 : Int) = s.size := by omega
          have n2 : ((k1 : Int) == (s.size : Int)) = false := beq_eq_false_iff_ne.2 n1
          have n3 : (k1 == s.size) = false := beq_eq_false_iff_ne.2 (by omega)
          have n4 : ¬ k1 = s.size := by omega
          have hno2 : escB s.data.toList = (decide (s[k1].toNat ≠ 47) && escB (s.data.toList.drop (k1 + 1))) := by subst hk1e; exact hno
          have K1 : Hid (k1 = k + 1) := hk1e
          clear hno hk1e
          by_cases h47 : s[k1].toNat = 47
          · have H : Hid (R = false) := by show _ = _; rw [HR.out, hno2, h47]; simp
            have f1 : (s[k1].toNat : Int) = 47 := by omega
            have f2 : ((s[k1].toNat : Int) == 47) = true := by rw [f1]; rfl
            clear hno2 HR
            go_wp2_with fail
            go_ret
            exact ⟨by rw [H.out]; rfl, rfl⟩
          · have H : Hid (escB s.data.toList = escB (s.data.toList.drop (k1 + 1))) := by show _ = _; rw [hno2]; simp [h47]
            have f1 : ¬ (s[k1].toNat : Int) = 47 := by omega
            have f2 : ((s[k1].toNat : Int) == 47) = false := beq_eq_false_iff_ne.2 f1
            clear hno2 HR
            go_wp2_with fail
            go_roundw
            case rel => exact ⟨k1 + 1, by omega, by go_num, by trivial, H.out⟩
            case measure => have := K1.out; simp [intOf]; omega
        · rw [drop_end (by omega), esc_end hb] at hno
          have H : Hid (R = false) := by show _ = _; rw [HR.out, hno]; simp
          have n1 : (k : Int) + 1 = s.size := by omega
          clear hno HR
          go_wp2_with fail
          go_ret
          exact ⟨by rw [H.out]; rfl, rfl⟩
      · rw [esc_one hb] at hno
        have H : Hid (escB s.data.toList = escB (s.data.toList.drop (k + 1))) := hno
        have e1 : ¬ (s[k].toNat : Int) = 92 := by omega
        have e2 : ((s[k].toNat : Int) == 92) = false := beq_eq_false_iff_ne.2 e1
        clear hno
        go_wp2_with fail
        go_roundw
        case rel => exact ⟨k + 1, by omega, by go_num, by trivial, H.out⟩
        case measure => simp [intOf]; omega
    · obtain rfl : k = s.size := by omega
      have H : Hid (R = lineB s.data.toList) := by show _ = _; rw [HR.out, hno, drop_end (Nat.le_refl _)]; simp [escB]
      clear hno HR
      go_wp2_with (go_at_call 68; refine call.mono ?_; rintro e w2 ⟨rfl, hw⟩; have hw := hw.symm; subst hw)
      go_ret
      exact ⟨by rw [H.out]; rfl, rfl⟩

set_option maxRecDepth 100000 in
theorem sName (s : List UInt8) (hs : s.length ≤ 1048576) (w : World) :
    Calls Tryz.prog 70 #[.string ⟨s.toArray⟩] w fun e w' => e = .returned (.bool (nameB s)) ∧ Below w.heap.size w w' := by
  have HN : Hid (nameB s = (lettersB s && (decide (0 < s.length) && decide (s.length ≤ 8) && freeB s))) := rfl
  have HF : Hid (freeB s = !keyB s) := key_free s
  have ck := sKeyword s
  obtain ⟨b, hb⟩ : ∃ b : ByteArray, b = ⟨s.toArray⟩ := ⟨_, rfl⟩
  have hl : s = b.data.toList := by subst hb; rfl
  have hsz : b.size = s.length := by subst hb; rfl
  rw [← hb] at ck ⊢
  have hsI : (b.size : Int) ≤ 1048576 := by omega
  have HZ : Hid (b.size = s.length) := hsz
  have HL : Hid (s = b.data.toList) := hl
  have cin := sIn1 (b.size : Int) 1 8
  generalize hNB : nameB s = N at *
  generalize hKB : keyB s = K at *
  clear hb hl hsz hs hNB hKB
  go_enter Tryz.func70, Tryz.ntmps70
  go_wp2_with fail
  go_loopw [3] (fun i wr => ∃ k : Nat, k ≤ b.size ∧ i = .int .i64 k ∧ wr = w ∧ lettersB b.data.toList = lettersB (b.data.toList.drop k)) (fun i _ => b.size - (intOf i).toNat)
  case atStart => exact ⟨0, by omega, rfl, rfl, rfl⟩
  case round =>
    obtain ⟨k, hk, rfl, rfl, hno⟩ := hrel
    by_cases hkl : k < b.size
    · rw [drop_at hkl, ltr_cons] at hno
      have call := sLetter b[k].toNat wr
      rcases hl : letB b[k].toNat with _ | _
      · rw [hl] at hno call
        have H : Hid (N = false) := by show _ = _; rw [HN.out, HL.out, hno]; simp
        clear hno HN HL
        go_wp2_with (go_at_call 103; refine call.mono ?_; rintro e w2 ⟨rfl, hw⟩; have hw := hw.symm; subst hw)
        go_ret
        exact ⟨by rw [H.out]; rfl, Below.refl _ _⟩
      · rw [hl] at hno call
        have H : Hid (lettersB b.data.toList = lettersB (b.data.toList.drop (k + 1))) := by show _ = _; rw [hno]; simp
        clear hno
        go_wp2_with (go_at_call 103; refine call.mono ?_; rintro e w2 ⟨rfl, hw⟩; have hw := hw.symm; subst hw)
        go_roundw
        case rel => exact ⟨k + 1, by omega, by go_num, by trivial, H.out⟩
        case measure => simp [intOf]; omega
    · obtain rfl : k = b.size := by omega
      rw [drop_end (Nat.le_refl _)] at hno
      have H : Hid (N = ((decide (1 ≤ (b.size : Int)) && decide ((b.size : Int) ≤ 8)) && !K)) := by
        show _ = _
        rw [HN.out, HF.out, HL.out, hno, ← HL.out, ← HZ.out, show decide (0 < b.size) = decide (1 ≤ (b.size : Int)) by rw [decide_eq_decide]; omega, show decide (b.size ≤ 8) = decide ((b.size : Int) ≤ 8) by rw [decide_eq_decide]; omega]
        simp [lettersB]
      clear hno HN HF HL
      generalize (decide (1 ≤ (b.size : Int)) && decide ((b.size : Int) ≤ 8)) = G at *
      cases G
      all_goals
        go_wp2_with (first
          | (go_at_call 34; refine (cin _).mono ?_; rintro e w2 ⟨rfl, hw⟩; have hw := hw.symm; subst hw)
          | (go_at_call 104; refine (ck _).mono ?_; rintro e w3 ⟨rfl, hb3⟩))
        go_ret
      · exact ⟨by rw [H.out]; simp, Below.refl _ _⟩
      · exact ⟨by rw [H.out]; simp, hb3⟩

end Ty
end Go.Proofs.YtjdohfdkkppnpaaGreatDoor

