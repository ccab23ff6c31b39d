/-
  The specification's l5In, l9Back.
-/
import Derived.Test.YtjdohfdkkppnpaaGreatDoorQ30
namespace Go.Proofs.YtjdohfdkkppnpaaGreatDoor
open Go.RowKit
namespace Ty
open Nd
set_option linter.unusedSimpArgs false
set_option linter.unusedVariables false

set_option maxRecDepth 100000 in
theorem sIn5 (M : List UInt8) (b : UInt8) (hM : M.length ≤ 100) (w : World) :
    Calls Tryz.prog 76 #[.string ⟨M.toArray⟩, .int .u8 b.toNat] w fun e w' => e = .returned (.bool (M.contains b)) ∧ w' = w := by
  obtain ⟨s, hs⟩ : ∃ s : ByteArray, s = ⟨M.toArray⟩ := ⟨_, rfl⟩
  have hM' : M = s.data.toList := by subst hs; rfl
  have hsz : (s.size : Int) ≤ 100 := by subst hs; show ((M.toArray.size : Nat) : Int) ≤ 100; simp; omega
  rw [← hs]
  have HM : Hid (M.contains b = s.data.toList.contains b) := by show _ = _; rw [hM']
  clear hs hM' hM
  generalize M.contains b = R at *
  go_enter Tryz.func76, Tryz.ntmps76
  go_wp2_with fail
  go_loopw [5] (fun i wr => ∃ k : Nat, k ≤ s.size ∧ i = .int .i64 k ∧ wr = w ∧ s.data.toList.contains b = (s.data.toList.drop k).contains b) (fun i _ => s.size - (intOf i).toNat)
  case atStart => exact ⟨0, by omega, rfl, rfl, rfl⟩
  case round =>
    obtain ⟨k, hk, rfl, rfl, hno⟩ := hrel
    by_cases hkl : k < s.size
    · rw [drop_at hkl, List.contains_cons] at hno
      by_cases hb : s[k] = b
      · have H : Hid (R = true) := by show _ = _; rw [HM.out, hno, hb]; simp
        have e1 : ((s[k].toNat : Int) == (b.toNat : Int)) = true := by rw [hb]; simp
        have e2 : (s[k].toNat : Int) = (b.toNat : Int) := by rw [hb]
        clear hno HM
        go_wp2_with fail
        go_ret
        exact ⟨by rw [H.out]; rfl, rfl⟩
      · have hne : ¬ (s[k].toNat : Int) = (b.toNat : Int) := fun e => hb (UInt8.toNat.inj (by omega))
        have e1 : ((s[k].toNat : Int) == (b.toNat : Int)) = false := beq_eq_false_iff_ne.2 hne
        have H : Hid (s.data.toList.contains b = (s.data.toList.drop (k + 1)).contains b) := by
          show _ = _
          rw [hno]
          have : (b == s[k]) = false := beq_eq_false_iff_ne.2 fun e => hb e.symm
          rw [this, Bool.false_or]
        clear hno
        go_wp2_with fail
        go_roundw
        case rel => exact ⟨k + 1, by omega, by go_num, by trivial, H.out⟩
        case measure => simp [intOf]; omega
    · obtain rfl : k = s.size := by omega
      have H : Hid (R = false) := by show _ = _; rw [HM.out, hno, drop_end (Nat.le_refl _)]; rfl
      clear hno HM
      go_wp2_with fail
      go_ret
      exact ⟨by rw [H.out]; rfl, rfl⟩

set_option maxHeartbeats 1000000 in
set_option maxRecDepth 100000 in
theorem sBack (s : ByteArray) (M : List UInt8) (hs : s.size ≤ 1048576) (hM : M.length ≤ 100) (w : World) :
    Calls Tryz.prog 39 #[.string s, .string ⟨M.toArray⟩] w fun e w' => e = .returned (.string ⟨(back M s.data.toList).toArray⟩) ∧ Below w.heap.size w w' := by
  have hsI : (s.size : Int) ≤ 1048576 := by omega
  have cI := fun (b : UInt8) w => sIn5 M b hM w
  have HR : Hid (∀ k, (back M (s.data.toList.take k)).length + 2 ≤ 1099511627776) := fun k => by
    have h1 := back_len M (s.data.toList.take k)
    have h2 : (s.data.toList.take k).length ≤ s.size := by rw [List.length_take]; exact Nat.min_le_right _ _
    omega
  have hgrow : ∀ w2, Below w.heap.size w w2 → ∀ o, Below w.heap.size w (w2.alloc o) := fun w2 h o => h.alloc h.size _
  clear hs hM
  go_enter Tryz.func39, Tryz.ntmps39
  go_wp2_with fail
  go_loopw [5, 6] (fun v i wr => ∃ (k : Nat) (ao : Option Addr) (cp : Nat), k ≤ s.size ∧ i = .int .i64 k ∧ v = .slice ao (back M (s.data.toList.take k)).length cp ∧ wr.ownsRow w.heap.size 5 1 v (back M (s.data.toList.take k)).length (u8L (back M (s.data.toList.take k))) ∧ Below w.heap.size w wr) (fun _ i _ => s.size - (intOf i).toNat)
  case atStart => exact ⟨0, some ⟨w.heap.size, 0, none⟩, 0, Nat.zero_le _, rfl, rfl, ⟨rfl, .inr ⟨w.heap.size, 0, #[], rfl, Nat.le_refl _, heap_new _ _, Nat.le_refl _, by unfold maxLen; omega, rfl, rfl⟩⟩, hgrow w (Below.refl _ _) _⟩
  case round =>
    obtain ⟨k, ao, cp, hk, rfl, rfl, hown, hb⟩ := hrel
    by_cases hkl : k < s.size
    · have hbt := back_take M s k hkl
      have call := cI s[k] wr
      have hr := HR.out k
      have bk : (k : Int) < s.size := by omega
      clear cI
      generalize back M (s.data.toList.take k) = L at *
      by_cases hI : M.contains s[k] = true
      · rw [hI] at hbt call
        simp only [if_true] at hbt
        have HT : Hid (back M (s.data.toList.take (k + 1)) = L ++ [92, s[k]]) := hbt
        have R1 : Hid (L.length + 2 ≤ 1099511627776) := hr
        clear hbt hr HR
        go_wp2_with (first
          | (go_at_call 76; refine call.mono ?_; rintro e w2 ⟨rfl, hw⟩; have hw := hw.symm; subst hw)
          | (at_builtin; refine hold ?_))
        refine app_byte (B := w.heap.size) rfl (.tmp 19) (.tmp 20) rfl L ao cp rfl (owns_same hown fun g hg => Below.heap_alloc _ _ _ (hown.lt g hg).2) wr.heap.size 92 rfl ((cell_of_row _ _ 0 _ _ _ (heap_new wr _)).trans rfl) (by have := R1.out; omega) (hgrow wr hb _).size ?_
        intro ao2 cp2 w3 hown3 hb3
        have hb3 := (hgrow wr hb _).trans hb3
        have R2 : Hid ((L ++ [92]).length + 1 ≤ 1099511627776) := by show _ ≤ _; have := R1.out; simp only [List.length_append, List.length_cons, List.length_nil]; omega
        have HT : Hid (back M (s.data.toList.take (k + 1)) = (L ++ [92]) ++ [s[k]]) := by show _ = _; rw [HT.out]; simp
        generalize L ++ [92] = L2 at *
        go_wp2_with (at_builtin; refine hold ?_)
        refine app_byte (B := w.heap.size) rfl (.tmp 22) (.tmp 26) rfl L2 ao2 cp2 rfl (owns_same hown3 fun g hg => Below.heap_alloc _ _ _ (hown3.lt g hg).2) w3.heap.size s[k] rfl ((cell_of_row _ _ 0 _ _ _ (heap_new w3 _)).trans rfl) R2.out (hgrow w3 hb3 _).size ?_
        intro ao4 cp4 w5 hown5 hb5
        have hb5 := (hgrow w3 hb3 _).trans hb5
        rw [← HT.out] at hown5
        have HO : Hid (w5.ownsRow w.heap.size 5 1 (.slice ao4 (back M (s.data.toList.take (k + 1))).length cp4) (back M (s.data.toList.take (k + 1))).length (u8L (back M (s.data.toList.take (k + 1))))) := hown5
        rw [← HT.out]
        generalize hLL : (back M (s.data.toList.take (k + 1))).length = LL at *
        clear hown hown3 hown5
        go_wp2_with fail
        go_roundw
        case rel => exact ⟨k + 1, ao4, cp4, hkl, by go_num, by rw [hLL], by rw [hLL]; exact HO.out, hb5⟩
        case measure => simp [intOf]; omega
      · have hI' : M.contains s[k] = false := by simpa using hI
        rw [hI'] at hbt call
        simp only [Bool.false_eq_true, if_false] at hbt
        have HT : Hid (back M (s.data.toList.take (k + 1)) = L ++ [s[k]]) := hbt
        have R1 : Hid (L.length + 2 ≤ 1099511627776) := hr
        clear hbt hr HR hI hI'
        go_wp2_with (first
          | (go_at_call 76; refine call.mono ?_; rintro e w2 ⟨rfl, hw⟩; have hw := hw.symm; subst hw)
          | (at_builtin; refine hold ?_))
        refine app_byte (B := w.heap.size) rfl (.tmp 22) (.tmp 26) rfl L ao cp rfl (owns_same hown fun g hg => Below.heap_alloc _ _ _ (hown.lt g hg).2) wr.heap.size s[k] rfl ((cell_of_row _ _ 0 _ _ _ (heap_new wr _)).trans rfl) (by have := R1.out; omega) (hgrow wr hb _).size ?_
        intro ao4 cp4 w5 hown5 hb5
        have hb5 := (hgrow wr hb _).trans hb5
        rw [← HT.out] at hown5
        have HO : Hid (w5.ownsRow w.heap.size 5 1 (.slice ao4 (back M (s.data.toList.take (k + 1))).length cp4) (back M (s.data.toList.take (k + 1))).length (u8L (back M (s.data.toList.take (k + 1))))) := hown5
        rw [← HT.out]
        generalize hLL : (back M (s.data.toList.take (k + 1))).length = LL at *
        clear hown hown5
        go_wp2_with fail
        go_roundw
        case rel => exact ⟨k + 1, ao4, cp4, hkl, by go_num, by rw [hLL], by rw [hLL]; exact HO.out, hb5⟩
        case measure => simp [intOf]; omega
    · obtain rfl : k = s.size := by omega
      have htk : s.data.toList.take s.size = s.data.toList := List.take_of_length_le (Nat.le_refl _)
      rw [htk] at hown
      rw [htk]
      have hcc := convL hown
      have HB : Hid (Below w.heap.size w wr) := hb
      go_wp2_with fail
      go_ret
      exact ⟨rfl, HB.out⟩

end Ty
end Go.Proofs.YtjdohfdkkppnpaaGreatDoor

