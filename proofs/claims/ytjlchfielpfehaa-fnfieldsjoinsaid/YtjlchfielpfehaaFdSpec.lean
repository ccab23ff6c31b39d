/-
  Fields, the program's and the specification's.
-/
import Derived.Test.YtjlchfielpfehaaFdMath
import Derived.Test.YtjlchfielpfehaaShelf
import Derived.WalkKit
import Derived.Laws.MakeOwn
import Derived.Laws.OwnMore
import Derived.Maps.AppendAt
namespace Go.Proofs.Ytjlchfielpfehaa
open Go.RowKit
namespace Fd
open Go.Lib

theorem info : (Try.prog.info? 9).map (fun i => (i.zero, i.size, i.bytes)) = some (some (.string ⟨#[]⟩), 1, 16) := by kernel_rfl

/-- Behind k bytes, with the piece begun at a: what is told already. -/
def At (l : List UInt8) (k a : Nat) (O : List (List UInt8)) : Prop := (k ≤ l.length ∧ a ≤ k ∧ O.length ≤ k ∧ O ++ fds (pieceU l a k) (l.drop k) = fieldsV l) ∨ (k = l.length + 1 ∧ O = fieldsV l)

theorem piece_same (l : List UInt8) (a : Nat) : pieceU l a a = [] := by simp [pieceU]
theorem piece_nil {l : List UInt8} {a k : Nat} (h : a ≤ k) (hk : k ≤ l.length) : pieceU l a k = [] ↔ a = k := by
  refine ⟨fun h0 => ?_, fun e => by rw [e, piece_same]⟩
  by_cases h1 : a < k
  · exact absurd h0 (pieceU_ne l a k h1 hk)
  · omega
theorem at_zero (l : List UInt8) : At l 0 0 [] := .inl ⟨Nat.zero_le _, Nat.le_refl _, by simp, by rw [piece_same]; rfl⟩
theorem at_skip {l : List UInt8} {k a : Nat} {O : List (List UInt8)} {b : UInt8} (h : At l k a O) (hb : l[k]? = some b) (hn : b ≠ 32) : At l (k + 1) a O := by
  obtain ⟨hk, hbe⟩ := List.getElem?_eq_some_iff.1 hb
  rcases h with ⟨h1, h2, h3, h4⟩ | ⟨h1, _⟩
  · refine .inl ⟨hk, by omega, by omega, ?_⟩
    rw [← h4, List.drop_eq_getElem_cons hk, hbe, fds, if_neg hn]
    congr 2
    rw [← pieceU_grow l a k 1 h2, List.drop_eq_getElem_cons hk, hbe]
    rfl
  · omega
theorem at_end {l : List UInt8} {k a : Nat} {O : List (List UInt8)} (h : At l k a O) (hk : k ≤ l.length) (hb : k = l.length ∨ l[k]? = some 32) : At l (k + 1) (k + 1) (if a < k then O ++ [pieceU l a k] else O) := by
  rcases h with ⟨h1, h2, h3, h4⟩ | ⟨h1, _⟩
  · have hp : fds (pieceU l a k) (l.drop k) = (if a < k then [pieceU l a k] else []) ++ (if k = l.length then [] else fds [] (l.drop (k + 1))) := by
      by_cases hkl : k = l.length
      · rw [if_pos hkl, List.drop_of_length_le (by omega), fds]
        by_cases hak : a < k
        · rw [if_pos hak, if_neg (pieceU_ne l a k hak hk)]; rfl
        · rw [if_neg hak, if_pos ((piece_nil h2 hk).2 (by omega))]; rfl
      · have hlt : k < l.length := by omega
        have hbe := hb.resolve_left hkl
        obtain ⟨_, hbe⟩ := List.getElem?_eq_some_iff.1 hbe
        rw [if_neg hkl, List.drop_eq_getElem_cons hlt, hbe, fds, if_pos rfl]
        by_cases hak : a < k
        · rw [if_pos hak, if_neg (pieceU_ne l a k hak hk)]; rfl
        · rw [if_neg hak, if_pos ((piece_nil h2 hk).2 (by omega))]; rfl
    rw [hp, ← List.append_assoc] at h4
    have ho : O ++ (if a < k then [pieceU l a k] else []) = (if a < k then O ++ [pieceU l a k] else O) := by split <;> simp
    rw [ho] at h4
    by_cases hkl : k = l.length
    · rw [if_pos hkl, List.append_nil] at h4
      exact .inr ⟨by omega, h4⟩
    · rw [if_neg hkl] at h4
      refine .inl ⟨by omega, Nat.le_refl _, ?_, ?_⟩
      · split
        · rw [List.length_append]; simp; omega
        · omega
      · rw [piece_same]; exact h4
  · omega

theorem new_none (w : World) : (w.alloc (.cells #[] 9)).ownsRow w.heap.size 9 1 (.slice (some ⟨w.heap.size, 0, none⟩) 0 0) 0 [] :=
  ⟨rfl, .inr ⟨w.heap.size, 0, #[], rfl, Nat.le_refl _, heap_alloc_new _ _, Nat.le_refl _, by unfold maxLen; omega, rfl, rfl⟩⟩

set_option maxRecDepth 100000 in
theorem sFields {s : ByteArray} (hs : s.size ≤ 1048576) (w : World) :
    Calls Try.prog 11 #[.string s] w fun e w' => ∃ v, e = .returned v ∧ w'.ownsRow w.heap.size 9 1 v (fieldsV s.data.toList).length ((fieldsV s.data.toList).map encStr) ∧ Below w.heap.size w w' := by
  obtain ⟨i0, hi0, hz0, hz1, hz2⟩ := info_parts info
  have bs : (s.size : Int) ≤ 1048576 := by omega
  have hfl := fields_len s.data.toList
  have hsz : s.data.toList.length = s.size := (size_eq s).symm
  obtain ⟨F, hF⟩ : ∃ F, F = fieldsV s.data.toList := ⟨_, rfl⟩
  have HF : Hid (F = fieldsV s.data.toList) := hF
  rw [← hF]
  clear hF
  go_enter Try.func11, Try.ntmps11
  go_wp2_with fail
  go_loopw [3, 4, 5] (fun v fr i wr => ∃ (k a : Nat) (O : List (List UInt8)), k ≤ s.size + 1 ∧ a ≤ k ∧ O.length ≤ k ∧ i = .int .i64 k ∧ fr = .int .i64 a ∧ Hid (At s.data.toList k a O) ∧ wr.ownsRow w.heap.size 9 1 v O.length (O.map encStr) ∧ Below w.heap.size w wr) (fun _ _ i _ => s.size + 1 - (intOf i).toNat)
  case atStart => exact ⟨0, 0, [], Nat.zero_le _, Nat.le_refl _, Nat.le_refl _, rfl, rfl, at_zero _, new_none w, (Below.refl _ w).alloc (Nat.le_refl _) _⟩
  case round =>
    obtain ⟨k, a, O, hk, hak, hO, rfl, rfl, HA, hown, hnx⟩ := hrel
    have hA := HA.out
    have hsn := hnx.size
    by_cases hkl : k ≤ s.size
    · have bk : (k : Int) ≤ s.size := by omega
      by_cases hsk : ∃ b, s.data.toList[k]? = some b ∧ b ≠ 32
      · obtain ⟨b, hb, hn⟩ := hsk
        have hlt : k < s.size := by rw [← hsz]; exact (List.getElem?_eq_some_iff.1 hb).1
        have H1 : Hid (At s.data.toList (k + 1) a O) := at_skip hA hb hn
        clear hA HA
        have bk2 : (k : Int) < s.size := by omega
        have hx : ((((s[k]'hlt).toNat : Nat) : Int) != 32) = true := by
          have hbe := (List.getElem?_eq_some_iff.1 hb).2
          have : s[k]'hlt = b := by rw [← hbe]; simp [ByteArray.getElem_eq_getElem_data]
          rw [this]
          simp only [bne_iff_ne, ne_eq]
          intro e
          exact hn (UInt8.toNat_inj.1 (by have : b.toNat = 32 := by omega
                                          rw [this]; rfl))
        clear hn hb
        go_wp2_with fail
        go_roundw
        case rel => exact ⟨k + 1, a, O, by omega, by omega, by omega, by go_num, rfl, H1, hown, hnx⟩
        case measure => simp [intOf]; omega
      · have hor : k = s.size ∨ s.data.toList[k]? = some 32 := by
          by_cases he : k = s.size
          · exact .inl he
          · have hlt : k < s.data.toList.length := by omega
            right
            rw [List.getElem?_eq_getElem hlt]
            by_cases h32 : s.data.toList[k] = 32
            · rw [h32]
            · exact absurd ⟨_, List.getElem?_eq_getElem hlt, h32⟩ hsk
        have H0 : Hid (At s.data.toList (k + 1) (k + 1) (if a < k then O ++ [pieceU s.data.toList a k] else O)) := at_end hA (by omega) (hor.imp (fun h => by omega) id)
        clear hA HA hsk
        by_cases hak2 : a < k
        · have H1 : Hid (At s.data.toList (k + 1) (k + 1) (O ++ [pieceU s.data.toList a k])) := by have := H0.out; rw [if_pos hak2] at this; exact this
          have bak : (a : Int) < k := by omega
          clear H0
          by_cases he : k = s.size
          · have be : ¬ ((k : Int) < s.size) := by omega
            clear he hor
            go_wp2_with (first | (at_builtin; refine wpList_append_own_at _ rfl _ _ 25 rfl w.heap.size 9 i0 (.string ⟨#[]⟩) 1 16 Try.underlying25 hi0 hz0 hz1 hz2 rfl (by decide) _ _ _ rfl (hown.alloc _) ⟨wr.heap.size, 0, none⟩ 1 1 [.string (s.extract a k)] rfl rfl (cell_one_new _ _ _) (by simp [Value.oneCell']) (by unfold maxLen; omega) (by omega) (by simp; omega) ?_; intro v' w1 hown' hgrow _ _))
            go_roundw
            case rel =>
              refine ⟨k + 1, k + 1, O ++ [pieceU s.data.toList a k], by omega, by omega, by simp; omega, by go_num, by go_num, H1, ?_, (hnx.alloc (by omega) _).grown hgrow (by simp; omega) (fun b hb => (hown.lt b hb).1)⟩
              simpa [extract_eq, pieceU] using hown'
            case measure => simp [intOf]; omega
          · have hlt : k < s.size := by omega
            have bk2 : (k : Int) < s.size := by omega
            have hx : ((((s[k]'hlt).toNat : Nat) : Int) != 32) = false := by
              have hb := hor.resolve_left he
              have hbe := (List.getElem?_eq_some_iff.1 hb).2
              have : s[k]'hlt = 32 := by rw [← hbe]; simp [ByteArray.getElem_eq_getElem_data]
              rw [this]; rfl
            clear hor
            go_wp2_with (first | (at_builtin; refine wpList_append_own_at _ rfl _ _ 25 rfl w.heap.size 9 i0 (.string ⟨#[]⟩) 1 16 Try.underlying25 hi0 hz0 hz1 hz2 rfl (by decide) _ _ _ rfl (hown.alloc _) ⟨wr.heap.size, 0, none⟩ 1 1 [.string (s.extract a k)] rfl rfl (cell_one_new _ _ _) (by simp [Value.oneCell']) (by unfold maxLen; omega) (by omega) (by simp; omega) ?_; intro v' w1 hown' hgrow _ _))
            go_roundw
            case rel =>
              refine ⟨k + 1, k + 1, O ++ [pieceU s.data.toList a k], by omega, by omega, by simp; omega, by go_num, by go_num, H1, ?_, (hnx.alloc (by omega) _).grown hgrow (by simp; omega) (fun b hb => (hown.lt b hb).1)⟩
              simpa [extract_eq, pieceU] using hown'
            case measure => simp [intOf]; omega
        · have H1 : Hid (At s.data.toList (k + 1) (k + 1) O) := by have := H0.out; rw [if_neg hak2] at this; exact this
          have bak : ¬ ((a : Int) < k) := by omega
          clear H0
          by_cases he : k = s.size
          · have be : ¬ ((k : Int) < s.size) := by omega
            clear he hor
            go_wp2_with fail
            go_roundw
            case rel => exact ⟨k + 1, k + 1, O, by omega, by omega, by omega, by go_num, by go_num, H1, hown, hnx⟩
            case measure => simp [intOf]; omega
          · have hlt : k < s.size := by omega
            have bk2 : (k : Int) < s.size := by omega
            have hx : ((((s[k]'hlt).toNat : Nat) : Int) != 32) = false := by
              have hb := hor.resolve_left he
              have hbe := (List.getElem?_eq_some_iff.1 hb).2
              have : s[k]'hlt = 32 := by rw [← hbe]; simp [ByteArray.getElem_eq_getElem_data]
              rw [this]; rfl
            clear hor
            go_wp2_with fail
            go_roundw
            case rel => exact ⟨k + 1, k + 1, O, by omega, by omega, by omega, by go_num, by go_num, H1, hown, hnx⟩
            case measure => simp [intOf]; omega
    · obtain rfl : k = s.size + 1 := by omega
      have hOF : O = F := by
        rcases hA with ⟨h1, _⟩ | ⟨_, h2⟩
        · omega
        · rw [h2, HF.out]
      subst hOF
      clear hA HA HF
      go_wp2_with fail
      go_ret
      exact ⟨_, rfl, hown, hnx⟩

end Fd
end Go.Proofs.Ytjlchfielpfehaa
