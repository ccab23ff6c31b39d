/-
  Pieces of a line without blanks, as a plain function; the library's way to them.
-/
import Derived.Test.YtjlchfielpfehaaProg
import Derived.WalkKit
import Derived.Lib.FieldsP
import Derived.Lib.DecodeN
import Derived.Lib.Strings
import Derived.Sort.EncStr
namespace Go.Proofs.Ytjlchfielpfehaa
open Go.RowKit
namespace Fd
open Go.Lib

def fds : List UInt8 → List UInt8 → List (List UInt8)
  | cur, [] => if cur = [] then [] else [cur]
  | cur, b :: r => if b = 32 then (if cur = [] then fds [] r else cur :: fds [] r) else fds (cur ++ [b]) r
def fieldsV (s : List UInt8) : List (List UInt8) := fds [] s

theorem fds_skip : ∀ (p cur r : List UInt8), (∀ b ∈ p, b ≠ 32) → fds cur (p ++ r) = fds (cur ++ p) r
  | [], cur, r, _ => by simp
  | a :: p, cur, r, h => by
    have ha : a ≠ 32 := h a (by simp)
    rw [List.cons_append, fds, if_neg ha, fds_skip p _ r fun b hb => h b (by simp [hb])]
    simp

theorem dec32N (n b0 b1 b2 b3 : Nat) (hn : 1 ≤ n) : ((decodeN n b0 b1 b2 b3).1 = 32 → b0 = 32 ∧ (decodeN n b0 b1 b2 b3).2 = 1) ∧
    ((decodeN n b0 b1 b2 b3).1 ≠ 32 → 1 ≤ (decodeN n b0 b1 b2 b3).2 ∧ (decodeN n b0 b1 b2 b3).2 ≤ n ∧ (decodeN n b0 b1 b2 b3).2 ≤ 4 ∧ b0 ≠ 32 ∧ (2 ≤ (decodeN n b0 b1 b2 b3).2 → b1 ≠ 32) ∧ (3 ≤ (decodeN n b0 b1 b2 b3).2 → b2 ≠ 32) ∧ (4 ≤ (decodeN n b0 b1 b2 b3).2 → b3 ≠ 32)) := by
  obtain ⟨r, hr⟩ : ∃ r, r = decodeN n b0 b1 b2 b3 := ⟨_, rfl⟩
  rw [← hr]
  unfold decodeN at hr
  repeat' split at hr
  all_goals (subst hr; refine ⟨fun h => ⟨?_, ?_⟩, fun h => ⟨?_, ?_, ?_, ?_, fun h2 => ?_, fun h2 => ?_, fun h2 => ?_⟩⟩ <;> (try dsimp only at *) <;> omega)

theorem byte_get (s : ByteArray) (j : Nat) (h : j < s.size) : s.data.toList[j]? = some (s.get! j) := by
  have h' : j < s.data.size := h
  rw [Array.getElem?_toList, Array.getElem?_eq_getElem h']
  congr 1
  show _ = s.data[j]!
  rw [getElem!_pos s.data j h']

theorem dec32 (s : ByteArray) (i : Nat) (h : i < s.size) : ((Utf8.decode s i).1 = 32 → s.get! i = 32 ∧ (Utf8.decode s i).2 = 1) ∧
    ((Utf8.decode s i).1 ≠ 32 → 1 ≤ (Utf8.decode s i).2 ∧ i + (Utf8.decode s i).2 ≤ s.size ∧ ∀ b ∈ (s.data.toList.drop i).take (Utf8.decode s i).2, b ≠ 32) := by
  have hd := dec32N (s.size - i) (s.get! i).toNat (s.get! (i + 1)).toNat (s.get! (i + 2)).toNat (s.get! (i + 3)).toNat (by omega)
  rw [← decode_at] at hd
  refine ⟨fun h1 => ⟨UInt8.toNat_inj.1 (hd.1 h1).1, (hd.1 h1).2⟩, fun h1 => ?_⟩
  obtain ⟨a1, a2, a3, a4, a5, a6, a7⟩ := hd.2 h1
  refine ⟨a1, by omega, fun b hb => ?_⟩
  obtain ⟨j, hj⟩ := List.getElem?_of_mem hb
  have hjw : j < (Utf8.decode s i).2 := by
    have := (List.getElem?_eq_some_iff.1 hj).1
    rw [List.length_take] at this
    omega
  rw [List.getElem?_take_of_lt hjw, List.getElem?_drop, byte_get s (i + j) (by omega)] at hj
  have hb' : s.get! (i + j) = b := by simpa using hj
  rintro rfl
  have hx : (s.get! (i + j)).toNat = 32 := by rw [hb']; rfl
  match j, hjw, hx with
  | 0, _, hx => exact a4 hx
  | 1, hjw, hx => exact a5 (by omega) hx
  | 2, hjw, hx => exact a6 (by omega) hx
  | 3, hjw, hx => exact a7 (by omega) hx
  | j + 4, hjw, _ => omega

def is32 (r : Nat) : Bool := decide (r = 32)

theorem spans_fds (s : ByteArray) : ∀ (f pos : Nat) (st : Option Nat) (acc : List (Nat × Nat)), s.size ≤ pos + f → pos ≤ s.size → (∀ a, st = some a → a < pos) →
    (closeSpans s (spansFromP is32 s f pos st acc)).map (fun p => pieceU s.data.toList p.1 p.2) = acc.map (fun p => pieceU s.data.toList p.1 p.2) ++ fds (openPiece s.data.toList st pos) (s.data.toList.drop pos)
  | 0, pos, st, acc, h, hp, hst => by
    obtain rfl : pos = s.size := by omega
    have hd : s.data.toList.drop s.size = [] := List.drop_eq_nil_of_le (by rw [← size_eq]; exact Nat.le_refl _)
    rw [hd]
    cases st with
    | none => simp [spansFromP, closeSpans, openPiece, fds]
    | some a =>
      have := pieceU_ne s.data.toList a s.size (hst a rfl) (by rw [← size_eq]; exact Nat.le_refl _)
      simp [spansFromP, closeSpans, openPiece, fds, this]
  | f + 1, pos, st, acc, h, hp, hst => by
    by_cases hlt : pos < s.size
    · obtain ⟨hy, hn⟩ := dec32 s pos hlt
      by_cases h32 : (Utf8.decode s pos).1 = 32
      · obtain ⟨hb, hw⟩ := hy h32
        have hdr : s.data.toList.drop pos = 32 :: s.data.toList.drop (pos + 1) := by
          have := byte_get s pos hlt
          rw [hb] at this
          obtain ⟨hl, he⟩ := List.getElem?_eq_some_iff.1 this
          rw [List.drop_eq_getElem_cons hl, he]
        have hi : is32 (Utf8.decode s pos).1 = true := by simp [is32, h32]
        simp only [spansFromP, if_pos hlt, hi, if_true, hw]
        rw [hdr, fds, if_pos rfl]
        cases st with
        | none =>
          have ih := spans_fds s f (pos + 1) none acc (by omega) (by omega) (fun a h => by cases h)
          simpa [openPiece] using ih
        | some a =>
          have hpn := pieceU_ne s.data.toList a pos (hst a rfl) (by rw [← size_eq]; omega)
          have ih := spans_fds s f (pos + 1) none (acc ++ [(a, pos)]) (by omega) (by omega) (fun a h => by cases h)
          simpa [openPiece, hpn] using ih
      · obtain ⟨a1, a2, a3⟩ := hn h32
        have hi : is32 (Utf8.decode s pos).1 = false := by simp [is32, h32]
        have hsk := fds_skip ((s.data.toList.drop pos).take (Utf8.decode s pos).2) (openPiece s.data.toList st pos) (s.data.toList.drop (pos + (Utf8.decode s pos).2)) a3
        rw [← List.drop_drop, List.take_append_drop] at hsk
        rw [List.drop_drop] at hsk
        rw [hsk]
        simp only [spansFromP, if_pos hlt, hi, Bool.false_eq_true, if_false]
        cases st with
        | none =>
          have ih := spans_fds s f (pos + (Utf8.decode s pos).2) (some pos) acc (by omega) a2 (fun a h => by cases h; omega)
          have e : ([] : List UInt8) ++ (s.data.toList.drop pos).take (Utf8.decode s pos).2 = pieceU s.data.toList pos (pos + (Utf8.decode s pos).2) := by
            unfold pieceU
            rw [List.nil_append, Nat.add_sub_cancel_left]
          simp only [openPiece] at ih ⊢
          rw [e]
          exact ih
        | some a =>
          have ih := spans_fds s f (pos + (Utf8.decode s pos).2) (some a) acc (by omega) a2 (fun b h => by cases h; have := hst a rfl; omega)
          simp only [openPiece] at ih ⊢
          rw [pieceU_grow _ _ _ _ (Nat.le_of_lt (hst a rfl))]
          exact ih
    · obtain rfl : pos = s.size := by omega
      have hd : s.data.toList.drop s.size = [] := List.drop_eq_nil_of_le (by rw [← size_eq]; exact Nat.le_refl _)
      rw [hd, spansFromP_end is32 s _ _ _ _ hlt]
      cases st with
      | none => simp [closeSpans, openPiece, fds]
      | some a =>
        have := pieceU_ne s.data.toList a s.size (hst a rfl) (by rw [← size_eq]; exact Nat.le_refl _)
        simp [closeSpans, openPiece, fds, this]

/-- What the library's own way comes to. -/
theorem go_fields (s : ByteArray) : (goFieldsP is32 s).map Value.string = (fieldsV s.data.toList).map encStr := by
  have h := spans_fds s s.size 0 none [] (by omega) (by omega) (fun a h => by cases h)
  simp only [openPiece, List.drop_zero, List.map_nil, List.nil_append] at h
  unfold goFieldsP spansOfP fieldsV
  rw [← h, List.map_map, List.map_map]
  apply List.map_congr_left
  intro x _
  show Value.string (s.extract x.1 x.2) = Value.string _
  rw [extract_eq]
  rfl
theorem go_fields_len (s : ByteArray) : (goFieldsP is32 s).length = (fieldsV s.data.toList).length := by
  have := congrArg List.length (go_fields s)
  simpa using this

theorem fds_len : ∀ (l cur : List UInt8), (fds cur l).length ≤ l.length + 1
  | [], cur => by rw [fds]; split <;> simp
  | b :: r, cur => by
    rw [fds]
    split
    · split
      · have := fds_len r []; simp; omega
      · have := fds_len r []; simp; omega
    · have := fds_len r (cur ++ [b]); simp; omega
theorem fields_len (l : List UInt8) : (fieldsV l).length ≤ l.length + 1 := fds_len l []

end Fd
end Go.Proofs.Ytjlchfielpfehaa
