/-
  Logs, plainly: what is right of them, the term at a number, what stands there when a list is put.
-/
import Derived.Test.YtipjgkekjocljabLgArg
namespace Go.Proofs.Ytipjgkekjocljab
open Go.RowKit
namespace Lg

/-- Whether entries are right behind one of that term. -/
def entriesB (t : Int) : List En → Bool
  | [] => true
  | v :: r => decide (t ≤ v.1) && (decide (v.1 ≤ 300) && (Mc.cmdB v.2.1 v.2.2.1 v.2.2.2 && entriesB v.1 r))
/-- Whether a log is right. -/
def logB (b t : Int) (L : List En) : Bool := decide (0 ≤ b ∧ b ≤ 300) && (decide (0 ≤ t ∧ t ≤ 300) && (decide ((L.length : Int) ≤ 300 - b) && entriesB t L))
/-- The term at a number; -1 where there is none. -/
def termAt (b t : Int) (L : List En) (i : Int) : Int := if i = b then t else if b < i then (match L[(i - b - 1).toNat]? with | some v => v.1 | none => -1) else -1
/-- What stands there when a list is put behind the k-th. -/
def putE (L : List En) (k : Nat) : List En → List En
  | [] => L
  | m :: ms => if L[k]?.map (fun v => v.1) = some m.1 then putE L (k + 1) ms else L.take k ++ m :: ms

theorem logB_parts {b t : Int} {L : List En} (h : logB b t L = true) : 0 ≤ b ∧ b ≤ 300 ∧ 0 ≤ t ∧ t ≤ 300 ∧ (L.length : Int) ≤ 300 - b ∧ entriesB t L = true := by
  unfold logB at h
  simp only [Bool.and_eq_true, decide_eq_true_eq] at h
  obtain ⟨⟨a1, a2⟩, ⟨a3, a4⟩, a5, a6⟩ := h
  exact ⟨a1, a2, a3, a4, a5, a6⟩

theorem putE_len (L : List En) : ∀ (ms : List En) (k : Nat), k ≤ L.length → k + ms.length ≤ (putE L k ms).length
  | [], k, h => by simpa [putE] using h
  | m :: ms, k, h => by
    unfold putE
    by_cases hc : L[k]?.map (fun v => v.1) = some m.1
    · rw [if_pos hc]
      have hk : k < L.length := by
        by_cases hk : k < L.length
        · exact hk
        · rw [List.getElem?_eq_none (by omega)] at hc; simp at hc
      have := putE_len L ms (k + 1) hk
      simp only [List.length_cons]
      omega
    · rw [if_neg hc]
      simp only [List.length_append, List.length_take, List.length_cons]
      omega

theorem putE_over (L : List En) : ∀ (ms : List En) (k : Nat), L.length ≤ k → k ≤ L.length → putE L k ms = L ++ ms
  | [], k, _, _ => by simp [putE]
  | m :: ms, k, h1, h2 => by
    unfold putE
    rw [if_neg (by rw [List.getElem?_eq_none h1]; simp), List.take_of_length_le h1]

theorem putE_turn {L : List En} {k : Nat} {m : En} {ms : List En} (hk : k ≤ L.length) (h : L[k]?.map (fun v => v.1) ≠ some m.1) : putE (L.take k ++ [m]) (k + 1) ms = putE L k (m :: ms) := by
  have hl : (L.take k ++ [m]).length = k + 1 := by simp; omega
  rw [putE_over _ _ _ (by omega) (by omega)]
  show _ = if _ then _ else _
  rw [if_neg h, List.append_assoc]
  rfl
theorem putE_same {L : List En} {k : Nat} {m : En} {ms : List En} (h : L[k]?.map (fun v => v.1) = some m.1) : putE L k (m :: ms) = putE L (k + 1) ms := by
  show (if _ then _ else _) = _
  rw [if_pos h]

theorem putE_mem (L : List En) : ∀ (ms : List En) (k : Nat), ∀ v ∈ putE L k ms, v ∈ L ∨ v ∈ ms
  | [], k, v, h => .inl h
  | m :: ms, k, v, h => by
    unfold putE at h
    split at h
    · rcases putE_mem L ms (k + 1) v h with h | h
      · exact .inl h
      · exact .inr (List.mem_cons_of_mem _ h)
    · rcases List.mem_append.1 h with h | h
      · exact .inl (List.mem_of_mem_take h)
      · exact .inr h
theorem putE_max (L : List En) : ∀ (ms : List En) (k : Nat), (putE L k ms).length ≤ L.length + ms.length
  | [], k => by simp [putE]
  | m :: ms, k => by
    unfold putE
    split
    · have := putE_max L ms (k + 1)
      simp only [List.length_cons]
      omega
    · simp only [List.length_append, List.length_take, List.length_cons]
      omega

/-- What LogPut answers: the log, and whether it was put. -/
def putL (b t : Int) (L : List En) (p pt : Int) (M : List En) : (Int × Int × List En) × Bool :=
  if logB b t L = true then
    if pt < 0 ∨ termAt b t L p ≠ pt then ((b, t, L), false)
    else if logB b t (putE L (p - b).toNat M) = true then ((b, t, putE L (p - b).toNat M), true) else ((b, t, L), false)
  else ((0, 0, []), false)

theorem termAt_place {b t : Int} {L : List En} {p pt : Int} (h0 : 0 ≤ pt) (h : termAt b t L p = pt) : b ≤ p ∧ (p - b).toNat ≤ L.length := by
  unfold termAt at h
  by_cases h1 : p = b
  · subst h1
    exact ⟨Int.le_refl _, by simp⟩
  · rw [if_neg h1] at h
    by_cases h2 : b < p
    · rw [if_pos h2] at h
      by_cases h3 : (p - b - 1).toNat < L.length
      · exact ⟨by omega, by omega⟩
      · rw [List.getElem?_eq_none (by omega)] at h
        simp at h
        omega
    · rw [if_neg h2] at h
      omega

theorem put_far {b t : Int} {L M : List En} {p pt : Int} (h0 : 0 ≤ pt) (h : termAt b t L p = pt) (hm : 300 - p < (M.length : Int)) : logB b t (putE L (p - b).toNat M) = false := by
  obtain ⟨h1, h2⟩ := termAt_place h0 h
  have := putE_len L M _ h2
  cases hb : logB b t (putE L (p - b).toNat M)
  · rfl
  · obtain ⟨_, _, _, _, h5, _⟩ := logB_parts hb
    omega

end Lg
end Go.Proofs.Ytipjgkekjocljab
