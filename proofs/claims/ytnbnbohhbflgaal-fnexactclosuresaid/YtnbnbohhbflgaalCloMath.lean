/-
  Chapter 4's Closure as plain functions: what is reached from places by steps that take no byte.
-/
import GoSem.ClaimData
namespace Go.Proofs.Ytnbnbohhbflgaal
namespace Clo

/-- Whether a number is a place of so many. -/
def inN (n : Nat) (x : Int) : Prop := 0 ≤ x ∧ x < n
def inB (n : Nat) (x : Int) : Bool := decide (0 ≤ x) && decide (x < n)
theorem inB_iff {n : Nat} {x : Int} : inB n x = true ↔ inN n x := by simp [inB, inN]

/-- What is reached: it is in all that has the beginnings and goes on. -/
def Reach (n : Nat) (sc : Nat → List Int) (ats : List Int) (k : Nat) : Prop :=
  ∀ P : Nat → Prop, (∀ x ∈ ats, inN n x → P x.toNat) → (∀ k, k < n → P k → ∀ x ∈ sc k, inN n x → P x.toNat) → P k

theorem reach_at {n : Nat} {sc : Nat → List Int} {ats : List Int} {x : Int} (h : x ∈ ats) (hx : inN n x) : Reach n sc ats x.toNat := fun _ h1 _ => h1 x h hx
theorem reach_step {n : Nat} {sc : Nat → List Int} {ats : List Int} {k : Nat} {x : Int} (hk : k < n) (h : Reach n sc ats k) (hm : x ∈ sc k) (hx : inN n x) : Reach n sc ats x.toNat := fun P h1 h2 => h2 k hk (h P h1 h2) x hm hx

/-- The marks that tell what is reached. -/
def IsClos (n : Nat) (sc : Nat → List Int) (ats : List Int) (M : Nat → Bool) : Prop := ∀ k, k < n → (M k = true ↔ Reach n sc ats k)

theorem clos_same {n : Nat} {sc : Nat → List Int} {ats : List Int} {M M' : Nat → Bool} (h : IsClos n sc ats M) (h' : IsClos n sc ats M') {k : Nat} (hk : k < n) : M k = M' k := by
  have h1 := (h k hk).trans (h' k hk).symm
  cases e : M k <;> cases e' : M' k <;> simp_all

/-- The places that are marked, in order. -/
def listV (M : Nat → Bool) (n : Nat) : List Nat := (List.range n).filter M

theorem list_same {n : Nat} {M M' : Nat → Bool} (h : ∀ k, k < n → M k = M' k) : listV M n = listV M' n := by
  unfold listV
  refine List.filter_congr fun k hk => h k (List.mem_range.1 hk)

theorem listV_succ (M : Nat → Bool) (n : Nat) : listV M (n + 1) = if M n = true then listV M n ++ [n] else listV M n := by
  unfold listV
  rw [List.range_succ, List.filter_append]
  by_cases h : M n = true <;> simp [h]

theorem listV_len (M : Nat → Bool) (n : Nat) : (listV M n).length ≤ n := by
  have := List.length_filter_le M (List.range n)
  simpa [listV] using this

def mark (M : Nat → Bool) (k : Nat) : Nat → Bool := fun b => M b || decide (b = k)

theorem mark_self (M : Nat → Bool) (k : Nat) : mark M k k = true := by simp [mark]
theorem mark_old {M : Nat → Bool} {k b : Nat} (h : M b = true) : mark M k b = true := by simp [mark, h]
theorem mark_or {M : Nat → Bool} {k b : Nat} (h : mark M k b = true) : M b = true ∨ b = k := by simpa [mark] using h

/-- How many are not marked. -/
def open' (M : Nat → Bool) (n : Nat) : Nat := ((List.range n).filter fun k => !M k).length

theorem filter_mark (M : Nat → Bool) (k : Nat) : ∀ l : List Nat, l.Nodup → k ∈ l → M k = false → (l.filter fun b => !(mark M k b)).length + 1 = (l.filter fun b => !M b).length
  | [], _, h, _ => by simp at h
  | a :: l, hn, h, hk => by
    rw [List.nodup_cons] at hn
    by_cases e : a = k
    · subst e
      have h1 : l.filter (fun b => !(mark M a b)) = l.filter fun b => !M b := List.filter_congr fun b hb => by
        have : b ≠ a := fun e => hn.1 (e ▸ hb)
        simp [mark, this]
      simp [mark_self, hk, h1]
    · have h2 : k ∈ l := by
        rcases List.mem_cons.1 h with h | h
        · exact absurd h.symm e
        · exact h
      have h3 := filter_mark M k l hn.2 h2 hk
      have h4 : mark M k a = M a := by simp [mark, e]
      cases e2 : M a
      · simp [h4, e2]; omega
      · simp [h4, e2]; omega

theorem open_mark {M : Nat → Bool} {k n : Nat} (hk : k < n) (h : M k = false) : open' (mark M k) n + 1 = open' M n :=
  filter_mark M k _ List.nodup_range (List.mem_range.2 hk) h

theorem open_le (M : Nat → Bool) (n : Nat) : open' M n ≤ n := by
  have := List.length_filter_le (fun k => !M k) (List.range n)
  simpa [open'] using this

/-- Going on through a list of ways, one behind the other. -/
structure Goes (n : Nat) (sc : Nat → List Int) (ats ways : List Int) (i : Nat) (M : Nat → Bool) : Prop where
  sound : ∀ k, k < n → M k = true → Reach n sc ats k
  way : ∀ x ∈ ways, inN n x → Reach n sc ats x.toNat
  on : ∀ k, k < n → M k = true → ∀ x ∈ sc k, x ∈ ways
  did : ∀ j x, j < i → ways[j]? = some x → inN n x → M x.toNat = true
  all : ∀ x ∈ ats, x ∈ ways

theorem goes_start (n : Nat) (sc : Nat → List Int) (ats : List Int) : Goes n sc ats ats 0 (fun _ => false) :=
  ⟨fun _ _ h => by simp at h, fun x hx h => reach_at hx h, fun _ _ h => by simp at h, fun j x hj => by omega, fun x h => h⟩

theorem Goes.skip {n : Nat} {sc : Nat → List Int} {ats ways : List Int} {i : Nat} {M : Nat → Bool} (h : Goes n sc ats ways i M) {x : Int} (hx : ways[i]? = some x) (hs : ¬ inN n x ∨ M x.toNat = true) : Goes n sc ats ways (i + 1) M := by
  refine ⟨h.sound, h.way, h.on, fun j y hj hy hin => ?_, h.all⟩
  by_cases e : j = i
  · subst e
    rw [hx] at hy
    cases hy
    exact hs.resolve_left fun h => h hin
  · exact h.did j y (by omega) hy hin

theorem Goes.step {n : Nat} {sc : Nat → List Int} {ats ways : List Int} {i : Nat} {M : Nat → Bool} (h : Goes n sc ats ways i M) {x : Int} (hx : ways[i]? = some x) (hin : inN n x) : Goes n sc ats (ways ++ sc x.toNat) (i + 1) (mark M x.toNat) := by
  have hk : x.toNat < n := by have h1 := hin.1; have h2 := hin.2; omega
  have hr : Reach n sc ats x.toNat := h.way x (List.mem_of_getElem? hx) hin
  refine ⟨fun k hk h1 => ?_, fun y hy hyn => ?_, fun k hkn h1 y hy => ?_, fun j y hj hy hyn => ?_, fun y hy => List.mem_append.2 (.inl (h.all y hy))⟩
  · rcases mark_or h1 with h1 | rfl
    · exact h.sound k hk h1
    · exact hr
  · rcases List.mem_append.1 hy with hy | hy
    · exact h.way y hy hyn
    · exact reach_step hk hr hy hyn
  · rcases mark_or h1 with h1 | rfl
    · exact List.mem_append.2 (.inl (h.on k hkn h1 y hy))
    · exact List.mem_append.2 (.inr hy)
  · have hl : i < ways.length := (List.getElem?_eq_some_iff.1 hx).1
    rw [List.getElem?_append_left (by omega)] at hy
    by_cases e : j = i
    · subst e
      rw [hx] at hy
      cases hy
      exact mark_self _ _
    · exact mark_old (h.did j y (by omega) hy hyn)

theorem Goes.done {n : Nat} {sc : Nat → List Int} {ats ways : List Int} {i : Nat} {M : Nat → Bool} (h : Goes n sc ats ways i M) (hi : ways.length ≤ i) : IsClos n sc ats M := by
  have hd : ∀ x ∈ ways, inN n x → M x.toNat = true := by
    intro x hx hin
    obtain ⟨j, hj⟩ := List.getElem?_of_mem hx
    exact h.did j x (by have := (List.getElem?_eq_some_iff.1 hj).1; omega) hj hin
  intro k hk
  refine ⟨h.sound k hk, fun hr => ?_⟩
  exact hr (fun k => M k = true) (fun x hx hin => hd x (h.all x hx) hin) (fun k hk hm x hx hin => hd x (h.on k hk hm x hx) hin)

/-- Going on from a pile of what is to do; of the beginnings those below j were put there. -/
structure Piles (n : Nat) (sc : Nat → List Int) (ats todo : List Int) (j : Nat) (M : Nat → Bool) : Prop where
  sound : ∀ k, k < n → M k = true → Reach n sc ats k
  way : ∀ x ∈ todo, inN n x → Reach n sc ats x.toNat
  on : ∀ k, k < n → M k = true → ∀ x ∈ sc k, inN n x → M x.toNat = true ∨ x ∈ todo
  did : ∀ i x, i < j → ats[i]? = some x → inN n x → M x.toNat = true ∨ x ∈ todo

theorem piles_start (n : Nat) (sc : Nat → List Int) (ats : List Int) : Piles n sc ats [] 0 (fun _ => false) :=
  ⟨fun _ _ h => by simp at h, fun _ h => by simp at h, fun _ _ h => by simp at h, fun i x hi => by omega⟩

theorem Piles.push {n : Nat} {sc : Nat → List Int} {ats : List Int} {j : Nat} {M : Nat → Bool} (h : Piles n sc ats [] j M) {x : Int} (hx : ats[j]? = some x) : Piles n sc ats [x] (j + 1) M := by
  refine ⟨h.sound, fun y hy hin => ?_, fun k hk h1 y hy hin => .inl ((h.on k hk h1 y hy hin).resolve_right (by simp)), fun i y hi hy hin => ?_⟩
  · obtain rfl : y = x := by simpa using hy
    exact reach_at (List.mem_of_getElem? hx) hin
  · by_cases e : i = j
    · subst e
      rw [hx] at hy
      cases hy
      exact .inr (by simp)
    · exact .inl ((h.did i y (by omega) hy hin).resolve_right (by simp))

theorem Piles.skip {n : Nat} {sc : Nat → List Int} {ats todo : List Int} {j : Nat} {M : Nat → Bool} {x : Int} (h : Piles n sc ats (todo ++ [x]) j M) (hs : ¬ inN n x ∨ M x.toNat = true) : Piles n sc ats todo j M := by
  have key : ∀ y, inN n y → M y.toNat = true ∨ y ∈ todo ++ [x] → M y.toNat = true ∨ y ∈ todo := by
    intro y hin hy
    rcases hy with hy | hy
    · exact .inl hy
    · rcases List.mem_append.1 hy with hy | hy
      · exact .inr hy
      · obtain rfl : y = x := by simpa using hy
        exact .inl (hs.resolve_left fun h => h hin)
  exact ⟨h.sound, fun y hy hin => h.way y (List.mem_append.2 (.inl hy)) hin, fun k hk h1 y hy hin => key y hin (h.on k hk h1 y hy hin), fun i y hi hy hin => key y hin (h.did i y hi hy hin)⟩

theorem Piles.step {n : Nat} {sc : Nat → List Int} {ats todo : List Int} {j : Nat} {M : Nat → Bool} {x : Int} (h : Piles n sc ats (todo ++ [x]) j M) (hin : inN n x) : Piles n sc ats (todo ++ sc x.toNat) j (mark M x.toNat) := by
  have hk : x.toNat < n := by have h1 := hin.1; have h2 := hin.2; omega
  have hr : Reach n sc ats x.toNat := h.way x (by simp) hin
  have key : ∀ y, M y.toNat = true ∨ y ∈ todo ++ [x] → mark M x.toNat y.toNat = true ∨ y ∈ todo ++ sc x.toNat := by
    intro y hy
    rcases hy with hy | hy
    · exact .inl (mark_old hy)
    · rcases List.mem_append.1 hy with hy | hy
      · exact .inr (List.mem_append.2 (.inl hy))
      · obtain rfl : y = x := by simpa using hy
        exact .inl (mark_self _ _)
  refine ⟨fun k hk h1 => ?_, fun y hy hyn => ?_, fun k hkn h1 y hy hyn => ?_, fun i y hi hy hyn => key y (h.did i y hi hy hyn)⟩
  · rcases mark_or h1 with h1 | rfl
    · exact h.sound k hk h1
    · exact hr
  · rcases List.mem_append.1 hy with hy | hy
    · exact h.way y (List.mem_append.2 (.inl hy)) hyn
    · exact reach_step hk hr hy hyn
  · rcases mark_or h1 with h1 | rfl
    · exact key y (h.on k hkn h1 y hy hyn)
    · exact .inr (List.mem_append.2 (.inr hy))

theorem Piles.done {n : Nat} {sc : Nat → List Int} {ats : List Int} {j : Nat} {M : Nat → Bool} (h : Piles n sc ats [] j M) (hj : ats.length ≤ j) : IsClos n sc ats M := by
  intro k hk
  refine ⟨h.sound k hk, fun hr => ?_⟩
  refine hr (fun k => M k = true) (fun x hx hin => ?_) (fun k hk hm x hx hin => (h.on k hk hm x hx hin).resolve_right (by simp))
  obtain ⟨i, hi⟩ := List.getElem?_of_mem hx
  exact (h.did i x (by have := (List.getElem?_eq_some_iff.1 hi).1; omega) hi hin).resolve_right (by simp)

/-- Where it goes on from a place of this op, without a byte. -/
def nextV (op a b : Int) (k : Nat) (begin fin : Bool) : List Int :=
  if op = 6 then [a] else if op = 7 then [a, b] else if op = 4 ∧ begin = true then [(k : Int) + 1] else if op = 5 ∧ fin = true then [(k : Int) + 1] else []

theorem nextV_len (op a b : Int) (k : Nat) (begin fin : Bool) : (nextV op a b k begin fin).length ≤ 2 := by
  unfold nextV
  split
  · simp
  · split
    · simp
    · split
      · simp
      · split <;> simp

end Clo
end Go.Proofs.Ytnbnbohhbflgaal
