/-
  The specification's OpsOk at every list of places.
  Chapter 3 as plain functions: a text is a function from places to bytes (256: there is none), a pattern is a tree.
-/
import Derived.Test.YtkhoccjfkkfipaaGreatDoorP27
import Derived.Test.YtkhoccjfkkfipaaGreatDoorP18
import GoSem.ClaimData
namespace Go.Proofs.YtkhoccjfkkfipaaGreatDoor
open Go.RowKit
namespace Oc
open St (Vl RdV)

set_option maxHeartbeats 1000000 in
set_option maxRecDepth 100000 in
theorem sOpsOk {P : ByteArray → Bool} (hP : ParseS P) {ao : Option Addr} {cap : Nat} {l : List Vl} {vars lists : Int} {w : World} (hA : RdV w ao l) (hn : l.length ≤ 40000000) (hs : ∀ o ∈ l, o.2.2.size ≤ 1048576) :
    Calls Tryz.prog 68 #[.slice ao l.length cap, .int .i64 vars, .int .i64 lists] w fun e w' => e = .returned (.bool (opsB P l vars lists)) ∧ Below w.heap.size w w' := by
  obtain ⟨R, hR⟩ : ∃ R, R = opsB P l vars lists := ⟨_, rfl⟩
  rw [← hR]
  unfold opsB at hR
  have bn : (l.length : Int) ≤ 40000000 := by omega
  have ci := fun w => sIn (l.length : Int) 1 1500 w
  by_cases h0 : 1 ≤ l.length ∧ l.length ≤ 1500
  · rw [show decide ((1 : Int) ≤ (l.length : Int) ∧ (l.length : Int) ≤ 1500) = true from decide_eq_true (by omega)] at ci
    obtain ⟨m, hm⟩ : ∃ m, l.length = m + 1 := ⟨l.length - 1, by omega⟩
    have hml : m < l.length := by omega
    have hom : l[m]? = some l[m] := List.getElem?_eq_getElem hml
    have hl := last_of hm hom
    rw [decide_eq_true h0, hl, Bool.true_and] at hR
    obtain ⟨b0, o0, e', hbl, -, q0, -, -⟩ := hA m l[m] hom
    have e2 : (l.length : Int) - 1 = (m : Int) := by omega
    have bm : (m : Int) < l.length := by omega
    have wm : IntKind.i64.wrap (m : Int) = m := by simp [IntKind.wrap, IntKind.bits, IntKind.signed]; omega
    by_cases h2 : l[m].1 = 36
    · have H : Hid (R = l.all (opB P vars lists l.length)) := by show R = _; rw [hR, decide_eq_true h2, Bool.true_and]
      rw [h2] at q0
      have CALL : Hid (∀ o ∈ l, ∀ w', Calls Tryz.prog 85 #[.agg #[.int .i64 o.1, .int .i64 o.2.1, .string o.2.2], .int .i64 (l.length : Int), .int .i64 vars, .int .i64 lists] w' fun e w'' => e = .returned (.bool (opB P vars lists l.length o)) ∧ Below w'.heap.size w' w'') := fun o ho w' => by
        obtain ⟨o1, o2, ⟨⟨o3⟩⟩⟩ := o
        rw [hm]
        exact sOp hP o1 o2 vars lists o3 (by simpa [ByteArray.size] using hs _ ho) (M := m) (by omega) w'
      have b1 : (l.length : Int) ≤ 1500 := by omega
      have HA : Hid (RdV w ao l) := hA
      generalize opB P vars lists l.length = p at *
      subst e'
      clear hR hP hs hm hml hom hl h2 hn hA h0
      go_enter Tryz.func68, Tryz.ntmps68
      go_wp2_with (go_at_call 45; refine (ci _).mono ?_; rintro e w2 ⟨rfl, hw⟩; have hw := hw.symm; subst hw)
      clear ci q0 e2 wm
      go_loopw [8] (fun i wr => ∃ k : Nat, k ≤ l.length ∧ i = .int .i64 k ∧ Hid ((l.take k).all p = true) ∧ Below w.heap.size w wr) (fun i _ => l.length - (intOf i).toNat)
      case atStart => exact ⟨0, Nat.zero_le _, rfl, (show (l.take 0).all p = true by simp), Below.refl _ _⟩
      case round =>
        obtain ⟨k, hkn, rfl, hall, hb⟩ := hrel
        by_cases hkl : k < l.length
        · have hvk : l[k]? = some l[k] := List.getElem?_eq_getElem hkl
          obtain ⟨b, o, e3, -, -, p0, p1, p2⟩ := HA.out.below hb k l[k] hvk
          cases e3
          have call := CALL.out l[k] (List.getElem_mem hkl)
          have bk : (k : Int) < l.length := by omega
          have HT : Hid ((l.take (k + 1)).all p = p l[k]) := by
            show _ = _
            rw [List.take_add_one, hvk, List.all_append, hall.out]
            simp
          have HNo : Hid (p l[k] = false → l.all p = false) := fun h => by
            cases hb : l.all p
            · rfl
            · rw [List.all_eq_true.1 hb _ (List.getElem_mem hkl)] at h; cases h
          clear hvk hall CALL HA
          generalize p l[k] = B at *
          generalize l[k] = v at *
          cases B
          · replace HNo : Hid (l.all p = false) := HNo.out rfl
            go_wp2_with (go_at_call 85; refine (call _).mono ?_; rintro e w2 ⟨rfl, hb2⟩)
            go_ret
            exact ⟨by rw [H.out, HNo.out]; rfl, hb.trans (hb2.mono hb.size)⟩
          · go_wp2_with (go_at_call 85; refine (call _).mono ?_; rintro e w2 ⟨rfl, hb2⟩)
            go_roundw
            case rel => exact ⟨k + 1, hkl, by go_num, HT.out, hb.trans (hb2.mono hb.size)⟩
            case measure => simp [intOf]; omega
        · obtain rfl : k = l.length := by omega
          have H2 : Hid (l.all p = true) := by have := hall.out; rwa [List.take_length] at this
          clear hall
          go_wp2_with fail
          go_ret
          exact ⟨by rw [H.out, H2.out]; rfl, hb⟩
    · have H : Hid (R = false) := by show R = _; rw [hR, decide_eq_false h2]; rfl
      have h2' : (l[m].1 == 36) = false := beq_eq_false_iff_ne.2 h2
      have h2'' : (l[m].1 != 36) = true := by simp [bne, h2']
      generalize l[m].1 = c at *
      subst e'
      clear hR hP hA hs hm hml hom hl hn h0
      generalize l.length = N at *
      go_enter Tryz.func68, Tryz.ntmps68
      go_wp2_with (go_at_call 45; refine (ci _).mono ?_; rintro e w2 ⟨rfl, hw⟩; have hw := hw.symm; subst hw)
      go_ret
      exact ⟨by rw [H.out]; rfl, Below.refl _ _⟩
  · rw [show decide ((1 : Int) ≤ (l.length : Int) ∧ (l.length : Int) ≤ 1500) = false from decide_eq_false (by omega)] at ci
    have H : Hid (R = false) := by show R = false; rw [hR, decide_eq_false h0]; rfl
    clear hR hP hA hs h0
    generalize l.length = N at *
    go_enter Tryz.func68, Tryz.ntmps68
    go_wp2_with (go_at_call 45; refine (ci _).mono ?_; rintro e w2 ⟨rfl, hw⟩; have hw := hw.symm; subst hw)
    go_ret
    exact ⟨by rw [H.out]; rfl, Below.refl _ _⟩

end Oc
end Go.Proofs.YtkhoccjfkkfipaaGreatDoor
namespace Go.Proofs.YtkhoccjfkkfipaaGreatDoor
namespace Rx

/-- A Rex: its Kids, and what else it bears. -/
def nd (op c : Nat) (set : List UInt8) (no : Bool) (kids : List Data) : Data :=
  .slice kids [.lit (.int .i64 op), .lit (.int .i64 c), .lit (.string set), .lit (.bool no)]

theorem nd_inj {op c op' c' : Nat} {s s' : List UInt8} {n n' : Bool} {k k' : List Data} (h : nd op c s n k = nd op' c' s' n' k') : op = op' ∧ c = c' ∧ s = s' ∧ n = n' ∧ k = k' := by
  simp only [nd, Data.slice.injEq, List.cons.injEq, Data.lit.injEq, Lit.int.injEq, Lit.string.injEq, Lit.bool.injEq, true_and, and_true] at h
  exact ⟨by omega, by omega, h.2.2.2.1, h.2.2.2.2, h.1⟩

def leaf (op : Nat) : Data := nd op 0 [] false []
def chr (b : Nat) : Data := nd 1 b [] false []
def one (op : Nat) (t : Data) : Data := nd op 0 [] false [t]
def catOf (ts : List Data) : Data := match ts with
  | [] => leaf 11
  | [t] => t
  | ts => nd 6 0 [] false ts
def orOf (ts : List Data) : Data := match ts with
  | [t] => t
  | ts => nd 7 0 [] false ts

def bytesOf (M : Nat → Bool) : List UInt8 := ((List.range 256).filter M).map UInt8.ofNat
def spanOn (M : Nat → Bool) (lo hi : Nat) : Nat → Bool := fun b => M b || (decide (lo ≤ b) && decide (b ≤ hi))
def setOf (M : Nat → Bool) (no : Bool) : Data := nd 3 0 (bytesOf M) no []

def setLoop (g : Nat → Nat) : Nat → Nat → (Nat → Bool) → Option ((Nat → Bool) × Nat)
  | 0, _, _ => none
  | f + 1, i, M =>
    if g i = 256 then none
    else if g i = 93 then some (M, i + 1)
    else if g (i + 1) = 45 ∧ g (i + 2) ≠ 93 then
      if g (i + 2) = 256 ∨ g (i + 2) < g i then none else setLoop g f (i + 3) (spanOn M (g i) (g (i + 2)))
    else setLoop g f (i + 1) (spanOn M (g i) (g i))

def setEnd (no : Bool) (r : Option ((Nat → Bool) × Nat)) : Option (Data × Nat) := match r with
  | none => none
  | some (M, k) => if bytesOf M = [] then none else some (setOf M no, k)

def setAt (g : Nat → Nat) (N i : Nat) : Option (Data × Nat) :=
  setEnd (decide (g i = 94)) (setLoop g (N + 1) (if g i = 94 then i + 1 else i) (fun _ => false))

def shut (g : Nat → Nat) (r : Option (Data × Nat)) : Option (Data × Nat) := match r with
  | none => none
  | some (t, j) => if g j = 41 then some (t, j + 1) else none

def atomAt (g : Nat → Nat) (N : Nat) (F : Nat → Option (Data × Nat)) (i : Nat) : Option (Data × Nat) :=
  if g i = 256 then none
  else if g i = 40 then shut g (F (i + 1))
  else if g i = 46 then some (leaf 2, i + 1)
  else if g i = 94 then some (leaf 4, i + 1)
  else if g i = 36 then some (leaf 5, i + 1)
  else if g i = 91 then setAt g N (i + 1)
  else if g i = 92 then (if g (i + 1) = 256 then none else some (chr (g (i + 1)), i + 2))
  else if g i = 42 ∨ g i = 43 ∨ g i = 63 then none
  else some (chr (g i), i + 1)

def stars (g : Nat → Nat) : Nat → Data → Nat → Data × Nat
  | 0, t, i => (t, i)
  | f + 1, t, i =>
    if g i = 42 then stars g f (one 8 t) (i + 1)
    else if g i = 43 then stars g f (one 9 t) (i + 1)
    else if g i = 63 then stars g f (one 10 t) (i + 1)
    else (t, i)

def pieceAt (g : Nat → Nat) (N : Nat) (A : Nat → Option (Data × Nat)) (i : Nat) : Option (Data × Nat) := match A i with
  | none => none
  | some (t, j) => some (stars g (N + 1) t j)

def partLoop (g : Nat → Nat) (N : Nat) (A : Nat → Option (Data × Nat)) : Nat → Nat → List Data → Option (List Data × Nat)
  | 0, _, _ => none
  | f + 1, i, ts =>
    if g i = 256 ∨ g i = 124 ∨ g i = 41 then some (ts, i)
    else match pieceAt g N A i with
      | none => none
      | some (t, j) => partLoop g N A f j (ts ++ [t])

def partEnd (r : Option (List Data × Nat)) : Option (Data × Nat) := match r with
  | none => none
  | some (ts, j) => some (catOf ts, j)

def partAt (g : Nat → Nat) (N : Nat) (A : Nat → Option (Data × Nat)) (i : Nat) : Option (Data × Nat) := partEnd (partLoop g N A (N + 1) i [])

def patLoop (g : Nat → Nat) (N : Nat) (A : Nat → Option (Data × Nat)) : Nat → Nat → List Data → Option (List Data × Nat)
  | 0, _, _ => none
  | f + 1, i, ts =>
    if g i = 124 then match partAt g N A (i + 1) with
      | none => none
      | some (t, j) => patLoop g N A f j (ts ++ [t])
    else some (ts, i)

def patEnd (r : Option (List Data × Nat)) : Option (Data × Nat) := match r with
  | none => none
  | some (ts, j) => some (orOf ts, j)

def patAt (g : Nat → Nat) (N : Nat) (A : Nat → Option (Data × Nat)) (i : Nat) : Option (Data × Nat) := match partAt g N A i with
  | none => none
  | some (t, j) => patEnd (patLoop g N A (N + 1) j [t])

/-- Atoms with brackets at most so deep. -/
def atomN (g : Nat → Nat) (N : Nat) : Nat → Nat → Option (Data × Nat)
  | 0 => fun _ => none
  | n + 1 => atomAt g N (patAt g N (atomN g N n))

def patN (g : Nat → Nat) (N n : Nat) : Nat → Option (Data × Nat) := patAt g N (atomN g N n)

mutual
def dep : Data → Nat
  | .slice ks _ => deps ks + 1
  | _ => 1
def deps : List Data → Nat
  | [] => 0
  | t :: ts => max (dep t) (deps ts)
end

def wholeV (g : Nat → Nat) (N n : Nat) : Option Data := match patN g N n 0 with
  | none => none
  | some (t, j) => if j = N ∧ dep t ≤ 12 then some t else none

/-! where a reading ends -/

section
variable {g : Nat → Nat} {N : Nat}

theorem lt_of_some (hg : ∀ i, N ≤ i → g i = 256) {i : Nat} (h : g i ≠ 256) : i < N := by
  rcases Nat.lt_or_ge i N with h1 | h1
  · exact h1
  · exact absurd (hg i h1) h

theorem setLoop_in (hg : ∀ i, N ≤ i → g i = 256) : ∀ (f i : Nat) (M M' : Nat → Bool) (k : Nat), setLoop g f i M = some (M', k) → i < k ∧ k ≤ N := by
  intro f
  induction f with
  | zero => intro i M M' k h; simp [setLoop] at h
  | succ f ih =>
    intro i M M' k h
    rw [setLoop] at h
    split at h
    · simp at h
    rename_i h1
    have := lt_of_some hg h1
    split at h
    · simp at h
      omega
    split at h
    · split at h
      · simp at h
      · have := ih _ _ _ _ h; omega
    · have := ih _ _ _ _ h; omega

theorem setAt_in (hg : ∀ i, N ≤ i → g i = 256) {i k : Nat} {t : Data} (h : setAt g N i = some (t, k)) : i < k ∧ k ≤ N := by
  unfold setAt setEnd at h
  split at h
  · simp at h
  · rename_i M k' h1
    have := setLoop_in hg _ _ _ _ _ h1
    split at h
    · simp at h
    · simp at h
      split at this <;> omega

theorem atomAt_in (hg : ∀ i, N ≤ i → g i = 256) {F : Nat → Option (Data × Nat)} (hF : ∀ i t j, F i = some (t, j) → i ≤ j ∧ (i ≤ N → j ≤ N)) {i k : Nat} {t : Data} (h : atomAt g N F i = some (t, k)) : i < k ∧ k ≤ N := by
  unfold atomAt at h
  split at h
  · simp at h
  rename_i h1
  have h1 := lt_of_some hg h1
  split at h
  · unfold shut at h
    split at h
    · simp at h
    · rename_i t' j' h2
      have := hF _ _ _ h2
      split at h
      · rename_i h3
        have := lt_of_some hg (i := j') (by omega)
        simp at h
        omega
      · simp at h
  split at h
  · simp at h; omega
  split at h
  · simp at h; omega
  split at h
  · simp at h; omega
  split at h
  · have := setAt_in hg h; omega
  split at h
  · split at h
    · simp at h
    · rename_i h2
      have := lt_of_some hg h2
      simp at h; omega
  split at h
  · simp at h
  · simp at h; omega

theorem stars_in (hg : ∀ i, N ≤ i → g i = 256) : ∀ (f : Nat) (t : Data) (i : Nat), i ≤ (stars g f t i).2 ∧ (i ≤ N → (stars g f t i).2 ≤ N) := by
  intro f
  induction f with
  | zero => intro t i; simp [stars]
  | succ f ih =>
    intro t i
    rw [stars]
    have a := fun op => ih (one op t) (i + 1)
    have b : g i = 42 ∨ g i = 43 ∨ g i = 63 → i < N := fun h => lt_of_some hg (by omega)
    split
    · have := a 8; omega
    split
    · have := a 9; omega
    split
    · have := a 10; omega
    · exact ⟨Nat.le_refl _, id⟩

theorem pieceAt_in (hg : ∀ i, N ≤ i → g i = 256) {A : Nat → Option (Data × Nat)} (hA : ∀ i t j, A i = some (t, j) → i < j ∧ j ≤ N) {i j : Nat} {t : Data} (h : pieceAt g N A i = some (t, j)) : i < j ∧ j ≤ N := by
  unfold pieceAt at h
  split at h
  · simp at h
  · rename_i t' j' h1
    have := hA _ _ _ h1
    have := stars_in hg (N + 1) t' j'
    simp at h
    rw [h] at this
    simp at this
    omega

theorem partLoop_in (hg : ∀ i, N ≤ i → g i = 256) {A : Nat → Option (Data × Nat)} (hA : ∀ i t j, A i = some (t, j) → i < j ∧ j ≤ N) : ∀ (f i : Nat) (ts us : List Data) (j : Nat), partLoop g N A f i ts = some (us, j) → i ≤ j ∧ (i ≤ N → j ≤ N) := by
  intro f
  induction f with
  | zero => intro i ts us j h; simp [partLoop] at h
  | succ f ih =>
    intro i ts us j h
    rw [partLoop] at h
    split at h
    · simp at h; omega
    split at h
    · simp at h
    · rename_i t j' h1
      have := pieceAt_in hg hA h1
      have := ih _ _ _ _ h
      omega

theorem partAt_in (hg : ∀ i, N ≤ i → g i = 256) {A : Nat → Option (Data × Nat)} (hA : ∀ i t j, A i = some (t, j) → i < j ∧ j ≤ N) {i j : Nat} {t : Data} (h : partAt g N A i = some (t, j)) : i ≤ j ∧ (i ≤ N → j ≤ N) := by
  unfold partAt partEnd at h
  split at h
  · simp at h
  · rename_i ts j' h1
    have := partLoop_in hg hA _ _ _ _ _ h1
    simp at h
    omega

theorem patLoop_in (hg : ∀ i, N ≤ i → g i = 256) {A : Nat → Option (Data × Nat)} (hA : ∀ i t j, A i = some (t, j) → i < j ∧ j ≤ N) : ∀ (f i : Nat) (ts us : List Data) (j : Nat), patLoop g N A f i ts = some (us, j) → i ≤ j ∧ (i ≤ N → j ≤ N) := by
  intro f
  induction f with
  | zero => intro i ts us j h; simp [patLoop] at h
  | succ f ih =>
    intro i ts us j h
    rw [patLoop] at h
    split at h
    · rename_i h0
      have := lt_of_some hg (i := i) (by omega)
      split at h
      · simp at h
      · rename_i t j' h1
        have := partAt_in hg hA h1
        have := ih _ _ _ _ h
        omega
    · simp at h; omega

theorem patAt_in (hg : ∀ i, N ≤ i → g i = 256) {A : Nat → Option (Data × Nat)} (hA : ∀ i t j, A i = some (t, j) → i < j ∧ j ≤ N) {i j : Nat} {t : Data} (h : patAt g N A i = some (t, j)) : i ≤ j ∧ (i ≤ N → j ≤ N) := by
  unfold patAt patEnd at h
  split at h
  · simp at h
  · rename_i t' j' h1
    have := partAt_in hg hA h1
    split at h
    · simp at h
    · rename_i us k h2
      have := patLoop_in hg hA _ _ _ _ _ h2
      simp at h
      omega

theorem atomN_in (hg : ∀ i, N ≤ i → g i = 256) : ∀ (n i : Nat) (t : Data) (j : Nat), atomN g N n i = some (t, j) → i < j ∧ j ≤ N := by
  intro n
  induction n with
  | zero => intro i t j h; simp [atomN] at h
  | succ n ih =>
    intro i t j h
    rw [atomN] at h
    exact atomAt_in hg (fun _ _ _ h => patAt_in hg ih h) h

theorem patN_in (hg : ∀ i, N ≤ i → g i = 256) {n i j : Nat} {t : Data} (h : patN g N n i = some (t, j)) : i ≤ j ∧ (i ≤ N → j ≤ N) := patAt_in hg (atomN_in hg n) h

/-! what is read within brackets of one depth is read within more, and within as many as there is room for -/

theorem piece_agree (hg : ∀ i, N ≤ i → g i = 256) {A A' : Nat → Option (Data × Nat)} {a b : Nat} (hAA : ∀ i t j, a ≤ i → j ≤ b → A i = some (t, j) → A' i = some (t, j))
    {i j : Nat} {t : Data} (hi : a ≤ i) (hj : j ≤ b) (h : pieceAt g N A i = some (t, j)) : pieceAt g N A' i = some (t, j) := by
  unfold pieceAt at h ⊢
  split at h
  · simp at h
  · rename_i t' j' h1
    have := stars_in hg (N + 1) t' j'
    simp at h
    rw [h] at this
    simp at this
    rw [hAA _ _ _ hi (by omega) h1]
    simp [h]

theorem partLoop_agree (hg : ∀ i, N ≤ i → g i = 256) {A A' : Nat → Option (Data × Nat)} {a b : Nat} (hA : ∀ i t j, A i = some (t, j) → i < j ∧ j ≤ N) (hAA : ∀ i t j, a ≤ i → j ≤ b → A i = some (t, j) → A' i = some (t, j)) :
    ∀ (f i : Nat) (ts us : List Data) (j : Nat), a ≤ i → j ≤ b → partLoop g N A f i ts = some (us, j) → partLoop g N A' f i ts = some (us, j) := by
  intro f
  induction f with
  | zero => intro i ts us j _ _ h; simp [partLoop] at h
  | succ f ih =>
    intro i ts us j hi hj h
    rw [partLoop] at h ⊢
    split at h
    · rename_i h0
      rw [if_pos h0]; exact h
    · rename_i h0
      rw [if_neg h0]
      split at h
      · simp at h
      · rename_i t j' h1
        have := pieceAt_in hg hA h1
        have := partLoop_in hg hA _ _ _ _ _ h
        rw [piece_agree hg hAA hi (by omega) h1]
        exact ih _ _ _ _ (by omega) hj h

theorem part_agree (hg : ∀ i, N ≤ i → g i = 256) {A A' : Nat → Option (Data × Nat)} {a b : Nat} (hA : ∀ i t j, A i = some (t, j) → i < j ∧ j ≤ N) (hAA : ∀ i t j, a ≤ i → j ≤ b → A i = some (t, j) → A' i = some (t, j))
    {i j : Nat} {t : Data} (hi : a ≤ i) (hj : j ≤ b) (h : partAt g N A i = some (t, j)) : partAt g N A' i = some (t, j) := by
  unfold partAt partEnd at h ⊢
  split at h
  · simp at h
  · rename_i ts j' h1
    simp at h
    rw [partLoop_agree hg hA hAA _ _ _ _ _ hi (by omega) h1]
    simp [h]

theorem patLoop_agree (hg : ∀ i, N ≤ i → g i = 256) {A A' : Nat → Option (Data × Nat)} {a b : Nat} (hA : ∀ i t j, A i = some (t, j) → i < j ∧ j ≤ N) (hAA : ∀ i t j, a ≤ i → j ≤ b → A i = some (t, j) → A' i = some (t, j)) :
    ∀ (f i : Nat) (ts us : List Data) (j : Nat), a ≤ i → j ≤ b → patLoop g N A f i ts = some (us, j) → patLoop g N A' f i ts = some (us, j) := by
  intro f
  induction f with
  | zero => intro i ts us j _ _ h; simp [patLoop] at h
  | succ f ih =>
    intro i ts us j hi hj h
    rw [patLoop] at h ⊢
    split at h
    · rename_i h0
      rw [if_pos h0]
      split at h
      · simp at h
      · rename_i t j' h1
        have := partAt_in hg hA h1
        have := patLoop_in hg hA _ _ _ _ _ h
        rw [part_agree hg hA hAA (by omega) (by omega) h1]
        exact ih _ _ _ _ (by omega) hj h
    · rename_i h0
      rw [if_neg h0]; exact h

theorem pat_agree (hg : ∀ i, N ≤ i → g i = 256) {A A' : Nat → Option (Data × Nat)} {a b : Nat} (hA : ∀ i t j, A i = some (t, j) → i < j ∧ j ≤ N) (hAA : ∀ i t j, a ≤ i → j ≤ b → A i = some (t, j) → A' i = some (t, j))
    {i j : Nat} {t : Data} (hi : a ≤ i) (hj : j ≤ b) (h : patAt g N A i = some (t, j)) : patAt g N A' i = some (t, j) := by
  unfold patAt patEnd at h ⊢
  split at h
  · simp at h
  · rename_i t' j' h1
    have := partAt_in hg hA h1
    split at h
    · simp at h
    · rename_i us k h2
      have := patLoop_in hg hA _ _ _ _ _ h2
      simp at h
      rw [part_agree hg hA hAA hi (by omega) h1]
      simp only
      rw [patLoop_agree hg hA hAA _ _ _ _ _ (by omega) (by omega) h2]
      simp [h]

theorem atom_agree (hg : ∀ i, N ≤ i → g i = 256) : ∀ (m n i : Nat) (t : Data) (j : Nat), j ≤ i + 2 * n → atomN g N m i = some (t, j) → 0 < n → atomN g N n i = some (t, j) := by
  intro m
  induction m with
  | zero => intro n i t j _ h; simp [atomN] at h
  | succ m ih =>
    intro n i t j hj h hn
    obtain ⟨n, rfl⟩ : ∃ k, n = k + 1 := ⟨n - 1, by omega⟩
    rw [atomN] at h ⊢
    unfold atomAt at h ⊢
    split at h
    · simp at h
    rename_i h0
    rw [if_neg h0]
    split at h
    · rename_i h1
      rw [if_pos h1]
      unfold shut at h ⊢
      split at h
      · simp at h
      · rename_i t' j' h2
        split at h
        · rename_i h3
          simp at h
          have h4 : patAt g N (atomN g N n) (i + 1) = some (t', j') := by
            rcases Nat.eq_zero_or_pos n with h5 | h5
            · subst h5
              have := patAt_in hg (atomN_in hg m) h2
              refine pat_agree hg (a := i + 1) (b := j') (atomN_in hg m) (fun i2 t2 j2 a1 a2 a3 => ?_) (Nat.le_refl _) (Nat.le_refl _) h2
              have := atomN_in hg m _ _ _ a3
              omega
            · refine pat_agree hg (a := i + 1) (b := j') (atomN_in hg m) (fun i2 t2 j2 a1 a2 a3 => ?_) (Nat.le_refl _) (Nat.le_refl _) h2
              exact ih n i2 t2 j2 (by omega) a3 h5
          rw [h4]
          simp only
          rw [if_pos h3]
          simp [h]
        · simp at h
    · rename_i h1
      rw [if_neg h1]
      exact h

theorem patN_agree (hg : ∀ i, N ≤ i → g i = 256) {m n i j : Nat} {t : Data} (hn : 0 < n) (hj : j ≤ i + 2 * n) (h : patN g N m i = some (t, j)) : patN g N n i = some (t, j) :=
  pat_agree hg (a := i) (b := j) (atomN_in hg m) (fun i2 t2 j2 a1 a2 a3 => atom_agree hg m n i2 t2 j2 (by omega) a3 hn) (Nat.le_refl _) (Nat.le_refl _) h

theorem whole_agree (hg : ∀ i, N ≤ i → g i = 256) {m n : Nat} (hm : 0 < m) (hn : 0 < n) (hNm : N ≤ 2 * m) (hNn : N ≤ 2 * n) : wholeV g N m = wholeV g N n := by
  have key : ∀ {m n : Nat}, 0 < n → N ≤ 2 * n → ∀ t, wholeV g N m = some t → wholeV g N n = some t := by
    intro m n hn hN t h
    unfold wholeV at h ⊢
    split at h
    · simp at h
    · rename_i t' j h1
      split at h
      · rename_i h2
        rw [patN_agree hg hn (by omega) h1]
        simp only
        rw [if_pos h2]
        exact h
      · simp at h
  cases h : wholeV g N m with
  | some t => exact (key hn hNn t h).symm
  | none =>
    cases h2 : wholeV g N n with
    | none => rfl
    | some t => rw [key hm hNm t h2] at h; simp at h

end

end Rx
end Go.Proofs.YtkhoccjfkkfipaaGreatDoor
