/-
  The draws of chapter 1's numbers: each answers some int; what was there stays.
-/
import Derived.Test.YtdkeinnljbfopadGreatDoorCur
namespace Go.Proofs.YtdkeinnljbfopadGreatDoor
open Go.RowKit Go.Extern

def I64 (x : Int) : Prop := -9223372036854775808 ≤ x ∧ x ≤ 9223372036854775807
def L13 : List Int := [0, 1000000, -1000000, 1, -1, 2500000, -3333333, 7000000, 123456789, 9000000000000, -9000000000000, 3000000000000, 1500]
def L4 : List Int := [9000000000001, -9000000000001, 9223372036854775807, -9223372036854775808]
theorem L13_in : ∀ x, x ∈ L13 → I64 x := by
  have h : ∀ x, x ∈ L13 → -9223372036854775808 ≤ x ∧ x ≤ 9223372036854775807 := by decide
  exact h
theorem L4_in : ∀ x, x ∈ L4 → I64 x := by
  have h : ∀ x, x ∈ L4 → -9223372036854775808 ≤ x ∧ x ≤ 9223372036854775807 := by decide
  exact h
theorem alloc_ints (w : World) (xs : List Int) (t : TypeId) (k : Nat) (hk : k < xs.length) : (w.alloc (.cells (xs.map (Value.int .i64)).toArray t)).cell? ⟨w.heap.size, k, none⟩ = some (.int .i64 xs[k]) := by
  rw [World.cell?_alloc_at _ _ _ _ rfl]
  simp [hk]

/-- l1PickInt over a list that has just been made. -/
theorem pick_new (B p n cap : Nat) (xs : List Int) (t : TypeId) (w : World) (hC : Cur B p w) (hn : xs.length = n) (h0 : 0 < n) (h1 : n ≤ 256) :
    Calls Tryz.prog 78 #[.pointer (some ⟨p, 0, none⟩), .slice (some ⟨w.heap.size, 0, none⟩) n cap] (w.alloc (.cells (xs.map (Value.int .i64)).toArray t)) fun e w' => ∃ x, e = .returned (.int .i64 x) ∧ x ∈ xs ∧ Only p w w' ∧ Cur B p w' := by
  subst hn
  have hlt := hC.lt
  refine (pick_int B p w.heap.size cap xs _ (hC.alloc _) (by omega) (by simp) h0 h1 (alloc_ints w xs t)).mono ?_
  rintro e w' ⟨x, hx, rfl, ho, hC'⟩
  exact ⟨x, rfl, hx, ((Only.refl p w).alloc _).trans ho, hC'⟩

theorem drawDec (B p : Nat) (w : World) (hC : Cur B p w) :
    Calls Tryz.prog 101 #[.pointer (some ⟨p, 0, none⟩)] w fun e w' => ∃ x, e = .returned (.int .i64 x) ∧ I64 x ∧ Only p w w' ∧ Cur B p w' := by
  have hp := fun cap t => pick_new B p 13 cap L13 t w hC rfl (by decide) (by decide)
  go_enter Tryz.func101, Tryz.ntmps101
  go_wp2_with (go_at_call 78; refine (hp _ _).mono ?_; rintro e w' ⟨x, rfl, hx, ho, hC'⟩)
  go_ret
  exact ⟨_, rfl, L13_in _ hx, by assumption, by assumption⟩

theorem drawFar (B p : Nat) (w : World) (hC : Cur B p w) :
    Calls Tryz.prog 57 #[.pointer (some ⟨p, 0, none⟩)] w fun e w' => ∃ x, e = .returned (.int .i64 x) ∧ I64 x ∧ Only p w w' ∧ Cur B p w' := by
  have hp := fun w hC cap t => pick_new B p 4 cap L4 t w hC rfl (by decide) (by decide)
  have k0 : (0 : Int) < 6 := by decide
  have k1 : (6 : Int) ≤ 256 := by decide
  go_enter Tryz.func57, Tryz.ntmps57
  go_wp2_with (first | (go_at_call 70; refine (once_small B p _ _ ?_ k0 k1).mono ?_; assumption; rintro e w' ⟨b, rfl, ho, hC'⟩) | (go_at_call 78; refine (hp _ ?_ _ _).mono ?_; assumption; rintro e w' ⟨x, rfl, hx, ho', hC''⟩) | (go_at_call 101; refine (drawDec B p _ ?_).mono ?_; assumption; rintro e w' ⟨x, rfl, hx, ho', hC''⟩))
  all_goals go_ret
  all_goals first | exact ⟨_, rfl, hx, ho.trans ho', by assumption⟩ | exact ⟨_, rfl, L4_in _ hx, ho.trans ho', by assumption⟩







end Go.Proofs.YtdkeinnljbfopadGreatDoor
