/-
  The program's Check.
  The laws' eqRex: two Rex that tell the same.
-/
import Derived.Test.YtjdohfdkkppnpaaGreatDoorP34
import Derived.Test.YtjdohfdkkppnpaaGreatDoorP35
import Derived.Test.YtjdohfdkkppnpaaGreatDoorP16
namespace Go.Proofs.YtjdohfdkkppnpaaGreatDoor
open Go.RowKit
namespace Ck
open Nd Ty

/-- What is amiss, by number. -/
def Bad (rs : List Ru) : Nat → Prop
  | 0 => tidyB rs = false
  | 1 => badBegin rs
  | 2 => tooMany (allOf rs) = true
  | 3 => bothAll (allOf rs)
  | 4 => ∃ t ∈ allOf rs, argsB t = true
  | 5 => ∃ t ∈ allOf rs, rexN t = true
  | _ => False
/-- The first that is amiss. -/
def CheckIs (rs : List Ru) (c : Int) : Prop := (c = 0 ∧ ∀ j, ¬ Bad rs j) ∨ ∃ j : Nat, c = j + 1 ∧ Bad rs j ∧ ∀ i, i < j → ¬ Bad rs i
theorem check_one {rs : List Ru} {c d : Int} (h : CheckIs rs c) (h' : CheckIs rs d) : c = d := by
  rcases h with ⟨rfl, h⟩ | ⟨j, rfl, h1, h2⟩
  · rcases h' with ⟨rfl, _⟩ | ⟨k, rfl, k1, _⟩
    · rfl
    · exact absurd k1 (h k)
  · rcases h' with ⟨rfl, h'⟩ | ⟨k, rfl, k1, k2⟩
    · exact absurd h1 (h' j)
    · have : j = k := by
        rcases Nat.lt_trichotomy j k with h | h | h
        · exact absurd h1 (k2 j h)
        · exact h
        · exact absurd k1 (h2 k h)
      rw [this]

/-- errors.errorType holds the type error. -/
def Ety (w : World) : Prop := w.cell? ⟨0, 0, none⟩ = some (.iface 127 (.agg #[.pointer (some ⟨10, 59, none⟩)]))
theorem Ety.later {w w' : World} (h : Ety w) (hb : Below w.heap.size w w') : Ety w' := (hb.cell (World.block_lt_of_cell? _ _ h)).trans h

def finders : Array Value := #[.func (.func 26) #[] #[], .func (.func 27) #[] #[], .func (.func 28) #[] #[], .func (.func 29) #[] #[], .func (.func 30) #[] #[], .func (.func 31) #[] #[]]

theorem tidy_two {rs : List Ru} (h : ¬ Bad rs 0) : ∀ t, SubR rs t → opOf t = 21 → 2 ≤ (kidsOf t).length := fun t ht h21 => by
  have h1 : tidyB rs = true := by simpa [Bad] using h
  have := fine_fits (tidy_sub h1 ht) h21
  omega

set_option maxHeartbeats 4000000 in
set_option maxRecDepth 100000 in
theorem iCheck {rs : List Ru} {w : World} {S : Nat → Prop} {v : Value} {xs : List Value} {B : Nat} (hS : Sen w) (hP : SenP w) (hE : Ety w) (hsz : sizR rs ≤ 1048576) (hlt : ∀ k, S k → k < w.heap.size) (ho : w.ownsRow B 41 9 v rs.length xs) (hr : RulesAp w rs S xs) :
    Calls Tryz.prog 11 #[v] w fun e w' => ∃ c : Int, e = .returned (.int .i64 c) ∧ CheckIs rs c ∧ Below w.heap.size w w' := by
  have fo : ∀ w', Below w.heap.size w w' → w'.ownsRow B 41 9 v rs.length xs ∧ RulesAp w' rs S xs ∧ ∀ k, S k → k < w'.heap.size := fun w' hb => ⟨owns_same ho fun g hg => hb.block g (ho.lt g hg).2, ap_frame (fun k hk => hb.block k (hlt k hk)) hr, fun k hk => Nat.lt_of_lt_of_le (hlt k hk) hb.size⟩
  have f0 := fun w' (hb : Below w.heap.size w w') => iTidyF (hS.later hb) hsz (fo w' hb).2.2 (fo w' hb).1 (ap_is (fo w' hb).2.1)
  have f1 := fun w' (hb : Below w.heap.size w w') => iBeginF hsz (fo w' hb).1 (fo w' hb).2.1
  have f2 := fun w' (hb : Below w.heap.size w w') => iNamesF hsz (fo w' hb).1 (fo w' hb).2.1
  have f3 := fun w' (hb : Below w.heap.size w w') => iKindF hsz (fo w' hb).1 (fo w' hb).2.1
  have f4 := fun w' (hb : Below w.heap.size w w') => iArgsF hsz (fo w' hb).1 (fo w' hb).2.1
  have f5 := fun w' (hb : Below w.heap.size w w') (hn : ¬ Bad rs 0) => iRexF hsz (fo w' hb).1 (fo w' hb).2.1 (hP.later hb) (tidy_two hn)
  have g0 : ∀ w', Below w.heap.size w w' → Calls Tryz.prog 26 #[v] w' (Found 1 (Bad rs 0) w') := f0
  have g1 : ∀ w', Below w.heap.size w w' → Calls Tryz.prog 27 #[v] w' (Found 2 (Bad rs 1) w') := f1
  have g2 : ∀ w', Below w.heap.size w w' → Calls Tryz.prog 28 #[v] w' (Found 3 (Bad rs 2) w') := f2
  have g3 : ∀ w', Below w.heap.size w w' → Calls Tryz.prog 29 #[v] w' (Found 4 (Bad rs 3) w') := f3
  have g4 : ∀ w', Below w.heap.size w w' → Calls Tryz.prog 30 #[v] w' (Found 5 (Bad rs 4) w') := f4
  have g5 : ∀ w', Below w.heap.size w w' → ¬ Bad rs 0 → Calls Tryz.prog 31 #[v] w' (Found 6 (Bad rs 5) w') := f5
  have hend : (∀ j, j < 6 → ¬ Bad rs j) → CheckIs rs 0 := fun h => .inl ⟨rfl, fun j => by
    by_cases hj : j < 6
    · exact h j hj
    · match j, hj with
      | j + 6, _ => exact id⟩
  have hone : ∀ k : Nat, (∀ j, j < k → ¬ Bad rs j) → Bad rs k → CheckIs rs ((k : Int) + 1) := fun k h hb => .inr ⟨k, rfl, hb, h⟩
  obtain ⟨ao, cap, rfl⟩ := owns_slice ho
  clear f0 f1 f2 f3 f4 f5 fo ho hr hlt hsz hS hP
  obtain ⟨Q, hQ⟩ : ∃ Q, Q = Bad rs := ⟨_, rfl⟩
  obtain ⟨C, hC⟩ : ∃ C, C = CheckIs rs := ⟨_, rfl⟩
  rw [← hQ] at g0 g1 g2 g3 g4 g5 hend hone
  rw [← hC] at hend hone ⊢
  clear hQ hC
  have hbo : ∀ o, Below w.heap.size w (w.alloc o) := fun o => (Below.refl _ w).alloc (Nat.le_refl _) _
  obtain ⟨o1, ho1⟩ : ∃ o1, o1 = Obj.cells finders 53 := ⟨_, rfl⟩
  have hn1 := heap_new w o1
  have hb1 := hbo o1
  have HH : Hid (o1 = Obj.cells finders 53) := ho1
  subst ho1
  unfold finders at hn1 hb1
  go_enter Tryz.func11, Tryz.ntmps11
  go_wp2_with fail
  clear hbo HH
  go_loopw [10] (fun i wr => ∃ k : Nat, k ≤ 6 ∧ i = .int .i64 k ∧ (∀ j, j < k → ¬ Q j) ∧ Below w.heap.size w wr ∧ wr.heap[w.heap.size]? = some (Obj.cells #[.func (.func 26) #[] #[], .func (.func 27) #[] #[], .func (.func 28) #[] #[], .func (.func 29) #[] #[], .func (.func 30) #[] #[], .func (.func 31) #[] #[]] 53 (0, 0))) (fun i _ => 6 - (intOf i).toNat)
  case atStart => exact ⟨0, by omega, rfl, fun j hj => by omega, hb1, hn1⟩
  case round =>
    clear hb1 hn1
    obtain ⟨k, hk, rfl, hno, hb, hrow⟩ := hrel
    have hal : ∀ o, Below w.heap.size w (wr.alloc o) := fun o => hb.alloc hb.size _
    have hrl := heap_lt hrow
    have hnew : (wr.alloc (.cells #[.int .i64 0, .int .i64 0] 56)).heap[wr.heap.size]? = some (.cells #[.int .i64 0, .int .i64 0] 56 (0, 0)) := heap_new _ _
    have hstep : ∀ w2, Below (wr.alloc (.cells #[.int .i64 0, .int .i64 0] 56)).heap.size (wr.alloc (.cells #[.int .i64 0, .int .i64 0] 56)) w2 → Below w.heap.size w w2 ∧ w2.heap[w.heap.size]? = some (Obj.cells #[.func (.func 26) #[] #[], .func (.func 27) #[] #[], .func (.func 28) #[] #[], .func (.func 29) #[] #[], .func (.func 30) #[] #[], .func (.func 31) #[] #[]] 53 (0, 0)) ∧ w2.heap[wr.heap.size]? = some (.cells #[.int .i64 0, .int .i64 0] 56 (0, 0)) ∧ wr.heap.size < w2.heap.size := fun w2 h => by
      have hs := h.size
      simp only [World.size_alloc] at hs
      exact ⟨(hal _).trans (h.mono (hal _).size), (h.block _ (by simp; omega)).trans ((Below.heap_alloc _ _ _ hrl).trans hrow), (h.block _ (by simp)).trans hnew, by omega⟩
    have hwr := hb.size
    have hlast : ∀ w2 w3 : World, Below w.heap.size w w2 → w3.os = w2.os → w3.tape = w2.tape → w3.output = w2.output → w2.heap.size ≤ w3.heap.size → (∀ k, k < w2.heap.size → k ≠ wr.heap.size → w3.heap[k]? = w2.heap[k]?) → Below w.heap.size w w3 := fun w2 w3 h e1 e2 e3 e4 e5 =>
      ⟨e1.trans h.os, e2.trans h.tape, e3.trans h.output, Nat.le_trans h.size e4, fun k hk => (e5 k (Nat.lt_of_lt_of_le hk h.size) (by omega)).trans (h.block k hk)⟩
    rcases (by omega : k = 0 ∨ k = 1 ∨ k = 2 ∨ k = 3 ∨ k = 4 ∨ k = 5 ∨ k = 6) with rfl | rfl | rfl | rfl | rfl | rfl | rfl
    · have c0 : wr.cell? ⟨w.heap.size, 0, none⟩ = some (.func (.func 26) #[] #[]) := by simp [World.cell?, hrow]
      have H1 : Hid (¬ Q 0 → ∀ j, j < 0 + 1 → ¬ Q j) := fun h j hj => by
        by_cases e : j = 0
        · subst e; exact h
        · exact hno j (by omega)
      have H2 : Hid (Q 0 → C (1 : Int)) := fun h => by have := hone 0 hno h; simpa using this
      go_wp2_with (go_at_call 26; refine hold ?_)
      refine (g0 _ (hal _)).mono ?_
      rintro e w2 ⟨⟨hn, hn'⟩ | ⟨⟨r, rfl⟩, hp⟩, hB⟩
      · subst hn
        obtain ⟨hB2, hrow2, -, -⟩ := hstep w2 hB
        clear hB hstep hlast hnew hone hend g0 g1 g2 g3 g4 g5
        go_wp2_with (go_at_call 32; refine (as_nil _ _).mono ?_; rintro e w3 ⟨rfl, rfl⟩)
        go_roundw
        case rel => exact ⟨0 + 1, by omega, by go_num, H1.out hn', hB2, hrow2⟩
        case measure => simp [intOf]
      · obtain ⟨hB2, -, hbx, hbl⟩ := hstep w2 hB
        have hhit := as_hit 1 r wr.heap.size _ _ w2 (hE.later hB2) hbx
        have hl2 := hlast w2
        clear hB hstep hlast hnew hone hend g0 g1 g2 g3 g4 g5
        go_wp2_with (go_at_call 32; refine hhit.mono ?_; rintro e w3 ⟨rfl, hc0, e1, e2, e3, e4, e5⟩)
        go_ret
        exact ⟨1, rfl, H2.out hp, hl2 w3 hB2 e1 e2 e3 e4 e5⟩
    · have c0 : wr.cell? ⟨w.heap.size, 1, none⟩ = some (.func (.func 27) #[] #[]) := by simp [World.cell?, hrow]
      have H1 : Hid (¬ Q 1 → ∀ j, j < 1 + 1 → ¬ Q j) := fun h j hj => by
        by_cases e : j = 1
        · subst e; exact h
        · exact hno j (by omega)
      have H2 : Hid (Q 1 → C (2 : Int)) := fun h => by have := hone 1 hno h; simpa using this
      go_wp2_with (go_at_call 27; refine hold ?_)
      refine (g1 _ (hal _)).mono ?_
      rintro e w2 ⟨⟨hn, hn'⟩ | ⟨⟨r, rfl⟩, hp⟩, hB⟩
      · subst hn
        obtain ⟨hB2, hrow2, -, -⟩ := hstep w2 hB
        clear hB hstep hlast hnew hone hend g0 g1 g2 g3 g4 g5
        go_wp2_with (go_at_call 32; refine (as_nil _ _).mono ?_; rintro e w3 ⟨rfl, rfl⟩)
        go_roundw
        case rel => exact ⟨1 + 1, by omega, by go_num, H1.out hn', hB2, hrow2⟩
        case measure => simp [intOf]
      · obtain ⟨hB2, -, hbx, hbl⟩ := hstep w2 hB
        have hhit := as_hit 2 r wr.heap.size _ _ w2 (hE.later hB2) hbx
        have hl2 := hlast w2
        clear hB hstep hlast hnew hone hend g0 g1 g2 g3 g4 g5
        go_wp2_with (go_at_call 32; refine hhit.mono ?_; rintro e w3 ⟨rfl, hc0, e1, e2, e3, e4, e5⟩)
        go_ret
        exact ⟨2, rfl, H2.out hp, hl2 w3 hB2 e1 e2 e3 e4 e5⟩
    · have c0 : wr.cell? ⟨w.heap.size, 2, none⟩ = some (.func (.func 28) #[] #[]) := by simp [World.cell?, hrow]
      have H1 : Hid (¬ Q 2 → ∀ j, j < 2 + 1 → ¬ Q j) := fun h j hj => by
        by_cases e : j = 2
        · subst e; exact h
        · exact hno j (by omega)
      have H2 : Hid (Q 2 → C (3 : Int)) := fun h => by have := hone 2 hno h; simpa using this
      go_wp2_with (go_at_call 28; refine hold ?_)
      refine (g2 _ (hal _)).mono ?_
      rintro e w2 ⟨⟨hn, hn'⟩ | ⟨⟨r, rfl⟩, hp⟩, hB⟩
      · subst hn
        obtain ⟨hB2, hrow2, -, -⟩ := hstep w2 hB
        clear hB hstep hlast hnew hone hend g0 g1 g2 g3 g4 g5
        go_wp2_with (go_at_call 32; refine (as_nil _ _).mono ?_; rintro e w3 ⟨rfl, rfl⟩)
        go_roundw
        case rel => exact ⟨2 + 1, by omega, by go_num, H1.out hn', hB2, hrow2⟩
        case measure => simp [intOf]
      · obtain ⟨hB2, -, hbx, hbl⟩ := hstep w2 hB
        have hhit := as_hit 3 r wr.heap.size _ _ w2 (hE.later hB2) hbx
        have hl2 := hlast w2
        clear hB hstep hlast hnew hone hend g0 g1 g2 g3 g4 g5
        go_wp2_with (go_at_call 32; refine hhit.mono ?_; rintro e w3 ⟨rfl, hc0, e1, e2, e3, e4, e5⟩)
        go_ret
        exact ⟨3, rfl, H2.out hp, hl2 w3 hB2 e1 e2 e3 e4 e5⟩
    · have c0 : wr.cell? ⟨w.heap.size, 3, none⟩ = some (.func (.func 29) #[] #[]) := by simp [World.cell?, hrow]
      have H1 : Hid (¬ Q 3 → ∀ j, j < 3 + 1 → ¬ Q j) := fun h j hj => by
        by_cases e : j = 3
        · subst e; exact h
        · exact hno j (by omega)
      have H2 : Hid (Q 3 → C (4 : Int)) := fun h => by have := hone 3 hno h; simpa using this
      go_wp2_with (go_at_call 29; refine hold ?_)
      refine (g3 _ (hal _)).mono ?_
      rintro e w2 ⟨⟨hn, hn'⟩ | ⟨⟨r, rfl⟩, hp⟩, hB⟩
      · subst hn
        obtain ⟨hB2, hrow2, -, -⟩ := hstep w2 hB
        clear hB hstep hlast hnew hone hend g0 g1 g2 g3 g4 g5
        go_wp2_with (go_at_call 32; refine (as_nil _ _).mono ?_; rintro e w3 ⟨rfl, rfl⟩)
        go_roundw
        case rel => exact ⟨3 + 1, by omega, by go_num, H1.out hn', hB2, hrow2⟩
        case measure => simp [intOf]
      · obtain ⟨hB2, -, hbx, hbl⟩ := hstep w2 hB
        have hhit := as_hit 4 r wr.heap.size _ _ w2 (hE.later hB2) hbx
        have hl2 := hlast w2
        clear hB hstep hlast hnew hone hend g0 g1 g2 g3 g4 g5
        go_wp2_with (go_at_call 32; refine hhit.mono ?_; rintro e w3 ⟨rfl, hc0, e1, e2, e3, e4, e5⟩)
        go_ret
        exact ⟨4, rfl, H2.out hp, hl2 w3 hB2 e1 e2 e3 e4 e5⟩
    · have c0 : wr.cell? ⟨w.heap.size, 4, none⟩ = some (.func (.func 30) #[] #[]) := by simp [World.cell?, hrow]
      have H1 : Hid (¬ Q 4 → ∀ j, j < 4 + 1 → ¬ Q j) := fun h j hj => by
        by_cases e : j = 4
        · subst e; exact h
        · exact hno j (by omega)
      have H2 : Hid (Q 4 → C (5 : Int)) := fun h => by have := hone 4 hno h; simpa using this
      go_wp2_with (go_at_call 30; refine hold ?_)
      refine (g4 _ (hal _)).mono ?_
      rintro e w2 ⟨⟨hn, hn'⟩ | ⟨⟨r, rfl⟩, hp⟩, hB⟩
      · subst hn
        obtain ⟨hB2, hrow2, -, -⟩ := hstep w2 hB
        clear hB hstep hlast hnew hone hend g0 g1 g2 g3 g4 g5
        go_wp2_with (go_at_call 32; refine (as_nil _ _).mono ?_; rintro e w3 ⟨rfl, rfl⟩)
        go_roundw
        case rel => exact ⟨4 + 1, by omega, by go_num, H1.out hn', hB2, hrow2⟩
        case measure => simp [intOf]
      · obtain ⟨hB2, -, hbx, hbl⟩ := hstep w2 hB
        have hhit := as_hit 5 r wr.heap.size _ _ w2 (hE.later hB2) hbx
        have hl2 := hlast w2
        clear hB hstep hlast hnew hone hend g0 g1 g2 g3 g4 g5
        go_wp2_with (go_at_call 32; refine hhit.mono ?_; rintro e w3 ⟨rfl, hc0, e1, e2, e3, e4, e5⟩)
        go_ret
        exact ⟨5, rfl, H2.out hp, hl2 w3 hB2 e1 e2 e3 e4 e5⟩
    · have c0 : wr.cell? ⟨w.heap.size, 5, none⟩ = some (.func (.func 31) #[] #[]) := by simp [World.cell?, hrow]
      have H1 : Hid (¬ Q 5 → ∀ j, j < 5 + 1 → ¬ Q j) := fun h j hj => by
        by_cases e : j = 5
        · subst e; exact h
        · exact hno j (by omega)
      have H2 : Hid (Q 5 → C (6 : Int)) := fun h => by have := hone 5 hno h; simpa using this
      go_wp2_with (go_at_call 31; refine hold ?_)
      refine (g5 _ (hal _) (hno 0 (by omega))).mono ?_
      rintro e w2 ⟨⟨hn, hn'⟩ | ⟨⟨r, rfl⟩, hp⟩, hB⟩
      · subst hn
        obtain ⟨hB2, hrow2, -, -⟩ := hstep w2 hB
        clear hB hstep hlast hnew hone hend g0 g1 g2 g3 g4 g5
        go_wp2_with (go_at_call 32; refine (as_nil _ _).mono ?_; rintro e w3 ⟨rfl, rfl⟩)
        go_roundw
        case rel => exact ⟨5 + 1, by omega, by go_num, H1.out hn', hB2, hrow2⟩
        case measure => simp [intOf]
      · obtain ⟨hB2, -, hbx, hbl⟩ := hstep w2 hB
        have hhit := as_hit 6 r wr.heap.size _ _ w2 (hE.later hB2) hbx
        have hl2 := hlast w2
        clear hB hstep hlast hnew hone hend g0 g1 g2 g3 g4 g5
        go_wp2_with (go_at_call 32; refine hhit.mono ?_; rintro e w3 ⟨rfl, hc0, e1, e2, e3, e4, e5⟩)
        go_ret
        exact ⟨6, rfl, H2.out hp, hl2 w3 hB2 e1 e2 e3 e4 e5⟩
    · have H : Hid (C 0) := hend fun j hj => hno j hj
      clear hstep hlast hnew hone hend g0 g1 g2 g3 g4 g5 hno
      go_wp2_with fail
      go_ret
      exact ⟨0, rfl, H.out, hb⟩

end Ck
end Go.Proofs.YtjdohfdkkppnpaaGreatDoor

namespace Go.Proofs.YtjdohfdkkppnpaaGreatDoor
open Go.RowKit
namespace Rx

theorem rexs_at {w : World} : ∀ {ts : List Data} {S : Nat → Prop} {xs : List Value} {i : Nat} {t : Data}, RexsIs w ts S xs → ts[i]? = some t → ∃ (S1 : Nat → Prop) (a b c d u : Value), xs[i * 5]? = some a ∧ xs[i * 5 + 1]? = some b ∧ xs[i * 5 + 2]? = some c ∧ xs[i * 5 + 3]? = some d ∧ xs[i * 5 + 4]? = some u ∧ RexIs w t S1 [a, b, c, d, u] ∧ ∀ k, S1 k → S k
  | [], S, xs, i, t, h, hi => by simp at hi
  | t' :: ts, S, xs, 0, t, h, hi => by
    simp only [RexsIs] at h
    obtain ⟨S1, S2, c1, c2, rfl, h1, _, h3, _⟩ := h
    simp at hi
    subst hi
    have hl := rex_len h1
    match c1, hl with
    | [a, b, c, d, u], _ => exact ⟨S1, a, b, c, d, u, by simp, by simp, by simp, by simp, by simp, h1, fun k hk => (h3 k hk).1⟩
  | t' :: ts, S, xs, i + 1, t, h, hi => by
    simp only [RexsIs] at h
    obtain ⟨S1, S2, c1, c2, rfl, h1, h2, _, h4⟩ := h
    simp at hi
    have hl := rex_len h1
    obtain ⟨S3, a, b, c, d, u, e1, e2, e3, e4, e5, h5, h6⟩ := rexs_at h2 hi
    have sh : ∀ j, (c1 ++ c2)[(i + 1) * 5 + j]? = c2[i * 5 + j]? := fun j => by
      rw [List.getElem?_append_right (by omega)]
      congr 1
      omega
    exact ⟨S3, a, b, c, d, u, (sh 0).trans e1, (sh 1).trans e2, (sh 2).trans e3, (sh 3).trans e4, (sh 4).trans e5, h5, fun k hk => h4 k (h6 k hk)⟩

theorem row_cells {w : World} {B e n k cap : Nat} {ao : Option Addr} {xs : List Value} (ho : w.ownsRow B e 5 (.slice ao n cap) n xs) (hk : k < n) : ∃ g, ao = some ⟨g, 0, none⟩ ∧ g < w.heap.size ∧ ∀ j x, xs[j]? = some x → w.cell? ⟨g, j, none⟩ = some x := by
  rcases ho.2 with ⟨h, hn⟩ | ⟨g, cap', cur, h, _⟩
  · omega
  · simp only [Value.slice.injEq] at h
    obtain ⟨rfl, _, rfl⟩ := h
    refine ⟨g, rfl, (ho.lt g rfl).2, fun j x hx => ?_⟩
    have := ho.cells (g := g) rfl j x hx
    have hadd : (⟨g, 0, none⟩ : Addr).add j = ⟨g, j, none⟩ := by unfold Addr.add; split <;> simp_all
    rw [← hadd]
    exact this


end Rx
end Go.Proofs.YtjdohfdkkppnpaaGreatDoor

