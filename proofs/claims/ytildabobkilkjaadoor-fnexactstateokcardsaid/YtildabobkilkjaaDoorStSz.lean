/-
  The laws' sizes of a state, with what they tell of its texts.
-/
import Derived.Test.YtildabobkilkjaaDoorStArg
namespace Go.Proofs.YtildabobkilkjaaDoor
open Go.RowKit
namespace St
open Nd

def SmV (v : Vl) : Prop := v.2.2.size ≤ 1048576
def SmC (c : Cl) : Prop := c.2.1.size ≤ 1048576 ∧ c.2.2.2.2.size ≤ 1048576

theorem lSzValZ (v : Vl) (left : Int) (h0 : 0 ≤ left) (h1 : left ≤ 1048576) (hs : v.2.2.size ≤ maxLen) (w : World) :
    Calls Tryd.prog 21 #[.agg #[.int .i64 v.1, .int .i64 v.2.1, .string v.2.2], .int .i64 left] w fun e w' => ∃ z, e = .returned (.int .i64 z) ∧ -1 ≤ z ∧ z ≤ left ∧ (z < 0 ∨ SmV v) ∧ Below w.heap.size w w' := by
  unfold maxLen at hs
  have hb : ∀ o, Below w.heap.size w (w.alloc o) := fun o => (Below.refl _ w).alloc (Nat.le_refl _) o
  by_cases hl : left - v.2.2.size < 0
  · go_enter Tryd.func21, Tryd.ntmps21
    go_wp2_with fail
    go_ret
    exact ⟨_, rfl, by omega, by omega, .inl (by omega), hb _⟩
  · have hx : Hid (SmV v) := by show SmV v; unfold SmV; omega
    go_enter Tryd.func21, Tryd.ntmps21
    go_wp2_with fail
    go_ret
    exact ⟨_, rfl, by omega, by omega, .inr hx.out, hb _⟩

theorem lSzCellZ (c : Cl) (left : Int) (h0 : 0 ≤ left) (h1 : left ≤ 1048576) (hs : c.2.1.size ≤ maxLen) (hs2 : c.2.2.2.2.size ≤ maxLen) (w : World) :
    Calls Tryd.prog 22 #[.agg #[.int .i64 c.1, .string c.2.1, .int .i64 c.2.2.1, .int .i64 c.2.2.2.1, .string c.2.2.2.2], .int .i64 left] w fun e w' => ∃ z, e = .returned (.int .i64 z) ∧ -1 ≤ z ∧ z ≤ left ∧ (z < 0 ∨ SmC c) ∧ Below w.heap.size w w' := by
  have hb : ∀ o, Below w.heap.size w (w.alloc o) := fun o => (Below.refl _ w).alloc (Nat.le_refl _) o
  have cv := fun l h0 h1 w => lSzValZ c.2.2 l h0 h1 hs2 w
  unfold maxLen at hs
  by_cases hl : left - c.2.1.size < 0
  · go_enter Tryd.func22, Tryd.ntmps22
    go_wp2_with fail
    go_ret
    exact ⟨_, rfl, by omega, by omega, .inl (by omega), hb _⟩
  · have cv := cv (left - c.2.1.size) (by omega) (by omega)
    have hx : c.2.1.size ≤ 1048576 := by omega
    go_enter Tryd.func22, Tryd.ntmps22
    go_wp2_with (go_at_call 21; refine (cv _).mono ?_; rintro e w2 ⟨z, rfl, z0, z1, z2, hb2⟩)
    · go_ret
      exact ⟨_, rfl, by omega, by omega, .inl (by omega), (hb _).trans (hb2.mono (hb _).size)⟩
    · go_ret
      exact ⟨_, rfl, by omega, by omega, z2.imp id fun h => ⟨hx, h⟩, (hb _).trans (hb2.mono (hb _).size)⟩

set_option maxRecDepth 100000 in
theorem lSzValSZ {ao : Option Addr} {cap : Nat} {vs : List Vl} {W : World} (hA : RdV W ao vs) (hn : vs.length ≤ maxLen) :
    Calls Tryd.prog 9 #[.slice ao vs.length cap, .int .i64 1048576] W fun e w' => ∃ z, e = .returned (.int .i64 z) ∧ -1 ≤ z ∧ z ≤ 1048576 ∧ (z < 0 ∨ (vs.length ≤ 1048576 ∧ ∀ v ∈ vs, SmV v)) ∧ Below W.heap.size W w' := by
  unfold maxLen at hn
  have bn : (vs.length : Int) ≤ 9223372036854775807 := by omega
  by_cases hl : (1048576 : Int) - vs.length < 0
  · go_enter Tryd.func9, Tryd.ntmps9
    go_wp2_with fail
    go_ret
    exact ⟨-1, rfl, by omega, by omega, .inl (by omega), Below.refl _ _⟩
  · have hn2 : vs.length ≤ 1048576 := by omega
    have bn2 : (vs.length : Int) ≤ 1048576 := by omega
    go_enter Tryd.func9, Tryd.ntmps9
    go_wp2_with fail
    go_loopw [1, 5] (fun l i wr => ∃ (z : Int) (k : Nat), l = .int .i64 z ∧ 0 ≤ z ∧ z ≤ 1048576 ∧ i = .int .i64 k ∧ k ≤ vs.length ∧ Hid (∀ v ∈ vs.take k, SmV v) ∧ Below W.heap.size W wr) (fun _ i _ => vs.length - (intOf i).toNat)
    case atStart => exact ⟨1048576 - vs.length, 0, rfl, by omega, by omega, rfl, Nat.zero_le _, (show ∀ v ∈ vs.take 0, SmV v by simp), Below.refl _ _⟩
    case round =>
      obtain ⟨z, k, rfl, z0, z1, rfl, hk, hS, hb⟩ := hrel
      by_cases hkl : k < vs.length
      · have hvk : vs[k]? = some vs[k] := List.getElem?_eq_getElem hkl
        obtain ⟨b, o, rfl, hbl, hss, c0, c1, c2⟩ := hA.below hb k vs[k] hvk
        have call := fun w => lSzValZ vs[k] z z0 z1 hss w
        have HN : Hid (SmV vs[k] → ∀ v ∈ vs.take (k + 1), SmV v) := fun h v hv => by
          rw [List.take_add_one, hvk, List.mem_append] at hv
          rcases hv with hv | hv
          · exact hS.out v hv
          · simp at hv; rw [hv]; exact h
        generalize vs[k] = v at *
        clear hvk
        go_wp2_with (go_at_call 21; refine (call _).mono ?_; rintro e w2 ⟨z2, rfl, a0, a1, a2, hb2⟩)
        · go_ret
          exact ⟨-1, rfl, by omega, by omega, .inl (by omega), hb.trans (hb2.mono hb.size)⟩
        · go_roundw
          case rel => exact ⟨z2, k + 1, rfl, by omega, by omega, by go_num, hkl, HN.out (a2.resolve_left (by omega)), hb.trans (hb2.mono hb.size)⟩
          case measure => simp [intOf]; omega
      · obtain rfl : k = vs.length := by omega
        have hS' : Hid (∀ v ∈ vs, SmV v) := by have := hS.out; rw [List.take_length] at this; exact this
        clear hS
        go_wp2_with fail
        go_ret
        exact ⟨z, rfl, by omega, z1, .inr ⟨hn2, hS'.out⟩, hb⟩

set_option maxRecDepth 100000 in
theorem lSzCellSZ {ao : Option Addr} {cap : Nat} {cs : List Cl} {W : World} {left : Int} (hA : RdC W ao cs) (hn : cs.length ≤ maxLen) (h0 : 0 ≤ left) (h1 : left ≤ 1048576) :
    Calls Tryd.prog 10 #[.slice ao cs.length cap, .int .i64 left] W fun e w' => ∃ z, e = .returned (.int .i64 z) ∧ -1 ≤ z ∧ z ≤ 1048576 ∧ (z < 0 ∨ (cs.length ≤ 1048576 ∧ ∀ c ∈ cs, SmC c)) ∧ Below W.heap.size W w' := by
  unfold maxLen at hn
  have bn : (cs.length : Int) ≤ 9223372036854775807 := by omega
  by_cases hl : left - cs.length < 0
  · go_enter Tryd.func10, Tryd.ntmps10
    go_wp2_with fail
    go_ret
    exact ⟨-1, rfl, by omega, by omega, .inl (by omega), Below.refl _ _⟩
  · have hn2 : cs.length ≤ 1048576 := by omega
    have bn2 : (cs.length : Int) ≤ 1048576 := by omega
    go_enter Tryd.func10, Tryd.ntmps10
    go_wp2_with fail
    go_loopw [1, 5] (fun l i wr => ∃ (z : Int) (k : Nat), l = .int .i64 z ∧ 0 ≤ z ∧ z ≤ 1048576 ∧ i = .int .i64 k ∧ k ≤ cs.length ∧ Hid (∀ c ∈ cs.take k, SmC c) ∧ Below W.heap.size W wr) (fun _ i _ => cs.length - (intOf i).toNat)
    case atStart => exact ⟨left - cs.length, 0, rfl, by omega, by omega, rfl, Nat.zero_le _, (show ∀ c ∈ cs.take 0, SmC c by simp), Below.refl _ _⟩
    case round =>
      clear h0 h1 hl
      obtain ⟨z, k, rfl, z0, z1, rfl, hk, hS, hb⟩ := hrel
      by_cases hkl : k < cs.length
      · have hvk : cs[k]? = some cs[k] := List.getElem?_eq_getElem hkl
        obtain ⟨b, o, rfl, hbl, hss, hss2, c0, c1, c2, c3, c4⟩ := hA.below hb k cs[k] hvk
        have call := fun w => lSzCellZ cs[k] z z0 z1 hss hss2 w
        have HN : Hid (SmC cs[k] → ∀ v ∈ cs.take (k + 1), SmC v) := fun h v hv => by
          rw [List.take_add_one, hvk, List.mem_append] at hv
          rcases hv with hv | hv
          · exact hS.out v hv
          · simp at hv; rw [hv]; exact h
        generalize cs[k] = v at *
        clear hvk
        go_wp2_with (go_at_call 22; refine (call _).mono ?_; rintro e w2 ⟨z2, rfl, a0, a1, a2, hb2⟩)
        · go_ret
          exact ⟨-1, rfl, by omega, by omega, .inl (by omega), hb.trans (hb2.mono hb.size)⟩
        · go_roundw
          case rel => exact ⟨z2, k + 1, rfl, by omega, by omega, by go_num, hkl, HN.out (a2.resolve_left (by omega)), hb.trans (hb2.mono hb.size)⟩
          case measure => simp [intOf]; omega
      · obtain rfl : k = cs.length := by omega
        have hS' : Hid (∀ v ∈ cs, SmC v) := by have := hS.out; rw [List.take_length] at this; exact this
        clear hS
        go_wp2_with fail
        go_ret
        exact ⟨z, rfl, by omega, z1, .inr ⟨hn2, hS'.out⟩, hb⟩

theorem lSzStateZ {a b : Option Addr} {ca cb : Nat} {vs : List Vl} {cs : List Cl} {nr er : Int} {W : World} (hV : RdV W a vs) (hC : RdC W b cs) (hn : vs.length ≤ maxLen) (hm : cs.length ≤ maxLen) :
    Calls Tryd.prog 4 #[.agg #[.slice a vs.length ca, .slice b cs.length cb, .int .i64 nr, .int .i64 er], .int .i64 1048576] W fun e w' => ∃ z, e = .returned (.int .i64 z) ∧ (z < 0 ∨ (vs.length ≤ 1048576 ∧ ∀ v ∈ vs, SmV v) ∧ cs.length ≤ 1048576 ∧ ∀ c ∈ cs, SmC c) ∧ Below W.heap.size W w' := by
  have hb : ∀ o, Below W.heap.size W (W.alloc o) := fun o => (Below.refl _ W).alloc (Nat.le_refl _) o
  have cv := fun o => lSzValSZ (cap := ca) (hV.below (hb o)) hn
  have cc := fun w' (h : Below W.heap.size W w') l h0 h1 => lSzCellSZ (cap := cb) (left := l) (hC.below h) hm h0 h1
  have hk := Blk.new 25 W [.slice a vs.length ca, .slice b cs.length cb, .int .i64 nr, .int .i64 er]
  clear hV hC hn hm
  go_enter Tryd.func4, Tryd.ntmps4
  go_wp2_with (first
    | (go_at_call 9; refine (cv _).mono ?_; rintro e w2 ⟨z, rfl, z0, z1, z2, hb2⟩; have hB2 := (hb _).trans (hb2.mono (hb _).size); have r1 := (hk.below hb2).cell 1 rfl; have HZ2 := (show Hid (z < 0 ∨ _) from z2); clear z2)
    | (go_at_call 10; refine (cc _ hB2 _ (by omega) (by omega)).mono ?_; rintro e w3 ⟨y, rfl, y0, y1, y2, hb3⟩; have hB3 := hB2.trans (hb3.mono hB2.size); have HY2 := (show Hid (y < 0 ∨ _) from y2); clear y2))
  · go_ret
    exact ⟨_, rfl, .inl (by omega), hB2⟩
  · go_ret
    exact ⟨_, rfl, .inl (by omega), hB3⟩
  · go_ret
    exact ⟨_, rfl, .inr ⟨HZ2.out.resolve_left (by omega), HY2.out.resolve_left (by omega)⟩, hB3⟩

end St
end Go.Proofs.YtildabobkilkjaaDoor
