/-
  The laws' sizes of a state, with what they tell of its texts.
  Lists of numbers in a row, programs and states at any rest: the laws' sizes, copies and comparisons of them.
-/
import Derived.Test.YtkhoccjfkkfipaaGreatDoorP09
import Derived.Test.YtkhoccjfkkfipaaGreatDoorP07
import Derived.Test.YtkhoccjfkkfipaaGreatDoorP10
namespace Go.Proofs.YtkhoccjfkkfipaaGreatDoor
open Go.RowKit
namespace St
open Nd

def SmV (v : Vl) : Prop := v.2.2.size ≤ 1048576
def SmC (c : Cl) : Prop := c.2.1.size ≤ 1048576 ∧ c.2.2.2.2.size ≤ 1048576

theorem lSzValZ (v : Vl) (left : Int) (h0 : 0 ≤ left) (h1 : left ≤ 1048576) (hs : v.2.2.size ≤ maxLen) (w : World) :
    Calls Tryz.prog 64 #[.agg #[.int .i64 v.1, .int .i64 v.2.1, .string v.2.2], .int .i64 left] w fun e w' => ∃ z, e = .returned (.int .i64 z) ∧ -1 ≤ z ∧ z ≤ left ∧ (z < 0 ∨ SmV v) ∧ Below w.heap.size w w' := by
  unfold maxLen at hs
  have hb : ∀ o, Below w.heap.size w (w.alloc o) := fun o => (Below.refl _ w).alloc (Nat.le_refl _) o
  by_cases hl : left - v.2.2.size < 0
  · go_enter Tryz.func64, Tryz.ntmps64
    go_wp2_with fail
    go_ret
    exact ⟨_, rfl, by omega, by omega, .inl (by omega), hb _⟩
  · have hx : Hid (SmV v) := by show SmV v; unfold SmV; omega
    go_enter Tryz.func64, Tryz.ntmps64
    go_wp2_with fail
    go_ret
    exact ⟨_, rfl, by omega, by omega, .inr hx.out, hb _⟩

theorem lSzCellZ (c : Cl) (left : Int) (h0 : 0 ≤ left) (h1 : left ≤ 1048576) (hs : c.2.1.size ≤ maxLen) (hs2 : c.2.2.2.2.size ≤ maxLen) (w : World) :
    Calls Tryz.prog 65 #[.agg #[.int .i64 c.1, .string c.2.1, .int .i64 c.2.2.1, .int .i64 c.2.2.2.1, .string c.2.2.2.2], .int .i64 left] w fun e w' => ∃ z, e = .returned (.int .i64 z) ∧ -1 ≤ z ∧ z ≤ left ∧ (z < 0 ∨ SmC c) ∧ Below w.heap.size w w' := by
  have hb : ∀ o, Below w.heap.size w (w.alloc o) := fun o => (Below.refl _ w).alloc (Nat.le_refl _) o
  have cv := fun l h0 h1 w => lSzValZ c.2.2 l h0 h1 hs2 w
  unfold maxLen at hs
  by_cases hl : left - c.2.1.size < 0
  · go_enter Tryz.func65, Tryz.ntmps65
    go_wp2_with fail
    go_ret
    exact ⟨_, rfl, by omega, by omega, .inl (by omega), hb _⟩
  · have cv := cv (left - c.2.1.size) (by omega) (by omega)
    have hx : c.2.1.size ≤ 1048576 := by omega
    go_enter Tryz.func65, Tryz.ntmps65
    go_wp2_with (go_at_call 64; refine (cv _).mono ?_; rintro e w2 ⟨z, rfl, z0, z1, z2, hb2⟩)
    · go_ret
      exact ⟨_, rfl, by omega, by omega, .inl (by omega), (hb _).trans (hb2.mono (hb _).size)⟩
    · go_ret
      exact ⟨_, rfl, by omega, by omega, z2.imp id fun h => ⟨hx, h⟩, (hb _).trans (hb2.mono (hb _).size)⟩

set_option maxRecDepth 100000 in
theorem lSzValSZ {ao : Option Addr} {cap : Nat} {vs : List Vl} {W : World} (hA : RdV W ao vs) (hn : vs.length ≤ maxLen) :
    Calls Tryz.prog 43 #[.slice ao vs.length cap, .int .i64 1048576] W fun e w' => ∃ z, e = .returned (.int .i64 z) ∧ -1 ≤ z ∧ z ≤ 1048576 ∧ (z < 0 ∨ (vs.length ≤ 1048576 ∧ ∀ v ∈ vs, SmV v)) ∧ Below W.heap.size W w' := by
  unfold maxLen at hn
  have bn : (vs.length : Int) ≤ 9223372036854775807 := by omega
  by_cases hl : (1048576 : Int) - vs.length < 0
  · go_enter Tryz.func43, Tryz.ntmps43
    go_wp2_with fail
    go_ret
    exact ⟨-1, rfl, by omega, by omega, .inl (by omega), Below.refl _ _⟩
  · have hn2 : vs.length ≤ 1048576 := by omega
    have bn2 : (vs.length : Int) ≤ 1048576 := by omega
    go_enter Tryz.func43, Tryz.ntmps43
    go_wp2_with fail
    go_loopw [1, 5] (fun l i wr => ∃ (z : Int) (k : Nat), l = .int .i64 z ∧ 0 ≤ z ∧ z ≤ 1048576 ∧ i = .int .i64 k ∧ k ≤ vs.length ∧ Hid (∀ v ∈ vs.take k, SmV v) ∧ Below W.heap.size W wr) (fun _ i _ => vs.length - (intOf i).toNat)
    case atStart => exact ⟨1048576 - vs.length, 0, rfl, by omega, by omega, rfl, Nat.zero_le _, (show ∀ v ∈ vs.take 0, SmV v by simp), Below.refl _ _⟩
    case round =>
      obtain ⟨z, k, rfl, z0, z1, rfl, hk, hS, hb⟩ := hrel
      by_cases hkl : k < vs.length
      · have hvk : vs[k]? = some vs[k] := List.getElem?_eq_getElem hkl
        obtain ⟨b, o, rfl, hbl, hss, c0, c1, c2⟩ := hA.below hb k vs[k] hvk
        have call := fun w => lSzValZ vs[k] z z0 z1 hss w
        have HN : Hid (SmV vs[k] → ∀ v ∈ vs.take (k + 1), SmV v) := fun h v hv => by
          rw [List.take_add_one, hvk, List.mem_append] at hv
          rcases hv with hv | hv
          · exact hS.out v hv
          · simp at hv; rw [hv]; exact h
        generalize vs[k] = v at *
        clear hvk
        go_wp2_with (go_at_call 64; refine (call _).mono ?_; rintro e w2 ⟨z2, rfl, a0, a1, a2, hb2⟩)
        · go_ret
          exact ⟨-1, rfl, by omega, by omega, .inl (by omega), hb.trans (hb2.mono hb.size)⟩
        · go_roundw
          case rel => exact ⟨z2, k + 1, rfl, by omega, by omega, by go_num, hkl, HN.out (a2.resolve_left (by omega)), hb.trans (hb2.mono hb.size)⟩
          case measure => simp [intOf]; omega
      · obtain rfl : k = vs.length := by omega
        have hS' : Hid (∀ v ∈ vs, SmV v) := by have := hS.out; rw [List.take_length] at this; exact this
        clear hS
        go_wp2_with fail
        go_ret
        exact ⟨z, rfl, by omega, z1, .inr ⟨hn2, hS'.out⟩, hb⟩

set_option maxRecDepth 100000 in
theorem lSzCellSZ {ao : Option Addr} {cap : Nat} {cs : List Cl} {W : World} {left : Int} (hA : RdC W ao cs) (hn : cs.length ≤ maxLen) (h0 : 0 ≤ left) (h1 : left ≤ 1048576) :
    Calls Tryz.prog 44 #[.slice ao cs.length cap, .int .i64 left] W fun e w' => ∃ z, e = .returned (.int .i64 z) ∧ -1 ≤ z ∧ z ≤ 1048576 ∧ (z < 0 ∨ (cs.length ≤ 1048576 ∧ ∀ c ∈ cs, SmC c)) ∧ Below W.heap.size W w' := by
  unfold maxLen at hn
  have bn : (cs.length : Int) ≤ 9223372036854775807 := by omega
  by_cases hl : left - cs.length < 0
  · go_enter Tryz.func44, Tryz.ntmps44
    go_wp2_with fail
    go_ret
    exact ⟨-1, rfl, by omega, by omega, .inl (by omega), Below.refl _ _⟩
  · have hn2 : cs.length ≤ 1048576 := by omega
    have bn2 : (cs.length : Int) ≤ 1048576 := by omega
    go_enter Tryz.func44, Tryz.ntmps44
    go_wp2_with fail
    go_loopw [1, 5] (fun l i wr => ∃ (z : Int) (k : Nat), l = .int .i64 z ∧ 0 ≤ z ∧ z ≤ 1048576 ∧ i = .int .i64 k ∧ k ≤ cs.length ∧ Hid (∀ c ∈ cs.take k, SmC c) ∧ Below W.heap.size W wr) (fun _ i _ => cs.length - (intOf i).toNat)
    case atStart => exact ⟨left - cs.length, 0, rfl, by omega, by omega, rfl, Nat.zero_le _, (show ∀ c ∈ cs.take 0, SmC c by simp), Below.refl _ _⟩
    case round =>
      clear h0 h1 hl
      obtain ⟨z, k, rfl, z0, z1, rfl, hk, hS, hb⟩ := hrel
      by_cases hkl : k < cs.length
      · have hvk : cs[k]? = some cs[k] := List.getElem?_eq_getElem hkl
        obtain ⟨b, o, rfl, hbl, hss, hss2, c0, c1, c2, c3, c4⟩ := hA.below hb k cs[k] hvk
        have call := fun w => lSzCellZ cs[k] z z0 z1 hss hss2 w
        have HN : Hid (SmC cs[k] → ∀ v ∈ cs.take (k + 1), SmC v) := fun h v hv => by
          rw [List.take_add_one, hvk, List.mem_append] at hv
          rcases hv with hv | hv
          · exact hS.out v hv
          · simp at hv; rw [hv]; exact h
        generalize cs[k] = v at *
        clear hvk
        go_wp2_with (go_at_call 65; refine (call _).mono ?_; rintro e w2 ⟨z2, rfl, a0, a1, a2, hb2⟩)
        · go_ret
          exact ⟨-1, rfl, by omega, by omega, .inl (by omega), hb.trans (hb2.mono hb.size)⟩
        · go_roundw
          case rel => exact ⟨z2, k + 1, rfl, by omega, by omega, by go_num, hkl, HN.out (a2.resolve_left (by omega)), hb.trans (hb2.mono hb.size)⟩
          case measure => simp [intOf]; omega
      · obtain rfl : k = cs.length := by omega
        have hS' : Hid (∀ v ∈ cs, SmC v) := by have := hS.out; rw [List.take_length] at this; exact this
        clear hS
        go_wp2_with fail
        go_ret
        exact ⟨z, rfl, by omega, z1, .inr ⟨hn2, hS'.out⟩, hb⟩

theorem lSzStateZ {a b : Option Addr} {ca cb : Nat} {vs : List Vl} {cs : List Cl} {nr er : Int} {W : World} (hV : RdV W a vs) (hC : RdC W b cs) (hn : vs.length ≤ maxLen) (hm : cs.length ≤ maxLen) :
    Calls Tryz.prog 19 #[.agg #[.slice a vs.length ca, .slice b cs.length cb, .int .i64 nr, .int .i64 er], .int .i64 1048576] W fun e w' => ∃ z, e = .returned (.int .i64 z) ∧ (z < 0 ∨ (vs.length ≤ 1048576 ∧ ∀ v ∈ vs, SmV v) ∧ cs.length ≤ 1048576 ∧ ∀ c ∈ cs, SmC c) ∧ Below W.heap.size W w' := by
  have hb : ∀ o, Below W.heap.size W (W.alloc o) := fun o => (Below.refl _ W).alloc (Nat.le_refl _) o
  have cv := fun o => lSzValSZ (cap := ca) (hV.below (hb o)) hn
  have cc := fun w' (h : Below W.heap.size W w') l h0 h1 => lSzCellSZ (cap := cb) (left := l) (hC.below h) hm h0 h1
  have hk := Blk.new 29 W [.slice a vs.length ca, .slice b cs.length cb, .int .i64 nr, .int .i64 er]
  clear hV hC hn hm
  go_enter Tryz.func19, Tryz.ntmps19
  go_wp2_with (first
    | (go_at_call 43; refine (cv _).mono ?_; rintro e w2 ⟨z, rfl, z0, z1, z2, hb2⟩; have hB2 := (hb _).trans (hb2.mono (hb _).size); have r1 := (hk.below hb2).cell 1 rfl; have HZ2 := (show Hid (z < 0 ∨ _) from z2); clear z2)
    | (go_at_call 44; refine (cc _ hB2 _ (by omega) (by omega)).mono ?_; rintro e w3 ⟨y, rfl, y0, y1, y2, hb3⟩; have hB3 := hB2.trans (hb3.mono hB2.size); have HY2 := (show Hid (y < 0 ∨ _) from y2); clear y2))
  · go_ret
    exact ⟨_, rfl, .inl (by omega), hB2⟩
  · go_ret
    exact ⟨_, rfl, .inl (by omega), hB3⟩
  · go_ret
    exact ⟨_, rfl, .inr ⟨HZ2.out.resolve_left (by omega), HY2.out.resolve_left (by omega)⟩, hB3⟩

end St
end Go.Proofs.YtkhoccjfkkfipaaGreatDoor
namespace Go.Proofs.YtkhoccjfkkfipaaGreatDoor
open Go.RowKit
namespace St
open Nd

set_option maxRecDepth 100000 in
theorem lSzValSL {ao : Option Addr} {cap : Nat} {vs : List Vl} {W : World} {left : Int} (h0 : 0 ≤ left) (h1 : left ≤ 1048576) (hA : RdV W ao vs) (hn : vs.length ≤ maxLen) :
    Calls Tryz.prog 43 #[.slice ao vs.length cap, .int .i64 left] W fun e w' => ∃ z, e = .returned (.int .i64 z) ∧ -1 ≤ z ∧ z ≤ 1048576 ∧ (z < 0 ∨ (vs.length ≤ 1048576 ∧ ∀ v ∈ vs, SmV v)) ∧ Below W.heap.size W w' := by
  unfold maxLen at hn
  have bn : (vs.length : Int) ≤ 9223372036854775807 := by omega
  by_cases hl : left - vs.length < 0
  · go_enter Tryz.func43, Tryz.ntmps43
    go_wp2_with fail
    go_ret
    exact ⟨-1, rfl, by omega, by omega, .inl (by omega), Below.refl _ _⟩
  · have hn2 : vs.length ≤ 1048576 := by omega
    have bn2 : (vs.length : Int) ≤ 1048576 := by omega
    go_enter Tryz.func43, Tryz.ntmps43
    go_wp2_with fail
    go_loopw [1, 5] (fun l i wr => ∃ (z : Int) (k : Nat), l = .int .i64 z ∧ 0 ≤ z ∧ z ≤ 1048576 ∧ i = .int .i64 k ∧ k ≤ vs.length ∧ Hid (∀ v ∈ vs.take k, SmV v) ∧ Below W.heap.size W wr) (fun _ i _ => vs.length - (intOf i).toNat)
    case atStart => exact ⟨left - vs.length, 0, by go_num, by omega, by omega, rfl, Nat.zero_le _, (show ∀ v ∈ vs.take 0, SmV v by simp), Below.refl _ _⟩
    case round =>
      clear h0 h1 hl
      obtain ⟨z, k, rfl, z0, z1, rfl, hk, hS, hb⟩ := hrel
      by_cases hkl : k < vs.length
      · have hvk : vs[k]? = some vs[k] := List.getElem?_eq_getElem hkl
        obtain ⟨b, o, rfl, hbl, hss, c0, c1, c2⟩ := hA.below hb k vs[k] hvk
        have call := fun w => lSzValZ vs[k] z z0 z1 hss w
        have HN : Hid (SmV vs[k] → ∀ v ∈ vs.take (k + 1), SmV v) := fun h v hv => by
          rw [List.take_add_one, hvk, List.mem_append] at hv
          rcases hv with hv | hv
          · exact hS.out v hv
          · simp at hv; rw [hv]; exact h
        generalize vs[k] = v at *
        clear hvk
        go_wp2_with (go_at_call 64; refine (call _).mono ?_; rintro e w2 ⟨z2, rfl, a0, a1, a2, hb2⟩)
        · go_ret
          exact ⟨-1, rfl, by omega, by omega, .inl (by omega), hb.trans (hb2.mono hb.size)⟩
        · go_roundw
          case rel => exact ⟨z2, k + 1, rfl, by omega, by omega, by go_num, hkl, HN.out (a2.resolve_left (by omega)), hb.trans (hb2.mono hb.size)⟩
          case measure => simp [intOf]; omega
      · obtain rfl : k = vs.length := by omega
        have hS' : Hid (∀ v ∈ vs, SmV v) := by have := hS.out; rw [List.take_length] at this; exact this
        clear hS
        go_wp2_with fail
        go_ret
        exact ⟨z, rfl, by omega, z1, .inr ⟨hn2, hS'.out⟩, hb⟩


set_option maxHeartbeats 1000000 in
set_option maxRecDepth 100000 in
theorem lSzStateL {a b : Option Addr} {ca cb : Nat} {vs : List Vl} {cs : List Cl} {nr er : Int} {W : World} {left : Int} (h0 : 0 ≤ left) (h1 : left ≤ 1048576) (hV : RdV W a vs) (hC : RdC W b cs) (hn : vs.length ≤ maxLen) (hm : cs.length ≤ maxLen) :
    Calls Tryz.prog 19 #[.agg #[.slice a vs.length ca, .slice b cs.length cb, .int .i64 nr, .int .i64 er], .int .i64 left] W fun e w' => ∃ z, e = .returned (.int .i64 z) ∧ -1 ≤ z ∧ z ≤ 1048576 ∧ (z < 0 ∨ (vs.length ≤ 1048576 ∧ ∀ v ∈ vs, SmV v) ∧ cs.length ≤ 1048576 ∧ ∀ c ∈ cs, SmC c) ∧ Below W.heap.size W w' := by
  have hb : ∀ o, Below W.heap.size W (W.alloc o) := fun o => (Below.refl _ W).alloc (Nat.le_refl _) o
  have cv := fun o => lSzValSL (cap := ca) h0 h1 (hV.below (hb o)) hn
  have cc := fun w' (h : Below W.heap.size W w') l h0 h1 => lSzCellSZ (cap := cb) (left := l) (hC.below h) hm h0 h1
  have hk := Blk.new 29 W [.slice a vs.length ca, .slice b cs.length cb, .int .i64 nr, .int .i64 er]
  clear hV hC hn hm h0 h1
  go_enter Tryz.func19, Tryz.ntmps19
  go_wp2_with (first
    | (go_at_call 43; refine (cv _).mono ?_; rintro e w2 ⟨z, rfl, z0, z1, z2, hb2⟩; have hB2 := (hb _).trans (hb2.mono (hb _).size); have r1 := (hk.below hb2).cell 1 rfl; have HZ2 := (show Hid (z < 0 ∨ _) from z2); clear z2)
    | (go_at_call 44; refine (cc _ hB2 _ (by omega) (by omega)).mono ?_; rintro e w3 ⟨y, rfl, y0, y1, y2, hb3⟩; have hB3 := hB2.trans (hb3.mono hB2.size); have HY2 := (show Hid (y < 0 ∨ _) from y2); clear y2))
  · go_ret
    exact ⟨_, rfl, by omega, by omega, .inl (by omega), hB2⟩
  · go_ret
    exact ⟨_, rfl, by omega, by omega, .inl (by omega), hB3⟩
  · go_ret
    exact ⟨_, rfl, by omega, by omega, .inr ⟨HZ2.out.resolve_left (by omega), HY2.out.resolve_left (by omega)⟩, hB3⟩

end St
namespace Pg
open St (Vl RdV)
open Oc (hold heap_new Blk SmV)

set_option maxHeartbeats 1000000 in
set_option maxRecDepth 100000 in
theorem lSzProgZ {va ca sa ma : Option Addr} {vc cc sc mc : Nat} {vars cells : List ByteArray} {st mn : List Vl} {W : World} (hR : PRd W va ca sa ma vars cells st mn) (nv : vars.length ≤ maxLen) (nc : cells.length ≤ maxLen) (ns : st.length ≤ maxLen) (nm : mn.length ≤ maxLen) :
    Calls Tryz.prog 4 #[.agg #[.slice va vars.length vc, .slice ca cells.length cc, .slice sa st.length sc, .slice ma mn.length mc], .int .i64 1048576] W fun e w' => ∃ z, e = .returned (.int .i64 z) ∧ -1 ≤ z ∧ z ≤ 1048576 ∧ (z < 0 ∨ PSm vars cells st mn) ∧ Below W.heap.size W w' := by
  have hb : ∀ o, Below W.heap.size W (W.alloc o) := fun o => (Below.refl _ W).alloc (Nat.le_refl _) o
  have C1 : Hid (∀ w' (h : Below W.heap.size W w') l, 0 ≤ l → l ≤ 1048576 → Calls Tryz.prog 17 #[.slice va vars.length vc, .int .i64 l] w' fun e w'' => ∃ z, e = .returned (.int .i64 z) ∧ -1 ≤ z ∧ z ≤ 1048576 ∧ (z < 0 ∨ (vars.length ≤ 1048576 ∧ ∀ s ∈ vars, SmT s)) ∧ Below w'.heap.size w' w'') := fun w' h l h0 h1 => lSzStringS h0 h1 (hR.vs.below h) nv
  have C2 : Hid (∀ w' (h : Below W.heap.size W w') l, 0 ≤ l → l ≤ 1048576 → Calls Tryz.prog 17 #[.slice ca cells.length cc, .int .i64 l] w' fun e w'' => ∃ z, e = .returned (.int .i64 z) ∧ -1 ≤ z ∧ z ≤ 1048576 ∧ (z < 0 ∨ (cells.length ≤ 1048576 ∧ ∀ s ∈ cells, SmT s)) ∧ Below w'.heap.size w' w'') := fun w' h l h0 h1 => lSzStringS h0 h1 (hR.cs.below h) nc
  have C3 : Hid (∀ w' (h : Below W.heap.size W w') l, 0 ≤ l → l ≤ 1048576 → Calls Tryz.prog 18 #[.slice sa st.length sc, .int .i64 l] w' fun e w'' => ∃ z, e = .returned (.int .i64 z) ∧ -1 ≤ z ∧ z ≤ 1048576 ∧ (z < 0 ∨ (st.length ≤ 1048576 ∧ ∀ v ∈ st, SmV v)) ∧ Below w'.heap.size w' w'') := fun w' h l h0 h1 => lSzOpSL h0 h1 (hR.ss.below h) ns
  have C4 : Hid (∀ w' (h : Below W.heap.size W w') l, 0 ≤ l → l ≤ 1048576 → Calls Tryz.prog 18 #[.slice ma mn.length mc, .int .i64 l] w' fun e w'' => ∃ z, e = .returned (.int .i64 z) ∧ -1 ≤ z ∧ z ≤ 1048576 ∧ (z < 0 ∨ (mn.length ≤ 1048576 ∧ ∀ v ∈ mn, SmV v)) ∧ Below w'.heap.size w' w'') := fun w' h l h0 h1 => lSzOpSL h0 h1 (hR.ms.below h) nm
  have hk : Hid (Blk 25 (W.alloc (.cells #[.slice va vars.length vc, .slice ca cells.length cc, .slice sa st.length sc, .slice ma mn.length mc] 25)) W.heap.size [.slice va vars.length vc, .slice ca cells.length cc, .slice sa st.length sc, .slice ma mn.length mc]) := Blk.new _ _ _
  clear hR nv nc ns nm
  go_enter Tryz.func4, Tryz.ntmps4
  go_wp2_with (go_at_call 17; refine hold ?_)
  refine Calls.mono (C1.out _ (hb _) _ (by omega) (by omega)) ?_
  rintro e w2 ⟨z, rfl, z0, z1, z2, hb2⟩
  have B2 := (hb _).trans (hb2.mono (hb _).size)
  have K2 := hk.out.below hb2
  have HZ : Hid (z < 0 ∨ (vars.length ≤ 1048576 ∧ ∀ s ∈ vars, SmT s)) := z2
  have H2 : Hid (Below W.heap.size W w2 ∧ Blk 25 w2 W.heap.size [.slice va vars.length vc, .slice ca cells.length cc, .slice sa st.length sc, .slice ma mn.length mc]) := ⟨B2, K2⟩
  have x1 := K2.cell 1 rfl
  clear B2 K2 z2 hb2 C1 hk hb
  go_wp2_with (go_at_call 17; refine hold ?_)
  · go_ret
    exact ⟨_, rfl, by omega, by omega, .inl (by omega), H2.out.1⟩
  refine Calls.mono (C2.out _ H2.out.1 _ (by omega) (by omega)) ?_
  rintro e w3 ⟨y, rfl, y0, y1, y2, hb3⟩
  have B3 := H2.out.1.trans (hb3.mono H2.out.1.size)
  have K3 := H2.out.2.below hb3
  have HY : Hid (y < 0 ∨ (cells.length ≤ 1048576 ∧ ∀ s ∈ cells, SmT s)) := y2
  have H3 : Hid (Below W.heap.size W w3 ∧ Blk 25 w3 W.heap.size [.slice va vars.length vc, .slice ca cells.length cc, .slice sa st.length sc, .slice ma mn.length mc]) := ⟨B3, K3⟩
  clear x1
  have x2 := K3.cell 2 rfl
  clear B3 K3 y2 hb3 C2 H2
  go_wp2_with (go_at_call 18; refine hold ?_)
  · go_ret
    exact ⟨_, rfl, by omega, by omega, .inl (by omega), H3.out.1⟩
  refine Calls.mono (C3.out _ H3.out.1 _ (by omega) (by omega)) ?_
  rintro e w4 ⟨x, rfl, x0, x1, xx, hb4⟩
  have B4 := H3.out.1.trans (hb4.mono H3.out.1.size)
  have K4 := H3.out.2.below hb4
  have HX : Hid (x < 0 ∨ (st.length ≤ 1048576 ∧ ∀ v ∈ st, SmV v)) := xx
  have H4 : Hid (Below W.heap.size W w4) := B4
  clear x2
  have x3 := K4.cell 3 rfl
  clear B4 K4 xx hb4 C3 H3
  go_wp2_with (go_at_call 18; refine hold ?_)
  · go_ret
    exact ⟨_, rfl, by omega, by omega, .inl (by omega), H4.out⟩
  refine Calls.mono (C4.out _ H4.out _ (by omega) (by omega)) ?_
  rintro e w5 ⟨u, rfl, u0, u1, uu, hb5⟩
  have HU : Hid (u < 0 ∨ (mn.length ≤ 1048576 ∧ ∀ v ∈ mn, SmV v)) := uu
  have H5 : Hid (Below W.heap.size W w5) := H4.out.trans (hb5.mono H4.out.size)
  clear uu hb5 C4 H4 x3
  go_wp2_with fail
  · go_ret
    exact ⟨_, rfl, by omega, by omega, .inl (by omega), H5.out⟩
  · go_ret
    refine ⟨_, rfl, by omega, by omega, .inr ?_, H5.out⟩
    obtain ⟨a1, a2⟩ := HZ.out.resolve_left (by omega)
    obtain ⟨b1, b2⟩ := HY.out.resolve_left (by omega)
    obtain ⟨c1, c2⟩ := HX.out.resolve_left (by omega)
    obtain ⟨d1, d2⟩ := HU.out.resolve_left (by omega)
    exact ⟨a1, a2, b1, b2, c1, c2, d1, d2⟩


/-- Numbers in a row that is read. -/
def RdI (w : World) (ao : Option Addr) (ss : List Int) : Prop := ∀ i s, ss[i]? = some s → ∃ b o, ao = some ⟨b, o, none⟩ ∧ b < w.heap.size ∧ w.cell? ⟨b, o + i, none⟩ = some (.int .i64 s)
theorem RdI.below {W w : World} {ao : Option Addr} {ss : List Int} (h : RdI W ao ss) (hb : Below W.heap.size W w) : RdI w ao ss := by
  intro i s hi
  obtain ⟨b, o, rfl, hl, hc⟩ := h i s hi
  exact ⟨b, o, rfl, Nat.lt_of_lt_of_le hl hb.size, (hb.cell hl).trans hc⟩
def encI (s : Int) : List Value := [.int .i64 s]
theorem encI_len (s : Int) : (encI s).length = 1 := rfl
theorem rows_rdi {T : TypeId} {w : World} {g : Nat} {ss : List Int} (h : St.Rows T encI w g ss) : RdI w (some ⟨g, 0, none⟩) ss := fun i s hi => by
  refine ⟨g, 0, rfl, h.lt, ?_⟩
  have := h.cell encI_len hi (j := 0) rfl
  rw [Nat.zero_add]
  simpa using this

theorem lSzIntS {ao : Option Addr} {cap : Nat} {ss : List Int} {W : World} {left : Int} (h0 : 0 ≤ left) (h1 : left ≤ 1048576) (hn : ss.length ≤ maxLen) :
    Calls Tryz.prog 20 #[.slice ao ss.length cap, .int .i64 left] W fun e w' => ∃ z, e = .returned (.int .i64 z) ∧ -1 ≤ z ∧ z ≤ 1048576 ∧ (z < 0 ∨ ss.length ≤ 1048576) ∧ w' = W := by
  unfold maxLen at hn
  have bn : (ss.length : Int) ≤ 9223372036854775807 := by omega
  by_cases hl : left - ss.length < 0
  · go_enter Tryz.func20, Tryz.ntmps20
    go_wp2_with fail
    go_ret
    exact ⟨-1, rfl, by omega, by omega, .inl (by omega), rfl⟩
  · have hl' : 0 ≤ left - ss.length := by omega
    go_enter Tryz.func20, Tryz.ntmps20
    go_wp2_with fail
    go_ret
    exact ⟨_, rfl, by omega, by omega, .inr (by omega), rfl⟩

set_option maxRecDepth 100000 in
theorem lEqIntS {a1 a2 : Option Addr} {c1 c2 : Nat} {ss : List Int} {w : World} (h1 : RdI w a1 ss) (h2 : RdI w a2 ss) (hn : ss.length ≤ 3000000) :
    Calls Tryz.prog 37 #[.slice a1 ss.length c1, .slice a2 ss.length c2] w fun e w' => e = .returned (.bool true) ∧ Below w.heap.size w w' := by
  have bn : (ss.length : Int) ≤ 3000000 := by omega
  go_enter Tryz.func37, Tryz.ntmps37
  go_wp2_with fail
  go_loopw [5] (fun i wr => ∃ k : Nat, i = .int .i64 k ∧ k ≤ ss.length ∧ Below w.heap.size w wr) (fun i _ => ss.length - (intOf i).toNat)
  case atStart => exact ⟨0, rfl, Nat.zero_le _, Below.refl _ _⟩
  case round =>
    obtain ⟨k, rfl, hk, hb⟩ := hrel
    by_cases hkl : k < ss.length
    · obtain ⟨b1, o1, rfl, _, p0⟩ := h1.below hb k ss[k] (List.getElem?_eq_getElem hkl)
      obtain ⟨b2, o2, rfl, _, q0⟩ := h2.below hb k ss[k] (List.getElem?_eq_getElem hkl)
      generalize ss[k] = v at *
      have bk : (k : Int) < ss.length := by omega
      clear h1 h2
      go_wp2_with fail
      go_quiet (fail)
      go_wp2_with fail
      go_roundw
      case rel => exact ⟨k + 1, by go_num, hkl, ⟨hb.os, hb.tape, hb.output, hb.size, hb.block⟩⟩
      case measure => simp only [intOf]; omega
    · obtain rfl : k = ss.length := by omega
      go_wp2_with fail
      go_ret
      exact ⟨rfl, hb⟩


theorem infoInt : (Tryz.prog.info? 3).map (fun i => (i.zero, i.size, i.bytes)) = some (some (.int .i64 0), 1, 8) := by kernel_rfl

theorem make_ints (n : Nat) (hn : n ≤ 1048576) (w : World) : (Instr.makeSlice 30 (.int .i64 n) (.int .i64 n)).run Tryz.prog w = .ok (.slice (some ⟨w.heap.size, 0, none⟩) n n) (w.alloc (.cells ((List.replicate n (0 : Int)).flatMap encI).toArray 3)) := by
  obtain ⟨i0, hi0, hz0, hz1, hz2⟩ := info_parts infoInt
  have := run_make (P := Tryz.prog) w 30 3 i0 _ Tryz.underlying30 hi0 hz0 .i64 .i64 n n (by omega) (Int.le_refl _) (by rw [hz2]; omega) (by omega)
  rw [this, hz1]
  simp only [Int.toNat_natCast]
  rw [← St.made_rows (m := 1) (by omega) encI_len]
  rfl

set_option maxRecDepth 100000 in
theorem lToIntS {ao : Option Addr} {cap : Nat} {ss : List Int} {w : World} (hA : RdI w ao ss) (hn : ss.length ≤ 1048576) :
    Calls Tryz.prog 26 #[.slice ao ss.length cap] w fun e w' => ∃ g, e = .returned (.slice (some ⟨g, 0, none⟩) ss.length ss.length) ∧ w.heap.size ≤ g ∧ St.Rows 3 encI w' g ss ∧ Below w.heap.size w w' := by
  have hmk := make_ints ss.length hn
  have bn : (ss.length : Int) ≤ 1048576 := by omega
  go_enter Tryz.func26, Tryz.ntmps26
  go_wp2_with fail
  go_loopw [4] (fun i wr => ∃ (k : Nat) (L : List Int), i = .int .i64 k ∧ k ≤ ss.length ∧ L.length = ss.length ∧ (∀ j, j < k → L[j]? = ss[j]?) ∧ St.Rows 3 encI wr w.heap.size L ∧ Below w.heap.size w wr) (fun i _ => ss.length - (intOf i).toNat)
  case atStart => exact ⟨0, List.replicate ss.length 0, rfl, Nat.zero_le _, by simp, fun j hj => by omega, heap_new _ _, (Below.refl _ w).alloc (Nat.le_refl _) _⟩
  case round =>
    obtain ⟨k, L, rfl, hk, hL, hM, hR, hb⟩ := hrel
    have hgl := hR.lt
    by_cases hkl : k < ss.length
    · have hvk : ss[k]? = some ss[k] := List.getElem?_eq_getElem hkl
      obtain ⟨b, o, rfl, hbl, c0⟩ := hA.below hb k ss[k] hvk
      generalize ss[k] = v at *
      obtain ⟨u, hu⟩ : ∃ u, L[k]? = some u := ⟨_, List.getElem?_eq_getElem (by omega)⟩
      have p0 : wr.cell? ⟨w.heap.size, k, none⟩ = some (.int .i64 u) := by have := hR.cell encI_len hu (j := 0) rfl; simpa using this
      have fz := hR.frozen
      have HS : Hid (St.Rows 3 encI (wr.setCell ⟨w.heap.size, k, none⟩ (.int .i64 v)) w.heap.size (L.set k v)) := by
        have := hR.set (by omega) encI_len (show k < L.length by omega) v
        rw [Nat.mul_one] at this
        exact this
      clear hA hmk
      go_wp2_with fail
      go_roundw
      case rel =>
        refine ⟨k + 1, L.set k v, by go_num, hkl, by simpa using hL, fun j hj => ?_, HS.out, hb.setCell (Nat.le_refl _) _⟩
        by_cases hjk : j = k
        · subst hjk
          rw [List.getElem?_set_self (by omega), hvk]
        · rw [List.getElem?_set_ne (by omega)]
          exact hM j (by omega)
      case measure => simp [intOf]; omega
    · obtain rfl : k = ss.length := by omega
      have hLe : L = ss := by
        apply List.ext_getElem?
        intro j
        by_cases hj : j < ss.length
        · exact hM j hj
        · rw [List.getElem?_eq_none (by omega), List.getElem?_eq_none (by omega)]
      subst hLe
      have HR : Hid (St.Rows 3 encI wr w.heap.size L) := hR
      clear hR hM hmk hA
      go_wp2_with fail
      go_ret
      exact ⟨_, rfl, Nat.le_refl _, HR.out, hb⟩

end Pg
end Go.Proofs.YtkhoccjfkkfipaaGreatDoor
