/-
  Lists of places of a stack: the laws' sizes, copies and comparisons of them.
  Lists of names: the laws' sizes, copies and comparisons of them; sizes of lists of places at any rest.
-/
import Derived.Test.YtkhoccjfkkfipaaGreatDoorP01
import Derived.OwnWalk
import Derived.WalkLawsBesides
import Derived.Deep.RegionWith
import Derived.Deep.CutBlock
import Derived.Deep.CutRange
import Derived.Deep.DeepCutAuto
import Derived.BigQuiet
import Derived.Deep.QuietTactic
import Derived.Deep.LoopGhost
namespace Go.Proofs.YtkhoccjfkkfipaaGreatDoor
open Go.RowKit
namespace Oc
open St

theorem hold {p : Prop} (h : Hid p) : p := h
theorem heap_lt {w : World} {g : Nat} {o : Obj} (h : w.heap[g]? = some o) : g < w.heap.size := (Array.getElem?_eq_some_iff.1 h).1
theorem heap_new (w : World) (o : Obj) : (w.alloc o).heap[w.heap.size]? = some o := heap_alloc_new w o

/-- A block of cells. -/
def Blk (T : TypeId) (w : World) (B : Nat) (xs : List Value) : Prop := w.heap[B]? = some (.cells xs.toArray T (0, 0))

theorem Blk.lt {T : TypeId} {w : World} {B : Nat} {xs : List Value} (h : Blk T w B xs) : B < w.heap.size := heap_lt h

theorem Blk.cell {T : TypeId} {w : World} {B : Nat} {xs : List Value} (h : Blk T w B xs) (j : Nat) {x : Value} (hx : xs[j]? = some x) : w.cell? ⟨B, j, none⟩ = some x := by
  unfold Blk at h
  simp only [World.cell?, h]
  simpa using hx

theorem Blk.frozen {T : TypeId} {w : World} {B : Nat} {xs : List Value} (h : Blk T w B xs) (k : Nat) : w.frozen? ⟨B, k, none⟩ = false := by
  unfold Blk at h
  simp [World.frozen?, h]

theorem Blk.set {T : TypeId} {w : World} {B : Nat} {xs : List Value} (h : Blk T w B xs) (j : Nat) (x : Value) : Blk T (w.setCell ⟨B, j, none⟩ x) B (xs.set j x) := by
  unfold Blk at h ⊢
  have : (xs.set j x).toArray = xs.toArray.set! j x := by apply Array.ext'; simp
  rw [this]
  simp [World.setCell, Array.getElem?_modify, h]

theorem Blk.other {T : TypeId} {w : World} {B : Nat} {xs : List Value} (h : Blk T w B xs) {g : Nat} (hg : B ≠ g) (j : Nat) (x : Value) : Blk T (w.setCell ⟨g, j, none⟩ x) B xs := (Below.heap_setCell _ _ _ _ hg).trans h

theorem Blk.alloc {T : TypeId} {w : World} {B : Nat} {xs : List Value} (h : Blk T w B xs) (o : Obj) : Blk T (w.alloc o) B xs := (Below.heap_alloc _ _ _ h.lt).trans h

theorem Blk.below {T : TypeId} {w w' : World} {B : Nat} {xs : List Value} (h : Blk T w B xs) (hb : Below w.heap.size w w') : Blk T w' B xs := (hb.block _ h.lt).trans h

theorem Blk.new (T : TypeId) (w : World) (xs : List Value) : Blk T (w.alloc (.cells xs.toArray T)) w.heap.size xs := heap_new _ _

theorem rows_rd {w : World} {g : Nat} {vs : List Vl} (h : St.Rows 92 encV w g vs) (hs : ∀ v ∈ vs, v.2.2.size ≤ maxLen) : RdV w (some ⟨g, 0, none⟩) vs := fun i v hi => by
  refine ⟨g, 0, rfl, h.lt, hs v (List.mem_of_getElem? hi), ?_, ?_, ?_⟩ <;> rw [Nat.zero_add]
  · exact h.cell encV_len hi (j := 0) rfl
  · exact h.cell encV_len hi (j := 1) rfl
  · exact h.cell encV_len hi (j := 2) rfl

theorem lEqOp (v : Vl) (w : World) :
    Calls Tryz.prog 58 #[.agg #[.int .i64 v.1, .int .i64 v.2.1, .string v.2.2], .agg #[.int .i64 v.1, .int .i64 v.2.1, .string v.2.2]] w fun e w' => e = .returned (.bool true) ∧ Below w.heap.size w w' := by
  go_enter Tryz.func58, Tryz.ntmps58
  go_wp2_with fail
  go_ret
  exact ⟨rfl, ((Below.refl _ w).alloc (Nat.le_refl _) _).alloc (by simp) _⟩

set_option maxRecDepth 100000 in
theorem lEqOpS {a1 a2 : Option Addr} {c1 c2 : Nat} {vs : List Vl} {w : World} (h1 : RdV w a1 vs) (h2 : RdV w a2 vs) (hn : vs.length ≤ 3000000) :
    Calls Tryz.prog 35 #[.slice a1 vs.length c1, .slice a2 vs.length c2] w fun e w' => e = .returned (.bool true) ∧ Below w.heap.size w w' := by
  have bn : (vs.length : Int) ≤ 3000000 := by omega
  go_enter Tryz.func35, Tryz.ntmps35
  go_wp2_with fail
  go_loopw [5] (fun i wr => ∃ k : Nat, i = .int .i64 k ∧ k ≤ vs.length ∧ Below w.heap.size w wr) (fun i _ => vs.length - (intOf i).toNat)
  case atStart => exact ⟨0, rfl, Nat.zero_le _, Below.refl _ _⟩
  case round =>
    obtain ⟨k, rfl, hk, hb⟩ := hrel
    by_cases hkl : k < vs.length
    · obtain ⟨b1, o1, rfl, _, _, p0, p1, p2⟩ := h1.below hb k vs[k] (List.getElem?_eq_getElem hkl)
      obtain ⟨b2, o2, rfl, _, _, q0, q1, q2⟩ := h2.below hb k vs[k] (List.getElem?_eq_getElem hkl)
      generalize vs[k] = v at *
      have bk : (k : Int) < vs.length := by omega
      clear h1 h2
      have call := lEqOp v wr.drew
      go_wp2_with fail
      go_region_with (first | (go_at_call 58; refine call.mono ?_; rintro e w2 ⟨rfl, hb2⟩))
      all_goals go_wp2_with fail
      all_goals go_roundw
      all_goals try (simp only [intOf]; omega)
      all_goals exact ⟨k + 1, by go_num, hkl, hb.trans (Below.mono (w := wr) (B := wr.heap.size) ⟨hb2.os, hb2.tape, hb2.output, hb2.size, hb2.block⟩ hb.size)⟩
    · obtain rfl : k = vs.length := by omega
      go_wp2_with fail
      go_ret
      exact ⟨rfl, hb⟩

theorem infoOp : (Tryz.prog.info? 92).map (fun i => (i.zero, i.size, i.bytes)) = some (some (.agg #[.int .i64 0, .int .i64 0, .string ⟨#[]⟩]), 3, 32) := by kernel_rfl

theorem make_ops (n : Nat) (hn : n ≤ 1048576) (w : World) : (Instr.makeSlice 37 (.int .i64 n) (.int .i64 n)).run Tryz.prog w = .ok (.slice (some ⟨w.heap.size, 0, none⟩) n n) (w.alloc (.cells ((List.replicate n zeroV).flatMap encV).toArray 92)) := by
  obtain ⟨i0, hi0, hz0, hz1, hz2⟩ := info_parts infoOp
  have := run_make (P := Tryz.prog) w 37 92 i0 _ Tryz.underlying37 hi0 hz0 .i64 .i64 n n (by omega) (Int.le_refl _) (by rw [hz2]; omega) (by omega)
  rw [this, hz1]
  simp only [Int.toNat_natCast]
  rw [← made_rows (m := 3) (by omega) encV_len]
  rfl

def SmV (v : Vl) : Prop := v.2.2.size ≤ 1048576

theorem lSzOpZ (v : Vl) (left : Int) (h0 : 0 ≤ left) (h1 : left ≤ 1048576) (hs : v.2.2.size ≤ maxLen) (w : World) :
    Calls Tryz.prog 42 #[.agg #[.int .i64 v.1, .int .i64 v.2.1, .string v.2.2], .int .i64 left] w fun e w' => ∃ z, e = .returned (.int .i64 z) ∧ -1 ≤ z ∧ z ≤ left ∧ (z < 0 ∨ SmV v) ∧ Below w.heap.size w w' := by
  unfold maxLen at hs
  have hb : ∀ o, Below w.heap.size w (w.alloc o) := fun o => (Below.refl _ w).alloc (Nat.le_refl _) o
  by_cases hl : left - v.2.2.size < 0
  · go_enter Tryz.func42, Tryz.ntmps42
    go_wp2_with fail
    go_ret
    exact ⟨_, rfl, by omega, by omega, .inl (by omega), hb _⟩
  · have hx : Hid (SmV v) := by show SmV v; unfold SmV; omega
    go_enter Tryz.func42, Tryz.ntmps42
    go_wp2_with fail
    go_ret
    exact ⟨_, rfl, by omega, by omega, .inr hx.out, hb _⟩

set_option maxRecDepth 100000 in
theorem lSzOpSZ {ao : Option Addr} {cap : Nat} {vs : List Vl} {W : World} (hA : RdV W ao vs) (hn : vs.length ≤ maxLen) :
    Calls Tryz.prog 18 #[.slice ao vs.length cap, .int .i64 1048576] W fun e w' => ∃ z, e = .returned (.int .i64 z) ∧ -1 ≤ z ∧ z ≤ 1048576 ∧ (z < 0 ∨ (vs.length ≤ 1048576 ∧ ∀ v ∈ vs, SmV v)) ∧ Below W.heap.size W w' := by
  unfold maxLen at hn
  have bn : (vs.length : Int) ≤ 9223372036854775807 := by omega
  by_cases hl : (1048576 : Int) - vs.length < 0
  · go_enter Tryz.func18, Tryz.ntmps18
    go_wp2_with fail
    go_ret
    exact ⟨-1, rfl, by omega, by omega, .inl (by omega), Below.refl _ _⟩
  · have hn2 : vs.length ≤ 1048576 := by omega
    have bn2 : (vs.length : Int) ≤ 1048576 := by omega
    go_enter Tryz.func18, Tryz.ntmps18
    go_wp2_with fail
    go_loopw [1, 5] (fun l i wr => ∃ (z : Int) (k : Nat), l = .int .i64 z ∧ 0 ≤ z ∧ z ≤ 1048576 ∧ i = .int .i64 k ∧ k ≤ vs.length ∧ Hid (∀ v ∈ vs.take k, SmV v) ∧ Below W.heap.size W wr) (fun _ i _ => vs.length - (intOf i).toNat)
    case atStart => exact ⟨1048576 - vs.length, 0, rfl, by omega, by omega, rfl, Nat.zero_le _, (show ∀ v ∈ vs.take 0, SmV v by simp), Below.refl _ _⟩
    case round =>
      obtain ⟨z, k, rfl, z0, z1, rfl, hk, hS, hb⟩ := hrel
      by_cases hkl : k < vs.length
      · have hvk : vs[k]? = some vs[k] := List.getElem?_eq_getElem hkl
        obtain ⟨b, o, rfl, hbl, hss, c0, c1, c2⟩ := hA.below hb k vs[k] hvk
        have call := fun w => lSzOpZ vs[k] z z0 z1 hss w
        have HN : Hid (SmV vs[k] → ∀ v ∈ vs.take (k + 1), SmV v) := fun h v hv => by
          rw [List.take_add_one, hvk, List.mem_append] at hv
          rcases hv with hv | hv
          · exact hS.out v hv
          · simp at hv; rw [hv]; exact h
        generalize vs[k] = v at *
        clear hvk
        go_wp2_with (go_at_call 42; refine (call _).mono ?_; rintro e w2 ⟨z2, rfl, a0, a1, a2, hb2⟩)
        · go_ret
          exact ⟨-1, rfl, by omega, by omega, .inl (by omega), hb.trans (hb2.mono hb.size)⟩
        · go_roundw
          case rel => exact ⟨z2, k + 1, rfl, by omega, by omega, by go_num, hkl, HN.out (a2.resolve_left (by omega)), hb.trans (hb2.mono hb.size)⟩
          case measure => simp [intOf]; omega
      · obtain rfl : k = vs.length := by omega
        have hS' : Hid (∀ v ∈ vs, SmV v) := by have := hS.out; rw [List.take_length] at this; exact this
        clear hS
        go_wp2_with fail
        go_ret
        exact ⟨z, rfl, by omega, z1, .inr ⟨hn2, hS'.out⟩, hb⟩

theorem ret_op {fn : Func} {K : Nat} {R : Ending → World → Prop} {a : Act} {W : World} {B : Nat} {v0 v1 v2 : Value} (hf : fn.results = #[.cell K 92]) (ht : a.tmps[K]? = some (.pointer (some ⟨B, 0, none⟩))) (hd : a.defers = [])
    (hV : Blk 92 W B [v0, v1, v2]) (hR : R (.returned (.agg #[v0, v1, v2])) W) : bodyPost Tryz.prog fn R .ret a W := by
  have x0 := hV.cell 0 rfl
  have x1 := hV.cell 1 rfl
  have x2 := hV.cell 2 rfl
  refine bodyPost_ret ?_ hd hR
  simp [results, hf, ht, go_sem, x0, x1, x2]

theorem lToOp (v : Vl) (w : World) :
    Calls Tryz.prog 51 #[.agg #[.int .i64 v.1, .int .i64 v.2.1, .string v.2.2]] w fun e w' => e = .returned (.agg #[.int .i64 v.1, .int .i64 v.2.1, .string v.2.2]) ∧ Below w.heap.size w w' := by
  go_enter Tryz.func51, Tryz.ntmps51
  go_wp2_with fail
  refine ret_op Tryz.results51 rfl rfl ((Below.heap_alloc _ _ _ (by simp)).trans ?_) ⟨rfl, ?_⟩
  · have := heap_new (w.alloc (.cells #[.int .i64 v.1, .int .i64 v.2.1, .string v.2.2] 83)) (.cells #[.int .i64 v.1, .int .i64 v.2.1, .string v.2.2] 92)
    rwa [World.size_alloc] at this
  · exact (((Below.refl _ w).alloc (Nat.le_refl _) _).alloc (by simp) _).alloc (by simp; omega) _

set_option maxRecDepth 100000 in
theorem lToOpS {ao : Option Addr} {cap : Nat} {vs : List Vl} {w : World} (hA : RdV w ao vs) (hn : vs.length ≤ 1048576) :
    Calls Tryz.prog 24 #[.slice ao vs.length cap] w fun e w' => ∃ g, e = .returned (.slice (some ⟨g, 0, none⟩) vs.length vs.length) ∧ w.heap.size ≤ g ∧ St.Rows 92 encV w' g vs ∧ Below w.heap.size w w' := by
  have hmk := make_ops vs.length hn
  have bn : (vs.length : Int) ≤ 1048576 := by omega
  go_enter Tryz.func24, Tryz.ntmps24
  go_wp2_with fail
  go_loopw [4] (fun i wr => ∃ (k : Nat) (L : List Vl), i = .int .i64 k ∧ k ≤ vs.length ∧ L.length = vs.length ∧ (∀ j, j < k → L[j]? = vs[j]?) ∧ St.Rows 92 encV wr w.heap.size L ∧ Below w.heap.size w wr) (fun i _ => vs.length - (intOf i).toNat)
  case atStart => exact ⟨0, List.replicate vs.length zeroV, rfl, Nat.zero_le _, by simp, fun j hj => by omega, heap_new _ _, (Below.refl _ w).alloc (Nat.le_refl _) _⟩
  case round =>
    obtain ⟨k, L, rfl, hk, hL, hM, hR, hb⟩ := hrel
    have hgl := hR.lt
    by_cases hkl : k < vs.length
    · have hvk : vs[k]? = some vs[k] := List.getElem?_eq_getElem hkl
      obtain ⟨b, o, rfl, hbl, hss, c0, c1, c2⟩ := hA.below hb k vs[k] hvk
      generalize vs[k] = v at *
      obtain ⟨u, hu⟩ : ∃ u, L[k]? = some u := ⟨_, List.getElem?_eq_getElem (by omega)⟩
      obtain ⟨u0, u1, u2⟩ := u
      clear hA hmk
      go_wp2_with (go_at_call 51; refine (lToOp v _).mono ?_; rintro e w2 ⟨rfl, hb2⟩; have hR2 := hR.kept (w' := w2) (hb2.block _ hgl); have p0 : w2.cell? ⟨w.heap.size, k * 3, none⟩ = some (.int .i64 u0) := hR2.cell encV_len hu (j := 0) rfl; have p1 : w2.cell? ⟨w.heap.size, k * 3 + 1, none⟩ = some (.int .i64 u1) := hR2.cell encV_len hu (j := 1) rfl; have p2 : w2.cell? ⟨w.heap.size, k * 3 + 2, none⟩ = some (.string u2) := hR2.cell encV_len hu (j := 2) rfl; have fz := hR2.frozen)
      go_roundw
      case rel =>
        refine ⟨k + 1, L.set k v, by go_num, hkl, by simpa using hL, fun j hj => ?_, hR2.set (by omega) encV_len (by omega) v, below_putL (Nat.le_refl _) (encV v) _ _ (hb.trans (hb2.mono hb.size))⟩
        by_cases hjk : j = k
        · subst hjk
          rw [List.getElem?_set_self (by omega), hvk]
        · rw [List.getElem?_set_ne (by omega)]
          exact hM j (by omega)
      case measure => simp [intOf]; omega
    · obtain rfl : k = vs.length := by omega
      have hLe : L = vs := by
        apply List.ext_getElem?
        intro j
        by_cases hj : j < vs.length
        · exact hM j hj
        · rw [List.getElem?_eq_none (by omega), List.getElem?_eq_none (by omega)]
      subst hLe
      have HR : Hid (St.Rows 92 encV wr w.heap.size L) := hR
      clear hR hM hmk hA
      go_wp2_with fail
      go_ret
      exact ⟨_, rfl, Nat.le_refl _, HR.out, hb⟩

theorem smv_max {vs : List Vl} (h : ∀ v ∈ vs, SmV v) : ∀ v ∈ vs, v.2.2.size ≤ maxLen := fun v hv => by
  have := h v hv
  unfold SmV at this
  unfold maxLen
  omega

end Oc
end Go.Proofs.YtkhoccjfkkfipaaGreatDoor
namespace Go.Proofs.YtkhoccjfkkfipaaGreatDoor
open Go.RowKit
namespace Pg
open St (Vl RdV)
open Oc (hold heap_new SmV)

/-- Texts in a row that is read. -/
def RdT (w : World) (ao : Option Addr) (ss : List ByteArray) : Prop := ∀ i s, ss[i]? = some s → ∃ b o, ao = some ⟨b, o, none⟩ ∧ b < w.heap.size ∧ s.size ≤ maxLen ∧ w.cell? ⟨b, o + i, none⟩ = some (.string s)
theorem RdT.below {W w : World} {ao : Option Addr} {ss : List ByteArray} (h : RdT W ao ss) (hb : Below W.heap.size W w) : RdT w ao ss := by
  intro i s hi
  obtain ⟨b, o, rfl, hl, hs, hc⟩ := h i s hi
  exact ⟨b, o, rfl, Nat.lt_of_lt_of_le hl hb.size, hs, (hb.cell hl).trans hc⟩
def encT (s : ByteArray) : List Value := [.string s]
theorem encT_len (s : ByteArray) : (encT s).length = 1 := rfl
theorem rows_rdt {T : TypeId} {w : World} {g : Nat} {ss : List ByteArray} (h : St.Rows T encT w g ss) (hs : ∀ s ∈ ss, s.size ≤ maxLen) : RdT w (some ⟨g, 0, none⟩) ss := fun i s hi => by
  refine ⟨g, 0, rfl, h.lt, hs s (List.mem_of_getElem? hi), ?_⟩
  have := h.cell encT_len hi (j := 0) rfl
  rw [Nat.zero_add]
  simpa using this
def SmT (s : ByteArray) : Prop := s.size ≤ 1048576
theorem smt_max {ss : List ByteArray} (h : ∀ s ∈ ss, SmT s) : ∀ s ∈ ss, s.size ≤ maxLen := fun s hs => by
  have := h s hs
  unfold SmT at this
  unfold maxLen
  omega

set_option maxRecDepth 100000 in
theorem lSzStringS {ao : Option Addr} {cap : Nat} {ss : List ByteArray} {W : World} {left : Int} (h0 : 0 ≤ left) (h1 : left ≤ 1048576) (hA : RdT W ao ss) (hn : ss.length ≤ maxLen) :
    Calls Tryz.prog 17 #[.slice ao ss.length cap, .int .i64 left] W fun e w' => ∃ z, e = .returned (.int .i64 z) ∧ -1 ≤ z ∧ z ≤ 1048576 ∧ (z < 0 ∨ (ss.length ≤ 1048576 ∧ ∀ s ∈ ss, SmT s)) ∧ Below W.heap.size W w' := by
  unfold maxLen at hn
  have bn : (ss.length : Int) ≤ 9223372036854775807 := by omega
  by_cases hl : left - ss.length < 0
  · go_enter Tryz.func17, Tryz.ntmps17
    go_wp2_with fail
    go_ret
    exact ⟨-1, rfl, by omega, by omega, .inl (by omega), Below.refl _ _⟩
  · have hn2 : ss.length ≤ 1048576 := by omega
    have bn2 : (ss.length : Int) ≤ 1048576 := by omega
    go_enter Tryz.func17, Tryz.ntmps17
    go_wp2_with fail
    go_loopw [1, 5] (fun l i wr => ∃ (z : Int) (k : Nat), l = .int .i64 z ∧ 0 ≤ z ∧ z ≤ 1048576 ∧ i = .int .i64 k ∧ k ≤ ss.length ∧ Hid (∀ s ∈ ss.take k, SmT s) ∧ Below W.heap.size W wr) (fun _ i _ => ss.length - (intOf i).toNat)
    case atStart => exact ⟨left - ss.length, 0, by go_num, by omega, by omega, rfl, Nat.zero_le _, (show ∀ s ∈ ss.take 0, SmT s by simp), Below.refl _ _⟩
    case round =>
      obtain ⟨z, k, rfl, z0, z1, rfl, hk, hS, hb⟩ := hrel
      by_cases hkl : k < ss.length
      · have hvk : ss[k]? = some ss[k] := List.getElem?_eq_getElem hkl
        obtain ⟨b, o, rfl, hbl, hss, c0⟩ := hA.below hb k ss[k] hvk
        have HN : Hid (SmT ss[k] → ∀ s ∈ ss.take (k + 1), SmT s) := fun h v hv => by
          rw [List.take_add_one, hvk, List.mem_append] at hv
          rcases hv with hv | hv
          · exact hS.out v hv
          · simp at hv; rw [hv]; exact h
        generalize ss[k] = v at *
        unfold maxLen at hss
        have hss' : (v.size : Int) ≤ 9223372036854775807 := by omega
        clear hvk hA
        by_cases hz : z - v.size < 0
        · go_wp2_with fail
          go_ret
          exact ⟨-1, rfl, by omega, by omega, .inl (by omega), hb⟩
        · have hx : Hid (SmT v) := by show SmT v; unfold SmT; omega
          go_wp2_with fail
          go_roundw
          case rel => exact ⟨z - v.size, k + 1, by go_num, by omega, by omega, by go_num, hkl, HN.out hx.out, hb⟩
          case measure => simp [intOf]; omega
      · obtain rfl : k = ss.length := by omega
        have hS' : Hid (∀ s ∈ ss, SmT s) := by have := hS.out; rw [List.take_length] at this; exact this
        clear hS
        go_wp2_with fail
        go_ret
        exact ⟨z, rfl, by omega, z1, .inr ⟨hn2, hS'.out⟩, hb⟩

set_option maxRecDepth 100000 in
theorem lSzOpSL {ao : Option Addr} {cap : Nat} {vs : List Vl} {W : World} {left : Int} (h0 : 0 ≤ left) (h1 : left ≤ 1048576) (hA : RdV W ao vs) (hn : vs.length ≤ maxLen) :
    Calls Tryz.prog 18 #[.slice ao vs.length cap, .int .i64 left] W fun e w' => ∃ z, e = .returned (.int .i64 z) ∧ -1 ≤ z ∧ z ≤ 1048576 ∧ (z < 0 ∨ (vs.length ≤ 1048576 ∧ ∀ v ∈ vs, SmV v)) ∧ Below W.heap.size W w' := by
  unfold maxLen at hn
  have bn : (vs.length : Int) ≤ 9223372036854775807 := by omega
  by_cases hl : left - vs.length < 0
  · go_enter Tryz.func18, Tryz.ntmps18
    go_wp2_with fail
    go_ret
    exact ⟨-1, rfl, by omega, by omega, .inl (by omega), Below.refl _ _⟩
  · have hn2 : vs.length ≤ 1048576 := by omega
    have bn2 : (vs.length : Int) ≤ 1048576 := by omega
    go_enter Tryz.func18, Tryz.ntmps18
    go_wp2_with fail
    go_loopw [1, 5] (fun l i wr => ∃ (z : Int) (k : Nat), l = .int .i64 z ∧ 0 ≤ z ∧ z ≤ 1048576 ∧ i = .int .i64 k ∧ k ≤ vs.length ∧ Hid (∀ v ∈ vs.take k, SmV v) ∧ Below W.heap.size W wr) (fun _ i _ => vs.length - (intOf i).toNat)
    case atStart => exact ⟨left - vs.length, 0, by go_num, by omega, by omega, rfl, Nat.zero_le _, (show ∀ v ∈ vs.take 0, SmV v by simp), Below.refl _ _⟩
    case round =>
      obtain ⟨z, k, rfl, z0, z1, rfl, hk, hS, hb⟩ := hrel
      by_cases hkl : k < vs.length
      · have hvk : vs[k]? = some vs[k] := List.getElem?_eq_getElem hkl
        obtain ⟨b, o, rfl, hbl, hss, c0, c1, c2⟩ := hA.below hb k vs[k] hvk
        have call := fun w => Oc.lSzOpZ vs[k] z z0 z1 hss w
        have HN : Hid (SmV vs[k] → ∀ v ∈ vs.take (k + 1), SmV v) := fun h v hv => by
          rw [List.take_add_one, hvk, List.mem_append] at hv
          rcases hv with hv | hv
          · exact hS.out v hv
          · simp at hv; rw [hv]; exact h
        generalize vs[k] = v at *
        clear hvk
        go_wp2_with (go_at_call 42; refine (call _).mono ?_; rintro e w2 ⟨z2, rfl, a0, a1, a2, hb2⟩)
        · go_ret
          exact ⟨-1, rfl, by omega, by omega, .inl (by omega), hb.trans (hb2.mono hb.size)⟩
        · go_roundw
          case rel => exact ⟨z2, k + 1, rfl, by omega, by omega, by go_num, hkl, HN.out (a2.resolve_left (by omega)), hb.trans (hb2.mono hb.size)⟩
          case measure => simp [intOf]; omega
      · obtain rfl : k = vs.length := by omega
        have hS' : Hid (∀ v ∈ vs, SmV v) := by have := hS.out; rw [List.take_length] at this; exact this
        clear hS
        go_wp2_with fail
        go_ret
        exact ⟨z, rfl, by omega, z1, .inr ⟨hn2, hS'.out⟩, hb⟩

set_option maxRecDepth 100000 in
theorem lEqStringS {a1 a2 : Option Addr} {c1 c2 : Nat} {ss : List ByteArray} {w : World} (h1 : RdT w a1 ss) (h2 : RdT w a2 ss) (hn : ss.length ≤ 3000000) :
    Calls Tryz.prog 34 #[.slice a1 ss.length c1, .slice a2 ss.length c2] w fun e w' => e = .returned (.bool true) ∧ Below w.heap.size w w' := by
  have bn : (ss.length : Int) ≤ 3000000 := by omega
  go_enter Tryz.func34, Tryz.ntmps34
  go_wp2_with fail
  go_loopw [5] (fun i wr => ∃ k : Nat, i = .int .i64 k ∧ k ≤ ss.length ∧ Below w.heap.size w wr) (fun i _ => ss.length - (intOf i).toNat)
  case atStart => exact ⟨0, rfl, Nat.zero_le _, Below.refl _ _⟩
  case round =>
    obtain ⟨k, rfl, hk, hb⟩ := hrel
    by_cases hkl : k < ss.length
    · obtain ⟨b1, o1, rfl, _, _, p0⟩ := h1.below hb k ss[k] (List.getElem?_eq_getElem hkl)
      obtain ⟨b2, o2, rfl, _, _, q0⟩ := h2.below hb k ss[k] (List.getElem?_eq_getElem hkl)
      generalize ss[k] = v at *
      have bk : (k : Int) < ss.length := by omega
      clear h1 h2
      go_wp2_with fail
      go_quiet (fail)
      go_wp2_with fail
      go_roundw
      case rel => exact ⟨k + 1, by go_num, hkl, ⟨hb.os, hb.tape, hb.output, hb.size, hb.block⟩⟩
      case measure => simp only [intOf]; omega
    · obtain rfl : k = ss.length := by omega
      go_wp2_with fail
      go_ret
      exact ⟨rfl, hb⟩

theorem infoStr : (Tryz.prog.info? 9).map (fun i => (i.zero, i.size, i.bytes)) = some (some (.string ⟨#[]⟩), 1, 16) := by kernel_rfl

theorem make_strs (n : Nat) (hn : n ≤ 1048576) (w : World) : (Instr.makeSlice 22 (.int .i64 n) (.int .i64 n)).run Tryz.prog w = .ok (.slice (some ⟨w.heap.size, 0, none⟩) n n) (w.alloc (.cells ((List.replicate n (⟨#[]⟩ : ByteArray)).flatMap encT).toArray 9)) := by
  obtain ⟨i0, hi0, hz0, hz1, hz2⟩ := info_parts infoStr
  have := run_make (P := Tryz.prog) w 22 9 i0 _ Tryz.underlying22 hi0 hz0 .i64 .i64 n n (by omega) (Int.le_refl _) (by rw [hz2]; omega) (by omega)
  rw [this, hz1]
  simp only [Int.toNat_natCast]
  rw [← St.made_rows (m := 1) (by omega) encT_len]
  rfl

set_option maxRecDepth 100000 in
theorem lToStringS {ao : Option Addr} {cap : Nat} {ss : List ByteArray} {w : World} (hA : RdT w ao ss) (hn : ss.length ≤ 1048576) :
    Calls Tryz.prog 23 #[.slice ao ss.length cap] w fun e w' => ∃ g, e = .returned (.slice (some ⟨g, 0, none⟩) ss.length ss.length) ∧ w.heap.size ≤ g ∧ St.Rows 9 encT w' g ss ∧ Below w.heap.size w w' := by
  have hmk := make_strs ss.length hn
  have bn : (ss.length : Int) ≤ 1048576 := by omega
  go_enter Tryz.func23, Tryz.ntmps23
  go_wp2_with fail
  go_loopw [4] (fun i wr => ∃ (k : Nat) (L : List ByteArray), i = .int .i64 k ∧ k ≤ ss.length ∧ L.length = ss.length ∧ (∀ j, j < k → L[j]? = ss[j]?) ∧ St.Rows 9 encT wr w.heap.size L ∧ Below w.heap.size w wr) (fun i _ => ss.length - (intOf i).toNat)
  case atStart => exact ⟨0, List.replicate ss.length ⟨#[]⟩, rfl, Nat.zero_le _, by simp, fun j hj => by omega, heap_new _ _, (Below.refl _ w).alloc (Nat.le_refl _) _⟩
  case round =>
    obtain ⟨k, L, rfl, hk, hL, hM, hR, hb⟩ := hrel
    have hgl := hR.lt
    by_cases hkl : k < ss.length
    · have hvk : ss[k]? = some ss[k] := List.getElem?_eq_getElem hkl
      obtain ⟨b, o, rfl, hbl, hss, c0⟩ := hA.below hb k ss[k] hvk
      generalize ss[k] = v at *
      obtain ⟨u, hu⟩ : ∃ u, L[k]? = some u := ⟨_, List.getElem?_eq_getElem (by omega)⟩
      have p0 : wr.cell? ⟨w.heap.size, k, none⟩ = some (.string u) := by have := hR.cell encT_len hu (j := 0) rfl; simpa using this
      have fz := hR.frozen
      have HS : Hid (St.Rows 9 encT (wr.setCell ⟨w.heap.size, k, none⟩ (.string v)) w.heap.size (L.set k v)) := by
        have := hR.set (by omega) encT_len (show k < L.length by omega) v
        rw [Nat.mul_one] at this
        exact this
      clear hA hmk
      go_wp2_with fail
      go_roundw
      case rel =>
        refine ⟨k + 1, L.set k v, by go_num, hkl, by simpa using hL, fun j hj => ?_, HS.out, hb.setCell (Nat.le_refl _) _⟩
        by_cases hjk : j = k
        · subst hjk
          rw [List.getElem?_set_self (by omega), hvk]
        · rw [List.getElem?_set_ne (by omega)]
          exact hM j (by omega)
      case measure => simp [intOf]; omega
    · obtain rfl : k = ss.length := by omega
      have hLe : L = ss := by
        apply List.ext_getElem?
        intro j
        by_cases hj : j < ss.length
        · exact hM j hj
        · rw [List.getElem?_eq_none (by omega), List.getElem?_eq_none (by omega)]
      subst hLe
      have HR : Hid (St.Rows 9 encT wr w.heap.size L) := hR
      clear hR hM hmk hA
      go_wp2_with fail
      go_ret
      exact ⟨_, rfl, Nat.le_refl _, HR.out, hb⟩

end Pg
end Go.Proofs.YtkhoccjfkkfipaaGreatDoor
