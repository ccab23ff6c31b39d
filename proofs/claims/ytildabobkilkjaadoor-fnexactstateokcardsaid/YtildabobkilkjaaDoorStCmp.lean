/-
  Cells held against each other by the program's compareCells.
-/
import Derived.Test.YtildabobkilkjaaDoorStRow
import Derived.Test.YtildabobkilkjaaDoorNdTree
import Derived.Deep.QuietTactic
import Derived.BigQuiet
import Derived.Sort.Walk0
import Derived.Deep.RegionLaw
import Derived.Shelf.Abstract
namespace Go.Proofs.YtildabobkilkjaaDoor
open Go.RowKit
namespace St

/-- by texts -/
def cmpS (x y : ByteArray) : Int := if Op.bytesLess x.toList y.toList then -1 else if x.toList == y.toList then 0 else 1
/-- by numbers -/
def cmpI (x y : Int) : Int := if x < y then -1 else if y < x then 1 else 0
/-- by name, then by key -/
def cmpC (n : Int) (k : ByteArray) (n' : Int) (k' : ByteArray) : Int := if cmpI n n' = 0 then cmpS k k' else cmpI n n'

theorem gtr_str (t : TypeId) (a b : ByteArray) : binOp .gtr t (.string a) (.string b) = pure (.bool !(Op.bytesLess a.toList b.toList || a.toList == b.toList)) := by simp [binOp, Op.stringOp]
theorem iCmpS (x y : ByteArray) (w : World) :
    Calls Tryd.prog 39 #[.string x, .string y] w fun e w' => e = .returned (.int .i64 (cmpS x y)) ∧ w' = w := by
  unfold cmpS
  have hg := gtr_str
  cases h1 : Op.bytesLess x.toList y.toList with
  | true =>
    go_enter Tryd.func39, Tryd.ntmps39
    go_wp2_with (go_at_call 45; go_in)
    go_ret
    exact ⟨rfl, rfl⟩
  | false =>
    cases h2 : (x.toList == y.toList) with
    | true =>
      go_enter Tryd.func39, Tryd.ntmps39
      go_wp2_with (go_at_call 45; go_in)
      go_ret
      exact ⟨rfl, rfl⟩
    | false =>
      go_enter Tryd.func39, Tryd.ntmps39
      go_wp2_with (go_at_call 45; go_in)
      go_ret
      exact ⟨rfl, rfl⟩
theorem iCmpI (x y : Int) (w : World) :
    Calls Tryd.prog 38 #[.int .i64 x, .int .i64 y] w fun e w' => e = .returned (.int .i64 (cmpI x y)) ∧ w' = w := by
  unfold cmpI
  by_cases h1 : x < y
  · rw [if_pos h1]
    go_enter Tryd.func38, Tryd.ntmps38
    go_wp2_with (go_at_call 44; go_in)
    go_ret
    exact ⟨rfl, rfl⟩
  · rw [if_neg h1]
    by_cases h2 : y < x
    · rw [if_pos h2]
      have h1' : decide (x < y) = false := by simpa using h1
      clear h1
      go_enter Tryd.func38, Tryd.ntmps38
      go_wp2_with (go_at_call 44; go_in)
      go_ret
      exact ⟨rfl, rfl⟩
    · rw [if_neg h2]
      have h1' : decide (x < y) = false := by simpa using h1
      have h2' : decide (y < x) = false := by simpa using h2
      clear h1 h2
      go_enter Tryd.func38, Tryd.ntmps38
      go_wp2_with (go_at_call 44; go_in)
      go_ret
      exact ⟨rfl, rfl⟩

theorem iOr {g : Nat} {x y : Int} {w : World} (c0 : w.cell? ⟨g, 0, none⟩ = some (.int .i64 x)) (c1 : w.cell? ⟨g, 1, none⟩ = some (.int .i64 y)) :
    Calls Tryd.prog 37 #[.slice (some ⟨g, 0, none⟩) 2 2] w fun e w' => e = .returned (.int .i64 (if x = 0 then y else x)) ∧ w' = w := by
  obtain ⟨R, hR⟩ : ∃ R, R = (if x = 0 then y else x) := ⟨_, rfl⟩
  have HR : Hid (R = if x = 0 then y else x) := hR
  rw [← hR]
  clear hR
  go_enter Tryd.func37, Tryd.ntmps37
  go_wp2_with fail
  go_loopw [8] (fun i wr => ∃ k : Nat, i = .int .i64 k ∧ k ≤ 2 ∧ (1 ≤ k → x = 0) ∧ (2 ≤ k → y = 0) ∧ wr = w) (fun i _ => 2 - (intOf i).toNat)
  case atStart => exact ⟨0, rfl, by omega, by omega, by omega, rfl⟩
  case round =>
    obtain ⟨k, rfl, hk, hx, hy, rfl⟩ := hrel
    match k, hk with
    | 0, _ =>
      by_cases h0 : x = 0
      · subst h0
        go_wp2_with fail
        go_roundw
        case rel => exact ⟨1, rfl, by omega, by simp, by omega, by simp⟩
        case measure => simp [intOf]
      · have h1 : (x != 0) = true := by simpa using h0
        have h2 : Hid (R = x) := by have := HR.out; rw [if_neg h0] at this; exact this
        clear h0 HR
        go_wp2_with fail
        go_ret
        exact ⟨by rw [h2.out]; rfl, rfl⟩
    | 1, _ =>
      obtain rfl := hx (by omega)
      have h2 : Hid (R = y) := by have := HR.out; rw [if_pos rfl] at this; exact this
      by_cases h0 : y = 0
      · subst h0
        go_wp2_with fail
        go_roundw
        case rel => exact ⟨2, rfl, by omega, by simp, by simp, by simp⟩
        case measure => simp [intOf]
      · have h1 : (y != 0) = true := by simpa using h0
        clear h0 HR hx hy
        go_wp2_with fail
        go_ret
        exact ⟨by rw [h2.out]; rfl, rfl⟩
    | 2, _ =>
      obtain rfl := hx (by omega)
      obtain rfl := hy (by omega)
      have h2 : Hid (R = 0) := by have := HR.out; rw [if_pos rfl] at this; exact this
      clear HR hx hy
      go_wp2_with fail
      go_ret
      exact ⟨by rw [h2.out]; rfl, rfl⟩

theorem step_call1 {P : Program} {ops : Array Oper} {o : Oper} {a : Act} {w : World} {K : Act → World → Prop} {Q : Exit → Act → World → Prop} {E : Prop}
    (hg : o.guard = none) (f x : Nat) (t : TypeId) (hop : o.op = Op.call { callee := Callee.value (.func f), args := #[.tmp x], argTypes := #[t] }) (v : Value) (hx : a.eval (.tmp x) = v)
    (hcf : ∀ vs w, (callFunc f vs).run P w = .ok (.enter f vs) w)
    (hc : Calls P f #[v] w fun e w' => ∃ v, e = .returned v ∧ K (a.put o.dst v) w') :
    if Region.wanted o (yielded ops a.tmps) = true then Oper.wp P o a w K Q else E := by
  have hw : Region.wanted o (yielded ops a.tmps) = true := by simp [Region.wanted, hg]
  rw [if_pos hw]
  unfold Oper.wp
  simp [Act.eval] at hx
  simp [execOp, hop, resolve, invoke, hcf, go_sem, hx]
  refine hc.mono ?_
  rintro e w' ⟨v, rfl, hk⟩
  exact hk
theorem step_call2 {P : Program} {ops : Array Oper} {o : Oper} {a : Act} {w : World} {K : Act → World → Prop} {Q : Exit → Act → World → Prop} {E : Prop}
    (hg : o.guard = none) (f x y : Nat) (t u : TypeId) (hop : o.op = Op.call { callee := Callee.value (.func f), args := #[.tmp x, .tmp y], argTypes := #[t, u] }) (v v' : Value) (hx : a.eval (.tmp x) = v) (hy : a.eval (.tmp y) = v')
    (hcf : ∀ vs w, (callFunc f vs).run P w = .ok (.enter f vs) w)
    (hc : Calls P f #[v, v'] w fun e w' => ∃ v, e = .returned v ∧ K (a.put o.dst v) w') :
    if Region.wanted o (yielded ops a.tmps) = true then Oper.wp P o a w K Q else E := by
  have hw : Region.wanted o (yielded ops a.tmps) = true := by simp [Region.wanted, hg]
  rw [if_pos hw]
  unfold Oper.wp
  simp [Act.eval] at hx hy
  simp [execOp, hop, resolve, invoke, hcf, go_sem, hx, hy]
  refine hc.mono ?_
  rintro e w' ⟨v, rfl, hk⟩
  exact hk

set_option maxHeartbeats 1000000 in
set_option maxRecDepth 100000 in
theorem iCmpCells (n : Int) (k : ByteArray) (v1 v2 v3 : Value) (n' : Int) (k' : ByteArray) (u1 u2 u3 : Value) (w : World) :
    Calls Tryd.prog 30 #[.agg #[.int .i64 n, .string k, v1, v2, v3], .agg #[.int .i64 n', .string k', u1, u2, u3]] w fun e w' => e = .returned (.int .i64 (cmpC n k n' k')) ∧ Below w.heap.size w w' := by
  have ci := fun w => iCmpI n n' w
  have cs := fun w => iCmpS k k' w
  obtain ⟨R, hR⟩ : ∃ R, R = cmpC n k n' k' := ⟨_, rfl⟩
  have HR : Hid (R = if cmpI n n' = 0 then cmpS k k' else cmpI n n') := hR
  rw [← hR]
  clear hR
  generalize cmpI n n' = x at ci HR
  generalize cmpS k k' = y at cs HR
  have new2 : ∀ o1 o2, ((((w.alloc o1).alloc o2).alloc (.cells #[.int .i64 x, .int .i64 y] 3)).drew).cell? ⟨w.heap.size + 1 + 1, 0, none⟩ = some (.int .i64 x) ∧ ((((w.alloc o1).alloc o2).alloc (.cells #[.int .i64 x, .int .i64 y] 3)).drew).cell? ⟨w.heap.size + 1 + 1, 1, none⟩ = some (.int .i64 y) := fun o1 o2 => by
    have h : ((((w.alloc o1).alloc o2).alloc (.cells #[.int .i64 x, .int .i64 y] 3)).drew).heap[w.heap.size + 1 + 1]? = some (.cells #[.int .i64 x, .int .i64 y] 3) := by
      have := Nd.heap_new ((w.alloc o1).alloc o2) (.cells #[.int .i64 x, .int .i64 y] 3)
      simp only [World.size_alloc] at this
      exact this
    constructor <;> (simp only [World.cell?, h]; rfl)
  have cOr := fun o1 o2 => iOr (new2 o1 o2).1 (new2 o1 o2).2
  simp only [← HR.out] at cOr
  clear HR new2
  have eI : ∀ args w, (callFunc 38 args).run Tryd.prog w = .ok (.enter 38 args) w := enters_of Tryd.func38 (by kernel_rfl) rfl
  have eS : ∀ args w, (callFunc 39 args).run Tryd.prog w = .ok (.enter 39 args) w := enters_of Tryd.func39 (by kernel_rfl) rfl
  have eO : ∀ args w, (callFunc 37 args).run Tryd.prog w = .ok (.enter 37 args) w := enters_of Tryd.func37 (by kernel_rfl) rfl
  have bb : ∀ o1 o2 o3, Below w.heap.size w ((((w.alloc o1).alloc o2).alloc o3).drew) := fun o1 o2 o3 => ((((Below.refl _ w).alloc (Nat.le_refl _) _).alloc (by simp) _).alloc (by simp; omega) _).drew
  go_enter Tryd.func30, Tryd.ntmps30
  go_wp2_with fail
  go_region_law (first
    | (refine step_call2 rfl 38 6 8 3 3 rfl (.int .i64 n) (.int .i64 n') (by simp [Act.eval]) (by simp [Act.eval]) eI ?_; refine (ci _).mono ?_; rintro e w2 ⟨rfl, rfl⟩; refine ⟨_, rfl, ?_⟩)
    | (refine step_call2 rfl 39 11 13 9 9 rfl (.string k) (.string k') (by simp [Act.eval]) (by simp [Act.eval]) eS ?_; refine (cs _).mono ?_; rintro e w2 ⟨rfl, rfl⟩; refine ⟨_, rfl, ?_⟩)
    | (refine step_call1 rfl 37 15 79 rfl (.slice (some ⟨w.heap.size + 1 + 1, 0, none⟩) 2 2) (by simp [Act.eval]) eO ?_; refine (cOr _ _).mono ?_; rintro e w2 ⟨rfl, rfl⟩; refine ⟨_, rfl, ?_⟩))
  all_goals
    go_wp2_with fail
    go_ret
    exact ⟨rfl, bb _ _ _⟩

end St
end Go.Proofs.YtildabobkilkjaaDoor
