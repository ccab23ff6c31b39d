/-
  The six calls, of both sides.
  errors.Is by two contracts (the sentinel itself: true; nil: false), and the small functions of chapter 1 by theirs; the world is as it was.
  Walks over chapter 1's functions: the small ones by contracts; the laws of DecOk, DecAdd and DecSub return true at all arguments; memory is as it was.
  DecOk of the program and of the specification, at every argument, in any world that has grown.
-/
import Derived.Test.YtkhoccjfkkfipaaGreatDoorP06
import Derived.Test.YtkhoccjfkkfipaaGreatDoorP12
import Derived.Test.YtkhoccjfkkfipaaGreatDoorProg
import Derived.WalkKit
import Derived.LaidEql
import Derived.RowKitTokens
import Derived.Deep.QuietTactic
import Derived.BigQuiet
import Derived.Below
namespace Go.Proofs.YtkhoccjfkkfipaaGreatDoor
open Go.RowKit
namespace Oc
open Ty (callL callB)

theorem iHasCall (s : List UInt8) (w : World) : Calls Tryz.prog 115 #[.string ⟨s.toArray⟩] w fun e w' => e = .returned (.bool (callB s)) ∧ w' = w := by
  by_cases h : s ∈ callL
  · have H : callB s = true := by simp [callB, h]
    rw [H]
    unfold callL at h
    simp only [List.mem_cons, List.not_mem_nil, or_false] at h
    rcases h with rfl | rfl | rfl | rfl | rfl | rfl
    all_goals
      go_enter Tryz.func115, Tryz.ntmps115
      go_wp2_with fail
      go_ret
      exact ⟨rfl, rfl⟩
  · have H : callB s = false := by simp [callB, h]
    rw [H]
    unfold callL at h
    simp only [List.mem_cons, List.not_mem_nil, or_false, not_or] at h
    obtain ⟨h1, h2, h3, h4, h5, h6⟩ := h
    replace h1 := beq_eq_false_iff_ne.2 h1
    replace h2 := beq_eq_false_iff_ne.2 h2
    replace h3 := beq_eq_false_iff_ne.2 h3
    replace h4 := beq_eq_false_iff_ne.2 h4
    replace h5 := beq_eq_false_iff_ne.2 h5
    replace h6 := beq_eq_false_iff_ne.2 h6
    go_enter Tryz.func115, Tryz.ntmps115
    go_wp2_with fail
    go_ret
    exact ⟨rfl, rfl⟩

def strV (s : List UInt8) : Value := .string ⟨s.toArray⟩
def StrRow (w : World) (g : Nat) (L : List (List UInt8)) : Prop := ∀ j s, L[j]? = some s → w.cell? ⟨g, j, none⟩ = some (.string ⟨s.toArray⟩)

set_option maxRecDepth 100000 in
theorem sWithin {L : List (List UInt8)} (hL : L.length ≤ 100) (s : List UInt8) (g cap : Nat) (w : World) (hw : StrRow w g L) :
    Calls Tryz.prog 67 #[.slice (some ⟨g, 0, none⟩) L.length cap, .string ⟨s.toArray⟩] w fun e w' => e = .returned (.bool (decide (s ∈ L))) ∧ w' = w := by
  have bn : (L.length : Int) ≤ 100 := by omega
  clear hL
  go_enter Tryz.func67, Tryz.ntmps67
  go_wp2_with fail
  go_loopw [5] (fun i wr => ∃ k : Nat, k ≤ L.length ∧ i = .int .i64 k ∧ wr = w ∧ s ∉ L.take k) (fun i _ => L.length - (intOf i).toNat)
  case atStart => exact ⟨0, by omega, rfl, rfl, by simp⟩
  case round =>
    obtain ⟨k, hk, rfl, rfl, hno⟩ := hrel
    by_cases hkl : k < L.length
    · have hki : L[k]? = some L[k] := List.getElem?_eq_getElem hkl
      have hc := hw k _ hki
      have bk : (k : Int) < L.length := by omega
      have hT : L.take (k + 1) = L.take k ++ [L[k]] := by rw [List.take_add_one, hki]; rfl
      by_cases hs : L[k] = s
      · have H : Hid (decide (s ∈ L) = true) := by show _ = _; simp; rw [← hs]; exact List.getElem_mem hkl
        rw [hs] at hc
        clear hki hT
        go_wp2_with fail
        go_ret
        exact ⟨by rw [H.out]; rfl, rfl⟩
      · have H : Hid (s ∉ L.take (k + 1)) := by show ¬ s ∈ _; rw [hT, List.mem_append]; rintro (h | h); exact hno h; exact hs (List.mem_singleton.1 h).symm
        have e1 : (L[k] == s) = false := beq_eq_false_iff_ne.2 hs
        clear hki hT hs hno
        go_wp2_with fail
        go_roundw
        case rel => exact ⟨k + 1, by omega, by go_num, by trivial, H.out⟩
        case measure => simp [intOf]; omega
    · obtain rfl : k = L.length := by omega
      rw [List.take_length] at hno
      have H : Hid (decide (s ∈ L) = false) := decide_eq_false hno
      go_wp2_with fail
      go_ret
      exact ⟨by rw [H.out]; rfl, rfl⟩

theorem strRow_new (w : World) (L : List (List UInt8)) (o : Obj) (ho : o = .cells (L.map strV).toArray 9) : StrRow (w.alloc o) w.heap.size L := fun j s h => by
  have := heap_alloc_new w o
  subst ho
  exact (cell_of_row _ _ j _ _ _ this).trans (by simp [h, strV])

theorem sCalls (w : World) : Calls Tryz.prog 102 #[] w fun e w' => e = .returned (.slice (some ⟨w.heap.size, 0, none⟩) 6 6) ∧ StrRow w' w.heap.size callL ∧ Below w.heap.size w w' := by
  obtain ⟨o, ho⟩ : ∃ o, o = Obj.cells (callL.map strV).toArray 9 := ⟨_, rfl⟩
  have h1 : Hid (StrRow (w.alloc o) w.heap.size callL) := strRow_new w callL o ho
  have h2 : Hid (Below w.heap.size w (w.alloc o)) := (Below.refl _ w).alloc (Nat.le_refl _) _
  subst ho
  go_enter Tryz.func102, Tryz.ntmps102
  go_wp2_with fail
  go_ret
  exact ⟨rfl, h1.out, h2.out⟩


theorem iHasCallB (s : ByteArray) (w : World) : Calls Tryz.prog 115 #[.string s] w fun e w' => e = .returned (.bool (callB s.data.toList)) ∧ w' = w := by
  obtain ⟨⟨l⟩⟩ := s
  exact iHasCall l w

end Oc
end Go.Proofs.YtkhoccjfkkfipaaGreatDoor
namespace Go.Proofs.YtkhoccjfkkfipaaGreatDoor
open Go.RowKit Go.Extern.Stop Go.Stop Go.Extern

theorem isTypeOf (v : Value) (w : World) : (Extern.ReflectliteType.typeOf #[.iface 273 v]).run Tryz.prog w = .ok (.iface 226 (.agg #[.pointer (some ⟨3, 273, none⟩)])) w := by kernel_rfl
/-- The entry behind (rtype).Comparable, under a name of its own, so that the walk does not open it. -/
def cmpEntry : Array Value → Sem Value := Extern.ReflectliteType.method fun t => do Rtype.noPackHeld "Comparable" t; pure (.bool (← typeInfo t).comparable)
theorem isComparable (w : World) : (cmpEntry #[.agg #[.pointer (some ⟨3, 273, none⟩)]]).run Tryz.prog w = .ok (.bool true) w := by kernel_rfl
theorem isMethodComparable (v : Value) (w : World) : (Go.method 406 226 v "Comparable").run Tryz.prog w = .ok (226, v) w := by kernel_rfl
theorem isComp : (Tryz.prog.info? 273).map (·.comparable) = some true := by kernel_rfl
theorem isSize : (Tryz.prog.info? 295).map (·.size) = some 1 := by kernel_rfl

theorem is_same (a : Addr) (w : World) :
    Calls Tryz.prog 133 #[.iface 273 (.pointer (some a)), .iface 273 (.pointer (some a))] w fun e w' => e = .returned (.bool true) ∧ w' = w := by
  obtain ⟨i, hi, hcmp⟩ := Option.map_eq_some_iff.1 isComp
  obtain ⟨j, hj, hjs⟩ := Option.map_eq_some_iff.1 isSize
  have h8 := @run_callFunc_extern Tryz.prog 154 _ Extern.ReflectliteType.typeOf Tryz.func154 (by kernel_rfl) (by kernel_rfl) (by kernel_rfl) (by kernel_rfl)
  have h32 := @run_callFunc_extern Tryz.prog 226 _ cmpEntry Tryz.func226 (by kernel_rfl) (by kernel_rfl) (by kernel_rfl) (by kernel_rfl)
  have tT := isTypeOf
  have cT := isComparable
  have mR := isMethodComparable
  have heq := run_eql_iface_ptr_same (P := Tryz.prog) w a Tryz.underlying165 Tryz.underlying273 hi hcmp hj
  go_enter Tryz.func133, Tryz.ntmps133
  go_wp2
  refine wp_loop_rounds 1 ?_
  rw [rounds_succ]
  go_wp2
  go_ret
  exact ⟨rfl, rfl⟩

theorem is_nil (b : Addr) (w : World) :
    Calls Tryz.prog 133 #[.nilIface, .iface 273 (.pointer (some b))] w fun e w' => e = .returned (.bool false) ∧ w' = w := by
  have hn := run_eql_iface_nil_left (P := Tryz.prog) w 273 (.pointer (some b)) Tryz.underlying165
  go_enter Tryz.func133, Tryz.ntmps133
  go_wp2
  go_ret
  exact ⟨rfl, rfl⟩

theorem told_ok (d : Int) (a : Addr) (w : World) (hc : w.cell? ⟨1, 0, none⟩ = some (.iface 273 (.pointer (some a)))) :
    Calls Tryz.prog 116 #[.int .i64 d, .nilIface] w fun e w' => e = .returned (.tuple #[.int .i64 d, .bool true]) ∧ w' = w := by
  go_enter Tryz.func116, Tryz.ntmps116
  go_wp2_with (go_at_call 133; refine (is_nil a _).mono ?_; rintro e w' ⟨rfl, rfl⟩)
  go_ret2
  exact ⟨rfl, rfl⟩

theorem told_bad (d : Int) (a : Addr) (w : World) (hc : w.cell? ⟨1, 0, none⟩ = some (.iface 273 (.pointer (some a)))) :
    Calls Tryz.prog 116 #[.int .i64 d, .iface 273 (.pointer (some a))] w fun e w' => e = .returned (.tuple #[.int .i64 0, .bool false]) ∧ w' = w := by
  go_enter Tryz.func116, Tryz.ntmps116
  go_wp2_with (go_at_call 133; refine (is_same a _).mono ?_; rintro e w' ⟨rfl, rfl⟩)
  go_ret2
  exact ⟨rfl, rfl⟩

end Go.Proofs.YtkhoccjfkkfipaaGreatDoor
namespace Go.Proofs.YtkhoccjfkkfipaaGreatDoor
open Go.RowKit Go.Extern.Stop Go.Stop Go.Extern

theorem checked_ok (d : Int) (w : World) (h1 : -9000000000000 ≤ d) (h2 : d ≤ 9000000000000) :
    Calls Tryz.prog 117 #[.int .i64 d] w fun e w' => e = .returned (.tuple #[.int .i64 d, .nilIface]) ∧ w' = w := by
  go_enter Tryz.func117, Tryz.ntmps117
  go_wp2
  go_ret2
  exact ⟨rfl, rfl⟩

theorem checked_bad (d : Int) (a : Addr) (w : World) (hc : w.cell? ⟨1, 0, none⟩ = some (.iface 273 (.pointer (some a)))) (h : d < -9000000000000 ∨ 9000000000000 < d) :
    Calls Tryz.prog 117 #[.int .i64 d] w fun e w' => e = .returned (.tuple #[.int .i64 0, .iface 273 (.pointer (some a))]) ∧ ∃ n, w' = w.drewN n := by
  rcases h with h | h
  · go_enter Tryz.func117, Tryz.ntmps117
    go_wp2
    go_quiet (fail)
    go_wp2
    go_ret2
    exact ⟨rfl, _, rfl⟩
  · have h' : -9000000000000 ≤ d := by omega
    go_enter Tryz.func117, Tryz.ntmps117
    go_wp2
    go_quiet (fail)
    go_wp2
    go_ret2
    exact ⟨rfl, _, rfl⟩

/-- What checked answers, as two functions that the walk does not open. -/
def ckV (d : Int) : Int := if -9000000000000 ≤ d ∧ d ≤ 9000000000000 then d else 0
def ckE (a : Addr) (d : Int) : Value := if -9000000000000 ≤ d ∧ d ≤ 9000000000000 then .nilIface else .iface 273 (.pointer (some a))
theorem ckV_ok {d : Int} (h1 : -9000000000000 ≤ d) (h2 : d ≤ 9000000000000) : ckV d = d := by unfold ckV; rw [if_pos ⟨h1, h2⟩]
theorem ckE_ok (a : Addr) {d : Int} (h1 : -9000000000000 ≤ d) (h2 : d ≤ 9000000000000) : ckE a d = .nilIface := by unfold ckE; rw [if_pos ⟨h1, h2⟩]
theorem ckV_bad {d : Int} (h : d < -9000000000000 ∨ 9000000000000 < d) : ckV d = 0 := by unfold ckV; rw [if_neg (by omega)]
theorem ckE_bad (a : Addr) {d : Int} (h : d < -9000000000000 ∨ 9000000000000 < d) : ckE a d = .iface 273 (.pointer (some a)) := by unfold ckE; rw [if_neg (by omega)]

theorem checked_any (d : Int) (a : Addr) (w : World) (hc : w.cell? ⟨1, 0, none⟩ = some (.iface 273 (.pointer (some a)))) :
    Calls Tryz.prog 117 #[.int .i64 d] w fun e w' => e = .returned (.tuple #[.int .i64 (ckV d), ckE a d]) ∧ ∃ n, w' = w.drewN n := by
  by_cases h : d < -9000000000000 ∨ 9000000000000 < d
  · rw [ckV_bad h, ckE_bad a h]; exact checked_bad d a w hc h
  · rw [ckV_ok (by omega) (by omega), ckE_ok a (by omega) (by omega)]
    exact (checked_ok d w (by omega) (by omega)).mono fun e w' ⟨h1, h2⟩ => ⟨h1, 0, h2⟩



end Go.Proofs.YtkhoccjfkkfipaaGreatDoor
namespace Go.Proofs.YtkhoccjfkkfipaaGreatDoor
open Go.RowKit Go.Extern.Stop Go.Stop Go.Extern

theorem below_drewN {B : Nat} {W w : World} (h : Below B W w) (n : Nat) : Below B W (w.drewN n) := ⟨h.os, h.tape, h.output, h.size, h.block⟩
theorem sDecOk (d : Int) (w : World) : Calls Tryz.prog 86 #[.int .i64 d] w fun r w' => r = .returned (.bool (Dec.okB d)) ∧ w' = w := by
  by_cases h1 : -9000000000000 ≤ d
  · by_cases h2 : d ≤ 9000000000000
    · rw [Dec.okB_true h1 h2]
      go_enter Tryz.func86, Tryz.ntmps86
      go_wp2
      go_ret
      exact ⟨rfl, rfl⟩
    · rw [Dec.okB_false (by omega)]
      have h3 : decide (d ≤ 9000000000000) = false := by simp; omega
      clear h2
      go_enter Tryz.func86, Tryz.ntmps86
      go_wp2
      go_ret
      exact ⟨rfl, rfl⟩
  · rw [Dec.okB_false (by omega)]
    have h3 : d < -9000000000000 := by omega
    clear h1
    go_enter Tryz.func86, Tryz.ntmps86
    go_wp2
    go_ret
    exact ⟨rfl, rfl⟩

theorem iDecOk (x : Int) (a : Addr) (w : World) (hc : w.cell? ⟨1, 0, none⟩ = some (.iface 273 (.pointer (some a)))) :
    Calls Tryz.prog 98 #[.int .i64 x] w fun e w' => e = .returned (.bool (Dec.okB x)) ∧ ∃ n, w' = w.drewN n := by
  cases h : Dec.okB x with
  | true =>
    obtain ⟨h1, h2⟩ := Dec.of_okB h
    clear h
    go_enter Tryz.func98, Tryz.ntmps98
    go_wp2_with (first | (go_at_call 116; refine (told_ok _ a _ ?_).mono ?_; exact hc; rintro e w' ⟨rfl, rfl⟩) | go_in)
    go_ret
    exact ⟨rfl, 0, rfl⟩
  | false =>
    have hE := ckE_bad a (Dec.of_okB_false h)
    clear h
    go_enter Tryz.func98, Tryz.ntmps98
    go_wp2_with (first | (go_at_call 117; refine (checked_any _ a _ ?_).mono ?_; exact hc; rintro e w' ⟨rfl, n, rfl⟩) | (go_at_call 116; refine (told_bad _ a _ ?_).mono ?_; exact hc; rintro e w' ⟨rfl, rfl⟩) | go_in)
    go_ret
    exact ⟨rfl, _, rfl⟩

/-! The same contracts in any world that has grown out of W. -/
theorem sent_later {W w : World} {a : Addr} (hc : W.cell? ⟨1, 0, none⟩ = some (.iface 273 (.pointer (some a)))) (hb : Below W.heap.size W w) : w.cell? ⟨1, 0, none⟩ = some (.iface 273 (.pointer (some a))) := by
  have h0 : 1 < W.heap.size := by
    rcases Nat.lt_or_ge 1 W.heap.size with h | h
    · exact h
    · simp [World.cell?, Array.getElem?_eq_none h] at hc
  rw [hb.cell (p := ⟨1, 0, none⟩) h0]; exact hc
theorem lDecOk (x : Int) (a : Addr) (W w : World) (hc : W.cell? ⟨1, 0, none⟩ = some (.iface 273 (.pointer (some a)))) (hb : Below W.heap.size W w) :
    Calls Tryz.prog 98 #[.int .i64 x] w fun r w' => r = .returned (.bool (Dec.okB x)) ∧ Below W.heap.size W w' := by
  refine (iDecOk x a w (sent_later hc hb)).mono ?_
  rintro r w' ⟨rfl, n, rfl⟩
  exact ⟨rfl, below_drewN hb n⟩
end Go.Proofs.YtkhoccjfkkfipaaGreatDoor
