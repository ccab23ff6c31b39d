/-
  Names in order, the program's: slices.Index, areAll at texts, isNameList, areRight.
  Generic functions of the library laid at this translation.
-/
import Derived.Test.YtaakeecliehjgaaGreatDoorP09
import Derived.Test.YtaakeecliehjgaaGreatDoorP11
import Derived.Deep.QuietTactic
import Derived.BigQuiet
import Derived.Test.YtaakeecliehjgaaGreatDoorProg
import Derived.Shelf.SlSortCmp.WholeK
import Derived.Shelf.SlicesG.Cmp
import Derived.Ground.SlsfProg
import Derived.Ground.SlgcProg
namespace Go.Proofs.YtaakeecliehjgaaGreatDoor
open Go.RowKit
namespace Pg
open St (Vl RdV)
open Oc (hold heap_new Blk)

set_option maxRecDepth 100000 in
theorem iIndex {ss : List ByteArray} {ao : Option Addr} {cap : Nat} {w : World} (hA : RdT w ao ss) (hn : ss.length ≤ 1048576) (s : ByteArray) :
    Calls Tryz.prog 80 #[.slice ao ss.length cap, .string s] w fun e w' => e = .returned (.int .i64 (idx ss s)) ∧ w' = w := by
  have bn : (ss.length : Int) ≤ 1048576 := by omega
  go_enter Tryz.func80, Tryz.ntmps80
  go_wp2_with fail
  go_loopw [5, 8] (fun _ i wr => ∃ k : Nat, k ≤ ss.length ∧ i = .int .i64 k ∧ Hid ((ss.take k).any (eqB · s) = false) ∧ wr = w) (fun _ i _ => ss.length - (intOf i).toNat)
  case atStart => exact ⟨0, Nat.zero_le _, rfl, (show (ss.take 0).any (eqB · s) = false from rfl), rfl⟩
  case round =>
    obtain ⟨k, hkn, rfl, HN, rfl⟩ := hrel
    by_cases hkl : k < ss.length
    · have hki : ss[k]? = some ss[k] := List.getElem?_eq_getElem hkl
      obtain ⟨b, o, rfl, hbl, hss, c0⟩ := hA k _ hki
      have bk : (k : Int) < ss.length := by omega
      by_cases he : ss[k].toList = s.toList
      · have HR : Hid (idx ss s = k) := (idx_at hki (decide_eq_true he) HN.out).1
        generalize ss[k] = v at *
        have e1 : (s.toList == v.toList) = true := by simpa using he.symm
        clear hA hki he
        go_wp2_with fail
        go_ret
        exact ⟨by rw [HR.out]; rfl, rfl⟩
      · have HN' : Hid ((ss.take (k + 1)).any (eqB · s) = false) := by
          show (ss.take (k + 1)).any (eqB · s) = false
          rw [any_takeT hki, HN.out, eqB, decide_eq_false he]
          rfl
        generalize ss[k] = v at *
        have e1 : (s.toList == v.toList) = false := beq_eq_false_iff_ne.2 (fun h => he h.symm)
        clear hA hki he
        go_wp2_with fail
        go_roundw
        case rel => exact ⟨k + 1, hkl, by go_num, HN', trivial⟩
        case measure => simp [intOf]; omega
    · obtain rfl : k = ss.length := by omega
      have HR : Hid (idx ss s = -1) := (idx_none (by have := HN.out; rwa [List.take_length] at this)).1
      go_wp2_with fail
      go_ret
      exact ⟨by rw [HR.out]; rfl, rfl⟩

set_option maxRecDepth 100000 in
theorem iAreAllT {f : Nat} {fc : Array Value} {p : ByteArray → Bool} {ss : List ByteArray} {w : World} (hf : ∀ s ∈ ss, ∀ w', Below w.heap.size w w' → Calls Tryz.prog f (#[.string s] ++ fc) w' fun e w'' => e = .returned (.bool (p s)) ∧ Below w'.heap.size w' w'') (hent : ∀ (vs : Array Value) (w : World), (callFunc f vs).run Tryz.prog w = .ok (.enter f vs) w) (hn : ss.length ≤ 1048577) (ao : Option Addr) (cap : Nat) (hA : RdT w ao ss) :
    Calls Tryz.prog 61 #[.slice ao ss.length cap, .func (.func f) #[] fc] w fun e w' => e = .returned (.bool (ss.all p)) ∧ Below w.heap.size w w' := by
  have bn : (ss.length : Int) ≤ 1048577 := by omega
  have HE : Hid (∀ (vs : Array Value) (w : World), (callFunc f vs).run Tryz.prog w = .ok (.enter f vs) w) := hent
  clear hn hent
  go_enter Tryz.func61, Tryz.ntmps61
  go_wp2_with fail
  go_loopw [6, 9] (fun _ i wr => ∃ k : Nat, k ≤ ss.length ∧ i = .int .i64 k ∧ (ss.take k).all p = true ∧ Below w.heap.size w wr) (fun _ i _ => ss.length - (intOf i).toNat)
  case atStart => exact ⟨0, Nat.zero_le _, rfl, rfl, Below.refl _ _⟩
  case round =>
    obtain ⟨k, hkn, rfl, hall, hb⟩ := hrel
    by_cases hkl : k < ss.length
    · have hki : ss[k]? = some ss[k] := List.getElem?_eq_getElem hkl
      obtain ⟨b, o, rfl, hbl, hss, c0⟩ := hA.below hb k _ hki
      have bk : (k : Int) < ss.length := by omega
      have hT := all_takeT (p := p) hki
      rw [hall, Bool.true_and] at hT
      have call := hf ss[k] (List.getElem_mem hkl) wr hb
      have HN : Hid (p ss[k] = false → ss.all p = false) := all_noT (List.getElem_mem hkl)
      have HT : Hid ((ss.take (k + 1)).all p = p ss[k]) := hT
      clear hf hA hki hall hT
      generalize p ss[k] = B at *
      generalize ss[k] = v at *
      cases B
      · replace HN : Hid (ss.all p = false) := HN.out rfl
        go_wp2_with fail
        rw [HE.out]
        refine Calls.mono call ?_
        rintro e w2 ⟨rfl, hb2⟩
        go_wp2_with fail
        go_ret
        exact ⟨by rw [HN.out]; rfl, hb.trans (hb2.mono hb.size)⟩
      · go_wp2_with fail
        rw [HE.out]
        refine Calls.mono call ?_
        rintro e w2 ⟨rfl, hb2⟩
        go_wp2_with fail
        go_roundw
        case rel => exact ⟨k + 1, hkl, by go_num, HT.out, hb.trans (hb2.mono hb.size)⟩
        case measure => simp [intOf]; omega
    · obtain rfl : k = ss.length := by omega
      rw [List.take_length] at hall
      have H : Hid (ss.all p = true) := hall
      clear hall
      go_wp2_with fail
      go_ret
      exact ⟨by rw [H.out]; rfl, hb⟩

theorem enterName (vs : Array Value) (w : World) : (callFunc 79 vs).run Tryz.prog w = .ok (.enter 79 vs) w := by kernel_rfl
theorem iTidyNameT (s : ByteArray) (hs : SmT s) (w : World) : Calls Tryz.prog 79 #[.string s] w fun e w' => e = .returned (.bool (nmB s)) ∧ Below w.heap.size w w' := by
  have := Ty.iTidyName s.data.toList (by unfold SmT at hs; simpa using hs) w
  simpa [nmB] using this
theorem geq_str (t : TypeId) (a b : ByteArray) : binOp .geq t (.string a) (.string b) = pure (.bool !(ltB a b)) := by simp [binOp, Op.stringOp, ltB]

set_option maxRecDepth 100000 in
theorem iIsNameList {ss : List ByteArray} {ao : Option Addr} {cap : Nat} {w : World} (hA : RdT w ao ss) (hs : ∀ s ∈ ss, SmT s) (hn : ss.length ≤ 1048576) :
    Calls Tryz.prog 60 #[.slice ao ss.length cap] w fun e w' => e = .returned (.bool (namesB ss)) ∧ Below w.heap.size w w' := by
  obtain ⟨R, hR⟩ : ∃ R, R = namesB ss := ⟨_, rfl⟩
  have HR : Hid (R = (decide (ss.length ≤ 8) && (ss.all nmB && upB ss ss.length))) := hR
  rw [← hR]
  clear hR
  have bn : (ss.length : Int) ≤ 1048576 := by omega
  have hg := geq_str
  by_cases h8 : ss.length ≤ 8
  · have CA : Hid (Calls Tryz.prog 61 #[.slice ao ss.length cap, .func (.func 79) #[] #[]] w fun e w' => e = .returned (.bool (ss.all nmB)) ∧ Below w.heap.size w w') := iAreAllT (fc := #[]) (fun s hm w' _ => iTidyNameT s (hs s hm) w') enterName (by omega) ao cap hA
    have b8 : (ss.length : Int) ≤ 8 := by omega
    rw [decide_eq_true h8, Bool.true_and] at HR
    generalize hV : ss.all nmB = V at *
    clear hV hs
    cases V with
    | false =>
      have H : Hid (R = false) := HR.out
      go_enter Tryz.func60, Tryz.ntmps60
      go_wp2_with (go_at_call 61; refine Calls.mono CA.out ?_; rintro e w2 ⟨rfl, hb2⟩)
      go_ret
      exact ⟨by rw [H.out]; rfl, hb2⟩
    | true =>
      have H : Hid (R = upB ss ss.length) := by show R = _; rw [HR.out]; simp
      clear HR
      go_enter Tryz.func60, Tryz.ntmps60
      go_wp2_with (go_at_call 61; refine Calls.mono CA.out ?_; rintro e w2 ⟨rfl, hb2⟩)
      clear CA
      go_loopw [3] (fun i wr => ∃ k : Nat, k ≤ ss.length + 1 ∧ 1 ≤ k ∧ (k ≤ ss.length ∨ ss.length = 0) ∧ i = .int .i64 k ∧ upB ss k = true ∧ Below w.heap.size w wr) (fun i _ => ss.length - (intOf i).toNat)
      case atStart => exact ⟨1, by omega, by omega, by omega, rfl, rfl, hb2⟩
      case round =>
        obtain ⟨k, hkn, hk1, hk2, rfl, hU, hb⟩ := hrel
        by_cases hkl : k < ss.length
        · have hki : ss[k]? = some ss[k] := List.getElem?_eq_getElem hkl
          have hkj : ss[k - 1]? = some ss[k - 1] := List.getElem?_eq_getElem (by omega)
          obtain ⟨b, o, rfl, hbl, hss, c0⟩ := hA.below hb k _ hki
          obtain ⟨b', o', hbo, hbl', hss', c1⟩ := hA.below hb (k - 1) _ hkj
          simp at hbo
          obtain ⟨rfl, rfl⟩ := hbo
          have bk : (k : Int) < ss.length := by omega
          obtain ⟨j, rfl⟩ : ∃ j, k = j + 1 := ⟨k - 1, by omega⟩
          have hat : upAt ss (j + 1) = ltB ss[j] ss[j + 1] := by
            unfold upAt
            rw [nm_get hki, nm_get hkj]
            simp
          have hT := upB_succ ss (j + 1)
          rw [hU, hat, Bool.true_and] at hT
          have HN : Hid (ltB ss[j] ss[j + 1] = false → upB ss ss.length = false) := fun h => upB_no hkl (hat.trans h)
          have HT : Hid (upB ss (j + 1 + 1) = ltB ss[j] ss[j + 1]) := hT
          simp only [Nat.add_sub_cancel] at c1
          clear hA hki hkj hat hT hU hss hss' hbl hbl'
          have e1 : ((j + 1 : Nat) : Int) - 1 = (j : Int) := by omega
          generalize ss[j] = x at *
          generalize ss[j + 1] = y at *
          generalize hB : ltB x y = B at *
          cases B
          · replace HN : Hid (upB ss ss.length = false) := HN.out rfl
            go_wp2_with fail
            go_quiet (fail)
            go_wp2_with fail
            go_ret
            exact ⟨by rw [H.out, HN.out]; rfl, ⟨hb.os, hb.tape, hb.output, hb.size, hb.block⟩⟩
          · go_wp2_with fail
            go_quiet (fail)
            go_wp2_with fail
            go_roundw
            case rel => exact ⟨j + 1 + 1, by omega, by omega, by omega, by go_num, HT.out, ⟨hb.os, hb.tape, hb.output, hb.size, hb.block⟩⟩
            case measure => simp [intOf]; omega
        · have HU : Hid (upB ss ss.length = true) := by
            show upB ss ss.length = true
            rcases hk2 with h | h
            · obtain rfl : k = ss.length := by omega
              exact hU
            · rw [h]; rfl
          have hge : ¬ (k : Int) < ss.length := by omega
          clear hA
          go_wp2_with fail
          go_ret
          exact ⟨by rw [H.out, HU.out]; rfl, hb⟩
  · have H : Hid (R = false) := by show R = false; rw [HR.out, decide_eq_false h8]; rfl
    have b8 : (8 : Int) < ss.length := by omega
    clear HR
    go_enter Tryz.func60, Tryz.ntmps60
    go_wp2_with fail
    go_ret
    exact ⟨by rw [H.out]; rfl, Below.refl _ _⟩

end Pg
end Go.Proofs.YtaakeecliehjgaaGreatDoor
namespace Go.Proofs
open Go.Shelf
def Tryz.sortForm_ren : Go.Shelf.Ren := ⟨fun | 6 => 82 | 15 => 101 | 14 => 100 | 28 => 123 | 29 => 124 | 20 => 115 | 21 => 116 | 22 => 117 | 23 => 118 | 24 => 119 | 25 => 120 | 26 => 121 | 27 => 122 | 46 => 134 | 47 => 135 | 48 => 136 | 49 => 137 | 50 => 138 | 57 => 147 | n => n, fun | 22 => 108 | 24 => 114 | 25 => 138 | 3 => 3 | 39 => 157 | 0 => 0 | 53 => 176 | 55 => 178 | 4 => 4 | 46 => 170 | 45 => 169 | 50 => 101 | 5 => 5 | 9 => 9 | 66 => 193 | 70 => 197 | 76 => 221 | 77 => 131 | n => n, fun | n => n⟩
theorem Tryz.sortForm : Go.Proofs.SlLaysF0.n6 Tryz.prog Tryz.sortForm_ren := {
  mixed := by kernel_rfl
  f6 := ⟨Tryz.f82.name, by decide, Tryz.func82.trans (congrArg some (by kernel_rfl))⟩
  f14 := ⟨Tryz.f100.name, by decide, Tryz.func100.trans (congrArg some (by kernel_rfl))⟩
  f15 := Tryz.func101.trans (congrArg some (by kernel_rfl))
  f20 := ⟨Tryz.f115.name, by decide, Tryz.func115.trans (congrArg some (by kernel_rfl))⟩
  f21 := ⟨Tryz.f116.name, by decide, Tryz.func116.trans (congrArg some (by kernel_rfl))⟩
  f22 := ⟨Tryz.f117.name, by decide, Tryz.func117.trans (congrArg some (by kernel_rfl))⟩
  f23 := ⟨Tryz.f118.name, by decide, Tryz.func118.trans (congrArg some (by kernel_rfl))⟩
  f24 := ⟨Tryz.f119.name, by decide, Tryz.func119.trans (congrArg some (by kernel_rfl))⟩
  f25 := ⟨Tryz.f120.name, by decide, Tryz.func120.trans (congrArg some (by kernel_rfl))⟩
  f26 := ⟨Tryz.f121.name, by decide, Tryz.func121.trans (congrArg some (by kernel_rfl))⟩
  f27 := ⟨Tryz.f122.name, by decide, Tryz.func122.trans (congrArg some (by kernel_rfl))⟩
  f28 := Tryz.func123.trans (congrArg some (by kernel_rfl))
  f29 := Tryz.func124.trans (congrArg some (by kernel_rfl))
  f46 := ⟨Tryz.f134.name, by decide, Tryz.func134.trans (congrArg some (by kernel_rfl))⟩
  f47 := Tryz.func135.trans (congrArg some (by kernel_rfl))
  f48 := Tryz.func136.trans (congrArg some (by kernel_rfl))
  f49 := ⟨Tryz.f137.name, by decide, Tryz.func137.trans (congrArg some (by kernel_rfl))⟩
  f50 := ⟨Tryz.f138.name, by decide, Tryz.func138.trans (congrArg some (by kernel_rfl))⟩
  f57 := ⟨Tryz.f147.name, by decide, Tryz.func147.trans (congrArg some (by kernel_rfl))⟩
  t0 := Tryz.underlying0
  a0 := Tryz.isAgg0
  z0 := Tryz.sizeOf0
  v0 := Tryz.zeroValue0
  t3 := Tryz.underlying3
  a3 := Tryz.isAgg3
  z3 := Tryz.sizeOf3
  v3 := Tryz.zeroValue3
  t4 := Tryz.underlying4
  a4 := Tryz.isAgg4
  z4 := Tryz.sizeOf4
  v4 := Tryz.zeroValue4
  t5 := Tryz.underlying5
  a5 := Tryz.isAgg5
  z5 := Tryz.sizeOf5
  v5 := Tryz.zeroValue5
  t9 := Tryz.underlying9
  a9 := Tryz.isAgg9
  z9 := Tryz.sizeOf9
  v9 := Tryz.zeroValue9
  t22 := Tryz.underlying108
  a22 := Tryz.isAgg108
  z22 := Tryz.sizeOf108
  v22 := Tryz.zeroValue108
  t25 := Tryz.underlying138
  a25 := Tryz.isAgg138
  z25 := Tryz.sizeOf138
  v25 := Tryz.zeroValue138
  t39 := Tryz.underlying157
  a39 := Tryz.isAgg157
  z39 := Tryz.sizeOf157
  v39 := Tryz.zeroValue157
  t45 := Tryz.underlying169
  a45 := Tryz.isAgg169
  z45 := Tryz.sizeOf169
  v45 := Tryz.zeroValue169
  t46 := Tryz.underlying170
  a46 := Tryz.isAgg170
  z46 := Tryz.sizeOf170
  v46 := Tryz.zeroValue170
  t50 := Tryz.underlying101
  a50 := Tryz.isAgg101
  z50 := Tryz.sizeOf101
  v50 := Tryz.zeroValue101
  t53 := Tryz.underlying176
  a53 := Tryz.isAgg176
  z53 := Tryz.sizeOf176
  v53 := Tryz.zeroValue176
  t55 := Tryz.underlying178
  a55 := Tryz.isAgg178
  z55 := Tryz.sizeOf178
  v55 := Tryz.zeroValue178
  t66 := Tryz.underlying193
  a66 := Tryz.isAgg193
  z66 := Tryz.sizeOf193
  v66 := Tryz.zeroValue193
  t70 := Tryz.underlying197
  a70 := Tryz.isAgg197
  z70 := Tryz.sizeOf197
  v70 := Tryz.zeroValue197
  t76 := Tryz.underlying221
  a76 := Tryz.isAgg221
  z76 := Tryz.sizeOf221
  v76 := Tryz.zeroValue221
  t77 := Tryz.underlying131
  a77 := Tryz.isAgg131
  z77 := Tryz.sizeOf131
  v77 := Tryz.zeroValue131 }
def Tryz.cmpInt_ren : Go.Shelf.Ren := ⟨fun | 5 => 84 | 7 => 102 | n => n, fun | 22 => 3 | 3 => 3 | 4 => 4 | n => n, fun | n => n⟩
theorem Tryz.cmpInt : Go.Proofs.SlLaysC2.n5 Tryz.prog Tryz.cmpInt_ren := {
  mixed := by kernel_rfl
  f5 := ⟨Tryz.f84.name, by decide, Tryz.func84.trans (congrArg some (by kernel_rfl))⟩
  f7 := ⟨Tryz.f102.name, by decide, Tryz.func102.trans (congrArg some (by kernel_rfl))⟩
  t3 := Tryz.underlying3
  a3 := Tryz.isAgg3
  z3 := Tryz.sizeOf3
  v3 := Tryz.zeroValue3
  t4 := Tryz.underlying4
  a4 := Tryz.isAgg4
  z4 := Tryz.sizeOf4
  v4 := Tryz.zeroValue4
  t22 := Tryz.underlying3
  a22 := Tryz.isAgg3
  z22 := Tryz.sizeOf3
  v22 := Tryz.zeroValue3 }
end Go.Proofs
