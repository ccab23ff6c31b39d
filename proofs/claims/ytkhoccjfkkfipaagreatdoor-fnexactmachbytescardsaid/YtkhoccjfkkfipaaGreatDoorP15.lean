/-
  Names in order, the program's: slices.Index, areAll at texts, isNameList, areRight.
  Generic functions of the library laid at this translation.
  The forms as a map, gone through in any order, sorted by their codes.
-/
import Derived.Test.YtkhoccjfkkfipaaGreatDoorP13
import Derived.Test.YtkhoccjfkkfipaaGreatDoorP14
import Derived.Deep.QuietTactic
import Derived.BigQuiet
import Derived.Test.YtkhoccjfkkfipaaGreatDoorProg
import Derived.Shelf.SlSortCmp.WholeK
import Derived.Shelf.SlicesG.Cmp
import Derived.Ground.SlsfProg
import Derived.Ground.SlgcProg
import Derived.Test.YtkhoccjfkkfipaaGreatDoorP12
import Derived.Test.YtkhoccjfkkfipaaGreatDoorP06
import Derived.Maps.Own
import Derived.Maps.RangeWalk
import Derived.Maps.AppendAt
import Derived.Sort.OwnSorted
import Derived.Sort.KeysCollected
import Derived.Carry
namespace Go.Proofs.YtkhoccjfkkfipaaGreatDoor
open Go.RowKit
namespace Pg
open St (Vl RdV)
open Oc (hold heap_new Blk)

set_option maxRecDepth 100000 in
theorem iIndex {ss : List ByteArray} {ao : Option Addr} {cap : Nat} {w : World} (hA : RdT w ao ss) (hn : ss.length ≤ 1048576) (s : ByteArray) :
    Calls Tryz.prog 106 #[.slice ao ss.length cap, .string s] w fun e w' => e = .returned (.int .i64 (idx ss s)) ∧ w' = w := by
  have bn : (ss.length : Int) ≤ 1048576 := by omega
  go_enter Tryz.func106, Tryz.ntmps106
  go_wp2_with fail
  go_loopw [5, 8] (fun _ i wr => ∃ k : Nat, k ≤ ss.length ∧ i = .int .i64 k ∧ Hid ((ss.take k).any (eqB · s) = false) ∧ wr = w) (fun _ i _ => ss.length - (intOf i).toNat)
  case atStart => exact ⟨0, Nat.zero_le _, rfl, (show (ss.take 0).any (eqB · s) = false from rfl), rfl⟩
  case round =>
    obtain ⟨k, hkn, rfl, HN, rfl⟩ := hrel
    by_cases hkl : k < ss.length
    · have hki : ss[k]? = some ss[k] := List.getElem?_eq_getElem hkl
      obtain ⟨b, o, rfl, hbl, hss, c0⟩ := hA k _ hki
      have bk : (k : Int) < ss.length := by omega
      by_cases he : ss[k].toList = s.toList
      · have HR : Hid (idx ss s = k) := (idx_at hki (decide_eq_true he) HN.out).1
        generalize ss[k] = v at *
        have e1 : (s.toList == v.toList) = true := by simpa using he.symm
        clear hA hki he
        go_wp2_with fail
        go_ret
        exact ⟨by rw [HR.out]; rfl, rfl⟩
      · have HN' : Hid ((ss.take (k + 1)).any (eqB · s) = false) := by
          show (ss.take (k + 1)).any (eqB · s) = false
          rw [any_takeT hki, HN.out, eqB, decide_eq_false he]
          rfl
        generalize ss[k] = v at *
        have e1 : (s.toList == v.toList) = false := beq_eq_false_iff_ne.2 (fun h => he h.symm)
        clear hA hki he
        go_wp2_with fail
        go_roundw
        case rel => exact ⟨k + 1, hkl, by go_num, HN', trivial⟩
        case measure => simp [intOf]; omega
    · obtain rfl : k = ss.length := by omega
      have HR : Hid (idx ss s = -1) := (idx_none (by have := HN.out; rwa [List.take_length] at this)).1
      go_wp2_with fail
      go_ret
      exact ⟨by rw [HR.out]; rfl, rfl⟩

set_option maxRecDepth 100000 in
theorem iAreAllT {f : Nat} {fc : Array Value} {p : ByteArray → Bool} {ss : List ByteArray} {w : World} (hf : ∀ s ∈ ss, ∀ w', Below w.heap.size w w' → Calls Tryz.prog f (#[.string s] ++ fc) w' fun e w'' => e = .returned (.bool (p s)) ∧ Below w'.heap.size w' w'') (hent : ∀ (vs : Array Value) (w : World), (callFunc f vs).run Tryz.prog w = .ok (.enter f vs) w) (hn : ss.length ≤ 1048577) (ao : Option Addr) (cap : Nat) (hA : RdT w ao ss) :
    Calls Tryz.prog 89 #[.slice ao ss.length cap, .func (.func f) #[] fc] w fun e w' => e = .returned (.bool (ss.all p)) ∧ Below w.heap.size w w' := by
  have bn : (ss.length : Int) ≤ 1048577 := by omega
  have HE : Hid (∀ (vs : Array Value) (w : World), (callFunc f vs).run Tryz.prog w = .ok (.enter f vs) w) := hent
  clear hn hent
  go_enter Tryz.func89, Tryz.ntmps89
  go_wp2_with fail
  go_loopw [6, 9] (fun _ i wr => ∃ k : Nat, k ≤ ss.length ∧ i = .int .i64 k ∧ (ss.take k).all p = true ∧ Below w.heap.size w wr) (fun _ i _ => ss.length - (intOf i).toNat)
  case atStart => exact ⟨0, Nat.zero_le _, rfl, rfl, Below.refl _ _⟩
  case round =>
    obtain ⟨k, hkn, rfl, hall, hb⟩ := hrel
    by_cases hkl : k < ss.length
    · have hki : ss[k]? = some ss[k] := List.getElem?_eq_getElem hkl
      obtain ⟨b, o, rfl, hbl, hss, c0⟩ := hA.below hb k _ hki
      have bk : (k : Int) < ss.length := by omega
      have hT := all_takeT (p := p) hki
      rw [hall, Bool.true_and] at hT
      have call := hf ss[k] (List.getElem_mem hkl) wr hb
      have HN : Hid (p ss[k] = false → ss.all p = false) := all_noT (List.getElem_mem hkl)
      have HT : Hid ((ss.take (k + 1)).all p = p ss[k]) := hT
      clear hf hA hki hall hT
      generalize p ss[k] = B at *
      generalize ss[k] = v at *
      cases B
      · replace HN : Hid (ss.all p = false) := HN.out rfl
        go_wp2_with fail
        rw [HE.out]
        refine Calls.mono call ?_
        rintro e w2 ⟨rfl, hb2⟩
        go_wp2_with fail
        go_ret
        exact ⟨by rw [HN.out]; rfl, hb.trans (hb2.mono hb.size)⟩
      · go_wp2_with fail
        rw [HE.out]
        refine Calls.mono call ?_
        rintro e w2 ⟨rfl, hb2⟩
        go_wp2_with fail
        go_roundw
        case rel => exact ⟨k + 1, hkl, by go_num, HT.out, hb.trans (hb2.mono hb.size)⟩
        case measure => simp [intOf]; omega
    · obtain rfl : k = ss.length := by omega
      rw [List.take_length] at hall
      have H : Hid (ss.all p = true) := hall
      clear hall
      go_wp2_with fail
      go_ret
      exact ⟨by rw [H.out]; rfl, hb⟩

theorem enterName (vs : Array Value) (w : World) : (callFunc 105 vs).run Tryz.prog w = .ok (.enter 105 vs) w := by kernel_rfl
theorem iTidyNameT (s : ByteArray) (hs : SmT s) (w : World) : Calls Tryz.prog 105 #[.string s] w fun e w' => e = .returned (.bool (nmB s)) ∧ Below w.heap.size w w' := by
  have := Ty.iTidyName s.data.toList (by unfold SmT at hs; simpa using hs) w
  simpa [nmB] using this
theorem geq_str (t : TypeId) (a b : ByteArray) : binOp .geq t (.string a) (.string b) = pure (.bool !(ltB a b)) := by simp [binOp, Op.stringOp, ltB]

set_option maxRecDepth 100000 in
theorem iIsNameList {ss : List ByteArray} {ao : Option Addr} {cap : Nat} {w : World} (hA : RdT w ao ss) (hs : ∀ s ∈ ss, SmT s) (hn : ss.length ≤ 1048576) :
    Calls Tryz.prog 88 #[.slice ao ss.length cap] w fun e w' => e = .returned (.bool (namesB ss)) ∧ Below w.heap.size w w' := by
  obtain ⟨R, hR⟩ : ∃ R, R = namesB ss := ⟨_, rfl⟩
  have HR : Hid (R = (decide (ss.length ≤ 8) && (ss.all nmB && upB ss ss.length))) := hR
  rw [← hR]
  clear hR
  have bn : (ss.length : Int) ≤ 1048576 := by omega
  have hg := geq_str
  by_cases h8 : ss.length ≤ 8
  · have CA : Hid (Calls Tryz.prog 89 #[.slice ao ss.length cap, .func (.func 105) #[] #[]] w fun e w' => e = .returned (.bool (ss.all nmB)) ∧ Below w.heap.size w w') := iAreAllT (fc := #[]) (fun s hm w' _ => iTidyNameT s (hs s hm) w') enterName (by omega) ao cap hA
    have b8 : (ss.length : Int) ≤ 8 := by omega
    rw [decide_eq_true h8, Bool.true_and] at HR
    generalize hV : ss.all nmB = V at *
    clear hV hs
    cases V with
    | false =>
      have H : Hid (R = false) := HR.out
      go_enter Tryz.func88, Tryz.ntmps88
      go_wp2_with (go_at_call 89; refine Calls.mono CA.out ?_; rintro e w2 ⟨rfl, hb2⟩)
      go_ret
      exact ⟨by rw [H.out]; rfl, hb2⟩
    | true =>
      have H : Hid (R = upB ss ss.length) := by show R = _; rw [HR.out]; simp
      clear HR
      go_enter Tryz.func88, Tryz.ntmps88
      go_wp2_with (go_at_call 89; refine Calls.mono CA.out ?_; rintro e w2 ⟨rfl, hb2⟩)
      clear CA
      go_loopw [3] (fun i wr => ∃ k : Nat, k ≤ ss.length + 1 ∧ 1 ≤ k ∧ (k ≤ ss.length ∨ ss.length = 0) ∧ i = .int .i64 k ∧ upB ss k = true ∧ Below w.heap.size w wr) (fun i _ => ss.length - (intOf i).toNat)
      case atStart => exact ⟨1, by omega, by omega, by omega, rfl, rfl, hb2⟩
      case round =>
        obtain ⟨k, hkn, hk1, hk2, rfl, hU, hb⟩ := hrel
        by_cases hkl : k < ss.length
        · have hki : ss[k]? = some ss[k] := List.getElem?_eq_getElem hkl
          have hkj : ss[k - 1]? = some ss[k - 1] := List.getElem?_eq_getElem (by omega)
          obtain ⟨b, o, rfl, hbl, hss, c0⟩ := hA.below hb k _ hki
          obtain ⟨b', o', hbo, hbl', hss', c1⟩ := hA.below hb (k - 1) _ hkj
          simp at hbo
          obtain ⟨rfl, rfl⟩ := hbo
          have bk : (k : Int) < ss.length := by omega
          obtain ⟨j, rfl⟩ : ∃ j, k = j + 1 := ⟨k - 1, by omega⟩
          have hat : upAt ss (j + 1) = ltB ss[j] ss[j + 1] := by
            unfold upAt
            rw [nm_get hki, nm_get hkj]
            simp
          have hT := upB_succ ss (j + 1)
          rw [hU, hat, Bool.true_and] at hT
          have HN : Hid (ltB ss[j] ss[j + 1] = false → upB ss ss.length = false) := fun h => upB_no hkl (hat.trans h)
          have HT : Hid (upB ss (j + 1 + 1) = ltB ss[j] ss[j + 1]) := hT
          simp only [Nat.add_sub_cancel] at c1
          clear hA hki hkj hat hT hU hss hss' hbl hbl'
          have e1 : ((j + 1 : Nat) : Int) - 1 = (j : Int) := by omega
          generalize ss[j] = x at *
          generalize ss[j + 1] = y at *
          generalize hB : ltB x y = B at *
          cases B
          · replace HN : Hid (upB ss ss.length = false) := HN.out rfl
            go_wp2_with fail
            go_quiet (fail)
            go_wp2_with fail
            go_ret
            exact ⟨by rw [H.out, HN.out]; rfl, ⟨hb.os, hb.tape, hb.output, hb.size, hb.block⟩⟩
          · go_wp2_with fail
            go_quiet (fail)
            go_wp2_with fail
            go_roundw
            case rel => exact ⟨j + 1 + 1, by omega, by omega, by omega, by go_num, HT.out, ⟨hb.os, hb.tape, hb.output, hb.size, hb.block⟩⟩
            case measure => simp [intOf]; omega
        · have HU : Hid (upB ss ss.length = true) := by
            show upB ss ss.length = true
            rcases hk2 with h | h
            · obtain rfl : k = ss.length := by omega
              exact hU
            · rw [h]; rfl
          have hge : ¬ (k : Int) < ss.length := by omega
          clear hA
          go_wp2_with fail
          go_ret
          exact ⟨by rw [H.out, HU.out]; rfl, hb⟩
  · have H : Hid (R = false) := by show R = false; rw [HR.out, decide_eq_false h8]; rfl
    have b8 : (8 : Int) < ss.length := by omega
    clear HR
    go_enter Tryz.func88, Tryz.ntmps88
    go_wp2_with fail
    go_ret
    exact ⟨by rw [H.out]; rfl, Below.refl _ _⟩

end Pg
end Go.Proofs.YtkhoccjfkkfipaaGreatDoor
namespace Go.Proofs
open Go.Shelf
def Tryz.sortForm_ren : Go.Shelf.Ren := ⟨fun | 6 => 108 | 15 => 127 | 14 => 126 | 28 => 149 | 29 => 150 | 20 => 141 | 21 => 142 | 22 => 143 | 23 => 144 | 24 => 145 | 25 => 146 | 26 => 147 | 27 => 148 | 46 => 160 | 47 => 161 | 48 => 162 | 49 => 163 | 50 => 164 | 57 => 173 | n => n, fun | 22 => 131 | 24 => 137 | 25 => 159 | 3 => 3 | 39 => 177 | 0 => 0 | 53 => 196 | 55 => 198 | 4 => 4 | 46 => 190 | 45 => 189 | 50 => 126 | 5 => 5 | 9 => 9 | 66 => 213 | 70 => 217 | 76 => 241 | 77 => 152 | n => n, fun | n => n⟩
theorem Tryz.sortForm : Go.Proofs.SlLaysF0.n6 Tryz.prog Tryz.sortForm_ren := {
  mixed := by kernel_rfl
  f6 := ⟨Tryz.f108.name, by decide, Tryz.func108.trans (congrArg some (by kernel_rfl))⟩
  f14 := ⟨Tryz.f126.name, by decide, Tryz.func126.trans (congrArg some (by kernel_rfl))⟩
  f15 := Tryz.func127.trans (congrArg some (by kernel_rfl))
  f20 := ⟨Tryz.f141.name, by decide, Tryz.func141.trans (congrArg some (by kernel_rfl))⟩
  f21 := ⟨Tryz.f142.name, by decide, Tryz.func142.trans (congrArg some (by kernel_rfl))⟩
  f22 := ⟨Tryz.f143.name, by decide, Tryz.func143.trans (congrArg some (by kernel_rfl))⟩
  f23 := ⟨Tryz.f144.name, by decide, Tryz.func144.trans (congrArg some (by kernel_rfl))⟩
  f24 := ⟨Tryz.f145.name, by decide, Tryz.func145.trans (congrArg some (by kernel_rfl))⟩
  f25 := ⟨Tryz.f146.name, by decide, Tryz.func146.trans (congrArg some (by kernel_rfl))⟩
  f26 := ⟨Tryz.f147.name, by decide, Tryz.func147.trans (congrArg some (by kernel_rfl))⟩
  f27 := ⟨Tryz.f148.name, by decide, Tryz.func148.trans (congrArg some (by kernel_rfl))⟩
  f28 := Tryz.func149.trans (congrArg some (by kernel_rfl))
  f29 := Tryz.func150.trans (congrArg some (by kernel_rfl))
  f46 := ⟨Tryz.f160.name, by decide, Tryz.func160.trans (congrArg some (by kernel_rfl))⟩
  f47 := Tryz.func161.trans (congrArg some (by kernel_rfl))
  f48 := Tryz.func162.trans (congrArg some (by kernel_rfl))
  f49 := ⟨Tryz.f163.name, by decide, Tryz.func163.trans (congrArg some (by kernel_rfl))⟩
  f50 := ⟨Tryz.f164.name, by decide, Tryz.func164.trans (congrArg some (by kernel_rfl))⟩
  f57 := ⟨Tryz.f173.name, by decide, Tryz.func173.trans (congrArg some (by kernel_rfl))⟩
  t0 := Tryz.underlying0
  a0 := Tryz.isAgg0
  z0 := Tryz.sizeOf0
  v0 := Tryz.zeroValue0
  t3 := Tryz.underlying3
  a3 := Tryz.isAgg3
  z3 := Tryz.sizeOf3
  v3 := Tryz.zeroValue3
  t4 := Tryz.underlying4
  a4 := Tryz.isAgg4
  z4 := Tryz.sizeOf4
  v4 := Tryz.zeroValue4
  t5 := Tryz.underlying5
  a5 := Tryz.isAgg5
  z5 := Tryz.sizeOf5
  v5 := Tryz.zeroValue5
  t9 := Tryz.underlying9
  a9 := Tryz.isAgg9
  z9 := Tryz.sizeOf9
  v9 := Tryz.zeroValue9
  t22 := Tryz.underlying131
  a22 := Tryz.isAgg131
  z22 := Tryz.sizeOf131
  v22 := Tryz.zeroValue131
  t25 := Tryz.underlying159
  a25 := Tryz.isAgg159
  z25 := Tryz.sizeOf159
  v25 := Tryz.zeroValue159
  t39 := Tryz.underlying177
  a39 := Tryz.isAgg177
  z39 := Tryz.sizeOf177
  v39 := Tryz.zeroValue177
  t45 := Tryz.underlying189
  a45 := Tryz.isAgg189
  z45 := Tryz.sizeOf189
  v45 := Tryz.zeroValue189
  t46 := Tryz.underlying190
  a46 := Tryz.isAgg190
  z46 := Tryz.sizeOf190
  v46 := Tryz.zeroValue190
  t50 := Tryz.underlying126
  a50 := Tryz.isAgg126
  z50 := Tryz.sizeOf126
  v50 := Tryz.zeroValue126
  t53 := Tryz.underlying196
  a53 := Tryz.isAgg196
  z53 := Tryz.sizeOf196
  v53 := Tryz.zeroValue196
  t55 := Tryz.underlying198
  a55 := Tryz.isAgg198
  z55 := Tryz.sizeOf198
  v55 := Tryz.zeroValue198
  t66 := Tryz.underlying213
  a66 := Tryz.isAgg213
  z66 := Tryz.sizeOf213
  v66 := Tryz.zeroValue213
  t70 := Tryz.underlying217
  a70 := Tryz.isAgg217
  z70 := Tryz.sizeOf217
  v70 := Tryz.zeroValue217
  t76 := Tryz.underlying241
  a76 := Tryz.isAgg241
  z76 := Tryz.sizeOf241
  v76 := Tryz.zeroValue241
  t77 := Tryz.underlying152
  a77 := Tryz.isAgg152
  z77 := Tryz.sizeOf152
  v77 := Tryz.zeroValue152 }
def Tryz.cmpInt_ren : Go.Shelf.Ren := ⟨fun | 5 => 110 | 7 => 128 | n => n, fun | 22 => 3 | 3 => 3 | 4 => 4 | n => n, fun | n => n⟩
theorem Tryz.cmpInt : Go.Proofs.SlLaysC2.n5 Tryz.prog Tryz.cmpInt_ren := {
  mixed := by kernel_rfl
  f5 := ⟨Tryz.f110.name, by decide, Tryz.func110.trans (congrArg some (by kernel_rfl))⟩
  f7 := ⟨Tryz.f128.name, by decide, Tryz.func128.trans (congrArg some (by kernel_rfl))⟩
  t3 := Tryz.underlying3
  a3 := Tryz.isAgg3
  z3 := Tryz.sizeOf3
  v3 := Tryz.zeroValue3
  t4 := Tryz.underlying4
  a4 := Tryz.isAgg4
  z4 := Tryz.sizeOf4
  v4 := Tryz.zeroValue4
  t22 := Tryz.underlying3
  a22 := Tryz.isAgg3
  z22 := Tryz.sizeOf3
  v22 := Tryz.zeroValue3 }
end Go.Proofs
namespace Go.Proofs.YtkhoccjfkkfipaaGreatDoor
open Go.RowKit
namespace Oc
open St (Vl)

theorem keyS : Maps.Keyed Tryz.prog 9 := Maps.string_keyed Tryz.underlying9
/-- The map in block B holds the first i forms. -/
def Mp (w : World) (B i : Nat) : Prop := w.ownsMap Tryz.prog 9 Rf B i (dR (tbl.take i).reverse)
theorem Mp.all {w : World} {B : Nat} (h : Mp w B 36) : w.ownsMap Tryz.prog 9 Rf B 36 (dR tbl.reverse) := by
  unfold Mp at h
  rwa [List.take_of_length_le (by rw [tbl_len]; exact Nat.le_refl _)] at h

theorem mp_put {w : World} {B i : Nat} (hM : Mp w B i) {c n s : Int} {nm : List UInt8} (hf : tbl[i]? = some (c, n, s, nm)) :
    ∃ w', (Instr.mapUpdate 155 (.map (some B)) (.string ⟨nm.toArray⟩) (.agg #[.int .i64 c, .int .i64 n, .int .i64 s, .string ⟨#[]⟩])).run Tryz.prog w = .ok () w' ∧ Mp w' B (i + 1) ∧ w.grownBy w' (some B) := by
  have hi : i < 36 := by have := (List.getElem?_eq_some_iff.1 hf).1; rwa [tbl_len] at this
  have hl : nm.length ≤ 100 := by
    have h : ∀ f ∈ tbl, f.2.2.2.length ≤ 100 := by decide
    exact h _ (List.mem_of_getElem? hf)
  have hkey : keyOf Tryz.prog 9 (.string ⟨nm.toArray⟩) = some (.string nm) := by
    have := WideMaps.keyOf_string_mk (s := ⟨nm.toArray⟩) Tryz.underlying9 (by unfold maxLen; simp [ByteArray.size]; omega)
    simpa using this
  obtain ⟨w', hrun, r1, r2⟩ := World.ownsMap.update hM keyS Tryz.underlying155 (by unfold maxLen; omega) hkey (Rf_mk (c, n, s))
  refine ⟨w', hrun, ?_, r2⟩
  have e : (tbl.take (i + 1)).reverse = (c, n, s, nm) :: (tbl.take i).reverse := by rw [List.take_add_one, hf]; simp
  unfold Mp
  rw [e]
  exact r1

set_option maxHeartbeats 4000000 in
set_option maxRecDepth 100000 in
theorem iForms (w : World) : Calls Tryz.prog 107 #[] w fun e w' => e = .returned (.map (some w.heap.size)) ∧ Mp w' w.heap.size 36 ∧ Below w.heap.size w w' ∧ w.heap.size < w'.heap.size := by
  have hmm := @run_makeMap Tryz.prog
  have hM0 : Mp (w.alloc (.map #[] 0)) w.heap.size 0 := World.ownsMap_made _ _ _ _
  have hB0 : Below (w.heap.size) w (w.alloc (.map #[] 0)) ∧ w.heap.size < (w.alloc (.map #[] 0)).heap.size := ⟨(Below.refl _ w).alloc (Nat.le_refl _) _, by simp⟩
  have hst : ∀ {w1 w2 : World}, Below w.heap.size w w1 ∧ w.heap.size < w1.heap.size → w1.grownBy w2 (some w.heap.size) → Below w.heap.size w w2 ∧ w.heap.size < w2.heap.size := fun h hg => ⟨h.1.grown hg h.1.size (fun b hb => by cases hb; exact Nat.le_refl _), Nat.lt_of_lt_of_le h.2 hg.size⟩
  obtain ⟨w1, r1, hM1, g1⟩ := mp_put hM0 (i := 0) rfl
  have hB1 := hst hB0 g1
  clear hM0 hB0 g1
  obtain ⟨w2, r2, hM2, g2⟩ := mp_put hM1 (i := 1) rfl
  have hB2 := hst hB1 g2
  clear hM1 hB1 g2
  obtain ⟨w3, r3, hM3, g3⟩ := mp_put hM2 (i := 2) rfl
  have hB3 := hst hB2 g3
  clear hM2 hB2 g3
  obtain ⟨w4, r4, hM4, g4⟩ := mp_put hM3 (i := 3) rfl
  have hB4 := hst hB3 g4
  clear hM3 hB3 g4
  obtain ⟨w5, r5, hM5, g5⟩ := mp_put hM4 (i := 4) rfl
  have hB5 := hst hB4 g5
  clear hM4 hB4 g5
  obtain ⟨w6, r6, hM6, g6⟩ := mp_put hM5 (i := 5) rfl
  have hB6 := hst hB5 g6
  clear hM5 hB5 g6
  obtain ⟨w7, r7, hM7, g7⟩ := mp_put hM6 (i := 6) rfl
  have hB7 := hst hB6 g7
  clear hM6 hB6 g7
  obtain ⟨w8, r8, hM8, g8⟩ := mp_put hM7 (i := 7) rfl
  have hB8 := hst hB7 g8
  clear hM7 hB7 g8
  obtain ⟨w9, r9, hM9, g9⟩ := mp_put hM8 (i := 8) rfl
  have hB9 := hst hB8 g9
  clear hM8 hB8 g9
  obtain ⟨w10, r10, hM10, g10⟩ := mp_put hM9 (i := 9) rfl
  have hB10 := hst hB9 g10
  clear hM9 hB9 g10
  obtain ⟨w11, r11, hM11, g11⟩ := mp_put hM10 (i := 10) rfl
  have hB11 := hst hB10 g11
  clear hM10 hB10 g11
  obtain ⟨w12, r12, hM12, g12⟩ := mp_put hM11 (i := 11) rfl
  have hB12 := hst hB11 g12
  clear hM11 hB11 g12
  obtain ⟨w13, r13, hM13, g13⟩ := mp_put hM12 (i := 12) rfl
  have hB13 := hst hB12 g13
  clear hM12 hB12 g13
  obtain ⟨w14, r14, hM14, g14⟩ := mp_put hM13 (i := 13) rfl
  have hB14 := hst hB13 g14
  clear hM13 hB13 g14
  obtain ⟨w15, r15, hM15, g15⟩ := mp_put hM14 (i := 14) rfl
  have hB15 := hst hB14 g15
  clear hM14 hB14 g15
  obtain ⟨w16, r16, hM16, g16⟩ := mp_put hM15 (i := 15) rfl
  have hB16 := hst hB15 g16
  clear hM15 hB15 g16
  obtain ⟨w17, r17, hM17, g17⟩ := mp_put hM16 (i := 16) rfl
  have hB17 := hst hB16 g17
  clear hM16 hB16 g17
  obtain ⟨w18, r18, hM18, g18⟩ := mp_put hM17 (i := 17) rfl
  have hB18 := hst hB17 g18
  clear hM17 hB17 g18
  obtain ⟨w19, r19, hM19, g19⟩ := mp_put hM18 (i := 18) rfl
  have hB19 := hst hB18 g19
  clear hM18 hB18 g19
  obtain ⟨w20, r20, hM20, g20⟩ := mp_put hM19 (i := 19) rfl
  have hB20 := hst hB19 g20
  clear hM19 hB19 g20
  obtain ⟨w21, r21, hM21, g21⟩ := mp_put hM20 (i := 20) rfl
  have hB21 := hst hB20 g21
  clear hM20 hB20 g21
  obtain ⟨w22, r22, hM22, g22⟩ := mp_put hM21 (i := 21) rfl
  have hB22 := hst hB21 g22
  clear hM21 hB21 g22
  obtain ⟨w23, r23, hM23, g23⟩ := mp_put hM22 (i := 22) rfl
  have hB23 := hst hB22 g23
  clear hM22 hB22 g23
  obtain ⟨w24, r24, hM24, g24⟩ := mp_put hM23 (i := 23) rfl
  have hB24 := hst hB23 g24
  clear hM23 hB23 g24
  obtain ⟨w25, r25, hM25, g25⟩ := mp_put hM24 (i := 24) rfl
  have hB25 := hst hB24 g25
  clear hM24 hB24 g25
  obtain ⟨w26, r26, hM26, g26⟩ := mp_put hM25 (i := 25) rfl
  have hB26 := hst hB25 g26
  clear hM25 hB25 g26
  obtain ⟨w27, r27, hM27, g27⟩ := mp_put hM26 (i := 26) rfl
  have hB27 := hst hB26 g27
  clear hM26 hB26 g27
  obtain ⟨w28, r28, hM28, g28⟩ := mp_put hM27 (i := 27) rfl
  have hB28 := hst hB27 g28
  clear hM27 hB27 g28
  obtain ⟨w29, r29, hM29, g29⟩ := mp_put hM28 (i := 28) rfl
  have hB29 := hst hB28 g29
  clear hM28 hB28 g29
  obtain ⟨w30, r30, hM30, g30⟩ := mp_put hM29 (i := 29) rfl
  have hB30 := hst hB29 g30
  clear hM29 hB29 g30
  obtain ⟨w31, r31, hM31, g31⟩ := mp_put hM30 (i := 30) rfl
  have hB31 := hst hB30 g31
  clear hM30 hB30 g31
  obtain ⟨w32, r32, hM32, g32⟩ := mp_put hM31 (i := 31) rfl
  have hB32 := hst hB31 g32
  clear hM31 hB31 g32
  obtain ⟨w33, r33, hM33, g33⟩ := mp_put hM32 (i := 32) rfl
  have hB33 := hst hB32 g33
  clear hM32 hB32 g33
  obtain ⟨w34, r34, hM34, g34⟩ := mp_put hM33 (i := 33) rfl
  have hB34 := hst hB33 g34
  clear hM33 hB33 g34
  obtain ⟨w35, r35, hM35, g35⟩ := mp_put hM34 (i := 34) rfl
  have hB35 := hst hB34 g35
  clear hM34 hB34 g35
  obtain ⟨w36, r36, hM36, g36⟩ := mp_put hM35 (i := 35) rfl
  have hB36 := hst hB35 g36
  clear hM35 hB35 g36
  have HM : Hid (Mp w36 w.heap.size 36 ∧ Below w.heap.size w w36 ∧ w.heap.size < w36.heap.size) := ⟨hM36, hB36⟩
  clear hst hM36 hB36
  go_enter Tryz.func107, Tryz.ntmps107
  go_wp2_with fail
  go_ret
  exact ⟨rfl, HM.out⟩

/-- The forms in a row, by their codes. -/
def RdF (w : World) (g : Nat) : Prop := g < w.heap.size ∧ ∀ i f, tbl[i]? = some f → w.cell? ⟨g, i * 4, none⟩ = some (.int .i64 f.1) ∧ w.cell? ⟨g, i * 4 + 1, none⟩ = some (.int .i64 f.2.1) ∧ w.cell? ⟨g, i * 4 + 2, none⟩ = some (.int .i64 f.2.2.1) ∧ w.cell? ⟨g, i * 4 + 3, none⟩ = some (.string ⟨f.2.2.2.toArray⟩)
theorem RdF.below {w w' : World} {g : Nat} (h : RdF w g) (hb : Below w.heap.size w w') : RdF w' g := by
  refine ⟨Nat.lt_of_lt_of_le h.1 hb.size, fun i f hi => ?_⟩
  obtain ⟨c0, c1, c2, c3⟩ := h.2 i f hi
  have hc : ∀ k, w'.cell? ⟨g, k, none⟩ = w.cell? ⟨g, k, none⟩ := fun k => hb.cell (p := ⟨g, k, none⟩) h.1
  exact ⟨(hc _).trans c0, (hc _).trans c1, (hc _).trans c2, (hc _).trans c3⟩

/-! The library's sort at forms. -/
theorem iCmp (x y : Fm) (W : World) : Calls Tryz.prog 109 #[.agg #[.int .i64 x.1, .int .i64 x.2.1, .int .i64 x.2.2.1, .string ⟨x.2.2.2.toArray⟩], .agg #[.int .i64 y.1, .int .i64 y.2.1, .int .i64 y.2.2.1, .string ⟨y.2.2.2.toArray⟩]] W fun e w' => e = .returned (.int .i64 (Lib.compareInt x.1 y.1)) ∧ ∃ q os', w' = Sort.grow (W.drewN q) os' := by
  have hcon := fun W' => AnyG.cmp_Compare_int Tryz.cmpInt x.1 y.1 W'
  change ∀ W', Calls Tryz.prog 110 _ _ _ at hcon
  generalize Lib.compareInt x.1 y.1 = r at hcon ⊢
  go_enter Tryz.func109, Tryz.ntmps109
  go_wp2_with (go_at_call 110; refine (hcon _).mono ?_; rintro e w' ⟨rfl, rfl⟩)
  go_ret
  exact ⟨rfl, 0, _, by rw [Sort.alloc_eq_grow, Sort.alloc_eq_grow, Sort.grow_grow]; rfl⟩

theorem ltCode (x y : Fm) : ltOf (fun x y : Fm => Lib.compareInt x.1 y.1) x y = decide (x.1 < y.1) := by
  unfold ltOf Lib.compareInt
  by_cases h1 : x.1 < y.1
  · simp [h1]
  · by_cases h2 : y.1 < x.1 <;> simp [h1, h2]
theorem swoCode : Sort.SWO (ltOf fun x y : Fm => Lib.compareInt x.1 y.1) where
  irrefl x := by rw [ltCode]; simp
  trans x y z h1 h2 := by rw [ltCode] at *; simp at *; omega
  ntrans x y z h1 h2 := by rw [ltCode] at *; simp at *; omega

end Oc
end Go.Proofs.YtkhoccjfkkfipaaGreatDoor
