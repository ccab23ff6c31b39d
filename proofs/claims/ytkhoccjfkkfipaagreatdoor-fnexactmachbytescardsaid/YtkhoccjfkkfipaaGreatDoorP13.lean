/-
  What is right of a program: names in order, none of both kinds, and places: plain.
  The contracts of the library that these proofs call, laid at this translation.
  Words of tidy trees: the program's and the specification's functions.
-/
import Derived.Test.YtkhoccjfkkfipaaGreatDoorP06
import Derived.Test.YtkhoccjfkkfipaaGreatDoorP12
import Derived.Shelf.Strings.Builder1
import Derived.Shelf.Strings.Builder2
import Derived.Shelf.Small.Bits
import Derived.Shelf.Small.Wraps
import Derived.Shelf.Strings.BuilderF
import Derived.Shelf.Strings.BuilderK
import Derived.Shelf.Strings.Builder2Cap
import Derived.Shelf.Strconv.Itoa0
import Derived.Shelf.Strings.Prefix
import Derived.Shelf.Bits.Mul64
import Derived.Shelf.Strings.Repeat
import Derived.Shelf.Strings.BuilderCap
import Derived.Shelf.Slices.Turned
import Derived.Ground.Names2Prog
import Derived.Shelf.Slices.SearchI
import Derived.Test.YtkhoccjfkkfipaaGreatDoorProg
import Derived.Test.YtkhoccjfkkfipaaGreatDoorChecked
import Derived.Laws.AppendOwn
import Derived.Below
import Derived.OwnWalk
import Derived.WalkKit
import Derived.WalkLawsBesides
import Derived.Deep.RegionWith
import Derived.Deep.CutBlock
import Derived.Deep.CutRange
import Derived.Deep.DeepCutAuto
import Derived.BigQuiet
import Derived.Deep.QuietTactic
import Derived.Deep.LoopGhost
namespace Go.Proofs.YtkhoccjfkkfipaaGreatDoor
open Go.RowKit
namespace Pg
open St (Vl RdV)

def ltB (p s : ByteArray) : Bool := Op.bytesLess p.toList s.toList
def nm (ss : List ByteArray) (i : Nat) : ByteArray := ss.getD i ⟨#[]⟩
def nmB (s : ByteArray) : Bool := Ty.nameB s.data.toList
def upAt (ss : List ByteArray) (i : Nat) : Bool := decide (i = 0) || ltB (nm ss (i - 1)) (nm ss i)
def upB (ss : List ByteArray) (k : Nat) : Bool := (List.range k).all (upAt ss)
theorem upB_succ (ss : List ByteArray) (k : Nat) : upB ss (k + 1) = (upB ss k && upAt ss k) := by
  unfold upB
  rw [List.range_succ, List.all_append]
  simp
theorem upB_no {ss : List ByteArray} {i n : Nat} (h : i < n) (hi : upAt ss i = false) : upB ss n = false := by
  rcases hb : upB ss n with _ | _
  · rfl
  · unfold upB at hb
    rw [List.all_eq_true.1 hb i (List.mem_range.2 h)] at hi
    cases hi
theorem nm_get {ss : List ByteArray} {i : Nat} {s : ByteArray} (h : ss[i]? = some s) : nm ss i = s := by unfold nm; simp [h]
def namesB (ss : List ByteArray) : Bool := decide (ss.length ≤ 8) && (ss.all nmB && upB ss ss.length)
def eqB (x s : ByteArray) : Bool := decide (x.toList = s.toList)
def hasT (ss : List ByteArray) (s : ByteArray) : Bool := ss.any (eqB · s)
def freeOf (cells : List ByteArray) (v : ByteArray) : Bool := !hasT cells v
def listsB (vars cells : List ByteArray) : Bool := namesB vars && (namesB cells && vars.all (freeOf cells))
/-- Where a name stands, or -1. -/
def idx (ss : List ByteArray) (s : ByteArray) : Int := match ss.findIdx? (eqB · s) with | some k => k | none => -1
theorem idx_at {ss : List ByteArray} {k : Nat} {x s : ByteArray} (h : ss[k]? = some x) (hx : eqB x s = true) (hn : (ss.take k).any (eqB · s) = false) : idx ss s = k ∧ hasT ss s = true := by
  have hk : k < ss.length := (List.getElem?_eq_some_iff.1 h).1
  have he := (List.getElem?_eq_some_iff.1 h).2
  have hf : ss.findIdx? (eqB · s) = some k := by
    rw [List.findIdx?_eq_some_iff_getElem]
    refine ⟨hk, by rw [he]; exact hx, fun j hj hp => ?_⟩
    have : (ss.take k).any (eqB · s) = true := List.any_eq_true.2 ⟨ss[j], List.mem_take_iff_getElem.2 ⟨j, by omega, rfl⟩, hp⟩
    rw [hn] at this
    cases this
  refine ⟨by unfold idx; rw [hf], ?_⟩
  unfold hasT
  exact List.any_eq_true.2 ⟨x, List.mem_of_getElem? h, hx⟩
theorem idx_none {ss : List ByteArray} {s : ByteArray} (hn : ss.any (eqB · s) = false) : idx ss s = -1 ∧ hasT ss s = false := by
  have hf : ss.findIdx? (eqB · s) = none := by
    rw [List.findIdx?_eq_none_iff]
    intro x hx
    rcases hb : eqB x s with _ | _
    · rfl
    · rw [List.any_eq_true.2 ⟨x, hx, hb⟩] at hn
      cases hn
  exact ⟨by unfold idx; rw [hf], hn⟩
theorem any_takeT {p : ByteArray → Bool} {ks : List ByteArray} {k : Nat} {t : ByteArray} (h : ks[k]? = some t) : (ks.take (k + 1)).any p = ((ks.take k).any p || p t) := by
  rw [List.take_add_one, h, List.any_append]
  simp
theorem idx_neg (ss : List ByteArray) (s : ByteArray) : decide (idx ss s < 0) = freeOf ss s := by
  unfold freeOf hasT
  rcases hb : ss.any (eqB · s) with _ | _
  · rw [(idx_none hb).1]; rfl
  · obtain ⟨x, hx, hp⟩ := List.any_eq_true.1 hb
    rcases hf : ss.findIdx? (eqB · s) with _ | k
    · rw [List.findIdx?_eq_none_iff] at hf
      rw [hf x hx] at hp
      cases hp
    · unfold idx
      rw [hf]
      simp
def progB (P : ByteArray → Bool) (vars cells : List ByteArray) (st mn : List Vl) : Bool := listsB vars cells && (Oc.opsB P st vars.length cells.length && Oc.opsB P mn vars.length cells.length)
theorem all_takeT {p : ByteArray → Bool} {ks : List ByteArray} {k : Nat} {t : ByteArray} (h : ks[k]? = some t) : (ks.take (k + 1)).all p = ((ks.take k).all p && p t) := by
  rw [List.take_add_one, h, List.all_append]
  simp
theorem all_noT {p : ByteArray → Bool} {ks : List ByteArray} {t : ByteArray} (h : t ∈ ks) (hp : p t = false) : ks.all p = false := by
  rcases hb : ks.all p with _ | _
  · rfl
  · rw [List.all_eq_true.1 hb t h] at hp; cases hp

end Pg
end Go.Proofs.YtkhoccjfkkfipaaGreatDoor
namespace Go.Proofs
open Go.Shelf
def Tryz.lays103_ren : Go.Shelf.Ren := ⟨fun | 103 => 167 | 210 => 176 | 206 => 182 | n => n, fun | 9 => 9 | 4 => 4 | 24 => 236 | 3 => 3 | n => n, fun | n => n⟩
theorem Tryz.lays103 : Go.Proofs.Lays.n103 Tryz.prog Tryz.lays103_ren := {
  mixed := by kernel_rfl
  f103 := Tryz.func167.trans (congrArg some (by kernel_rfl))
  f206 := Tryz.func182.trans (congrArg some (by kernel_rfl))
  f210 := Tryz.func176.trans (congrArg some (by kernel_rfl))
  t3 := Tryz.underlying3
  a3 := Tryz.isAgg3
  z3 := Tryz.sizeOf3
  v3 := Tryz.zeroValue3
  t4 := Tryz.underlying4
  a4 := Tryz.isAgg4
  z4 := Tryz.sizeOf4
  v4 := Tryz.zeroValue4
  t9 := Tryz.underlying9
  a9 := Tryz.isAgg9
  z9 := Tryz.sizeOf9
  v9 := Tryz.zeroValue9
  t24 := Tryz.underlying236
  a24 := Tryz.isAgg236
  z24 := Tryz.sizeOf236
  v24 := Tryz.zeroValue236 }
open Go.RowKit in
theorem Tryz.strings_CutPrefix (s p : ByteArray) (w : World) :
    Calls Tryz.prog 167 #[.string s, .string p] w fun e w' => e = .returned (.tuple #[.string ⟨(Lib.trimPrefix s.data.toList p.data.toList).toArray⟩, .bool (Lib.hasPrefix s.data.toList p.data.toList)]) ∧ w' = w := Any.strings_CutPrefix Tryz.lays103 s p w
def Tryz.lays101_ren : Go.Shelf.Ren := ⟨fun | 101 => 168 | 208 => 177 | 206 => 182 | n => n, fun | 9 => 9 | 4 => 4 | 3 => 3 | n => n, fun | n => n⟩
theorem Tryz.lays101 : Go.Proofs.Lays.n101 Tryz.prog Tryz.lays101_ren := {
  mixed := by kernel_rfl
  f101 := Tryz.func168.trans (congrArg some (by kernel_rfl))
  f206 := Tryz.func182.trans (congrArg some (by kernel_rfl))
  f208 := Tryz.func177.trans (congrArg some (by kernel_rfl))
  t3 := Tryz.underlying3
  a3 := Tryz.isAgg3
  z3 := Tryz.sizeOf3
  v3 := Tryz.zeroValue3
  t4 := Tryz.underlying4
  a4 := Tryz.isAgg4
  z4 := Tryz.sizeOf4
  v4 := Tryz.zeroValue4
  t9 := Tryz.underlying9
  a9 := Tryz.isAgg9
  z9 := Tryz.sizeOf9
  v9 := Tryz.zeroValue9 }
open Go.RowKit Go.Lib in
theorem Tryz.strings_TrimPrefix (s p : ByteArray) (w : World) :
    Calls Tryz.prog 168 #[.string s, .string p] w fun e w' => e = .returned (.string ⟨(Lib.trimPrefix s.data.toList p.data.toList).toArray⟩) ∧ w' = w := Any.strings_TrimPrefix Tryz.lays101 s p w
def Tryz.lays105_ren : Go.Shelf.Ren := ⟨fun | 105 => 179 | 212 => 183 | 99 => 184 | 165 => 185 | 166 => 186 | 170 => 187 | 169 => 188 | 263 => 192 | 264 => 193 | 206 => 182 | 240 => 194 | 241 => 195 | 276 => 198 | 277 => 199 | n => n, fun | 9 => 9 | 3 => 3 | 4 => 4 | 20 => 20 | 0 => 0 | 46 => 177 | 109 => 248 | 5 => 5 | 72 => 252 | 76 => 254 | 51 => 196 | 146 => 262 | 53 => 198 | 148 => 264 | 70 => 250 | 37 => 35 | 75 => 165 | 127 => 266 | 164 => 271 | 80 => 256 | n => n, fun | n => n⟩
theorem Tryz.lays105 : Go.Proofs.Lays.n105 Tryz.prog Tryz.lays105_ren := {
  mixed := by kernel_rfl
  f99 := Tryz.func184.trans (congrArg some (by kernel_rfl))
  f105 := Tryz.func179.trans (congrArg some (by kernel_rfl))
  f165 := Tryz.func185.trans (congrArg some (by kernel_rfl))
  f166 := Tryz.func186.trans (congrArg some (by kernel_rfl))
  f169 := Tryz.func188.trans (congrArg some (by kernel_rfl))
  f170 := Tryz.func187.trans (congrArg some (by kernel_rfl))
  f206 := Tryz.func182.trans (congrArg some (by kernel_rfl))
  f212 := Tryz.func183.trans (congrArg some (by kernel_rfl))
  f240 := Tryz.func194.trans (congrArg some (by kernel_rfl))
  f241 := Tryz.func195.trans (congrArg some (by kernel_rfl))
  f263 := Tryz.func192.trans (congrArg some (by kernel_rfl))
  f264 := Tryz.func193.trans (congrArg some (by kernel_rfl))
  f276 := Tryz.func198.trans (congrArg some (by kernel_rfl))
  f277 := Tryz.func199.trans (congrArg some (by kernel_rfl))
  t0 := Tryz.underlying0
  a0 := Tryz.isAgg0
  z0 := Tryz.sizeOf0
  v0 := Tryz.zeroValue0
  t3 := Tryz.underlying3
  a3 := Tryz.isAgg3
  z3 := Tryz.sizeOf3
  v3 := Tryz.zeroValue3
  t4 := Tryz.underlying4
  a4 := Tryz.isAgg4
  z4 := Tryz.sizeOf4
  v4 := Tryz.zeroValue4
  t5 := Tryz.underlying5
  a5 := Tryz.isAgg5
  z5 := Tryz.sizeOf5
  v5 := Tryz.zeroValue5
  t9 := Tryz.underlying9
  a9 := Tryz.isAgg9
  z9 := Tryz.sizeOf9
  v9 := Tryz.zeroValue9
  t20 := Tryz.underlying20
  a20 := Tryz.isAgg20
  z20 := Tryz.sizeOf20
  v20 := Tryz.zeroValue20
  t37 := Tryz.underlying35
  a37 := Tryz.isAgg35
  z37 := Tryz.sizeOf35
  v37 := Tryz.zeroValue35
  t46 := Tryz.underlying177
  a46 := Tryz.isAgg177
  z46 := Tryz.sizeOf177
  v46 := Tryz.zeroValue177
  t51 := Tryz.underlying196
  a51 := Tryz.isAgg196
  z51 := Tryz.sizeOf196
  v51 := Tryz.zeroValue196
  t53 := Tryz.underlying198
  a53 := Tryz.isAgg198
  z53 := Tryz.sizeOf198
  v53 := Tryz.zeroValue198
  t70 := Tryz.underlying250
  a70 := Tryz.isAgg250
  z70 := Tryz.sizeOf250
  v70 := Tryz.zeroValue250
  t72 := Tryz.underlying252
  a72 := Tryz.isAgg252
  z72 := Tryz.sizeOf252
  v72 := Tryz.zeroValue252
  t75 := Tryz.underlying165
  a75 := Tryz.isAgg165
  z75 := Tryz.sizeOf165
  v75 := Tryz.zeroValue165
  t76 := Tryz.underlying254
  a76 := Tryz.isAgg254
  z76 := Tryz.sizeOf254
  v76 := Tryz.zeroValue254
  t109 := Tryz.underlying248
  a109 := Tryz.isAgg248
  z109 := Tryz.sizeOf248
  v109 := Tryz.zeroValue248
  t127 := Tryz.underlying266
  a127 := Tryz.isAgg266
  z127 := Tryz.sizeOf266
  v127 := Tryz.zeroValue266
  t146 := Tryz.underlying262
  a146 := Tryz.isAgg262
  z146 := Tryz.sizeOf262
  v146 := Tryz.zeroValue262
  t148 := Tryz.underlying264
  a148 := Tryz.isAgg264
  z148 := Tryz.sizeOf264
  v148 := Tryz.zeroValue264
  t164 := Tryz.underlying271
  a164 := Tryz.isAgg271
  z164 := Tryz.sizeOf271
  v164 := Tryz.zeroValue271 }
theorem Tryz.Builder_Extra_105 : Builder.Extra Tryz.prog Tryz.lays105_ren := {
  sizeBuilder := by kernel_rfl
  liesBuilder := by kernel_rfl
  t5 := Tryz.underlying5
  a5 := Tryz.isAgg5
  z5 := Tryz.sizeOf5
  v5 := Tryz.zeroValue5
  infoByte := by kernel_rfl
  cellsByte := by kernel_rfl
  sizeByte := by kernel_rfl
  neB5 := by decide }
open Go.RowKit Go.Lib in
theorem Tryz.strings_Repeat (s : ByteArray) (c : Nat) (w : World) (hc : c ≤ 9223372036854775807) (hlen : s.size * c ≤ 140737488355328) :
    Calls Tryz.prog 179 #[.string s, .int .i64 c] w fun e w' => e = .returned (.string ⟨(Lib.repeatL s.data.toList c).toArray⟩) ∧ Below w.heap.size w w' := Any.strings_Repeat Tryz.lays105 Tryz.Builder_Extra_105 s c w hc hlen
end Go.Proofs
namespace Go.Proofs.YtkhoccjfkkfipaaGreatDoor
open Go.RowKit
namespace Ty

theorem drop_at {s : ByteArray} {k : Nat} (h : k < s.size) : s.data.toList.drop k = s[k] :: s.data.toList.drop (k + 1) := by
  rw [List.drop_eq_getElem_cons (by simpa using h)]
  rfl
theorem drop_end {s : ByteArray} {k : Nat} (h : s.size ≤ k) : s.data.toList.drop k = [] := List.drop_eq_nil_of_le (by simpa using h)

theorem iHasCall (s : List UInt8) (w : World) : Calls Tryz.prog 115 #[.string ⟨s.toArray⟩] w fun e w' => e = .returned (.bool (callB s)) ∧ w' = w := by
  by_cases h : s ∈ callL
  · have H : callB s = true := by simp [callB, h]
    rw [H]
    unfold callL at h
    simp only [List.mem_cons, List.not_mem_nil, or_false] at h
    rcases h with rfl | rfl | rfl | rfl | rfl | rfl
    all_goals
      go_enter Tryz.func115, Tryz.ntmps115
      go_wp2_with fail
      go_ret
      exact ⟨rfl, rfl⟩
  · have H : callB s = false := by simp [callB, h]
    rw [H]
    unfold callL at h
    simp only [List.mem_cons, List.not_mem_nil, or_false, not_or] at h
    obtain ⟨h1, h2, h3, h4, h5, h6⟩ := h
    replace h1 := beq_eq_false_iff_ne.2 h1
    replace h2 := beq_eq_false_iff_ne.2 h2
    replace h3 := beq_eq_false_iff_ne.2 h3
    replace h4 := beq_eq_false_iff_ne.2 h4
    replace h5 := beq_eq_false_iff_ne.2 h5
    replace h6 := beq_eq_false_iff_ne.2 h6
    go_enter Tryz.func115, Tryz.ntmps115
    go_wp2_with fail
    go_ret
    exact ⟨rfl, rfl⟩

theorem iHasOrder (s : List UInt8) (w : World) : Calls Tryz.prog 140 #[.string ⟨s.toArray⟩] w fun e w' => e = .returned (.bool (orderB s)) ∧ w' = w := by
  by_cases h : s ∈ orderL
  · have H : orderB s = true := by simp [orderB, h]
    rw [H]
    unfold orderL at h
    simp only [List.mem_cons, List.not_mem_nil, or_false] at h
    rcases h with rfl | rfl | rfl | rfl | rfl | rfl | rfl
    all_goals
      go_enter Tryz.func140, Tryz.ntmps140
      go_wp2_with fail
      go_ret
      exact ⟨rfl, rfl⟩
  · have H : orderB s = false := by simp [orderB, h]
    rw [H]
    unfold orderL at h
    simp only [List.mem_cons, List.not_mem_nil, or_false, not_or] at h
    obtain ⟨h1, h2, h3, h4, h5, h6, h7⟩ := h
    replace h1 := beq_eq_false_iff_ne.2 h1
    replace h2 := beq_eq_false_iff_ne.2 h2
    replace h3 := beq_eq_false_iff_ne.2 h3
    replace h4 := beq_eq_false_iff_ne.2 h4
    replace h5 := beq_eq_false_iff_ne.2 h5
    replace h6 := beq_eq_false_iff_ne.2 h6
    replace h7 := beq_eq_false_iff_ne.2 h7
    go_enter Tryz.func140, Tryz.ntmps140
    go_wp2_with fail
    go_ret
    exact ⟨rfl, rfl⟩

theorem iIsFree (s : List UInt8) (w : World) : Calls Tryz.prog 125 #[.string ⟨s.toArray⟩] w fun e w' => e = .returned (.bool (freeB s)) ∧ w' = w := by
  have H : Hid (freeB s = (!orderB s && !callB s && !decide (s = [78, 82]) && !decide (s = [78, 70]))) := rfl
  have c1 := iHasOrder s w
  have c2 := iHasCall s w
  generalize freeB s = F at *
  rcases h1 : orderB s with _ | _ <;> rcases h2 : callB s with _ | _ <;> rcases h3 : decide (s = [78, 82]) with _ | _ <;> rcases h4 : decide (s = [78, 70]) with _ | _
  all_goals
    rw [h1] at c1
    rw [h2] at c2
    have e3 : (s == [78, 82]) = decide (s = [78, 82]) := by rw [Bool.eq_iff_iff]; simp
    have e4 : (s == [78, 70]) = decide (s = [78, 70]) := by rw [Bool.eq_iff_iff]; simp
    rw [h3] at e3
    rw [h4] at e4
    have HF := H.out
    rw [h1, h2, h3, h4] at HF
    simp only [Bool.not_true, Bool.not_false, Bool.and_true, Bool.and_false, Bool.and_self] at HF
    subst HF
    clear H h1 h2 h3 h4
    go_enter Tryz.func125, Tryz.ntmps125
    go_wp2_with (first
      | (go_at_call 140; refine c1.mono ?_; rintro e w1 ⟨rfl, hw⟩; have hw := hw.symm; subst hw)
      | (go_at_call 115; refine c2.mono ?_; rintro e w1 ⟨rfl, hw⟩; have hw := hw.symm; subst hw))
    go_ret
    exact ⟨rfl, rfl⟩

theorem iIsLetter (b : Nat) (w : World) : Calls Tryz.prog 124 #[.int .u8 b] w fun e w' => e = .returned (.bool (letB b)) ∧ w' = w := by
  have H : Hid (letB b = ((decide (97 ≤ b) && decide (b ≤ 122)) || (decide (65 ≤ b) && decide (b ≤ 90)))) := rfl
  generalize letB b = F at *
  by_cases h1 : (97 : Int) ≤ b <;> by_cases h2 : (b : Int) ≤ 122 <;> by_cases h3 : (65 : Int) ≤ b <;> by_cases h4 : (b : Int) ≤ 90
  all_goals
    have HF := H.out
    rw [show decide (97 ≤ b) = decide ((97 : Int) ≤ b) by rw [decide_eq_decide]; omega, show decide (b ≤ 122) = decide ((b : Int) ≤ 122) by rw [decide_eq_decide]; omega, show decide (65 ≤ b) = decide ((65 : Int) ≤ b) by rw [decide_eq_decide]; omega, show decide (b ≤ 90) = decide ((b : Int) ≤ 90) by rw [decide_eq_decide]; omega] at HF
    simp only [h1, h2, h3, h4, decide_true, decide_false, Bool.and_true, Bool.and_false, Bool.or_true, Bool.or_false] at HF
    subst HF
    clear H
    first
      | omega
      | (go_enter Tryz.func124, Tryz.ntmps124
         go_wp2_with fail
         go_ret
         exact ⟨rfl, rfl⟩)

theorem sLetter (b : Nat) (w : World) : Calls Tryz.prog 83 #[.int .u8 b] w fun e w' => e = .returned (.bool (letB b)) ∧ w' = w := by
  have H : Hid (letB b = ((decide (97 ≤ b) && decide (b ≤ 122)) || (decide (65 ≤ b) && decide (b ≤ 90)))) := rfl
  generalize letB b = F at *
  by_cases h1 : (97 : Int) ≤ b <;> by_cases h2 : (b : Int) ≤ 122 <;> by_cases h3 : (65 : Int) ≤ b <;> by_cases h4 : (b : Int) ≤ 90
  all_goals
    have HF := H.out
    rw [show decide (97 ≤ b) = decide ((97 : Int) ≤ b) by rw [decide_eq_decide]; omega, show decide (b ≤ 122) = decide ((b : Int) ≤ 122) by rw [decide_eq_decide]; omega, show decide (65 ≤ b) = decide ((65 : Int) ≤ b) by rw [decide_eq_decide]; omega, show decide (b ≤ 90) = decide ((b : Int) ≤ 90) by rw [decide_eq_decide]; omega] at HF
    simp only [h1, h2, h3, h4, decide_true, decide_false, Bool.and_true, Bool.and_false, Bool.or_true, Bool.or_false] at HF
    subst HF
    clear H
    first
      | omega
      | (go_enter Tryz.func83, Tryz.ntmps83
         go_wp2_with fail
         go_ret
         exact ⟨rfl, rfl⟩)

end Ty
end Go.Proofs.YtkhoccjfkkfipaaGreatDoor
