/-
  What the listed variable errNoPattern gives a walk (its cell holds one pointer to an errorString), and that the program's own start meets the condition.
  The contracts of the library that these proofs call, laid at this translation.
  Chapter 3 as plain functions: a text is a function from places to bytes (256: there is none), a pattern is a tree.
-/
import Derived.Test.YtgdnlmaacnnfiaaGreatDoorRows
import Derived.WalkKit
import Derived.ProofKit
import Derived.LaidMore
import Derived.OpenShut
import Derived.LaidLaws
import Derived.RowKitTokens
import Derived.Stop.LaidErr
import Derived.Stop.Joined
import Derived.Shelf.Small.Bits
import Derived.Shelf.Small.Strs
import Derived.Shelf.Small.Wraps
import Derived.Shelf.Strconv.Itoa0
import Derived.Shelf.Strings.Search1
import Derived.Shelf.Strings.Search2
import Derived.Shelf.Strings.Search3
import Derived.Shelf.LaysM
import Derived.Shelf.Strings.Shaped
import Derived.Shelf.Sort.Plain
import Derived.Shelf.Slices.Turned
import Derived.Ground.Names2Prog
import Derived.Shelf.Slices.CompactI
import Derived.Shelf.Slices.Cells
import Derived.Shelf.Slices.In.SortNone
import Derived.Test.YtgdnlmaacnnfiaaGreatDoorProg
import GoSem.ClaimData
namespace Go.Proofs.YtgdnlmaacnnfiaaGreatDoor
open Go.ChangeShapes Go.WideShapes Go.ChangeAt Go.RowKit

theorem own : ownKnob Tryz.prog.godebug = none := by kernel_rfl
theorem gErr : Tryz.prog.globalNamed "loop.example/g00289/impl.errNoPattern" = some 0 := by kernel_rfl
theorem tErr : (Tryz.prog.globals[0]?).map (·.type) = some 107 := by kernel_rfl
theorem cellsEs : Tryz.prog.cellsOf 199 = 1 := by kernel_rfl
theorem cellsStr : Tryz.prog.cellsOf 9 = 1 := by kernel_rfl
theorem star : "*" ++ "errors.errorString" = "*errors.errorString" := by decide
theorem rowEs (u : TypeId) (h : Tryz.prog.typeName? 3 u = some "*errors.errorString") : u = 183 :=
  typeName_ptr_named (nm := "errors.errorString") (by rw [star]; kernel_rfl) (by kernel_rfl) (by decide) u (by rw [star]; exact h)

def laidE : List (String × DataW Unit) := [("loop.example/g00289/impl.errNoPattern", Rows.laid_loop_example_g00289_impl_errNoPattern)]

theorem door_met (os : Os) (args : Array Value) : laidMetH Tryz.prog laidE ((World.doorLaid Tryz.prog 28 os).forCall (fun _ _ => 0) ⟨#[], args, []⟩).memory :=
  laidMetH_of_parts3 (fuel := 8) (laidMet_of_run' 8 (by kernel_rfl) (by kernel_rfl)) (by kernel_rfl) (by kernel_rfl)

theorem of_laid {W : World} (h : laidMetH Tryz.prog laidE W) :
    ∃ a : Addr, W.var? Tryz.prog "loop.example/g00289/impl.errNoPattern" = some #[.iface 183 (.pointer (some a))] ∧ W.cell? ⟨0, 0, none⟩ = some (.iface 183 (.pointer (some a))) := by
  rw [MakeChecks.laidMetH_plain _ _ _ (by kernel_rfl)] at h
  obtain ⟨a, s, hv, _⟩ := laid_sentinel h gErr tErr Tryz.underlying107 rowEs Tryz.underlying183 Tryz.underlying199 rfl rfl Tryz.underlying9 cellsEs cellsStr
  exact ⟨a, hv, by simpa using World.var?_cell gErr hv 0⟩

end Go.Proofs.YtgdnlmaacnnfiaaGreatDoor

namespace Go.Proofs
open Go.Shelf
def Tryz.lays137_ren : Go.Shelf.Ren := ⟨fun | 137 => 94 | 217 => 109 | 266 => 118 | n => n, fun | 9 => 9 | 5 => 5 | 3 => 3 | n => n, fun | n => n⟩
theorem Tryz.lays137 : Go.Proofs.Lays.n137 Tryz.prog Tryz.lays137_ren := {
  mixed := by kernel_rfl
  f137 := Tryz.func94.trans (congrArg some (by kernel_rfl))
  f217 := Tryz.func109.trans (congrArg some (by kernel_rfl))
  f266 := Tryz.func118.trans (congrArg some (by kernel_rfl))
  t3 := Tryz.underlying3
  a3 := Tryz.isAgg3
  z3 := Tryz.sizeOf3
  v3 := Tryz.zeroValue3
  t5 := Tryz.underlying5
  a5 := Tryz.isAgg5
  z5 := Tryz.sizeOf5
  v5 := Tryz.zeroValue5
  t9 := Tryz.underlying9
  a9 := Tryz.isAgg9
  z9 := Tryz.sizeOf9
  v9 := Tryz.zeroValue9 }
open Go.RowKit in
theorem Tryz.strings_IndexByte (s : ByteArray) (c : Int) (w : World) :
    Calls Tryz.prog 94 #[.string s, .int .u8 c] w fun e w' => e = .returned (.int .i64 (Lib.indexByte s.data.toList c.toNat.toUInt8)) ∧ w' = w := Any.strings_IndexByte Tryz.lays137 s c w
def Tryz.lays144_ren : Go.Shelf.Ren := ⟨fun | 144 => 92 | 143 => 108 | 219 => 117 | 217 => 109 | 225 => 121 | 224 => 122 | 267 => 123 | 266 => 118 | 314 => 125 | n => n, fun | 9 => 9 | 4 => 4 | 3 => 3 | 5 => 5 | 46 => 132 | 146 => 181 | 51 => 167 | n => n, fun | 1 => 1 | n => n⟩
theorem Tryz.lays144 : Go.Proofs.Lays.n144 Tryz.prog Tryz.lays144_ren := {
  mixed := by kernel_rfl
  f143 := Tryz.func108.trans (congrArg some (by kernel_rfl))
  f144 := Tryz.func92.trans (congrArg some (by kernel_rfl))
  f217 := Tryz.func109.trans (congrArg some (by kernel_rfl))
  f219 := Tryz.func117.trans (congrArg some (by kernel_rfl))
  f224 := Tryz.func122.trans (congrArg some (by kernel_rfl))
  f225 := Tryz.func121.trans (congrArg some (by kernel_rfl))
  f266 := Tryz.func118.trans (congrArg some (by kernel_rfl))
  f267 := Tryz.func123.trans (congrArg some (by kernel_rfl))
  f314 := Tryz.func125.trans (congrArg some (by kernel_rfl))
  t3 := Tryz.underlying3
  a3 := Tryz.isAgg3
  z3 := Tryz.sizeOf3
  v3 := Tryz.zeroValue3
  t4 := Tryz.underlying4
  a4 := Tryz.isAgg4
  z4 := Tryz.sizeOf4
  v4 := Tryz.zeroValue4
  t5 := Tryz.underlying5
  a5 := Tryz.isAgg5
  z5 := Tryz.sizeOf5
  v5 := Tryz.zeroValue5
  t9 := Tryz.underlying9
  a9 := Tryz.isAgg9
  z9 := Tryz.sizeOf9
  v9 := Tryz.zeroValue9
  t46 := Tryz.underlying132
  a46 := Tryz.isAgg132
  z46 := Tryz.sizeOf132
  v46 := Tryz.zeroValue132
  t51 := Tryz.underlying167
  a51 := Tryz.isAgg167
  z51 := Tryz.sizeOf167
  v51 := Tryz.zeroValue167
  t146 := Tryz.underlying181
  a146 := Tryz.isAgg181
  z146 := Tryz.sizeOf181
  v146 := Tryz.zeroValue181
  g1 := by kernel_rfl }
open Go.RowKit Go.Lib in
theorem Tryz.strings_Contains_one (s : ByteArray) (c : UInt8) (w : World) :
    Calls Tryz.prog 92 #[.string s, .string ⟨#[c]⟩] w fun e w' => e = .returned (.bool (decide (0 ≤ Lib.indexByte s.data.toList c))) ∧ w' = w := Any.strings_Contains_one Tryz.lays144 s c w
open Go.RowKit Go.Lib in
theorem Tryz.strings_Contains (s sub : ByteArray) (m : Int) (w : World) (hs : s.size < 4294967281) (hm : w.cell? ⟨1, 0, none⟩ = some (.int .i64 m)) :
    Calls Tryz.prog 92 #[.string s, .string sub] w fun e w' => e = .returned (.bool (Lib.contains s.data.toList sub.data.toList)) ∧ w' = w := Any.strings_Contains Tryz.lays144 s sub m w hs hm
def Tryz.lays189_ren : Go.Shelf.Ren := ⟨fun | 189 => 73 | 125 => 91 | 257 => 90 | 128 => 106 | 129 => 107 | 294 => 97 | 295 => 98 | 296 => 99 | 297 => 100 | 298 => 101 | 299 => 102 | 216 => 103 | 300 => 104 | 301 => 105 | 328 => 111 | 329 => 112 | 330 => 113 | 331 => 114 | 332 => 115 | 215 => 116 | 343 => 120 | n => n, fun | 28 => 29 | 3 => 3 | 46 => 132 | 0 => 0 | 51 => 167 | 53 => 169 | 4 => 4 | 183 => 161 | 182 => 160 | 131 => 143 | 5 => 5 | 9 => 9 | 218 => 171 | 222 => 175 | 228 => 177 | 229 => 71 | n => n, fun | n => n⟩
theorem Tryz.lays189 : Go.Proofs.Lays.n189 Tryz.prog Tryz.lays189_ren := {
  mixed := by kernel_rfl
  f125 := Tryz.func91.trans (congrArg some (by kernel_rfl))
  f128 := Tryz.func106.trans (congrArg some (by kernel_rfl))
  f129 := Tryz.func107.trans (congrArg some (by kernel_rfl))
  f189 := Tryz.func73.trans (congrArg some (by kernel_rfl))
  f215 := Tryz.func116.trans (congrArg some (by kernel_rfl))
  f216 := Tryz.func103.trans (congrArg some (by kernel_rfl))
  f257 := Tryz.func90.trans (congrArg some (by kernel_rfl))
  f294 := Tryz.func97.trans (congrArg some (by kernel_rfl))
  f295 := Tryz.func98.trans (congrArg some (by kernel_rfl))
  f296 := Tryz.func99.trans (congrArg some (by kernel_rfl))
  f297 := Tryz.func100.trans (congrArg some (by kernel_rfl))
  f298 := Tryz.func101.trans (congrArg some (by kernel_rfl))
  f299 := Tryz.func102.trans (congrArg some (by kernel_rfl))
  f300 := Tryz.func104.trans (congrArg some (by kernel_rfl))
  f301 := Tryz.func105.trans (congrArg some (by kernel_rfl))
  f328 := Tryz.func111.trans (congrArg some (by kernel_rfl))
  f329 := Tryz.func112.trans (congrArg some (by kernel_rfl))
  f330 := Tryz.func113.trans (congrArg some (by kernel_rfl))
  f331 := Tryz.func114.trans (congrArg some (by kernel_rfl))
  f332 := Tryz.func115.trans (congrArg some (by kernel_rfl))
  f343 := Tryz.func120.trans (congrArg some (by kernel_rfl))
  t0 := Tryz.underlying0
  a0 := Tryz.isAgg0
  z0 := Tryz.sizeOf0
  v0 := Tryz.zeroValue0
  t3 := Tryz.underlying3
  a3 := Tryz.isAgg3
  z3 := Tryz.sizeOf3
  v3 := Tryz.zeroValue3
  t4 := Tryz.underlying4
  a4 := Tryz.isAgg4
  z4 := Tryz.sizeOf4
  v4 := Tryz.zeroValue4
  t5 := Tryz.underlying5
  a5 := Tryz.isAgg5
  z5 := Tryz.sizeOf5
  v5 := Tryz.zeroValue5
  t9 := Tryz.underlying9
  a9 := Tryz.isAgg9
  z9 := Tryz.sizeOf9
  v9 := Tryz.zeroValue9
  t28 := Tryz.underlying29
  a28 := Tryz.isAgg29
  z28 := Tryz.sizeOf29
  v28 := Tryz.zeroValue29
  t46 := Tryz.underlying132
  a46 := Tryz.isAgg132
  z46 := Tryz.sizeOf132
  v46 := Tryz.zeroValue132
  t51 := Tryz.underlying167
  a51 := Tryz.isAgg167
  z51 := Tryz.sizeOf167
  v51 := Tryz.zeroValue167
  t53 := Tryz.underlying169
  a53 := Tryz.isAgg169
  z53 := Tryz.sizeOf169
  v53 := Tryz.zeroValue169
  t131 := Tryz.underlying143
  a131 := Tryz.isAgg143
  z131 := Tryz.sizeOf143
  v131 := Tryz.zeroValue143
  t182 := Tryz.underlying160
  a182 := Tryz.isAgg160
  z182 := Tryz.sizeOf160
  v182 := Tryz.zeroValue160
  t183 := Tryz.underlying161
  a183 := Tryz.isAgg161
  z183 := Tryz.sizeOf161
  v183 := Tryz.zeroValue161
  t218 := Tryz.underlying171
  a218 := Tryz.isAgg171
  z218 := Tryz.sizeOf171
  v218 := Tryz.zeroValue171
  t222 := Tryz.underlying175
  a222 := Tryz.isAgg175
  z222 := Tryz.sizeOf175
  v222 := Tryz.zeroValue175
  t228 := Tryz.underlying177
  a228 := Tryz.isAgg177
  z228 := Tryz.sizeOf177
  v228 := Tryz.zeroValue177
  t229 := Tryz.underlying71
  a229 := Tryz.isAgg71
  z229 := Tryz.sizeOf71
  v229 := Tryz.zeroValue71 }
open Go.Sort Go.RowKit in
theorem Tryz.slices_Sort_int (blk off cap : Nat) (zs : List Int) (w : World) (hH : Holds (Value.int .i64) w blk off zs.toArray) (hblk : blk < w.heap.size) (hsz : zs.length < 4611686018427387904) :
    Calls Tryz.prog 73 #[.slice (some ⟨blk, off, none⟩) zs.length cap] w fun e w' =>
      e = .returned (.tuple #[]) ∧ ∃ n os, w' = grow (putRow (Value.int .i64) (Sort.ahead w n) blk off (zs.mergeSort fun x y => decide (x ≤ y)).toArray) os := Any.slices_Sort_int Tryz.lays189 blk off cap zs w hH hblk hsz
def Tryz.lays107_ren : Go.Shelf.Ren := ⟨fun | 107 => 70 | 108 => 89 | n => n, fun | 28 => 29 | 3 => 3 | 4 => 4 | 0 => 0 | n => n, fun | n => n⟩
theorem Tryz.lays107 : Go.Proofs.Lays.n107 Tryz.prog Tryz.lays107_ren := {
  mixed := by kernel_rfl
  f107 := Tryz.func70.trans (congrArg some (by kernel_rfl))
  f108 := Tryz.func89.trans (congrArg some (by kernel_rfl))
  t0 := Tryz.underlying0
  a0 := Tryz.isAgg0
  z0 := Tryz.sizeOf0
  v0 := Tryz.zeroValue0
  t3 := Tryz.underlying3
  a3 := Tryz.isAgg3
  z3 := Tryz.sizeOf3
  v3 := Tryz.zeroValue3
  t4 := Tryz.underlying4
  a4 := Tryz.isAgg4
  z4 := Tryz.sizeOf4
  v4 := Tryz.zeroValue4
  t28 := Tryz.underlying29
  a28 := Tryz.isAgg29
  z28 := Tryz.sizeOf29
  v28 := Tryz.zeroValue29 }
open Go.Lib in
theorem Tryz.slices_Contains_int (b off n c : Nat) (zs : List Int) (x : Int) (w : World) (hz : n ≤ zs.length) (hbig : n ≤ 9223372036854775807) (hc : ∀ j, j < zs.length → w.cell? ⟨b, off + j, none⟩ = some (.int .i64 (zs.getD j 0))) :
    Calls Tryz.prog 70 #[.slice (some ⟨b, off, none⟩) n c, .int .i64 x] w fun e w' => e = .returned (.bool ((zs.take n).contains x)) ∧ w' = w := Any.slices_Contains_int Tryz.lays107 b off n c zs x w hz hbig hc
open Go.Lib in
theorem Tryz.slices_Contains_int_empty (a : Option Addr) (c : Nat) (x : Int) (w : World) :
    Calls Tryz.prog 70 #[.slice a 0 c, .int .i64 x] w fun e w' => e = .returned (.bool false) ∧ w' = w := Any.slices_Contains_int_empty Tryz.lays107 a c x w
def Tryz.laysNm220_ren : Go.Shelf.Ren := ⟨fun | 20 => 74 | n => n, fun | 22 => 29 | 3 => 3 | 4 => 4 | 0 => 0 | n => n, fun | n => n⟩
theorem Tryz.laysNm220 : Go.Proofs.Lays2.n20 Tryz.prog Tryz.laysNm220_ren := {
  mixed := by kernel_rfl
  f20 := Tryz.func74.trans (congrArg some (by kernel_rfl))
  t0 := Tryz.underlying0
  a0 := Tryz.isAgg0
  z0 := Tryz.sizeOf0
  v0 := Tryz.zeroValue0
  t3 := Tryz.underlying3
  a3 := Tryz.isAgg3
  z3 := Tryz.sizeOf3
  v3 := Tryz.zeroValue3
  t4 := Tryz.underlying4
  a4 := Tryz.isAgg4
  z4 := Tryz.sizeOf4
  v4 := Tryz.zeroValue4
  t22 := Tryz.underlying29
  a22 := Tryz.isAgg29
  z22 := Tryz.sizeOf29
  v22 := Tryz.zeroValue29
  i3 := by kernel_rfl }
open Go.RowKit Go.Lib Go.Sort in
theorem Tryz.slices_Compact_int (blk off cap : Nat) (zs : List Int) (w : World) (hH : Holds (Value.int .i64) w blk off zs.toArray) (hsz : zs.length ≤ 9223372036854775807) (hcap : zs.length ≤ cap) :
    Calls Tryz.prog 74 #[.slice (some ⟨blk, off, none⟩) zs.length cap] w fun e w' => e = .returned (.slice (some ⟨blk, off, none⟩) (Lib.compact zs).length cap) ∧ ∃ q, w' = putRow (Value.int .i64) (Sort.ahead w q) blk off (Lib.compact zs ++ List.replicate (zs.length - (Lib.compact zs).length) 0).toArray := Any.slices_Compact_int Tryz.laysNm220 blk off cap zs w hH hsz hcap
open Go.RowKit Go.Lib Go.Sort in
theorem Tryz.slices_Compact_int_empty (a : Option Addr) (cap : Nat) (w : World) :
    Calls Tryz.prog 74 #[.slice a 0 cap] w fun e w' => e = .returned (.slice a 0 cap) ∧ w' = w := Any.slices_Compact_int_empty Tryz.laysNm220 a cap w
open Go.RowKit Go.Sort in
theorem Tryz.slices_Sort_int_none (p : Option Addr) (cap : Nat) (w : World) :
    Calls Tryz.prog 73 #[.slice p 0 cap] w fun e w' => e = .returned (.tuple #[]) ∧ w' = w := Any.slices_Sort_int_none Tryz.lays189 p cap w

end Go.Proofs

namespace Go.Proofs.YtgdnlmaacnnfiaaGreatDoor
namespace Rx

/-- A Rex: its Kids, and what else it bears. -/
def nd (op c : Nat) (set : List UInt8) (no : Bool) (kids : List Data) : Data :=
  .slice kids [.lit (.int .i64 op), .lit (.int .i64 c), .lit (.string set), .lit (.bool no)]

theorem nd_inj {op c op' c' : Nat} {s s' : List UInt8} {n n' : Bool} {k k' : List Data} (h : nd op c s n k = nd op' c' s' n' k') : op = op' ∧ c = c' ∧ s = s' ∧ n = n' ∧ k = k' := by
  simp only [nd, Data.slice.injEq, List.cons.injEq, Data.lit.injEq, Lit.int.injEq, Lit.string.injEq, Lit.bool.injEq, true_and, and_true] at h
  exact ⟨by omega, by omega, h.2.2.2.1, h.2.2.2.2, h.1⟩

def leaf (op : Nat) : Data := nd op 0 [] false []
def chr (b : Nat) : Data := nd 1 b [] false []
def one (op : Nat) (t : Data) : Data := nd op 0 [] false [t]
def catOf (ts : List Data) : Data := match ts with
  | [] => leaf 11
  | [t] => t
  | ts => nd 6 0 [] false ts
def orOf (ts : List Data) : Data := match ts with
  | [t] => t
  | ts => nd 7 0 [] false ts

def bytesOf (M : Nat → Bool) : List UInt8 := ((List.range 256).filter M).map UInt8.ofNat
def spanOn (M : Nat → Bool) (lo hi : Nat) : Nat → Bool := fun b => M b || (decide (lo ≤ b) && decide (b ≤ hi))
def setOf (M : Nat → Bool) (no : Bool) : Data := nd 3 0 (bytesOf M) no []

def setLoop (g : Nat → Nat) : Nat → Nat → (Nat → Bool) → Option ((Nat → Bool) × Nat)
  | 0, _, _ => none
  | f + 1, i, M =>
    if g i = 256 then none
    else if g i = 93 then some (M, i + 1)
    else if g (i + 1) = 45 ∧ g (i + 2) ≠ 93 then
      if g (i + 2) = 256 ∨ g (i + 2) < g i then none else setLoop g f (i + 3) (spanOn M (g i) (g (i + 2)))
    else setLoop g f (i + 1) (spanOn M (g i) (g i))

def setEnd (no : Bool) (r : Option ((Nat → Bool) × Nat)) : Option (Data × Nat) := match r with
  | none => none
  | some (M, k) => if bytesOf M = [] then none else some (setOf M no, k)

def setAt (g : Nat → Nat) (N i : Nat) : Option (Data × Nat) :=
  setEnd (decide (g i = 94)) (setLoop g (N + 1) (if g i = 94 then i + 1 else i) (fun _ => false))

def shut (g : Nat → Nat) (r : Option (Data × Nat)) : Option (Data × Nat) := match r with
  | none => none
  | some (t, j) => if g j = 41 then some (t, j + 1) else none

def atomAt (g : Nat → Nat) (N : Nat) (F : Nat → Option (Data × Nat)) (i : Nat) : Option (Data × Nat) :=
  if g i = 256 then none
  else if g i = 40 then shut g (F (i + 1))
  else if g i = 46 then some (leaf 2, i + 1)
  else if g i = 94 then some (leaf 4, i + 1)
  else if g i = 36 then some (leaf 5, i + 1)
  else if g i = 91 then setAt g N (i + 1)
  else if g i = 92 then (if g (i + 1) = 256 then none else some (chr (g (i + 1)), i + 2))
  else if g i = 42 ∨ g i = 43 ∨ g i = 63 then none
  else some (chr (g i), i + 1)

def stars (g : Nat → Nat) : Nat → Data → Nat → Data × Nat
  | 0, t, i => (t, i)
  | f + 1, t, i =>
    if g i = 42 then stars g f (one 8 t) (i + 1)
    else if g i = 43 then stars g f (one 9 t) (i + 1)
    else if g i = 63 then stars g f (one 10 t) (i + 1)
    else (t, i)

def pieceAt (g : Nat → Nat) (N : Nat) (A : Nat → Option (Data × Nat)) (i : Nat) : Option (Data × Nat) := match A i with
  | none => none
  | some (t, j) => some (stars g (N + 1) t j)

def partLoop (g : Nat → Nat) (N : Nat) (A : Nat → Option (Data × Nat)) : Nat → Nat → List Data → Option (List Data × Nat)
  | 0, _, _ => none
  | f + 1, i, ts =>
    if g i = 256 ∨ g i = 124 ∨ g i = 41 then some (ts, i)
    else match pieceAt g N A i with
      | none => none
      | some (t, j) => partLoop g N A f j (ts ++ [t])

def partEnd (r : Option (List Data × Nat)) : Option (Data × Nat) := match r with
  | none => none
  | some (ts, j) => some (catOf ts, j)

def partAt (g : Nat → Nat) (N : Nat) (A : Nat → Option (Data × Nat)) (i : Nat) : Option (Data × Nat) := partEnd (partLoop g N A (N + 1) i [])

def patLoop (g : Nat → Nat) (N : Nat) (A : Nat → Option (Data × Nat)) : Nat → Nat → List Data → Option (List Data × Nat)
  | 0, _, _ => none
  | f + 1, i, ts =>
    if g i = 124 then match partAt g N A (i + 1) with
      | none => none
      | some (t, j) => patLoop g N A f j (ts ++ [t])
    else some (ts, i)

def patEnd (r : Option (List Data × Nat)) : Option (Data × Nat) := match r with
  | none => none
  | some (ts, j) => some (orOf ts, j)

def patAt (g : Nat → Nat) (N : Nat) (A : Nat → Option (Data × Nat)) (i : Nat) : Option (Data × Nat) := match partAt g N A i with
  | none => none
  | some (t, j) => patEnd (patLoop g N A (N + 1) j [t])

/-- Atoms with brackets at most so deep. -/
def atomN (g : Nat → Nat) (N : Nat) : Nat → Nat → Option (Data × Nat)
  | 0 => fun _ => none
  | n + 1 => atomAt g N (patAt g N (atomN g N n))

def patN (g : Nat → Nat) (N n : Nat) : Nat → Option (Data × Nat) := patAt g N (atomN g N n)

mutual
def dep : Data → Nat
  | .slice ks _ => deps ks + 1
  | _ => 1
def deps : List Data → Nat
  | [] => 0
  | t :: ts => max (dep t) (deps ts)
end

def wholeV (g : Nat → Nat) (N n : Nat) : Option Data := match patN g N n 0 with
  | none => none
  | some (t, j) => if j = N ∧ dep t ≤ 12 then some t else none

/-! where a reading ends -/

section
variable {g : Nat → Nat} {N : Nat}

theorem lt_of_some (hg : ∀ i, N ≤ i → g i = 256) {i : Nat} (h : g i ≠ 256) : i < N := by
  rcases Nat.lt_or_ge i N with h1 | h1
  · exact h1
  · exact absurd (hg i h1) h

theorem setLoop_in (hg : ∀ i, N ≤ i → g i = 256) : ∀ (f i : Nat) (M M' : Nat → Bool) (k : Nat), setLoop g f i M = some (M', k) → i < k ∧ k ≤ N := by
  intro f
  induction f with
  | zero => intro i M M' k h; simp [setLoop] at h
  | succ f ih =>
    intro i M M' k h
    rw [setLoop] at h
    split at h
    · simp at h
    rename_i h1
    have := lt_of_some hg h1
    split at h
    · simp at h
      omega
    split at h
    · split at h
      · simp at h
      · have := ih _ _ _ _ h; omega
    · have := ih _ _ _ _ h; omega

theorem setAt_in (hg : ∀ i, N ≤ i → g i = 256) {i k : Nat} {t : Data} (h : setAt g N i = some (t, k)) : i < k ∧ k ≤ N := by
  unfold setAt setEnd at h
  split at h
  · simp at h
  · rename_i M k' h1
    have := setLoop_in hg _ _ _ _ _ h1
    split at h
    · simp at h
    · simp at h
      split at this <;> omega

theorem atomAt_in (hg : ∀ i, N ≤ i → g i = 256) {F : Nat → Option (Data × Nat)} (hF : ∀ i t j, F i = some (t, j) → i ≤ j ∧ (i ≤ N → j ≤ N)) {i k : Nat} {t : Data} (h : atomAt g N F i = some (t, k)) : i < k ∧ k ≤ N := by
  unfold atomAt at h
  split at h
  · simp at h
  rename_i h1
  have h1 := lt_of_some hg h1
  split at h
  · unfold shut at h
    split at h
    · simp at h
    · rename_i t' j' h2
      have := hF _ _ _ h2
      split at h
      · rename_i h3
        have := lt_of_some hg (i := j') (by omega)
        simp at h
        omega
      · simp at h
  split at h
  · simp at h; omega
  split at h
  · simp at h; omega
  split at h
  · simp at h; omega
  split at h
  · have := setAt_in hg h; omega
  split at h
  · split at h
    · simp at h
    · rename_i h2
      have := lt_of_some hg h2
      simp at h; omega
  split at h
  · simp at h
  · simp at h; omega

theorem stars_in (hg : ∀ i, N ≤ i → g i = 256) : ∀ (f : Nat) (t : Data) (i : Nat), i ≤ (stars g f t i).2 ∧ (i ≤ N → (stars g f t i).2 ≤ N) := by
  intro f
  induction f with
  | zero => intro t i; simp [stars]
  | succ f ih =>
    intro t i
    rw [stars]
    have a := fun op => ih (one op t) (i + 1)
    have b : g i = 42 ∨ g i = 43 ∨ g i = 63 → i < N := fun h => lt_of_some hg (by omega)
    split
    · have := a 8; omega
    split
    · have := a 9; omega
    split
    · have := a 10; omega
    · exact ⟨Nat.le_refl _, id⟩

theorem pieceAt_in (hg : ∀ i, N ≤ i → g i = 256) {A : Nat → Option (Data × Nat)} (hA : ∀ i t j, A i = some (t, j) → i < j ∧ j ≤ N) {i j : Nat} {t : Data} (h : pieceAt g N A i = some (t, j)) : i < j ∧ j ≤ N := by
  unfold pieceAt at h
  split at h
  · simp at h
  · rename_i t' j' h1
    have := hA _ _ _ h1
    have := stars_in hg (N + 1) t' j'
    simp at h
    rw [h] at this
    simp at this
    omega

theorem partLoop_in (hg : ∀ i, N ≤ i → g i = 256) {A : Nat → Option (Data × Nat)} (hA : ∀ i t j, A i = some (t, j) → i < j ∧ j ≤ N) : ∀ (f i : Nat) (ts us : List Data) (j : Nat), partLoop g N A f i ts = some (us, j) → i ≤ j ∧ (i ≤ N → j ≤ N) := by
  intro f
  induction f with
  | zero => intro i ts us j h; simp [partLoop] at h
  | succ f ih =>
    intro i ts us j h
    rw [partLoop] at h
    split at h
    · simp at h; omega
    split at h
    · simp at h
    · rename_i t j' h1
      have := pieceAt_in hg hA h1
      have := ih _ _ _ _ h
      omega

theorem partAt_in (hg : ∀ i, N ≤ i → g i = 256) {A : Nat → Option (Data × Nat)} (hA : ∀ i t j, A i = some (t, j) → i < j ∧ j ≤ N) {i j : Nat} {t : Data} (h : partAt g N A i = some (t, j)) : i ≤ j ∧ (i ≤ N → j ≤ N) := by
  unfold partAt partEnd at h
  split at h
  · simp at h
  · rename_i ts j' h1
    have := partLoop_in hg hA _ _ _ _ _ h1
    simp at h
    omega

theorem patLoop_in (hg : ∀ i, N ≤ i → g i = 256) {A : Nat → Option (Data × Nat)} (hA : ∀ i t j, A i = some (t, j) → i < j ∧ j ≤ N) : ∀ (f i : Nat) (ts us : List Data) (j : Nat), patLoop g N A f i ts = some (us, j) → i ≤ j ∧ (i ≤ N → j ≤ N) := by
  intro f
  induction f with
  | zero => intro i ts us j h; simp [patLoop] at h
  | succ f ih =>
    intro i ts us j h
    rw [patLoop] at h
    split at h
    · rename_i h0
      have := lt_of_some hg (i := i) (by omega)
      split at h
      · simp at h
      · rename_i t j' h1
        have := partAt_in hg hA h1
        have := ih _ _ _ _ h
        omega
    · simp at h; omega

theorem patAt_in (hg : ∀ i, N ≤ i → g i = 256) {A : Nat → Option (Data × Nat)} (hA : ∀ i t j, A i = some (t, j) → i < j ∧ j ≤ N) {i j : Nat} {t : Data} (h : patAt g N A i = some (t, j)) : i ≤ j ∧ (i ≤ N → j ≤ N) := by
  unfold patAt patEnd at h
  split at h
  · simp at h
  · rename_i t' j' h1
    have := partAt_in hg hA h1
    split at h
    · simp at h
    · rename_i us k h2
      have := patLoop_in hg hA _ _ _ _ _ h2
      simp at h
      omega

theorem atomN_in (hg : ∀ i, N ≤ i → g i = 256) : ∀ (n i : Nat) (t : Data) (j : Nat), atomN g N n i = some (t, j) → i < j ∧ j ≤ N := by
  intro n
  induction n with
  | zero => intro i t j h; simp [atomN] at h
  | succ n ih =>
    intro i t j h
    rw [atomN] at h
    exact atomAt_in hg (fun _ _ _ h => patAt_in hg ih h) h

theorem patN_in (hg : ∀ i, N ≤ i → g i = 256) {n i j : Nat} {t : Data} (h : patN g N n i = some (t, j)) : i ≤ j ∧ (i ≤ N → j ≤ N) := patAt_in hg (atomN_in hg n) h

/-! what is read within brackets of one depth is read within more, and within as many as there is room for -/

theorem piece_agree (hg : ∀ i, N ≤ i → g i = 256) {A A' : Nat → Option (Data × Nat)} {a b : Nat} (hAA : ∀ i t j, a ≤ i → j ≤ b → A i = some (t, j) → A' i = some (t, j))
    {i j : Nat} {t : Data} (hi : a ≤ i) (hj : j ≤ b) (h : pieceAt g N A i = some (t, j)) : pieceAt g N A' i = some (t, j) := by
  unfold pieceAt at h ⊢
  split at h
  · simp at h
  · rename_i t' j' h1
    have := stars_in hg (N + 1) t' j'
    simp at h
    rw [h] at this
    simp at this
    rw [hAA _ _ _ hi (by omega) h1]
    simp [h]

theorem partLoop_agree (hg : ∀ i, N ≤ i → g i = 256) {A A' : Nat → Option (Data × Nat)} {a b : Nat} (hA : ∀ i t j, A i = some (t, j) → i < j ∧ j ≤ N) (hAA : ∀ i t j, a ≤ i → j ≤ b → A i = some (t, j) → A' i = some (t, j)) :
    ∀ (f i : Nat) (ts us : List Data) (j : Nat), a ≤ i → j ≤ b → partLoop g N A f i ts = some (us, j) → partLoop g N A' f i ts = some (us, j) := by
  intro f
  induction f with
  | zero => intro i ts us j _ _ h; simp [partLoop] at h
  | succ f ih =>
    intro i ts us j hi hj h
    rw [partLoop] at h ⊢
    split at h
    · rename_i h0
      rw [if_pos h0]; exact h
    · rename_i h0
      rw [if_neg h0]
      split at h
      · simp at h
      · rename_i t j' h1
        have := pieceAt_in hg hA h1
        have := partLoop_in hg hA _ _ _ _ _ h
        rw [piece_agree hg hAA hi (by omega) h1]
        exact ih _ _ _ _ (by omega) hj h

theorem part_agree (hg : ∀ i, N ≤ i → g i = 256) {A A' : Nat → Option (Data × Nat)} {a b : Nat} (hA : ∀ i t j, A i = some (t, j) → i < j ∧ j ≤ N) (hAA : ∀ i t j, a ≤ i → j ≤ b → A i = some (t, j) → A' i = some (t, j))
    {i j : Nat} {t : Data} (hi : a ≤ i) (hj : j ≤ b) (h : partAt g N A i = some (t, j)) : partAt g N A' i = some (t, j) := by
  unfold partAt partEnd at h ⊢
  split at h
  · simp at h
  · rename_i ts j' h1
    simp at h
    rw [partLoop_agree hg hA hAA _ _ _ _ _ hi (by omega) h1]
    simp [h]

theorem patLoop_agree (hg : ∀ i, N ≤ i → g i = 256) {A A' : Nat → Option (Data × Nat)} {a b : Nat} (hA : ∀ i t j, A i = some (t, j) → i < j ∧ j ≤ N) (hAA : ∀ i t j, a ≤ i → j ≤ b → A i = some (t, j) → A' i = some (t, j)) :
    ∀ (f i : Nat) (ts us : List Data) (j : Nat), a ≤ i → j ≤ b → patLoop g N A f i ts = some (us, j) → patLoop g N A' f i ts = some (us, j) := by
  intro f
  induction f with
  | zero => intro i ts us j _ _ h; simp [patLoop] at h
  | succ f ih =>
    intro i ts us j hi hj h
    rw [patLoop] at h ⊢
    split at h
    · rename_i h0
      rw [if_pos h0]
      split at h
      · simp at h
      · rename_i t j' h1
        have := partAt_in hg hA h1
        have := patLoop_in hg hA _ _ _ _ _ h
        rw [part_agree hg hA hAA (by omega) (by omega) h1]
        exact ih _ _ _ _ (by omega) hj h
    · rename_i h0
      rw [if_neg h0]; exact h

theorem pat_agree (hg : ∀ i, N ≤ i → g i = 256) {A A' : Nat → Option (Data × Nat)} {a b : Nat} (hA : ∀ i t j, A i = some (t, j) → i < j ∧ j ≤ N) (hAA : ∀ i t j, a ≤ i → j ≤ b → A i = some (t, j) → A' i = some (t, j))
    {i j : Nat} {t : Data} (hi : a ≤ i) (hj : j ≤ b) (h : patAt g N A i = some (t, j)) : patAt g N A' i = some (t, j) := by
  unfold patAt patEnd at h ⊢
  split at h
  · simp at h
  · rename_i t' j' h1
    have := partAt_in hg hA h1
    split at h
    · simp at h
    · rename_i us k h2
      have := patLoop_in hg hA _ _ _ _ _ h2
      simp at h
      rw [part_agree hg hA hAA hi (by omega) h1]
      simp only
      rw [patLoop_agree hg hA hAA _ _ _ _ _ (by omega) (by omega) h2]
      simp [h]

theorem atom_agree (hg : ∀ i, N ≤ i → g i = 256) : ∀ (m n i : Nat) (t : Data) (j : Nat), j ≤ i + 2 * n → atomN g N m i = some (t, j) → 0 < n → atomN g N n i = some (t, j) := by
  intro m
  induction m with
  | zero => intro n i t j _ h; simp [atomN] at h
  | succ m ih =>
    intro n i t j hj h hn
    obtain ⟨n, rfl⟩ : ∃ k, n = k + 1 := ⟨n - 1, by omega⟩
    rw [atomN] at h ⊢
    unfold atomAt at h ⊢
    split at h
    · simp at h
    rename_i h0
    rw [if_neg h0]
    split at h
    · rename_i h1
      rw [if_pos h1]
      unfold shut at h ⊢
      split at h
      · simp at h
      · rename_i t' j' h2
        split at h
        · rename_i h3
          simp at h
          have h4 : patAt g N (atomN g N n) (i + 1) = some (t', j') := by
            rcases Nat.eq_zero_or_pos n with h5 | h5
            · subst h5
              have := patAt_in hg (atomN_in hg m) h2
              refine pat_agree hg (a := i + 1) (b := j') (atomN_in hg m) (fun i2 t2 j2 a1 a2 a3 => ?_) (Nat.le_refl _) (Nat.le_refl _) h2
              have := atomN_in hg m _ _ _ a3
              omega
            · refine pat_agree hg (a := i + 1) (b := j') (atomN_in hg m) (fun i2 t2 j2 a1 a2 a3 => ?_) (Nat.le_refl _) (Nat.le_refl _) h2
              exact ih n i2 t2 j2 (by omega) a3 h5
          rw [h4]
          simp only
          rw [if_pos h3]
          simp [h]
        · simp at h
    · rename_i h1
      rw [if_neg h1]
      exact h

theorem patN_agree (hg : ∀ i, N ≤ i → g i = 256) {m n i j : Nat} {t : Data} (hn : 0 < n) (hj : j ≤ i + 2 * n) (h : patN g N m i = some (t, j)) : patN g N n i = some (t, j) :=
  pat_agree hg (a := i) (b := j) (atomN_in hg m) (fun i2 t2 j2 a1 a2 a3 => atom_agree hg m n i2 t2 j2 (by omega) a3 hn) (Nat.le_refl _) (Nat.le_refl _) h

theorem whole_agree (hg : ∀ i, N ≤ i → g i = 256) {m n : Nat} (hm : 0 < m) (hn : 0 < n) (hNm : N ≤ 2 * m) (hNn : N ≤ 2 * n) : wholeV g N m = wholeV g N n := by
  have key : ∀ {m n : Nat}, 0 < n → N ≤ 2 * n → ∀ t, wholeV g N m = some t → wholeV g N n = some t := by
    intro m n hn hN t h
    unfold wholeV at h ⊢
    split at h
    · simp at h
    · rename_i t' j h1
      split at h
      · rename_i h2
        rw [patN_agree hg hn (by omega) h1]
        simp only
        rw [if_pos h2]
        exact h
      · simp at h
  cases h : wholeV g N m with
  | some t => exact (key hn hNn t h).symm
  | none =>
    cases h2 : wholeV g N n with
    | none => rfl
    | some t => rw [key hm hNm t h2] at h; simp at h

end

end Rx
end Go.Proofs.YtgdnlmaacnnfiaaGreatDoor

