/-
  The specification's CellGet; the program's cellsBeside.
-/
import Derived.Test.YtjlchfielpfehaaStCmp
import Derived.Test.YtjlchfielpfehaaStVal
import Derived.RangeFuncNested
import Derived.RangeFuncBox
import Derived.RangeFuncLeaves
import Derived.Shelf.AbstractIn
import Derived.Shelf.RegionOpen
import Derived.OwnWalkIn
import Derived.TacticsInMore
import Derived.LoopNIn
import Derived.LoopIn
namespace Go.Proofs.Ytjlchfielpfehaa
open Go.RowKit
namespace St
open Nd
attribute [local go_sem] Oper.semAt_some

def hit (n : Int) (k : ByteArray) (c : Cl) : Bool := decide (c.1 = n) && decide (c.2.1 = k)
def getC (n : Int) (k : ByteArray) (cs : List Cl) : Vl := ((cs.find? (hit n k)).map fun c => c.2.2).getD zeroV

/-- The cells that stand so to another one, each with its place. -/
def bes (n : Int) (k : ByteArray) (ord : Int) : Nat → List Cl → List (Cl × Nat)
  | _, [] => []
  | i, c :: cs => if cmpC c.1 c.2.1 n k = ord then (c, i) :: bes n k ord (i + 1) cs else bes n k ord (i + 1) cs
theorem bes_append (n : Int) (k : ByteArray) (ord : Int) : ∀ (i : Nat) (xs ys : List Cl), bes n k ord i (xs ++ ys) = bes n k ord i xs ++ bes n k ord (i + xs.length) ys
  | i, [], ys => by simp [bes]
  | i, c :: xs, ys => by
    rw [List.cons_append, bes, bes, bes_append n k ord (i + 1) xs ys, List.length_cons, show i + 1 + xs.length = i + (xs.length + 1) by omega]
    split <;> rfl
theorem bes_take {n : Int} {k : ByteArray} {ord : Int} {cs : List Cl} {j : Nat} {c : Cl} (h : cs[j]? = some c) : bes n k ord 0 (cs.take (j + 1)) = bes n k ord 0 (cs.take j) ++ (if cmpC c.1 c.2.1 n k = ord then [(c, j)] else []) := by
  have hj : j < cs.length := (List.getElem?_eq_some_iff.1 h).1
  have hl : (cs.take j).length = j := by simp; omega
  rw [List.take_add_one, h, bes_append, hl, Nat.zero_add]
  congr 1
theorem bes_part (n : Int) (k : ByteArray) (ord : Int) (cs : List Cl) (j : Nat) : bes n k ord 0 (cs.take j) <+: bes n k ord 0 cs := by
  refine ⟨bes n k ord (0 + (cs.take j).length) (cs.drop j), ?_⟩
  rw [← bes_append, List.take_append_drop]

def aggC (c : Cl) : Value := .agg #[.int .i64 c.1, .string c.2.1, .int .i64 c.2.2.1, .int .i64 c.2.2.2.1, .string c.2.2.2.2]
def encP (x : Cl × Nat) : Array Value := #[.int .i64 x.2, .agg #[.int .i64 x.1.1, .string x.1.2.1, .int .i64 x.1.2.2.1, .int .i64 x.1.2.2.2.1, .string x.1.2.2.2.2]]

theorem iBeside (ao : Option Addr) (len cap : Nat) (n : Int) (k : ByteArray) (ord : Int) (w : World) :
    Calls Try.prog 41 #[.slice ao len cap, .agg #[.int .i64 n, .string k, .int .i64 0, .int .i64 0, .string ⟨#[]⟩], .int .i64 ord] w fun e w' => e = .returned (.func (.func 55) #[] #[.pointer (some ⟨w.heap.size, 0, none⟩), .pointer (some ⟨w.heap.size + 1, 0, none⟩), .pointer (some ⟨w.heap.size + 1 + 1, 0, none⟩)]) ∧
      w' = ((w.alloc (.cells #[.slice ao len cap] 29)).alloc (.cells #[.int .i64 n, .string k, .int .i64 0, .int .i64 0, .string ⟨#[]⟩] 62)).alloc (.cells #[.int .i64 ord] 3) := by
  go_enter Try.func41, Try.ntmps41
  go_wp2_with fail
  go_ret
  exact ⟨rfl, rfl⟩

theorem abide {α : Type} {J : List α → World → Prop} {B : Nat} (hJ : AbidesFrom B J) {s : List α} {A A' : World} (h : J s A) (hb : Below A.heap.size A A') : J s A' :=
  hJ s A A' none h ⟨hb.os, hb.tape, hb.output, hb.size, fun k hk _ => hb.block k hk⟩ fun r e => by cases e

end St
end Go.Proofs.Ytjlchfielpfehaa
