/-
  What may be told of a program: tidy trees, as plain functions.
-/
import Derived.Test.YtipjgkekjocljabNdMath
import Derived.Test.YtipjgkekjocljabDecMath
namespace Go.Proofs.Ytipjgkekjocljab
namespace Ty
open Nd

def opOf : Data → Int
  | .slice _ (.lit (.int _ op) :: _) => op
  | _ => 0
def numOf : Data → Int
  | .slice _ (_ :: .lit (.int _ n) :: _) => n
  | _ => 0
def txtOf : Data → List UInt8
  | .slice _ (_ :: _ :: .lit (.string s) :: _) => s
  | _ => []
theorem op_nd (op n : Int) (s : List UInt8) (ks : List Data) : opOf (nd op n s ks) = op := rfl
theorem num_nd (op n : Int) (s : List UInt8) (ks : List Data) : numOf (nd op n s ks) = n := rfl
theorem txt_nd (op n : Int) (s : List UInt8) (ks : List Data) : txtOf (nd op n s ks) = s := rfl

def letB (b : Nat) : Bool := (decide (97 ≤ b) && decide (b ≤ 122)) || (decide (65 ≤ b) && decide (b ≤ 90))
def orderL : List (List UInt8) := [[66, 69, 71, 73, 78], [112, 114, 105, 110, 116], [105, 102], [101, 108, 115, 101], [119, 104, 105, 108, 101], [110, 101, 120, 116], [100, 101, 108, 101, 116, 101]]
def callL : List (List UInt8) := [[108, 101, 110, 103, 116, 104], [115, 117, 98, 115, 116, 114], [105, 110, 100, 101, 120], [105, 110, 116], [117, 112, 112, 101, 114], [108, 111, 119, 101, 114]]
def ownL : List (List UInt8) := [[78, 82], [78, 70]]
def orderB (s : List UInt8) : Bool := decide (s ∈ orderL)
def callB (s : List UInt8) : Bool := decide (s ∈ callL)
def freeB (s : List UInt8) : Bool := !orderB s && !callB s && !decide (s = [78, 82]) && !decide (s = [78, 70])
def keyB (s : List UInt8) : Bool := decide (s ∈ orderL ++ ownL) || callB s
theorem key_free (s : List UInt8) : freeB s = !keyB s := by
  unfold freeB keyB orderB ownL
  generalize callB s = c
  by_cases h1 : s ∈ orderL <;> by_cases h2 : s = [78, 82] <;> by_cases h3 : s = [78, 70] <;> cases c <;> simp [List.mem_append, h1, h2, h3]
def lettersB (s : List UInt8) : Bool := s.all fun b => letB b.toNat
def nameB (s : List UInt8) : Bool := lettersB s && (decide (0 < s.length) && decide (s.length ≤ 8) && freeB s)
def lineB (s : List UInt8) : Bool := s.all fun b => decide (b.toNat ≠ 10)
def escB : List UInt8 → Bool
  | [] => true
  | [c] => decide (c.toNat ≠ 92)
  | c :: d :: r => if c.toNat = 92 then decide (d.toNat ≠ 47) && escB r else escB (d :: r)
def rexB (s : List UInt8) : Bool := escB s && lineB s

theorem line_cons (c : UInt8) (r : List UInt8) : lineB (c :: r) = (decide (c.toNat ≠ 10) && lineB r) := by simp [lineB]
theorem esc_one {c : UInt8} {r : List UInt8} (h : c.toNat ≠ 92) : escB (c :: r) = escB r := by
  cases r with
  | nil => simp [escB, h]
  | cons d r => rw [escB, if_neg h]
theorem esc_two {c d : UInt8} {r : List UInt8} (h : c.toNat = 92) : escB (c :: d :: r) = (decide (d.toNat ≠ 47) && escB r) := by rw [escB, if_pos h]
theorem esc_end {c : UInt8} (h : c.toNat = 92) : escB [c] = false := by simp [escB, h]

def wordB (op n : Int) (s : List UInt8) : Bool :=
  if op = 1 then decide (0 ≤ n) && Dec.okB n && decide (s = [])
  else decide (n = 0) && (if op = 2 then lineB s else if op = 3 then rexB s else if op = 4 ∨ op = 5 ∨ op = 34 then nameB s else if op = 28 then callB s else decide (s = []))

def eB (op : Int) : Bool := decide (1 ≤ op) && decide (op ≤ 28)
def stB (op : Int) : Bool := decide (29 ≤ op) && decide (op ≤ 35)
def blB (op : Int) : Bool := decide (op = 29)
def setB (op : Int) : Bool := decide (op = 4) || decide (op = 5)
/-- One for each, in order. -/
def justB : List (Int → Bool) → List Int → Bool
  | [], [] => true
  | p :: ps, x :: xs => p x && justB ps xs
  | _, _ => false
def kindB (op : Int) (ks : List Int) : Bool :=
  if op = 1 ∨ op = 2 ∨ op = 3 ∨ op = 4 ∨ op = 7 ∨ op = 8 ∨ op = 33 then justB [] ks
  else if op = 5 ∨ op = 6 ∨ op = 22 ∨ op = 23 ∨ op = 34 ∨ op = 35 then justB [eB] ks
  else if (9 ≤ op ∧ op ≤ 21) ∨ op = 24 ∨ op = 25 then justB [eB, eB] ks
  else if op = 26 ∨ op = 27 then justB [setB, eB] ks
  else if op = 28 ∨ op = 30 then ks.all eB
  else if op = 29 then ks.all stB
  else if op = 31 then justB [eB, blB] ks || justB [eB, blB, blB] ks
  else if op = 32 then justB [eB, blB] ks
  else false
def nodeB (t : Data) : Bool := wordB (opOf t) (numOf t) (txtOf t) && kindB (opOf t) ((kidsOf t).map opOf)

mutual
def allB : Data → Bool
  | .slice ks lab => nodeB (.slice ks lab) && allsB ks
  | _ => false
def allsB : List Data → Bool
  | [] => true
  | t :: ts => allB t && allsB ts
end
theorem all_nd (op n : Int) (s : List UInt8) (ks : List Data) : allB (nd op n s ks) = (nodeB (nd op n s ks) && allsB ks) := by
  unfold nd; rw [allB]
theorem alls_append : ∀ (us bs : List Data), allsB (us ++ bs) = (allsB us && allsB bs)
  | [], bs => by simp [allsB]
  | a :: us, bs => by simp only [List.cons_append, allsB, alls_append us bs, Bool.and_assoc]
theorem alls_all : ∀ ts : List Data, allsB ts = ts.all allB
  | [] => rfl
  | t :: ts => by simp [allsB, alls_all ts]

/-- Each a node. -/
def Nodes (ts : List Data) : Prop := ∀ t ∈ ts, ∃ op n s ks, t = nd op n s ks
theorem alls_below : ∀ {ts : List Data}, Nodes ts → allsB ts = (ts.all nodeB && allsB (below1 ts).flatten)
  | [], _ => by simp [allsB, below1]
  | t :: ts, h => by
    obtain ⟨op, n, s, ks, rfl⟩ := h t (by simp)
    have ih := alls_below (ts := ts) fun t ht => h t (by simp [ht])
    have h0 : allsB (if kidsOf (nd op n s ks) = [] then ([] : List (List Data)) else [kidsOf (nd op n s ks)]).flatten = allsB ks := by
      rw [kids_nd]
      split
      · rename_i e; rw [e]; simp
      · simp
    simp only [allsB, below1, List.flatten_append, alls_append, h0, ih, all_nd, List.all_cons]
    cases nodeB (nd op n s ks) <;> cases allsB ks <;> cases ts.all nodeB <;> simp

def treeB (t : Data) : Bool := decide (dep t ≤ 16) && allB t
def zeroB (t : Data) : Bool := decide (opOf t = 0) && decide (numOf t = 0) && decide (txtOf t = []) && decide (kidsOf t = [])

/-- A rule: its kind, what it asks, what it does. -/
abbrev Ru := Int × Data × Data
def ruleB (r : Ru) : Bool := (blB (opOf r.2.2) && treeB r.2.2) && (if r.1 = 1 ∨ r.1 = 2 then zeroB r.2.1 else if r.1 = 3 then eB (opOf r.2.1) && treeB r.2.1 else false)
def tidyB (rs : List Ru) : Bool := rs.all ruleB

end Ty
end Go.Proofs.Ytipjgkekjocljab
