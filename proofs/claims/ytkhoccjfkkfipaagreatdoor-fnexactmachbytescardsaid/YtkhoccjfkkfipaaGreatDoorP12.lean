/-
  Chapter 1 as plain functions on integers (millionths), and the arithmetic that the walks of DecMul and DecDiv need. Nothing of the program stands here.
  What may be told of a program: tidy trees, as plain functions.
  Places of a stack in plain words: the forms of their codes, what each asks.
-/
import Derived.WalkKit
import Derived.Test.YtkhoccjfkkfipaaGreatDoorP08
import Derived.Test.YtkhoccjfkkfipaaGreatDoorP01
import Derived.Maps.RangeWalk
import Derived.Maps.Views
import Derived.Sort.KeysCollected
namespace Go.Proofs.YtkhoccjfkkfipaaGreatDoor.Dec

def okB (n : Int) : Bool := decide (-9000000000000 ≤ n) && decide (n ≤ 9000000000000)
theorem okB_true {n : Int} (h1 : -9000000000000 ≤ n) (h2 : n ≤ 9000000000000) : okB n = true := by simp [okB, h1, h2]
theorem okB_false {n : Int} (h : n < -9000000000000 ∨ 9000000000000 < n) : okB n = false := by simp [okB]; omega
theorem of_okB {n : Int} (h : okB n = true) : -9000000000000 ≤ n ∧ n ≤ 9000000000000 := by simpa [okB] using h
theorem of_okB_false {n : Int} (h : okB n = false) : n < -9000000000000 ∨ 9000000000000 < n := by
  have : ¬ (-9000000000000 ≤ n ∧ n ≤ 9000000000000) := fun hh => by rw [okB_true hh.1 hh.2] at h; cases h
  omega

def addB (d e : Int) : Bool := okB d && okB e && okB (d + e)
def addV (d e : Int) : Int := if addB d e then d + e else 0
def subB (d e : Int) : Bool := okB d && okB e && okB (d - e)
def subV (d e : Int) : Int := if subB d e then d - e else 0
def mulB (d e : Int) : Bool := okB d && okB e && okB ((d * e).tdiv 1000000)
def mulV (d e : Int) : Int := if mulB d e then (d * e).tdiv 1000000 else 0
def divB (d e : Int) : Bool := okB d && okB e && !(e == 0) && okB ((d * 1000000).tdiv e)
def divV (d e : Int) : Int := if divB d e then (d * 1000000).tdiv e else 0

def absI (d : Int) : Int := if d < 0 then -d else d
theorem absI_neg {d : Int} (h : d < 0) : absI d = -d := by simp [absI, h]
theorem absI_pos {d : Int} (h : 0 ≤ d) : absI d = d := by simp [absI]; omega
theorem absI_nonneg (d : Int) : 0 ≤ absI d := by unfold absI; split <;> omega
theorem absI_le {d k : Int} (h1 : -k ≤ d) (h2 : d ≤ k) : absI d ≤ k := by unfold absI; split <;> omega
theorem absI_ne {d : Int} (h : d ≠ 0) : 0 < absI d := by unfold absI; split <;> omega
theorem absI_mul (d e : Int) : absI (d * e) = absI d * absI e := by
  rcases Int.lt_or_le d 0 with hd | hd <;> rcases Int.lt_or_le e 0 with he | he
  · have h := Int.mul_nonneg (a := -d) (b := -e) (by omega) (by omega)
    rw [Int.neg_mul_neg] at h
    rw [absI_neg hd, absI_neg he, absI_pos h, Int.neg_mul_neg]
  · rw [absI_neg hd, absI_pos he]
    have h : 0 ≤ (-d) * e := Int.mul_nonneg (by omega) he
    rw [Int.neg_mul] at h ⊢
    unfold absI; split <;> omega
  · rw [absI_pos hd, absI_neg he]
    have h : 0 ≤ d * (-e) := Int.mul_nonneg hd (by omega)
    rw [Int.mul_neg] at h ⊢
    unfold absI; split <;> omega
  · rw [absI_pos hd, absI_pos he, absI_pos (Int.mul_nonneg hd he)]
theorem absI_le_iff {d k : Int} (_ : 0 ≤ k) : absI d ≤ k ↔ -k ≤ d ∧ d ≤ k := by unfold absI; split <;> omega
theorem absI_tdiv (m : Int) (k : Int) (hk : 0 < k) : absI (m.tdiv k) = absI m / k := by
  rcases Int.lt_or_le m 0 with h | h
  · have e : m.tdiv k = -((-m) / k) := by
      have : m = -(-m) := by omega
      rw [this, Int.neg_tdiv, Int.tdiv_eq_ediv_of_nonneg (by omega)]; simp
    rw [e, absI_neg h]
    have : 0 ≤ (-m) / k := Int.ediv_nonneg (by omega) (by omega)
    unfold absI; split <;> omega
  · rw [Int.tdiv_eq_ediv_of_nonneg h, absI_pos h, absI_pos (Int.ediv_nonneg h (by omega))]

/-! The product. -/
theorem quo_iff {x y : Int} (hy : 0 < y) : x ≤ (9000000000000999999 : Int).tdiv y ↔ x * y ≤ 9000000000000999999 := by
  rw [Int.tdiv_eq_ediv_of_nonneg (by decide)]
  exact Int.le_ediv_iff_mul_le hy
theorem quo_bd {y : Int} (hy : 0 < y) : 0 ≤ (9000000000000999999 : Int).tdiv y ∧ (9000000000000999999 : Int).tdiv y ≤ 9000000000000999999 := by
  rw [Int.tdiv_eq_ediv_of_nonneg (by decide)]
  exact ⟨Int.ediv_nonneg (by decide) (by omega), Int.ediv_le_self _ (by decide)⟩
theorem prod_ok {d e : Int} (h : absI d * absI e ≤ 9000000000000999999) : okB ((d * e).tdiv 1000000) = true := by
  have h1 := absI_tdiv (d * e) 1000000 (by decide)
  rw [absI_mul] at h1
  have h2 : absI ((d * e).tdiv 1000000) ≤ 9000000000000 := by rw [h1]; omega
  obtain ⟨a, b⟩ := (absI_le_iff (by decide)).1 h2
  exact okB_true a b
theorem prod_bad {d e : Int} (h : 9000000000000999999 < absI d * absI e) : okB ((d * e).tdiv 1000000) = false := by
  have h1 := absI_tdiv (d * e) 1000000 (by decide)
  rw [absI_mul] at h1
  cases hb : okB ((d * e).tdiv 1000000) with
  | false => rfl
  | true =>
    obtain ⟨a, b⟩ := of_okB hb
    have h2 : absI ((d * e).tdiv 1000000) ≤ 9000000000000 := absI_le a b
    rw [h1] at h2
    omega
theorem prod_bd {d e : Int} (h : absI d * absI e ≤ 9000000000000999999) : -9000000000000999999 ≤ d * e ∧ d * e ≤ 9000000000000999999 := by
  rw [← absI_mul] at h
  exact (absI_le_iff (by decide)).1 h

/-! The product as the specification reckons it: x is the first amount, y the second. -/
theorem split_prod (x y : Int) : x * y = 1000000 * (x / 1000000 * y) + x % 1000000 * y := by
  have h := Int.mul_ediv_add_emod x 1000000
  have h2 : (1000000 * (x / 1000000) + x % 1000000) * y = x * y := by rw [h]
  rw [← h2, Int.add_mul, Int.mul_assoc]
theorem parts_quo (x y : Int) : x / 1000000 * y + x % 1000000 * y / 1000000 = x * y / 1000000 := by
  have h := split_prod x y
  omega
theorem whole_far {x y : Int} (hy : 0 < y) (h : 9000000000000 / y < x / 1000000) : 9000000000000999999 < x * y := by
  have h1 : 9000000000000 < x / 1000000 * y := Int.lt_mul_of_ediv_lt hy h
  have h2 := split_prod x y
  have h3 : 0 ≤ x % 1000000 * y := Int.mul_nonneg (Int.emod_nonneg _ (by decide)) (by omega)
  omega
theorem whole_near {x y : Int} (hy : 0 < y) (h : x / 1000000 ≤ 9000000000000 / y) : x / 1000000 * y ≤ 9000000000000 := (Int.le_ediv_iff_mul_le hy).1 h
theorem rest_bd {x y : Int} (hy : 0 ≤ y) (h : y ≤ 9000000000000) : 0 ≤ x % 1000000 * y ∧ x % 1000000 * y ≤ 8999991000000000000 := by
  have h0 := Int.emod_nonneg x (b := 1000000) (by decide)
  have h1 := Int.emod_lt_of_pos x (b := 1000000) (by decide)
  refine ⟨Int.mul_nonneg h0 hy, ?_⟩
  have : x % 1000000 * y ≤ 999999 * 9000000000000 := Int.mul_le_mul (by omega) h hy (by decide)
  omega
theorem tdiv_same {d e : Int} (h : d < 0 ↔ e < 0) : (d * e).tdiv 1000000 = absI d * absI e / 1000000 := by
  rw [← absI_mul]
  have : 0 ≤ d * e := by
    by_cases hd : d < 0
    · have he := h.1 hd
      have := Int.mul_nonneg (a := -d) (b := -e) (by omega) (by omega)
      rwa [Int.neg_mul_neg] at this
    · exact Int.mul_nonneg (by omega) (by have : ¬ e < 0 := fun he => hd (h.2 he); omega)
  rw [absI_pos this, Int.tdiv_eq_ediv_of_nonneg this]
theorem tdiv_other {d e : Int} (h : d < 0 ↔ 0 ≤ e) : (d * e).tdiv 1000000 = -(absI d * absI e / 1000000) := by
  rw [← absI_mul]
  have : 0 ≤ -(d * e) := by
    by_cases hd : d < 0
    · have he := h.1 hd
      have := Int.mul_nonneg (a := -d) (b := e) (by omega) he
      rwa [Int.neg_mul] at this
    · have he : ¬ 0 ≤ e := fun he => hd (h.2 he)
      have := Int.mul_nonneg (a := d) (b := -e) (by omega) (by omega)
      rwa [Int.mul_neg] at this
  have e1 : d * e = -(-(d * e)) := by omega
  have e2 : absI (d * e) = -(d * e) := by unfold absI; split <;> omega
  rw [e2]
  conv => lhs; rw [e1, Int.neg_tdiv, Int.tdiv_eq_ediv_of_nonneg this]

/-! The quotient. -/
theorem tdiv_bd {m e k : Int} (h1 : -k ≤ m) (h2 : m ≤ k) : -k ≤ m.tdiv e ∧ m.tdiv e ≤ k := by
  have h3 : (m.tdiv e).natAbs ≤ m.natAbs := by rw [Int.natAbs_tdiv]; exact Nat.div_le_self _ _
  omega

end Go.Proofs.YtkhoccjfkkfipaaGreatDoor.Dec
namespace Go.Proofs.YtkhoccjfkkfipaaGreatDoor
namespace Ty
open Nd

def opOf : Data → Int
  | .slice _ (.lit (.int _ op) :: _) => op
  | _ => 0
def numOf : Data → Int
  | .slice _ (_ :: .lit (.int _ n) :: _) => n
  | _ => 0
def txtOf : Data → List UInt8
  | .slice _ (_ :: _ :: .lit (.string s) :: _) => s
  | _ => []
theorem op_nd (op n : Int) (s : List UInt8) (ks : List Data) : opOf (nd op n s ks) = op := rfl
theorem num_nd (op n : Int) (s : List UInt8) (ks : List Data) : numOf (nd op n s ks) = n := rfl
theorem txt_nd (op n : Int) (s : List UInt8) (ks : List Data) : txtOf (nd op n s ks) = s := rfl

def letB (b : Nat) : Bool := (decide (97 ≤ b) && decide (b ≤ 122)) || (decide (65 ≤ b) && decide (b ≤ 90))
def orderL : List (List UInt8) := [[66, 69, 71, 73, 78], [112, 114, 105, 110, 116], [105, 102], [101, 108, 115, 101], [119, 104, 105, 108, 101], [110, 101, 120, 116], [100, 101, 108, 101, 116, 101]]
def callL : List (List UInt8) := [[108, 101, 110, 103, 116, 104], [115, 117, 98, 115, 116, 114], [105, 110, 100, 101, 120], [105, 110, 116], [117, 112, 112, 101, 114], [108, 111, 119, 101, 114]]
def ownL : List (List UInt8) := [[78, 82], [78, 70]]
def orderB (s : List UInt8) : Bool := decide (s ∈ orderL)
def callB (s : List UInt8) : Bool := decide (s ∈ callL)
def freeB (s : List UInt8) : Bool := !orderB s && !callB s && !decide (s = [78, 82]) && !decide (s = [78, 70])
def keyB (s : List UInt8) : Bool := decide (s ∈ orderL ++ ownL) || callB s
theorem key_free (s : List UInt8) : freeB s = !keyB s := by
  unfold freeB keyB orderB ownL
  generalize callB s = c
  by_cases h1 : s ∈ orderL <;> by_cases h2 : s = [78, 82] <;> by_cases h3 : s = [78, 70] <;> cases c <;> simp [List.mem_append, h1, h2, h3]
def lettersB (s : List UInt8) : Bool := s.all fun b => letB b.toNat
def nameB (s : List UInt8) : Bool := lettersB s && (decide (0 < s.length) && decide (s.length ≤ 8) && freeB s)
def lineB (s : List UInt8) : Bool := s.all fun b => decide (b.toNat ≠ 10)
def escB : List UInt8 → Bool
  | [] => true
  | [c] => decide (c.toNat ≠ 92)
  | c :: d :: r => if c.toNat = 92 then decide (d.toNat ≠ 47) && escB r else escB (d :: r)
def rexB (s : List UInt8) : Bool := escB s && lineB s

theorem line_cons (c : UInt8) (r : List UInt8) : lineB (c :: r) = (decide (c.toNat ≠ 10) && lineB r) := by simp [lineB]
theorem esc_one {c : UInt8} {r : List UInt8} (h : c.toNat ≠ 92) : escB (c :: r) = escB r := by
  cases r with
  | nil => simp [escB, h]
  | cons d r => rw [escB, if_neg h]
theorem esc_two {c d : UInt8} {r : List UInt8} (h : c.toNat = 92) : escB (c :: d :: r) = (decide (d.toNat ≠ 47) && escB r) := by rw [escB, if_pos h]
theorem esc_end {c : UInt8} (h : c.toNat = 92) : escB [c] = false := by simp [escB, h]

def wordB (op n : Int) (s : List UInt8) : Bool :=
  if op = 1 then decide (0 ≤ n) && Dec.okB n && decide (s = [])
  else decide (n = 0) && (if op = 2 then lineB s else if op = 3 then rexB s else if op = 4 ∨ op = 5 ∨ op = 34 then nameB s else if op = 28 then callB s else decide (s = []))

def eB (op : Int) : Bool := decide (1 ≤ op) && decide (op ≤ 28)
def stB (op : Int) : Bool := decide (29 ≤ op) && decide (op ≤ 35)
def blB (op : Int) : Bool := decide (op = 29)
def setB (op : Int) : Bool := decide (op = 4) || decide (op = 5)
/-- One for each, in order. -/
def justB : List (Int → Bool) → List Int → Bool
  | [], [] => true
  | p :: ps, x :: xs => p x && justB ps xs
  | _, _ => false
def kindB (op : Int) (ks : List Int) : Bool :=
  if op = 1 ∨ op = 2 ∨ op = 3 ∨ op = 4 ∨ op = 7 ∨ op = 8 ∨ op = 33 then justB [] ks
  else if op = 5 ∨ op = 6 ∨ op = 22 ∨ op = 23 ∨ op = 34 ∨ op = 35 then justB [eB] ks
  else if (9 ≤ op ∧ op ≤ 21) ∨ op = 24 ∨ op = 25 then justB [eB, eB] ks
  else if op = 26 ∨ op = 27 then justB [setB, eB] ks
  else if op = 28 ∨ op = 30 then ks.all eB
  else if op = 29 then ks.all stB
  else if op = 31 then justB [eB, blB] ks || justB [eB, blB, blB] ks
  else if op = 32 then justB [eB, blB] ks
  else false
def nodeB (t : Data) : Bool := wordB (opOf t) (numOf t) (txtOf t) && kindB (opOf t) ((kidsOf t).map opOf)

mutual
def allB : Data → Bool
  | .slice ks lab => nodeB (.slice ks lab) && allsB ks
  | _ => false
def allsB : List Data → Bool
  | [] => true
  | t :: ts => allB t && allsB ts
end
theorem all_nd (op n : Int) (s : List UInt8) (ks : List Data) : allB (nd op n s ks) = (nodeB (nd op n s ks) && allsB ks) := by
  unfold nd; rw [allB]
theorem alls_append : ∀ (us bs : List Data), allsB (us ++ bs) = (allsB us && allsB bs)
  | [], bs => by simp [allsB]
  | a :: us, bs => by simp only [List.cons_append, allsB, alls_append us bs, Bool.and_assoc]
theorem alls_all : ∀ ts : List Data, allsB ts = ts.all allB
  | [] => rfl
  | t :: ts => by simp [allsB, alls_all ts]

/-- Each a node. -/
def Nodes (ts : List Data) : Prop := ∀ t ∈ ts, ∃ op n s ks, t = nd op n s ks
theorem alls_below : ∀ {ts : List Data}, Nodes ts → allsB ts = (ts.all nodeB && allsB (below1 ts).flatten)
  | [], _ => by simp [allsB, below1]
  | t :: ts, h => by
    obtain ⟨op, n, s, ks, rfl⟩ := h t (by simp)
    have ih := alls_below (ts := ts) fun t ht => h t (by simp [ht])
    have h0 : allsB (if kidsOf (nd op n s ks) = [] then ([] : List (List Data)) else [kidsOf (nd op n s ks)]).flatten = allsB ks := by
      rw [kids_nd]
      split
      · rename_i e; rw [e]; simp
      · simp
    simp only [allsB, below1, List.flatten_append, alls_append, h0, ih, all_nd, List.all_cons]
    cases nodeB (nd op n s ks) <;> cases allsB ks <;> cases ts.all nodeB <;> simp

def treeB (t : Data) : Bool := decide (dep t ≤ 16) && allB t
def zeroB (t : Data) : Bool := decide (opOf t = 0) && decide (numOf t = 0) && decide (txtOf t = []) && decide (kidsOf t = [])

/-- A rule: its kind, what it asks, what it does. -/
abbrev Ru := Int × Data × Data
def ruleB (r : Ru) : Bool := (blB (opOf r.2.2) && treeB r.2.2) && (if r.1 = 1 ∨ r.1 = 2 then zeroB r.2.1 else if r.1 = 3 then eB (opOf r.2.1) && treeB r.2.1 else false)
def tidyB (rs : List Ru) : Bool := rs.all ruleB

end Ty
end Go.Proofs.YtkhoccjfkkfipaaGreatDoor
namespace Go.Proofs.YtkhoccjfkkfipaaGreatDoor
open Go.RowKit
namespace Oc
open St (Vl)

/-- A form: its code, what its N and its S tell, its name. -/
abbrev Fm := Int × Int × Int × List UInt8
def encF (f : Fm) : List Value := [.int .i64 f.1, .int .i64 f.2.1, .int .i64 f.2.2.1, .string ⟨f.2.2.2.toArray⟩]
theorem encF_len (f : Fm) : (encF f).length = 4 := rfl
def zeroF : Fm := (0, 0, 0, [])
def tbl : List Fm := [
  (1, 1, 0, [110, 117, 109]),
  (2, 0, 1, [116, 101, 120, 116]),
  (3, 2, 0, [118, 97, 114]),
  (4, 2, 0, [115, 101, 116, 118, 97, 114]),
  (5, 2, 0, [112, 108, 117, 115, 118, 97, 114]),
  (6, 3, 0, [99, 101, 108, 108]),
  (7, 3, 0, [115, 101, 116, 99, 101, 108, 108]),
  (8, 3, 0, [112, 108, 117, 115, 99, 101, 108, 108]),
  (9, 0, 0, [102, 105, 101, 108, 100]),
  (10, 0, 0, [110, 114]),
  (11, 0, 0, [110, 102]),
  (12, 0, 0, [97, 100, 100]),
  (13, 0, 0, [115, 117, 98]),
  (14, 0, 0, [109, 117, 108]),
  (15, 0, 0, [100, 105, 118]),
  (16, 0, 0, [109, 111, 100]),
  (17, 0, 0, [99, 97, 116]),
  (18, 0, 0, [108, 101, 115, 115]),
  (19, 0, 0, [109, 111, 115, 116]),
  (20, 0, 0, [109, 111, 114, 101]),
  (21, 0, 0, [108, 101, 97, 115, 116]),
  (22, 0, 0, [115, 97, 109, 101]),
  (23, 0, 0, [111, 116, 104, 101, 114]),
  (24, 0, 2, [102, 105, 116, 115]),
  (25, 0, 2, [108, 105, 110, 101]),
  (26, 0, 0, [110, 111, 116]),
  (27, 0, 0, [109, 105, 110, 117, 115]),
  (28, 0, 0, [98, 111, 111, 108]),
  (29, 5, 3, [99, 97, 108, 108]),
  (30, 4, 0, [106, 117, 109, 112]),
  (31, 4, 0, [122, 101, 114, 111]),
  (32, 0, 0, [112, 111, 112]),
  (33, 6, 0, [115, 104, 111, 119]),
  (34, 0, 0, [101, 110, 100, 108]),
  (35, 3, 0, [100, 114, 111, 112]),
  (36, 0, 0, [110, 101, 120, 116])]
theorem tbl_len : tbl.length = 36 := by decide

/-- What an N tells, and an S, by the code. -/
def kn (c : Int) : Int := if c = 1 then 1 else if c = 3 ∨ c = 4 ∨ c = 5 then 2 else if c = 6 ∨ c = 7 ∨ c = 8 ∨ c = 35 then 3 else if c = 30 ∨ c = 31 then 4 else if c = 29 then 5 else if c = 33 then 6 else 0
def ks (c : Int) : Int := if c = 2 then 1 else if c = 24 ∨ c = 25 then 2 else if c = 29 then 3 else 0
theorem tbl_kinds : ∀ f ∈ tbl, f.2.1 = kn f.1 ∧ f.2.2.1 = ks f.1 := by decide
theorem tbl_names : (tbl.map fun f => f.2.2.2).Nodup := by decide
theorem tbl_codes : tbl.map (fun f => f.1) = (List.range 36).map (fun i : Nat => ((i : Int) + 1)) := by decide
theorem tbl_code {i : Nat} {f : Fm} (h : tbl[i]? = some f) : f.1 = (i : Int) + 1 := by
  have hi : i < 36 := by have := (List.getElem?_eq_some_iff.1 h).1; rwa [tbl_len] at this
  have e : (tbl.map (fun f => f.1))[i]? = some f.1 := by rw [List.getElem?_map, h]; rfl
  rw [tbl_codes, List.getElem?_map, List.getElem?_range hi] at e
  exact (Option.some.inj e).symm

def hN (vars lists places what n : Int) : Bool :=
  if what = 1 then Dec.okB n else if what = 2 then decide (0 ≤ n ∧ n < vars) else if what = 3 then decide (0 ≤ n ∧ n < lists) else if what = 4 then decide (0 ≤ n ∧ n < places) else if what = 5 then decide (1 ≤ n ∧ n ≤ 3) else if what = 6 then decide (n = 0 ∨ n = 1) else decide (n = 0)
def hS (P : ByteArray → Bool) (what : Int) (s : ByteArray) : Bool :=
  if what = 1 then true else if what = 2 then P s else if what = 3 then Ty.callB s.data.toList else decide (s.size = 0)
def codeB (c : Int) : Bool := decide (1 ≤ c ∧ c ≤ 36)
/-- A place is right. -/
def opB (P : ByteArray → Bool) (vars lists places : Int) (o : Vl) : Bool := codeB o.1 && (hN vars lists places (kn o.1) o.2.1 && hS P (ks o.1) o.2.2)
def lastB (l : List Vl) : Bool := match l.getLast? with
  | some o => decide (o.1 = 36)
  | none => false
def opsB (P : ByteArray → Bool) (l : List Vl) (vars lists : Int) : Bool := decide (1 ≤ l.length ∧ l.length ≤ 1500) && (lastB l && l.all (opB P vars lists l.length))

/-- The form of a code, if it has one. -/
def formAt (c : Int) : Fm := if codeB c then (tbl[(c - 1).toNat]?).getD zeroF else zeroF
theorem form_kinds {c : Int} (h : codeB c = true) : (formAt c).2.1 = kn c ∧ (formAt c).2.2.1 = ks c ∧ tbl[(c - 1).toNat]? = some (formAt c) := by
  have h' : 1 ≤ c ∧ c ≤ 36 := by simpa [codeB] using h
  have hi : (c - 1).toNat < tbl.length := by rw [tbl_len]; omega
  have e : tbl[(c - 1).toNat]? = some (formAt c) := by
    unfold formAt
    rw [if_pos h, List.getElem?_eq_getElem hi]
    rfl
  have hc := tbl_code e
  have hk := tbl_kinds _ (List.mem_of_getElem? e)
  have : (formAt c).1 = c := by rw [hc]; omega
  rw [this] at hk
  exact ⟨hk.1, hk.2, e⟩

/-! What the map holds. -/
def mkV (f : Int × Int × Int) : Value := .agg #[.int .i64 f.1, .int .i64 f.2.1, .int .i64 f.2.2, .string ⟨#[]⟩]
def dat (f : Int × Int × Int) : DataW Unit := .agg [.lit (.int .i64 f.1), .lit (.int .i64 f.2.1), .lit (.int .i64 f.2.2)]
theorem dat_inj {f g : Int × Int × Int} (h : dat f = dat g) : f = g := by
  obtain ⟨a, b, c⟩ := f
  obtain ⟨a', b', c'⟩ := g
  simpa [dat] using h
def datOf : List Value → Option (DataW Unit × List MemPlace)
  | [.int .i64 c, .int .i64 n, .int .i64 s, .string t] => if t.data.toList = [] then some (dat (c, n, s), []) else none
  | _ => none
def Rf : Value → Option (DataW Unit × List MemPlace)
  | .agg a => datOf a.toList
  | _ => none
theorem Rf_mk (f : Int × Int × Int) : Rf (mkV f) = some (dat f, []) := rfl
theorem Rf_inv (v : Value) (y : DataW Unit × List MemPlace) (h : Rf v = some y) : ∃ f, v = mkV f := by
  unfold Rf at h
  split at h
  · rename_i a
    unfold datOf at h
    split at h
    · rename_i c n s t ha
      split at h
      · rename_i ht
        refine ⟨(c, n, s), ?_⟩
        obtain ⟨⟨tl⟩⟩ := t
        obtain ⟨al⟩ := a
        simp only [] at ha ht
        subst ht
        rw [ha]
        rfl
      · cases h
    · cases h
  · cases h
def thr (f : Fm) : Int × Int × Int := (f.1, f.2.1, f.2.2.1)
/-- The datum of the forms that were put, the last one first. -/
def dR : List Fm → DataW Unit
  | [] => .map []
  | f :: l => (dR l).put (.string f.2.2.2) (dat (thr f))
theorem dR_map : ∀ l, Maps.IsMap (dR l)
  | [] => Maps.isMap_empty
  | _ :: l => (dR_map l).put _ _
theorem dR_has : ∀ (l : List Fm) (x : List UInt8), Maps.has (dR l) (.string x) = true ↔ x ∈ l.map fun f => f.2.2.2
  | [], x => by simp [dR, Maps.has_eq]
  | f :: l, x => by
    rw [dR, List.map_cons, List.mem_cons]
    by_cases h : x = f.2.2.2
    · subst h
      rw [Maps.has_put_same (dR_map l) (by trivial)]
      simp
    · rw [Maps.has_put_other (by simpa using h), dR_has l x]
      simp [h]
theorem dR_at : ∀ (l : List Fm) (x : List UInt8) (y : DataW Unit), (∀ zd, (dR l).atKey (.string x) zd = y) → ∃ f ∈ l, f.2.2.2 = x ∧ dat (thr f) = y
  | [], x, y, h => by
    have h1 := h (.nil)
    have h2 := h (.map [])
    simp [dR, DataW.atKey] at h1 h2
    rw [← h1] at h2
    cases h2
  | f :: l, x, y, h => by
    by_cases hx : x = f.2.2.2
    · subst hx
      refine ⟨f, by simp, rfl, ?_⟩
      have := h .nil
      rwa [dR, Maps.atKey_put_same (dR_map l) (by trivial)] at this
    · obtain ⟨g, hg, h1, h2⟩ := dR_at l x y fun zd => by
        have := h zd
        rwa [dR, Maps.atKey_put_other (by simpa using hx)] at this
      exact ⟨g, by simp [hg], h1, h2⟩

/-- What was gone through: forms of the table, no name twice, just those that are no longer to come. -/
def Came (left : Lit → Bool) (L : List Fm) : Prop := Collected (dR tbl.reverse) left (L.map fun f => f.2.2.2) ∧ ∀ f ∈ L, f ∈ tbl
theorem Came.start : Came (Maps.has (dR tbl.reverse)) [] := ⟨Collected.start _, fun f h => by cases h⟩
theorem Came.step {left : Lit → Bool} {L : List Fm} (h : Came left L) {x : List UInt8} {c : Int × Int × Int} (hl : left (.string x) = true) (hat : ∀ zd, (dR tbl.reverse).atKey (.string x) zd = dat c) : Came (fun z => left z && !z.sameKey (.string x)) (L ++ [(c.1, c.2.1, c.2.2, x)]) := by
  refine ⟨?_, fun f hf => ?_⟩
  · rw [List.map_append]
    exact h.1.step hl hat
  · rcases List.mem_append.1 hf with hf | hf
    · exact h.2 f hf
    · obtain ⟨g, hg, h1, h2⟩ := dR_at _ x _ hat
      have h3 := dat_inj h2
      simp only [List.mem_singleton] at hf
      subst hf
      obtain ⟨g0, g1, g2, g3⟩ := g
      simp only [thr] at h3 h1
      subst h3 h1
      exact List.mem_reverse.1 hg
theorem nodup_of_map {α β : Type} {f : α → β} : ∀ {l : List α}, (l.map f).Nodup → l.Nodup
  | [], _ => List.nodup_nil
  | x :: l, h => by
    rw [List.map_cons, List.nodup_cons] at h
    exact List.nodup_cons.2 ⟨fun hx => h.1 (List.mem_map_of_mem hx), nodup_of_map h.2⟩
theorem eq_of_name {f g : Fm} (hf : f ∈ tbl) (hg : g ∈ tbl) (h : f.2.2.2 = g.2.2.2) : f = g := by
  have h' : ∀ f ∈ tbl, ∀ g ∈ tbl, f.2.2.2 = g.2.2.2 → f = g := by decide +kernel
  exact h' f hf g hg h
theorem Came.perm {left : Lit → Bool} {L : List Fm} (h : Came left L) (hl : ∀ kl, left kl = false) : L.Perm tbl := by
  refine (List.perm_ext_iff_of_nodup (nodup_of_map h.1.1) (nodup_of_map tbl_names)).2 fun f => ⟨h.2 f, fun hf => ?_⟩
  have hx : f.2.2.2 ∈ L.map fun f => f.2.2.2 := (h.1.2 _).2 ⟨(dR_has _ _).2 (by rw [List.map_reverse, List.mem_reverse]; exact List.mem_map_of_mem hf), hl _⟩
  obtain ⟨g, hg, e⟩ := List.mem_map.1 hx
  rw [← eq_of_name (h.2 g hg) hf e]
  exact hg
theorem Came.len {left : Lit → Bool} {L : List Fm} (h : Came left L) : L.length ≤ 36 := by
  have := (nodup_of_map h.1.1).length_le_of_subset fun f hf => h.2 f hf
  rwa [tbl_len] at this
/-- Forms that are sorted by their codes are the table. -/
theorem sorted_is {L : List Fm} (hp : L.Perm tbl) (hs : L.Pairwise fun x y => ¬ y.1 < x.1) : L = tbl := by
  have h1 : tbl.Pairwise fun x y => ¬ y.1 < x.1 := by decide
  refine List.Perm.eq_of_pairwise (le := fun x y => ¬ y.1 < x.1) (fun a b ha hb h1 h2 => ?_) hs h1 hp
  have hc : a.1 = b.1 := by omega
  have ha := hp.mem_iff.1 ha
  obtain ⟨i, hi, rfl⟩ := List.getElem_of_mem ha
  obtain ⟨j, hj, rfl⟩ := List.getElem_of_mem hb
  have e1 := tbl_code (List.getElem?_eq_getElem hi)
  have e2 := tbl_code (List.getElem?_eq_getElem hj)
  have : i = j := by omega
  subst this
  rfl

end Oc
end Go.Proofs.YtkhoccjfkkfipaaGreatDoor
