/-
  The text of a tidy tree, as plain functions.
-/
import Derived.Test.YtjdohfdkkppnpaaGreatDoorQ04
import Derived.Test.YtjdohfdkkppnpaaGreatDoorQ05
import Derived.Lib.ItoaLen
namespace Go.Proofs.YtjdohfdkkppnpaaGreatDoor
namespace Ty
open Nd
set_option linter.unusedSimpArgs false
set_option linter.unusedVariables false

/-- A byte 92 ahead of each of some bytes. -/
def back (some : List UInt8) (s : List UInt8) : List UInt8 := (s.map fun b => if some.contains b then [92, b] else [b]).flatten
def joinE : List (List UInt8) → List UInt8
  | [] => []
  | [x] => x
  | x :: y :: r => x ++ [44, 32] ++ joinE (y :: r)
/-- What stands ahead of the only e of an op, or between its two. -/
def signL (op : Int) : List UInt8 :=
  if op = 9 then [43] else if op = 10 then [45] else if op = 11 then [42] else if op = 12 then [47] else if op = 13 then [37]
  else if op = 15 then [60] else if op = 16 then [60, 61] else if op = 17 then [62] else if op = 18 then [62, 61] else if op = 19 then [61, 61] else if op = 20 then [33, 61]
  else if op = 21 then [126] else if op = 22 then [33] else if op = 23 then [45] else if op = 24 then [38, 38] else if op = 25 then [124, 124] else if op = 26 then [61] else if op = 27 then [43, 61] else []
/-- What stands between two es. -/
def midL (op : Int) : List UInt8 := if op = 14 then [32] else [32] ++ (signL op ++ [32])
def plainOp (op : Int) : Bool := decide (op = 1) || decide (op = 4) || decide (op = 6)
/-- The text of an e, by the texts of its kids. -/
def eK (op n : Int) (s : List UInt8) (kop : Int) (es : List (List UInt8)) : List UInt8 :=
  if op = 1 then Num.decTextL n
  else if op = 2 then [34] ++ back [34, 92] s ++ [34]
  else if op = 3 then [40, 47] ++ back [47] s ++ [47, 41]
  else if op = 4 then s
  else if op = 5 then s ++ [91] ++ es.getD 0 [] ++ [93]
  else if op = 6 then (if plainOp kop then [36] ++ es.getD 0 [] else [36] ++ ([40] ++ es.getD 0 [] ++ [41]))
  else if op = 7 then [78, 82]
  else if op = 8 then [78, 70]
  else if op = 28 then s ++ [40] ++ joinE es ++ [41]
  else if op = 22 ∨ op = 23 then [40] ++ (signL op ++ es.getD 0 []) ++ [41]
  else [40] ++ (es.getD 0 [] ++ midL op ++ es.getD 1 []) ++ [41]
def kop0 (ks : List Data) : Int := match ks with
  | x :: _ => opOf x
  | [] => 0
mutual
def eT : Data → List UInt8
  | .slice ks lab => eK (opOf (.slice ks lab)) (numOf (.slice ks lab)) (txtOf (.slice ks lab)) (kop0 ks) (esT ks)
  | _ => []
def esT : List Data → List (List UInt8)
  | [] => []
  | t :: ts => eT t :: esT ts
end
theorem eT_nd (op n : Int) (s : List UInt8) (ks : List Data) : eT (nd op n s ks) = eK op n s (kop0 ks) (esT ks) := by
  unfold nd; rw [eT]; rfl
theorem esT_map : ∀ ks : List Data, esT ks = ks.map eT
  | [] => rfl
  | t :: ts => by simp [esT, esT_map ts]

def linesL (sts : List (List UInt8)) : List UInt8 := (sts.map fun l => l ++ [10]).flatten
/-- The text of a statement, by the texts of its kids as es and as statements. -/
def stK (op : Int) (s : List UInt8) (es sts : List (List UInt8)) : List UInt8 :=
  if op = 29 then [123, 10] ++ linesL sts ++ [125]
  else if op = 30 then (if es = [] then [112, 114, 105, 110, 116, 59] else [112, 114, 105, 110, 116, 32] ++ joinE es ++ [59])
  else if op = 31 then [105, 102, 32, 40] ++ es.getD 0 [] ++ [41, 32] ++ sts.getD 1 [] ++ (if es.length = 3 then [32, 101, 108, 115, 101, 32] ++ sts.getD 2 [] else [])
  else if op = 32 then [119, 104, 105, 108, 101, 32, 40] ++ es.getD 0 [] ++ [41, 32] ++ sts.getD 1 []
  else if op = 33 then [110, 101, 120, 116, 59]
  else if op = 34 then [100, 101, 108, 101, 116, 101, 32] ++ (s ++ [91] ++ es.getD 0 [] ++ [93]) ++ [59]
  else es.getD 0 [] ++ [59]
mutual
def stT : Data → List UInt8
  | .slice ks lab => stK (opOf (.slice ks lab)) (txtOf (.slice ks lab)) (esT ks) (stsT ks)
  | _ => []
def stsT : List Data → List (List UInt8)
  | [] => []
  | t :: ts => stT t :: stsT ts
end
theorem stT_nd (op n : Int) (s : List UInt8) (ks : List Data) : stT (nd op n s ks) = stK op s (esT ks) (stsT ks) := by
  unfold nd; rw [stT]; rfl
theorem stsT_map : ∀ ks : List Data, stsT ks = ks.map stT
  | [] => rfl
  | t :: ts => by simp [stsT, stsT_map ts]

def ruleT (r : Ru) : List UInt8 := (if r.1 = 1 then [66, 69, 71, 73, 78, 32] else if r.1 = 3 then eT r.2.1 ++ [32] else []) ++ stT r.2.2 ++ [10]
def rulesT (rs : List Ru) : List UInt8 := (rs.map ruleT).flatten
def writeT (rs : List Ru) : List UInt8 := if tidyB rs then rulesT rs else []

/-! How long it is. -/
theorem len_ite {c : Prop} [Decidable c] {a b : List UInt8} {N : Nat} (ha : a.length ≤ N) (hb : b.length ≤ N) : (if c then a else b).length ≤ N := by split <;> assumption
theorem back_len (some s : List UInt8) : (back some s).length ≤ 2 * s.length := by
  unfold back
  induction s with
  | nil => simp
  | cons b s ih =>
    simp only [List.map_cons, List.flatten_cons, List.length_append, List.length_cons]
    have h2 : (if some.contains b then [92, b] else [b]).length ≤ 2 := len_ite (by simp) (by simp)
    omega
theorem sign_len (op : Int) : (signL op).length ≤ 2 := by
  unfold signL
  repeat (refine len_ite (by decide) ?_)
  decide
theorem mid_len (op : Int) : (midL op).length ≤ 4 := by
  have := sign_len op
  unfold midL
  refine len_ite (by decide) ?_
  simp only [List.length_append, List.length_cons, List.length_nil]
  omega
theorem join_len : ∀ l : List (List UInt8), (joinE l).length ≤ (l.map fun x => x.length + 2).sum
  | [] => by simp [joinE]
  | [x] => by simp [joinE]
  | x :: y :: r => by
    have := join_len (y :: r)
    simp only [joinE, List.length_append, List.map_cons, List.sum_cons, List.length_cons, List.length_nil] at this ⊢
    omega
theorem lines_len : ∀ l : List (List UInt8), (linesL l).length = (l.map fun x => x.length + 1).sum
  | [] => rfl
  | x :: r => by
    have := lines_len r
    unfold linesL at this ⊢
    simp only [List.map_cons, List.flatten_cons, List.length_append, List.length_cons, List.length_nil, List.sum_cons, this]
theorem getD_len (l : List (List UInt8)) (i : Nat) : (l.getD i []).length + 2 ≤ (l.map fun x => x.length + 2).sum + 2 := by
  induction l generalizing i with
  | nil => simp
  | cons x l ih =>
    cases i with
    | zero => simp; omega
    | succ i => have := ih i; simp at this ⊢; omega
theorem get01_len (l : List (List UInt8)) : (l.getD 0 []).length + (l.getD 1 []).length ≤ (l.map fun x => x.length + 2).sum := by
  match l with
  | [] => simp
  | [x] => simp
  | x :: y :: r => simp; omega
theorem get012_len (l : List (List UInt8)) : (l.getD 0 []).length + (l.getD 1 []).length + (l.getD 2 []).length ≤ (l.map fun x => x.length + 2).sum := by
  match l with
  | [] => simp
  | [x] => simp
  | [x, y] => simp; omega
  | x :: y :: z :: r => simp; omega
theorem decText_len (n : Int) : (Num.decTextL n).length ≤ 60 := by
  unfold Num.decTextL
  split
  · rename_i h
    obtain ⟨h1, h2⟩ := Dec.of_okB h
    have ha : Dec.absI n ≤ 9000000000000 := Dec.absI_le (by omega) h2
    have ha0 := Dec.absI_nonneg n
    have d1 : ∀ m : Nat, m < 18446744073709551616 → (Lib.decDigits m).length ≤ 20 := fun m hm => by rw [Lib.decDigits_length]; exact Lib.nDigits_le20 m hm
    have e1 := d1 (Dec.absI n / 1000000).toNat (by omega)
    have e2 := d1 (1000000 + Dec.absI n % 1000000).toNat (by omega)
    have e3 : (Lib.trimRightB ((Lib.decDigits (1000000 + Dec.absI n % 1000000).toNat).drop 1) 48).length ≤ 20 := by
      unfold Lib.trimRightB
      rw [List.length_reverse]
      have := (List.dropWhile_sublist (fun b => b == (48 : UInt8)) (l := ((Lib.decDigits (1000000 + Dec.absI n % 1000000).toNat).drop 1).reverse)).length_le
      simp only [List.length_reverse, List.length_drop] at this
      omega
    have f1 : (if n < 0 then [45] else ([] : List UInt8)).length ≤ 1 := len_ite (by simp) (by simp)
    have f2 : (if Dec.absI n % 1000000 = 0 then [] else 46 :: Lib.trimRightB ((Lib.decDigits (1000000 + Dec.absI n % 1000000).toNat).drop 1) 48).length ≤ 21 := len_ite (by simp) (by rw [List.length_cons]; omega)
    unfold Num.textL
    simp only [List.length_append]
    omega
  · simp
theorem es_len {N : Nat} : ∀ ks : List Data, (∀ t ∈ ks, (eT t).length ≤ 70 * siz t + N) → ((esT ks).map fun x => x.length + 2).sum ≤ 70 * (ks.map siz).sum + (N + 2) * ks.length
  | [], _ => by simp [esT]
  | t :: ts, h => by
    have h1 := h t (by simp)
    have h2 := es_len ts fun t ht => h t (by simp [ht])
    simp only [esT, List.map_cons, List.sum_cons, List.length_cons] at h2 ⊢
    have : (N + 2) * (ts.length + 1) = (N + 2) * ts.length + (N + 2) := Nat.mul_succ _ _
    omega
theorem sizs_sum : ∀ ks : List Data, sizs ks = (ks.map siz).sum + ks.length
  | [] => rfl
  | t :: ts => by simp only [sizs, sizs_sum ts, List.map_cons, List.sum_cons, List.length_cons]; omega

theorem eK_len (op n : Int) (s : List UInt8) (kop : Int) (es : List (List UInt8)) : (eK op n s kop es).length ≤ 62 + 2 * s.length + (es.map fun x => x.length + 2).sum := by
  have h1 := decText_len n
  have h2 := back_len [34, 92] s
  have h3 := back_len [47] s
  have h4 := getD_len es 0
  have h5 := join_len es
  have h6 := sign_len op
  have h7 := mid_len op
  have h8 := get01_len es
  unfold eK
  generalize Num.decTextL n = D at *
  repeat' refine len_ite ?_ ?_
  all_goals try simp only [List.length_append, List.length_cons, List.length_nil]
  all_goals omega
theorem eT_len (t : Data) : (eT t).length ≤ 70 * siz t + 62 := by
  induction t using tree_ind with
  | h1 t ht =>
    cases t <;> simp [eT]
    exact absurd rfl (ht _ _)
  | h ks lab ih =>
    have h1 := es_len (N := 62) ks ih
    have h2 := sizs_sum ks
    rw [eT, siz]
    have := eK_len (opOf (.slice ks lab)) (numOf (.slice ks lab)) (txtOf (.slice ks lab)) (kop0 ks) (esT ks)
    omega
theorem es_sum (ks : List Data) : ((esT ks).map fun x => x.length + 2).sum ≤ 70 * sizs ks := by
  have h1 := es_len (N := 62) ks fun t _ => eT_len t
  have h2 := sizs_sum ks
  omega
theorem sts_len {N : Nat} : ∀ ks : List Data, (∀ t ∈ ks, (stT t).length ≤ 70 * siz t + N) → ((stsT ks).map fun x => x.length + 1).sum ≤ 70 * (ks.map siz).sum + (N + 1) * ks.length
  | [], _ => by simp [stsT]
  | t :: ts, h => by
    have h1 := h t (by simp)
    have h2 := sts_len ts fun t ht => h t (by simp [ht])
    simp only [stsT, List.map_cons, List.sum_cons, List.length_cons] at h2 ⊢
    have : (N + 1) * (ts.length + 1) = (N + 1) * ts.length + (N + 1) := Nat.mul_succ _ _
    omega
theorem if_len (ks : List Data) (h : ∀ t ∈ ks, (stT t).length ≤ 70 * siz t + 62) : ((esT ks).getD 0 []).length + ((stsT ks).getD 1 []).length + ((stsT ks).getD 2 []).length ≤ 70 * sizs ks := by
  match ks with
  | [] => simp [esT, stsT]
  | [x] => have := eT_len x; simp [esT, stsT, sizs]; omega
  | [x, y] => have := eT_len x; have := h y (by simp); simp [esT, stsT, sizs]; omega
  | x :: y :: z :: r => have := eT_len x; have := h y (by simp); have := h z (by simp); simp [esT, stsT, sizs]; omega
theorem stT_len (t : Data) : (stT t).length ≤ 70 * siz t + 62 := by
  induction t using tree_ind with
  | h1 t ht =>
    cases t <;> simp [stT]
    exact absurd rfl (ht _ _)
  | h ks lab ih =>
    have h1 := sts_len (N := 62) ks ih
    have h2 := sizs_sum ks
    have h3 := es_sum ks
    have h4 := if_len ks ih
    have h5 := join_len (esT ks)
    have h6 := getD_len (esT ks) 0
    have h7 := lines_len (stsT ks)
    rw [stT, siz]
    generalize txtOf (.slice ks lab) = s
    generalize opOf (.slice ks lab) = op
    have hi : ∀ x y z u : List UInt8, (x ++ y ++ z ++ u ++ (if (esT ks).length = 3 then [32, 101, 108, 115, 101, 32] ++ (stsT ks).getD 2 [] else [])).length ≤ x.length + y.length + z.length + u.length + (6 + ((stsT ks).getD 2 []).length) := fun x y z u => by
      have : (if (esT ks).length = 3 then [32, 101, 108, 115, 101, 32] ++ (stsT ks).getD 2 [] else []).length ≤ 6 + ((stsT ks).getD 2 []).length := len_ite (by simp only [List.length_append, List.length_cons, List.length_nil]; omega) (by simp)
      simp only [List.length_append] at this ⊢
      omega
    unfold stK
    repeat' refine len_ite ?_ ?_
    rotate_left 3
    · have := hi [105, 102, 32, 40] ((esT ks).getD 0 []) [41, 32] ((stsT ks).getD 1 [])
      simp only [List.length_cons, List.length_nil] at this
      omega
    all_goals simp only [List.length_append, List.length_cons, List.length_nil]
    all_goals omega
theorem ruleT_len (r : Ru) : (ruleT r).length ≤ 70 * (siz r.2.1 + siz r.2.2 + 1) + 140 := by
  have h1 := eT_len r.2.1
  have h2 := stT_len r.2.2
  have h3 : (if r.1 = 1 then [66, 69, 71, 73, 78, 32] else if r.1 = 3 then eT r.2.1 ++ [32] else ([] : List UInt8)).length ≤ (eT r.2.1).length + 6 := by
    refine len_ite (by simp) (len_ite ?_ ?_)
    · simp
    · simp
  unfold ruleT
  simp only [List.length_append, List.length_cons, List.length_nil]
  omega

end Ty
end Go.Proofs.YtjdohfdkkppnpaaGreatDoor

