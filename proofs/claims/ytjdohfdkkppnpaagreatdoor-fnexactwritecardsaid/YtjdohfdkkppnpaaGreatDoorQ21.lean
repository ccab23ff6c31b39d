/-
  What the specification asks of kids is what the plain functions ask.
-/
import Derived.Test.YtjdohfdkkppnpaaGreatDoorQ02
namespace Go.Proofs.YtjdohfdkkppnpaaGreatDoor
namespace Ty
open Nd

def eQ (x : Data) : Bool := eB (opOf x) && allB x
def blQ (x : Data) : Bool := blB (opOf x) && allB x
def stQ (x : Data) : Bool := stB (opOf x) && allB x
def hdB (ks : List Data) : Bool := match ks with
  | x :: _ => setB (opOf x)
  | [] => false

def kidsS (op : Int) (ks : List Data) : Bool :=
  if op = 5 ∨ op = 6 ∨ op = 22 ∨ op = 23 ∨ op = 34 ∨ op = 35 then decide (ks.length = 1) && (ks.take 1).all eQ
  else if (9 ≤ op ∧ op ≤ 21) ∨ op = 24 ∨ op = 25 then decide (ks.length = 2) && (ks.take 2).all eQ
  else if op = 26 ∨ op = 27 then decide (ks.length = 2) && hdB ks && (ks.take 2).all eQ
  else if op = 28 ∨ op = 30 then ks.all eQ
  else if op = 31 then (decide (2 ≤ ks.length) && decide (ks.length ≤ 3)) && (ks.take 1).all eQ && (ks.drop 1).all blQ
  else if op = 32 then decide (ks.length = 2) && (ks.take 1).all eQ && (ks.drop 1).all blQ
  else if op = 29 then ks.all stQ
  else decide (ks.length = 0)

theorem all_both (p q : Data → Bool) : ∀ ks : List Data, (ks.all fun x => p x && q x) = (ks.all p && ks.all q)
  | [] => rfl
  | x :: ks => by
    simp only [List.all_cons, all_both p q ks]
    cases p x <;> cases q x <;> cases ks.all p <;> simp

theorem one_eq (ks : List Data) : (decide (ks.length = 1) && (ks.take 1).all eQ) = (justB [eB] (ks.map opOf) && allsB ks) := by
  match ks with
  | [] => rfl
  | [x] => simp [justB, eQ, allsB]
  | x :: y :: r => simp [justB]
theorem two_eq (ks : List Data) : (decide (ks.length = 2) && (ks.take 2).all eQ) = (justB [eB, eB] (ks.map opOf) && allsB ks) := by
  match ks with
  | [] => rfl
  | [x] => simp [justB]
  | [x, y] =>
    simp only [justB, eQ, allsB, List.map_cons, List.map_nil, List.length_cons, List.length_nil, List.take_succ_cons, List.take_zero, List.all_cons, List.all_nil]
    cases eB (opOf x) <;> cases eB (opOf y) <;> cases allB x <;> cases allB y <;> rfl
  | x :: y :: z :: r => simp [justB]
theorem set_e {op : Int} (h : setB op = true) : eB op = true := by
  simp only [setB, Bool.or_eq_true, decide_eq_true_eq] at h
  rcases h with rfl | rfl <;> rfl
theorem set_eq (ks : List Data) : (decide (ks.length = 2) && hdB ks && (ks.take 2).all eQ) = (justB [setB, eB] (ks.map opOf) && allsB ks) := by
  match ks with
  | [] => rfl
  | [x] => simp [justB]
  | [x, y] =>
    simp only [justB, eQ, hdB, allsB, List.map_cons, List.map_nil, List.length_cons, List.length_nil, List.take_succ_cons, List.take_zero, List.all_cons, List.all_nil]
    rcases hx : setB (opOf x) with _ | _
    · simp
    · rw [set_e hx]
      cases eB (opOf y) <;> cases allB x <;> cases allB y <;> rfl
  | x :: y :: z :: r => simp [justB]
theorem es_eq (ks : List Data) : ks.all eQ = ((ks.map opOf).all eB && allsB ks) := by
  rw [alls_all, List.all_map]
  exact all_both _ _ ks
theorem st_eq (ks : List Data) : ks.all stQ = ((ks.map opOf).all stB && allsB ks) := by
  rw [alls_all, List.all_map]
  exact all_both _ _ ks
theorem wh_eq (ks : List Data) : (decide (ks.length = 2) && (ks.take 1).all eQ && (ks.drop 1).all blQ) = (justB [eB, blB] (ks.map opOf) && allsB ks) := by
  match ks with
  | [] => rfl
  | [x] => simp [justB]
  | [x, y] =>
    simp only [justB, eQ, blQ, allsB, List.map_cons, List.map_nil, List.length_cons, List.length_nil, List.take_succ_cons, List.take_zero, List.drop_succ_cons, List.drop_zero, List.all_cons, List.all_nil]
    cases eB (opOf x) <;> cases blB (opOf y) <;> cases allB x <;> cases allB y <;> rfl
  | x :: y :: z :: r => simp [justB]
theorem if_eq (ks : List Data) : ((decide (2 ≤ ks.length) && decide (ks.length ≤ 3)) && (ks.take 1).all eQ && (ks.drop 1).all blQ) = ((justB [eB, blB] (ks.map opOf) || justB [eB, blB, blB] (ks.map opOf)) && allsB ks) := by
  match ks with
  | [] => rfl
  | [x] => simp [justB]
  | [x, y] =>
    simp only [justB, eQ, blQ, allsB, List.map_cons, List.map_nil, List.length_cons, List.length_nil, List.take_succ_cons, List.take_zero, List.drop_succ_cons, List.drop_zero, List.all_cons, List.all_nil]
    cases eB (opOf x) <;> cases blB (opOf y) <;> cases allB x <;> cases allB y <;> rfl
  | [x, y, z] =>
    simp only [justB, eQ, blQ, allsB, List.map_cons, List.map_nil, List.length_cons, List.length_nil, List.take_succ_cons, List.take_zero, List.drop_succ_cons, List.drop_zero, List.all_cons, List.all_nil]
    cases eB (opOf x) <;> cases blB (opOf y) <;> cases blB (opOf z) <;> cases allB x <;> cases allB y <;> cases allB z <;> rfl
  | x :: y :: z :: v :: r => simp [justB]
theorem no_eq (ks : List Data) : decide (ks.length = 0) = (justB [] (ks.map opOf) && allsB ks) := by
  match ks with
  | [] => rfl
  | x :: r => simp [justB]

theorem kids_eq {op : Int} (h1 : 1 ≤ op) (h2 : op ≤ 35) (ks : List Data) : kidsS op ks = (kindB op (ks.map opOf) && allsB ks) := by
  unfold kidsS kindB
  by_cases a1 : op = 1 ∨ op = 2 ∨ op = 3 ∨ op = 4 ∨ op = 7 ∨ op = 8 ∨ op = 33
  · rw [if_neg (by omega), if_neg (by omega), if_neg (by omega), if_neg (by omega), if_neg (by omega), if_neg (by omega), if_neg (by omega), if_pos a1]
    exact no_eq ks
  rw [if_neg a1]
  by_cases a2 : op = 5 ∨ op = 6 ∨ op = 22 ∨ op = 23 ∨ op = 34 ∨ op = 35
  · rw [if_pos a2, if_pos a2]; exact one_eq ks
  rw [if_neg a2, if_neg a2]
  by_cases a3 : (9 ≤ op ∧ op ≤ 21) ∨ op = 24 ∨ op = 25
  · rw [if_pos a3, if_pos a3]; exact two_eq ks
  rw [if_neg a3, if_neg a3]
  by_cases a4 : op = 26 ∨ op = 27
  · rw [if_pos a4, if_pos a4]; exact set_eq ks
  rw [if_neg a4, if_neg a4]
  by_cases a5 : op = 28 ∨ op = 30
  · rw [if_pos a5, if_pos a5]; exact es_eq ks
  rw [if_neg a5, if_neg a5]
  by_cases a6 : op = 29
  · rw [if_neg (by omega), if_neg (by omega), if_pos a6, if_pos a6]; exact st_eq ks
  simp only [if_neg a6]
  by_cases a7 : op = 31
  · simp only [if_pos a7]; exact if_eq ks
  simp only [if_neg a7]
  have a8 : op = 32 := by omega
  simp only [if_pos a8]
  exact wh_eq ks

/-- What the specification asks beside kids. -/
def wordS (op n : Int) (s : List UInt8) : Bool :=
  if op = 1 then decide (s = []) && (decide (0 ≤ n) && decide (n ≤ 9000000000000))
  else if op = 2 then lineB s else if op = 3 then rexB s else if op = 4 ∨ op = 5 ∨ op = 34 then nameB s else if op = 28 then callB s else decide (s = [])
def nodeS (op n : Int) (s : List UInt8) (ks : List Data) : Bool :=
  kidsS op ks && (decide (1 ≤ op) && decide (op ≤ 35)) && !(!decide (n = 0) && !decide (op = 1)) && wordS op n s

theorem node_all (op n : Int) (s : List UInt8) (ks : List Data) : nodeS op n s ks = allB (nd op n s ks) := by
  rw [all_nd]
  unfold nodeS nodeB
  rw [op_nd, num_nd, txt_nd, kids_nd]
  by_cases h : 1 ≤ op ∧ op ≤ 35
  · obtain ⟨h1, h2⟩ := h
    rw [kids_eq h1 h2]
    generalize kindB op (ks.map opOf) = K
    generalize allsB ks = A
    simp only [h1, h2, decide_true]
    unfold wordS wordB
    by_cases o1 : op = 1
    · rw [if_pos o1, if_pos o1]
      simp only [o1, decide_true, Bool.not_true, Bool.and_false, Bool.not_false, Bool.and_true]
      by_cases n1 : 0 ≤ n
      · have : Dec.okB n = decide (n ≤ 9000000000000) := by unfold Dec.okB; rw [show decide (-9000000000000 ≤ n) = true by simp; omega]; simp
        rw [this]
        cases K <;> cases A <;> cases decide (s = []) <;> cases decide (0 ≤ n) <;> cases decide (n ≤ 9000000000000) <;> rfl
      · simp [n1]
    · rw [if_neg o1, if_neg o1]
      simp only [o1, decide_false, Bool.not_false, Bool.and_true, Bool.not_not]
      generalize (if op = 2 then lineB s else if op = 3 then rexB s else if op = 4 ∨ op = 5 ∨ op = 34 then nameB s else if op = 28 then callB s else decide (s = [])) = W
      cases K <;> cases A <;> cases decide (n = 0) <;> cases W <;> rfl
  · have hk : kindB op (ks.map opOf) = false := by unfold kindB; repeat rw [if_neg (by omega)]
    rw [hk]
    have : (decide (1 ≤ op) && decide (op ≤ 35)) = false := by simp; omega
    rw [this]
    simp

end Ty
end Go.Proofs.YtjdohfdkkppnpaaGreatDoor

