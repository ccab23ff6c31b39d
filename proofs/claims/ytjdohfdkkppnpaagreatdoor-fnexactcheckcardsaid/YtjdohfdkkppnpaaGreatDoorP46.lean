/-
  The specification's reasons are the program's.
  What the specification asks of kids is what the plain functions ask.
  The specification's l9Es, l9Blocks over kids that are told.
-/
import Derived.Test.YtjdohfdkkppnpaaGreatDoorP36
import Derived.Test.YtjdohfdkkppnpaaGreatDoorP45
import Derived.Test.YtjdohfdkkppnpaaGreatDoorP01
import Derived.Test.YtjdohfdkkppnpaaGreatDoorP27
import Derived.Test.YtjdohfdkkppnpaaGreatDoorP04
import Derived.Test.YtjdohfdkkppnpaaGreatDoorP05
namespace Go.Proofs.YtjdohfdkkppnpaaGreatDoor
namespace Ck
open Nd Ty

theorem node_subs {w : World} (t : Data) : ∀ (S : Nat → Prop) (cs : List Value), NodeIs w t S cs → ∀ x ∈ subs t, Node x := by
  induction t using tree_ind with
  | h1 t ht =>
    intro S cs h
    obtain ⟨op, n, s, ks, rfl⟩ := node_node h
    exact absurd rfl (ht _ _)
  | h ks lab ih =>
    intro S cs h x hx
    rw [subs, List.mem_cons] at hx
    rcases hx with rfl | hx
    · exact node_node h
    · obtain ⟨k, hk, hx⟩ := mem_subsL.1 hx
      rw [NodeIs] at h
      obtain ⟨op, n, s, v, xs, hl, hc, ho, hg, hn⟩ := h
      obtain ⟨i, hi⟩ := List.getElem?_of_mem hk
      obtain ⟨S1, a, b, c, u, -, -, -, -, hk', -⟩ := nodes_at hn hi
      exact ih k hk _ _ hk' x hx
theorem rules_nodes {w : World} {S : Nat → Prop} : ∀ {rs : List Ru} {xs : List Value}, RulesIs w S rs xs → ∀ t, SubR rs t → Node t
  | [], xs, _, t, h => by obtain ⟨r, hr, _⟩ := h; simp at hr
  | r :: rs, xs, h, t, ht => by
    obtain ⟨p0, p1, p2, p3, b0, b1, b2, b3, c, rfl, h1, h2, h3⟩ := h
    obtain ⟨r', hr, hs⟩ := ht
    rcases List.mem_cons.1 hr with rfl | hr
    · rcases hs with hs | hs
      · exact node_subs _ _ _ h1 t hs
      · exact node_subs _ _ _ h2 t hs
    · exact rules_nodes h3 t ⟨r', hr, hs⟩

theorem asc_eqC {ns ms : List (List UInt8)} (h : ∀ x, x ∈ ns ↔ x ∈ ms) : ascS ns = ascS ms := by
  have h1 := sort_asc (asc_nodup (ascS_asc ns)) (ns := ns) fun x => ascS_mem
  have h2 := sort_asc (asc_nodup (ascS_asc ns)) (ns := ms) fun x => by rw [ascS_mem, h]
  exact h1.symm.trans h2
theorem varsC (rs : List Ru) : ascS (varsIn (allOf rs)) = ascS (varsIn (dfs rs)) := asc_eqC fun x => by
  unfold varsIn
  rw [List.mem_filterMap, List.mem_filterMap]
  simp only [mem_allOf, mem_dfs]
theorem cellsC (rs : List Ru) : ascS (cellsIn (allOf rs)) = ascS (cellsIn (dfs rs)) := asc_eqC fun x => by
  unfold cellsIn
  rw [List.mem_filterMap, List.mem_filterMap]
  simp only [mem_allOf, mem_dfs]

section
variable {rs : List Ru} (hN : ∀ t, SubR rs t → Node t)
include hN
theorem bad1_iff (ht : tidyB rs = true) : Bad rs 1 ↔ ∃ (i : Nat) (r : Ru), rs[i]? = some r ∧ r.1 = 1 ∧ (0 < i ∨ lineT r.2.2 = true) := by
  have key : ∀ r, rs[0]? = some r → r.1 = 1 → (needP rs ↔ lineT r.2.2 = true) := fun r h0 h1 => by
    have hr : r ∈ rs := List.mem_of_getElem? h0
    have htk : rs.take 1 = [r] := by
      cases rs with
      | nil => simp at h0
      | cons a rs => simp at h0; subst h0; rfl
    have hru := List.all_eq_true.1 ht r hr
    simp only [ruleB, Bool.and_eq_true, h1, blB, decide_eq_true_eq, true_or, if_true] at hru
    obtain ⟨⟨hb, -⟩, hz⟩ := hru
    simp only [zeroB, Bool.and_eq_true, decide_eq_true_eq] at hz
    rw [line_iff (fun x hx => ⟨hN x ⟨r, hr, .inr hx⟩, tidy_sub ht ⟨r, hr, .inr hx⟩⟩) (by omega)]
    unfold needP
    rw [htk]
    constructor
    · rintro ⟨t, hm, hn⟩
      obtain ⟨r', hr', hs⟩ := mem_allOf.1 hm
      simp only [List.mem_singleton] at hr'
      subst hr'
      rcases hs with hs | hs
      · rw [subs_kids, hz.2] at hs
        simp only [subsL, List.mem_singleton] at hs
        subst hs
        simp [needN, hz.1.1.1, hz.2, needK] at hn
      · exact ⟨t, hs, hn⟩
    · rintro ⟨t, hs, hn⟩
      exact ⟨t, mem_allOf.2 ⟨r, by simp, .inr hs⟩, hn⟩
  show badBegin rs ↔ _
  unfold badBegin
  constructor
  · rintro ⟨i, r, h1, h2, h3⟩
    refine ⟨i, r, h1, h2, ?_⟩
    by_cases hi : 0 < i
    · exact .inl hi
    · obtain rfl : i = 0 := by omega
      exact .inr ((key r h1 h2).1 (h3.resolve_left hi))
  · rintro ⟨i, r, h1, h2, h3⟩
    refine ⟨i, r, h1, h2, ?_⟩
    by_cases hi : 0 < i
    · exact .inl hi
    · obtain rfl : i = 0 := by omega
      exact .inr ((key r h1 h2).2 (h3.resolve_left hi))
omit hN in
theorem bad2_iff : Bad rs 2 ↔ (8 < (ascS (varsIn (dfs rs))).length ∨ 8 < (ascS (cellsIn (dfs rs))).length) := by
  show tooMany (allOf rs) = true ↔ _
  unfold tooMany
  rw [varsC, cellsC, Bool.or_eq_true, decide_eq_true_eq, decide_eq_true_eq]
omit hN in
theorem bad3_iff : Bad rs 3 ↔ ∃ x ∈ ascS (varsIn (dfs rs)), x ∈ ascS (cellsIn (dfs rs)) := by
  show bothAll (allOf rs) ↔ _
  unfold bothAll
  rw [← varsC, ← cellsC]
  simp only [ascS_mem]
theorem bad4_iff : Bad rs 4 ↔ ∃ r ∈ rs, argsT r.2.1 = false ∨ argsT r.2.2 = false := by
  show (∃ t ∈ allOf rs, argsB t = true) ↔ _
  constructor
  · rintro ⟨t, hm, hb⟩
    obtain ⟨r, hr, hs⟩ := mem_allOf.1 hm
    refine ⟨r, hr, ?_⟩
    rcases hs with hs | hs
    · refine .inl (Bool.eq_false_iff.2 fun h => ?_)
      rw [(args_iff (fun x hx => hN x ⟨r, hr, .inl hx⟩)).1 h t hs] at hb
      cases hb
    · refine .inr (Bool.eq_false_iff.2 fun h => ?_)
      rw [(args_iff (fun x hx => hN x ⟨r, hr, .inr hx⟩)).1 h t hs] at hb
      cases hb
  · rintro ⟨r, hr, h | h⟩
    · refine Classical.byContradiction fun hno => ?_
      rw [(args_iff (fun x hx => hN x ⟨r, hr, .inl hx⟩)).2 fun x hx => Bool.eq_false_iff.2 fun hb => hno ⟨x, mem_allOf.2 ⟨r, hr, .inl hx⟩, hb⟩] at h
      cases h
    · refine Classical.byContradiction fun hno => ?_
      rw [(args_iff (fun x hx => hN x ⟨r, hr, .inr hx⟩)).2 fun x hx => Bool.eq_false_iff.2 fun hb => hno ⟨x, mem_allOf.2 ⟨r, hr, .inr hx⟩, hb⟩] at h
      cases h
theorem bad5_iff (ht : tidyB rs = true) : Bad rs 5 ↔ ∃ r ∈ rs, rexT r.2.1 = false ∨ rexT r.2.2 = false := by
  show (∃ t ∈ allOf rs, rexN t = true) ↔ _
  have hp : ∀ r ∈ rs, ∀ x ∈ subs r.2.1, Node x ∧ Fine x := fun r hr x hx => ⟨hN x ⟨r, hr, .inl hx⟩, tidy_sub ht ⟨r, hr, .inl hx⟩⟩
  have hb : ∀ r ∈ rs, ∀ x ∈ subs r.2.2, Node x ∧ Fine x := fun r hr x hx => ⟨hN x ⟨r, hr, .inr hx⟩, tidy_sub ht ⟨r, hr, .inr hx⟩⟩
  constructor
  · rintro ⟨t, hm, hq⟩
    obtain ⟨r, hr, hs⟩ := mem_allOf.1 hm
    refine ⟨r, hr, ?_⟩
    rcases hs with hs | hs
    · refine .inl (Bool.eq_false_iff.2 fun h => ?_)
      rw [(rex_iff (hp r hr)).1 h t hs] at hq
      cases hq
    · refine .inr (Bool.eq_false_iff.2 fun h => ?_)
      rw [(rex_iff (hb r hr)).1 h t hs] at hq
      cases hq
  · rintro ⟨r, hr, h | h⟩
    · refine Classical.byContradiction fun hno => ?_
      rw [(rex_iff (hp r hr)).2 fun x hx => Bool.eq_false_iff.2 fun hq => hno ⟨x, mem_allOf.2 ⟨r, hr, .inl hx⟩, hq⟩] at h
      cases h
    · refine Classical.byContradiction fun hno => ?_
      rw [(rex_iff (hb r hr)).2 fun x hx => Bool.eq_false_iff.2 fun hq => hno ⟨x, mem_allOf.2 ⟨r, hr, .inr hx⟩, hq⟩] at h
      cases h
end

end Ck
end Go.Proofs.YtjdohfdkkppnpaaGreatDoor

namespace Go.Proofs.YtjdohfdkkppnpaaGreatDoor
namespace Ty
open Nd

def eQ (x : Data) : Bool := eB (opOf x) && allB x
def blQ (x : Data) : Bool := blB (opOf x) && allB x
def stQ (x : Data) : Bool := stB (opOf x) && allB x
def hdB (ks : List Data) : Bool := match ks with
  | x :: _ => setB (opOf x)
  | [] => false

def kidsS (op : Int) (ks : List Data) : Bool :=
  if op = 5 ∨ op = 6 ∨ op = 22 ∨ op = 23 ∨ op = 34 ∨ op = 35 then decide (ks.length = 1) && (ks.take 1).all eQ
  else if (9 ≤ op ∧ op ≤ 21) ∨ op = 24 ∨ op = 25 then decide (ks.length = 2) && (ks.take 2).all eQ
  else if op = 26 ∨ op = 27 then decide (ks.length = 2) && hdB ks && (ks.take 2).all eQ
  else if op = 28 ∨ op = 30 then ks.all eQ
  else if op = 31 then (decide (2 ≤ ks.length) && decide (ks.length ≤ 3)) && (ks.take 1).all eQ && (ks.drop 1).all blQ
  else if op = 32 then decide (ks.length = 2) && (ks.take 1).all eQ && (ks.drop 1).all blQ
  else if op = 29 then ks.all stQ
  else decide (ks.length = 0)

theorem all_both (p q : Data → Bool) : ∀ ks : List Data, (ks.all fun x => p x && q x) = (ks.all p && ks.all q)
  | [] => rfl
  | x :: ks => by
    simp only [List.all_cons, all_both p q ks]
    cases p x <;> cases q x <;> cases ks.all p <;> simp

theorem one_eq (ks : List Data) : (decide (ks.length = 1) && (ks.take 1).all eQ) = (justB [eB] (ks.map opOf) && allsB ks) := by
  match ks with
  | [] => rfl
  | [x] => simp [justB, eQ, allsB]
  | x :: y :: r => simp [justB]
theorem two_eq (ks : List Data) : (decide (ks.length = 2) && (ks.take 2).all eQ) = (justB [eB, eB] (ks.map opOf) && allsB ks) := by
  match ks with
  | [] => rfl
  | [x] => simp [justB]
  | [x, y] =>
    simp only [justB, eQ, allsB, List.map_cons, List.map_nil, List.length_cons, List.length_nil, List.take_succ_cons, List.take_zero, List.all_cons, List.all_nil]
    cases eB (opOf x) <;> cases eB (opOf y) <;> cases allB x <;> cases allB y <;> rfl
  | x :: y :: z :: r => simp [justB]
theorem set_e {op : Int} (h : setB op = true) : eB op = true := by
  simp only [setB, Bool.or_eq_true, decide_eq_true_eq] at h
  rcases h with rfl | rfl <;> rfl
theorem set_eq (ks : List Data) : (decide (ks.length = 2) && hdB ks && (ks.take 2).all eQ) = (justB [setB, eB] (ks.map opOf) && allsB ks) := by
  match ks with
  | [] => rfl
  | [x] => simp [justB]
  | [x, y] =>
    simp only [justB, eQ, hdB, allsB, List.map_cons, List.map_nil, List.length_cons, List.length_nil, List.take_succ_cons, List.take_zero, List.all_cons, List.all_nil]
    rcases hx : setB (opOf x) with _ | _
    · simp
    · rw [set_e hx]
      cases eB (opOf y) <;> cases allB x <;> cases allB y <;> rfl
  | x :: y :: z :: r => simp [justB]
theorem es_eq (ks : List Data) : ks.all eQ = ((ks.map opOf).all eB && allsB ks) := by
  rw [alls_all, List.all_map]
  exact all_both _ _ ks
theorem st_eq (ks : List Data) : ks.all stQ = ((ks.map opOf).all stB && allsB ks) := by
  rw [alls_all, List.all_map]
  exact all_both _ _ ks
theorem wh_eq (ks : List Data) : (decide (ks.length = 2) && (ks.take 1).all eQ && (ks.drop 1).all blQ) = (justB [eB, blB] (ks.map opOf) && allsB ks) := by
  match ks with
  | [] => rfl
  | [x] => simp [justB]
  | [x, y] =>
    simp only [justB, eQ, blQ, allsB, List.map_cons, List.map_nil, List.length_cons, List.length_nil, List.take_succ_cons, List.take_zero, List.drop_succ_cons, List.drop_zero, List.all_cons, List.all_nil]
    cases eB (opOf x) <;> cases blB (opOf y) <;> cases allB x <;> cases allB y <;> rfl
  | x :: y :: z :: r => simp [justB]
theorem if_eq (ks : List Data) : ((decide (2 ≤ ks.length) && decide (ks.length ≤ 3)) && (ks.take 1).all eQ && (ks.drop 1).all blQ) = ((justB [eB, blB] (ks.map opOf) || justB [eB, blB, blB] (ks.map opOf)) && allsB ks) := by
  match ks with
  | [] => rfl
  | [x] => simp [justB]
  | [x, y] =>
    simp only [justB, eQ, blQ, allsB, List.map_cons, List.map_nil, List.length_cons, List.length_nil, List.take_succ_cons, List.take_zero, List.drop_succ_cons, List.drop_zero, List.all_cons, List.all_nil]
    cases eB (opOf x) <;> cases blB (opOf y) <;> cases allB x <;> cases allB y <;> rfl
  | [x, y, z] =>
    simp only [justB, eQ, blQ, allsB, List.map_cons, List.map_nil, List.length_cons, List.length_nil, List.take_succ_cons, List.take_zero, List.drop_succ_cons, List.drop_zero, List.all_cons, List.all_nil]
    cases eB (opOf x) <;> cases blB (opOf y) <;> cases blB (opOf z) <;> cases allB x <;> cases allB y <;> cases allB z <;> rfl
  | x :: y :: z :: v :: r => simp [justB]
theorem no_eq (ks : List Data) : decide (ks.length = 0) = (justB [] (ks.map opOf) && allsB ks) := by
  match ks with
  | [] => rfl
  | x :: r => simp [justB]

theorem kids_eq {op : Int} (h1 : 1 ≤ op) (h2 : op ≤ 35) (ks : List Data) : kidsS op ks = (kindB op (ks.map opOf) && allsB ks) := by
  unfold kidsS kindB
  by_cases a1 : op = 1 ∨ op = 2 ∨ op = 3 ∨ op = 4 ∨ op = 7 ∨ op = 8 ∨ op = 33
  · rw [if_neg (by omega), if_neg (by omega), if_neg (by omega), if_neg (by omega), if_neg (by omega), if_neg (by omega), if_neg (by omega), if_pos a1]
    exact no_eq ks
  rw [if_neg a1]
  by_cases a2 : op = 5 ∨ op = 6 ∨ op = 22 ∨ op = 23 ∨ op = 34 ∨ op = 35
  · rw [if_pos a2, if_pos a2]; exact one_eq ks
  rw [if_neg a2, if_neg a2]
  by_cases a3 : (9 ≤ op ∧ op ≤ 21) ∨ op = 24 ∨ op = 25
  · rw [if_pos a3, if_pos a3]; exact two_eq ks
  rw [if_neg a3, if_neg a3]
  by_cases a4 : op = 26 ∨ op = 27
  · rw [if_pos a4, if_pos a4]; exact set_eq ks
  rw [if_neg a4, if_neg a4]
  by_cases a5 : op = 28 ∨ op = 30
  · rw [if_pos a5, if_pos a5]; exact es_eq ks
  rw [if_neg a5, if_neg a5]
  by_cases a6 : op = 29
  · rw [if_neg (by omega), if_neg (by omega), if_pos a6, if_pos a6]; exact st_eq ks
  simp only [if_neg a6]
  by_cases a7 : op = 31
  · simp only [if_pos a7]; exact if_eq ks
  simp only [if_neg a7]
  have a8 : op = 32 := by omega
  simp only [if_pos a8]
  exact wh_eq ks

/-- What the specification asks beside kids. -/
def wordS (op n : Int) (s : List UInt8) : Bool :=
  if op = 1 then decide (s = []) && (decide (0 ≤ n) && decide (n ≤ 9000000000000))
  else if op = 2 then lineB s else if op = 3 then rexB s else if op = 4 ∨ op = 5 ∨ op = 34 then nameB s else if op = 28 then callB s else decide (s = [])
def nodeS (op n : Int) (s : List UInt8) (ks : List Data) : Bool :=
  kidsS op ks && (decide (1 ≤ op) && decide (op ≤ 35)) && !(!decide (n = 0) && !decide (op = 1)) && wordS op n s

theorem node_all (op n : Int) (s : List UInt8) (ks : List Data) : nodeS op n s ks = allB (nd op n s ks) := by
  rw [all_nd]
  unfold nodeS nodeB
  rw [op_nd, num_nd, txt_nd, kids_nd]
  by_cases h : 1 ≤ op ∧ op ≤ 35
  · obtain ⟨h1, h2⟩ := h
    rw [kids_eq h1 h2]
    generalize kindB op (ks.map opOf) = K
    generalize allsB ks = A
    simp only [h1, h2, decide_true]
    unfold wordS wordB
    by_cases o1 : op = 1
    · rw [if_pos o1, if_pos o1]
      simp only [o1, decide_true, Bool.not_true, Bool.and_false, Bool.not_false, Bool.and_true]
      by_cases n1 : 0 ≤ n
      · have : Dec.okB n = decide (n ≤ 9000000000000) := by unfold Dec.okB; rw [show decide (-9000000000000 ≤ n) = true by simp; omega]; simp
        rw [this]
        cases K <;> cases A <;> cases decide (s = []) <;> cases decide (0 ≤ n) <;> cases decide (n ≤ 9000000000000) <;> rfl
      · simp [n1]
    · rw [if_neg o1, if_neg o1]
      simp only [o1, decide_false, Bool.not_false, Bool.and_true, Bool.not_not]
      generalize (if op = 2 then lineB s else if op = 3 then rexB s else if op = 4 ∨ op = 5 ∨ op = 34 then nameB s else if op = 28 then callB s else decide (s = [])) = W
      cases K <;> cases A <;> cases decide (n = 0) <;> cases W <;> rfl
  · have hk : kindB op (ks.map opOf) = false := by unfold kindB; repeat rw [if_neg (by omega)]
    rw [hk]
    have : (decide (1 ≤ op) && decide (op ≤ 35)) = false := by simp; omega
    rw [this]
    simp

end Ty
end Go.Proofs.YtjdohfdkkppnpaaGreatDoor

namespace Go.Proofs.YtjdohfdkkppnpaaGreatDoor
open Go.RowKit
namespace Ty
open Nd

theorem sIsE (op : Int) (w : World) : Calls Tryz.prog 35 #[.int .i64 op] w fun e w' => e = .returned (.bool (eB op)) ∧ w' = w := by
  have c := sIn1 op 1 28 w
  have H : Hid (eB op = (decide (1 ≤ op) && decide (op ≤ 28))) := rfl
  generalize (decide (1 ≤ op) && decide (op ≤ 28)) = B at *
  go_enter Tryz.func35, Tryz.ntmps35
  go_wp2_with (go_at_call 34; refine c.mono ?_; rintro e w2 ⟨rfl, hw⟩; have hw := hw.symm; subst hw)
  go_ret
  exact ⟨by rw [H.out]; rfl, rfl⟩

theorem allq_take {p : Data → Bool} {ks : List Data} {k : Nat} {t : Data} (h : ks[k]? = some t) : (ks.take (k + 1)).all p = ((ks.take k).all p && p t) := by
  rw [List.take_add_one, h, List.all_append]
  simp

set_option maxRecDepth 100000 in
theorem sEs {t : Data} (hk : ∀ x ∈ kidsOf t, Tells 36 allB x) (hn : (kidsOf t).length ≤ 1048577) (m : Nat) (hm : m ≤ (kidsOf t).length) (w : World) (a b c u : Value) (hS : Sen w) (hA : ArgIs w t [a, b, c, u]) :
    Calls Tryz.prog 101 #[.agg #[a, b, c, u], .int .i64 0, .int .i64 m] w fun e w' => e = .returned (.bool (((kidsOf t).take m).all eQ)) ∧ Below w.heap.size w w' := by
  obtain ⟨ao, cap, rfl, rfl, rfl, rfl, hK, -⟩ := arg_open hA
  have hb0 : ∀ o, Below w.heap.size w (w.alloc o) := fun o => (Below.refl _ w).alloc (Nat.le_refl _) _
  have hv0 : ∀ o, o = Obj.cells #[.int .i64 (opOf t), .int .i64 (numOf t), .string ⟨(txtOf t).toArray⟩, .slice ao (kidsOf t).length cap] 39 → Var (w.alloc o) w.heap.size (.int .i64 (opOf t)) (.int .i64 (numOf t)) (.string ⟨(txtOf t).toArray⟩) (.slice ao (kidsOf t).length cap) := fun o ho => by rw [ho]; exact heap_new _ _
  clear hA
  generalize opOf t = op at *
  generalize numOf t = n at *
  generalize txtOf t = s at *
  generalize kidsOf t = ks at *
  have bn : (ks.length : Int) ≤ 1048577 := by omega
  have bm : (m : Int) ≤ ks.length := by omega
  go_enter Tryz.func101, Tryz.ntmps101
  go_wp2_with fail
  go_loopw [7] (fun i wr => ∃ k : Nat, k ≤ m ∧ i = .int .i64 k ∧ (ks.take k).all eQ = true ∧ Below w.heap.size w wr ∧ Var wr w.heap.size (.int .i64 op) (.int .i64 n) (.string ⟨s.toArray⟩) (.slice ao ks.length cap)) (fun i _ => m - (intOf i).toNat)
  case atStart => exact ⟨0, Nat.zero_le _, rfl, rfl, hb0 _, hv0 _ rfl⟩
  case round =>
    obtain ⟨k, hkm, rfl, hall, hb, hV⟩ := hrel
    have v3 := hV.cell.2.2.2
    by_cases hkl : k < m
    · have hkk : k < ks.length := by omega
      have hki : ks[k]? = some ks[k] := List.getElem?_eq_getElem hkk
      obtain ⟨g, o, x0, x1, x2, x3, rfl, hbl, c0, c1, c2, c3, ht⟩ := args_at (args_frame hb hK) hki
      simp only [Nat.zero_add] at c0 c1 c2 c3
      have bk : (k : Int) < m := by omega
      have bk2 : (k : Int) < ks.length := by omega
      have cE := sIsE (opOf ks[k]) wr
      have call := hk ks[k] (List.getElem_mem hkk) wr x0 x1 x2 x3 (hS.later hb) ht
      obtain ⟨ao', cap', rfl, rfl, rfl, rfl, -, -⟩ := arg_open ht
      have hT := allq_take (p := eQ) hki
      rw [hall, Bool.true_and] at hT
      have HT : Hid ((ks.take (k + 1)).all eQ = eQ ks[k]) := hT
      have HN : Hid (eQ ks[k] = false → (ks.take m).all eQ = false) := fun hf => by
        rcases hx : (ks.take m).all eQ with _ | _
        · rfl
        · have := List.all_eq_true.1 hx ks[k] (List.mem_take_iff_getElem.2 ⟨k, by omega, rfl⟩)
          rw [hf] at this; cases this
      have HQ : Hid (eQ ks[k] = (eB (opOf ks[k]) && allB ks[k])) := rfl
      clear hk hK hS ht hki hall hT hb0 hv0
      generalize eB (opOf ks[k]) = B1 at *
      generalize allB ks[k] = B2 at *
      generalize opOf ks[k] = op' at *
      generalize numOf ks[k] = n' at *
      generalize txtOf ks[k] = s' at *
      generalize (kidsOf ks[k]).length = L' at *
      generalize eQ ks[k] = Q at *
      cases B1
      · replace HQ : Hid ((ks.take m).all eQ = false) := HN.out HQ.out
        clear HN
        go_wp2_with (first
          | (go_at_call 35; refine cE.mono ?_; rintro e w2 ⟨rfl, hw⟩; have hw := hw.symm; subst hw))
        go_ret
        exact ⟨by rw [HQ.out]; rfl, hb⟩
      · cases B2
        · replace HQ : Hid ((ks.take m).all eQ = false) := HN.out HQ.out
          clear HN
          go_wp2_with (first
            | (go_at_call 35; refine cE.mono ?_; rintro e w2 ⟨rfl, hw⟩; have hw := hw.symm; subst hw)
            | (go_at_call 36; refine call.mono ?_; rintro e w3 ⟨rfl, hb3⟩))
          go_ret
          exact ⟨by rw [HQ.out]; rfl, hb.trans (hb3.mono hb.size)⟩
        · clear HN
          go_wp2_with (first
            | (go_at_call 35; refine cE.mono ?_; rintro e w2 ⟨rfl, hw⟩; have hw := hw.symm; subst hw)
            | (go_at_call 36; refine call.mono ?_; rintro e w3 ⟨rfl, hb3⟩))
          go_roundw
          case rel => exact ⟨k + 1, hkl, by go_num, by rw [HT.out, HQ.out]; rfl, hb.trans (hb3.mono hb.size), hV.kept (hb3.block _ hV.lt)⟩
          case measure => simp [intOf]; omega
    · obtain rfl : k = m := by omega
      have H : Hid ((ks.take k).all eQ = true) := hall
      clear hall
      go_wp2_with fail
      go_ret
      exact ⟨by rw [H.out]; rfl, hb⟩

set_option maxRecDepth 100000 in
theorem sBlocks {t : Data} (hk : ∀ x ∈ kidsOf t, Tells 36 allB x) (hn : (kidsOf t).length ≤ 1048577) (h1 : 1 ≤ (kidsOf t).length) (w : World) (a b c u : Value) (hS : Sen w) (hA : ArgIs w t [a, b, c, u]) :
    Calls Tryz.prog 102 #[.agg #[a, b, c, u], .int .i64 1] w fun e w' => e = .returned (.bool (((kidsOf t).drop 1).all blQ)) ∧ Below w.heap.size w w' := by
  obtain ⟨ao, cap, rfl, rfl, rfl, rfl, hK, -⟩ := arg_open hA
  have hb0 : ∀ o, Below w.heap.size w (w.alloc o) := fun o => (Below.refl _ w).alloc (Nat.le_refl _) _
  have hv0 : ∀ o, o = Obj.cells #[.int .i64 (opOf t), .int .i64 (numOf t), .string ⟨(txtOf t).toArray⟩, .slice ao (kidsOf t).length cap] 39 → Var (w.alloc o) w.heap.size (.int .i64 (opOf t)) (.int .i64 (numOf t)) (.string ⟨(txtOf t).toArray⟩) (.slice ao (kidsOf t).length cap) := fun o ho => by rw [ho]; exact heap_new _ _
  clear hA
  generalize opOf t = op at *
  generalize numOf t = n at *
  generalize txtOf t = s at *
  generalize kidsOf t = ks at *
  have bn : (ks.length : Int) ≤ 1048577 := by omega
  go_enter Tryz.func102, Tryz.ntmps102
  go_wp2_with fail
  go_loopw [5] (fun i wr => ∃ k : Nat, 1 ≤ k ∧ k ≤ ks.length ∧ i = .int .i64 k ∧ (ks.drop 1).all blQ = (ks.drop k).all blQ ∧ Below w.heap.size w wr ∧ Var wr w.heap.size (.int .i64 op) (.int .i64 n) (.string ⟨s.toArray⟩) (.slice ao ks.length cap)) (fun i _ => ks.length - (intOf i).toNat)
  case atStart => exact ⟨1, Nat.le_refl _, h1, rfl, rfl, hb0 _, hv0 _ rfl⟩
  case round =>
    obtain ⟨k, hk1, hkm, rfl, hall, hb, hV⟩ := hrel
    have v3 := hV.cell.2.2.2
    by_cases hkk : k < ks.length
    · have hki : ks[k]? = some ks[k] := List.getElem?_eq_getElem hkk
      obtain ⟨g, o, x0, x1, x2, x3, rfl, hbl, c0, c1, c2, c3, ht⟩ := args_at (args_frame hb hK) hki
      simp only [Nat.zero_add] at c0 c1 c2 c3
      have bk2 : (k : Int) < ks.length := by omega
      have call := hk ks[k] (List.getElem_mem hkk) wr x0 x1 x2 x3 (hS.later hb) ht
      obtain ⟨ao', cap', rfl, rfl, rfl, rfl, -, -⟩ := arg_open ht
      rw [List.drop_eq_getElem_cons hkk, List.all_cons] at hall
      have HA : Hid ((ks.drop 1).all blQ = (blQ ks[k] && (ks.drop (k + 1)).all blQ)) := hall
      have HQ : Hid (blQ ks[k] = (decide (opOf ks[k] = 29) && allB ks[k])) := rfl
      have eb : (opOf ks[k] == 29) = decide (opOf ks[k] = 29) := by rw [Bool.eq_iff_iff]; simp
      clear hk hK hS ht hki hall hb0 hv0
      generalize hd : decide (opOf ks[k] = 29) = B1 at *
      generalize allB ks[k] = B2 at *
      generalize opOf ks[k] = op' at *
      generalize numOf ks[k] = n' at *
      generalize txtOf ks[k] = s' at *
      generalize (kidsOf ks[k]).length = L' at *
      generalize blQ ks[k] = Q at *
      cases B1
      · have hne : ¬ op' = 29 := of_decide_eq_false hd
        have HR : Hid ((ks.drop 1).all blQ = false) := by show _ = _; rw [HA.out, HQ.out]; rfl
        clear HA hd
        go_wp2_with fail
        go_ret
        exact ⟨by rw [HR.out]; rfl, hb⟩
      · have he : op' = 29 := of_decide_eq_true hd
        subst he
        cases B2
        · have HR : Hid ((ks.drop 1).all blQ = false) := by show _ = _; rw [HA.out, HQ.out]; rfl
          clear HA hd
          go_wp2_with (go_at_call 36; refine call.mono ?_; rintro e w3 ⟨rfl, hb3⟩)
          go_ret
          exact ⟨by rw [HR.out]; rfl, hb.trans (hb3.mono hb.size)⟩
        · have HR : Hid ((ks.drop 1).all blQ = (ks.drop (k + 1)).all blQ) := by show _ = _; rw [HA.out, HQ.out]; rfl
          clear HA hd
          go_wp2_with (go_at_call 36; refine call.mono ?_; rintro e w3 ⟨rfl, hb3⟩)
          go_roundw
          case rel => exact ⟨k + 1, by omega, hkk, by go_num, HR.out, hb.trans (hb3.mono hb.size), hV.kept (hb3.block _ hV.lt)⟩
          case measure => simp [intOf]; omega
    · obtain rfl : k = ks.length := by omega
      rw [List.drop_length] at hall
      have H : Hid ((ks.drop 1).all blQ = true) := hall
      clear hall
      go_wp2_with fail
      go_ret
      exact ⟨by rw [H.out]; rfl, hb⟩

end Ty
end Go.Proofs.YtjdohfdkkppnpaaGreatDoor

