/-
  Places of a stack in plain words: the forms of their codes, what each asks.
  What is right of a program: names in order, none of both kinds, and places: plain.
-/
import Derived.Test.YtaakeecliehjgaaGreatDoorP01
import Derived.Test.YtaakeecliehjgaaGreatDoorP08
import Derived.Maps.RangeWalk
import Derived.Maps.Views
import Derived.Sort.KeysCollected
import Derived.Test.YtaakeecliehjgaaGreatDoorP02
namespace Go.Proofs.YtaakeecliehjgaaGreatDoor
open Go.RowKit
namespace Oc
open St (Vl)

/-- A form: its code, what its N and its S tell, its name. -/
abbrev Fm := Int × Int × Int × List UInt8
def encF (f : Fm) : List Value := [.int .i64 f.1, .int .i64 f.2.1, .int .i64 f.2.2.1, .string ⟨f.2.2.2.toArray⟩]
theorem encF_len (f : Fm) : (encF f).length = 4 := rfl
def zeroF : Fm := (0, 0, 0, [])
def tbl : List Fm := [
  (1, 1, 0, [110, 117, 109]),
  (2, 0, 1, [116, 101, 120, 116]),
  (3, 2, 0, [118, 97, 114]),
  (4, 2, 0, [115, 101, 116, 118, 97, 114]),
  (5, 2, 0, [112, 108, 117, 115, 118, 97, 114]),
  (6, 3, 0, [99, 101, 108, 108]),
  (7, 3, 0, [115, 101, 116, 99, 101, 108, 108]),
  (8, 3, 0, [112, 108, 117, 115, 99, 101, 108, 108]),
  (9, 0, 0, [102, 105, 101, 108, 100]),
  (10, 0, 0, [110, 114]),
  (11, 0, 0, [110, 102]),
  (12, 0, 0, [97, 100, 100]),
  (13, 0, 0, [115, 117, 98]),
  (14, 0, 0, [109, 117, 108]),
  (15, 0, 0, [100, 105, 118]),
  (16, 0, 0, [109, 111, 100]),
  (17, 0, 0, [99, 97, 116]),
  (18, 0, 0, [108, 101, 115, 115]),
  (19, 0, 0, [109, 111, 115, 116]),
  (20, 0, 0, [109, 111, 114, 101]),
  (21, 0, 0, [108, 101, 97, 115, 116]),
  (22, 0, 0, [115, 97, 109, 101]),
  (23, 0, 0, [111, 116, 104, 101, 114]),
  (24, 0, 2, [102, 105, 116, 115]),
  (25, 0, 2, [108, 105, 110, 101]),
  (26, 0, 0, [110, 111, 116]),
  (27, 0, 0, [109, 105, 110, 117, 115]),
  (28, 0, 0, [98, 111, 111, 108]),
  (29, 5, 3, [99, 97, 108, 108]),
  (30, 4, 0, [106, 117, 109, 112]),
  (31, 4, 0, [122, 101, 114, 111]),
  (32, 0, 0, [112, 111, 112]),
  (33, 6, 0, [115, 104, 111, 119]),
  (34, 0, 0, [101, 110, 100, 108]),
  (35, 3, 0, [100, 114, 111, 112]),
  (36, 0, 0, [110, 101, 120, 116])]
theorem tbl_len : tbl.length = 36 := by decide

/-- What an N tells, and an S, by the code. -/
def kn (c : Int) : Int := if c = 1 then 1 else if c = 3 ∨ c = 4 ∨ c = 5 then 2 else if c = 6 ∨ c = 7 ∨ c = 8 ∨ c = 35 then 3 else if c = 30 ∨ c = 31 then 4 else if c = 29 then 5 else if c = 33 then 6 else 0
def ks (c : Int) : Int := if c = 2 then 1 else if c = 24 ∨ c = 25 then 2 else if c = 29 then 3 else 0
theorem tbl_kinds : ∀ f ∈ tbl, f.2.1 = kn f.1 ∧ f.2.2.1 = ks f.1 := by decide
theorem tbl_names : (tbl.map fun f => f.2.2.2).Nodup := by decide
theorem tbl_codes : tbl.map (fun f => f.1) = (List.range 36).map (fun i : Nat => ((i : Int) + 1)) := by decide
theorem tbl_code {i : Nat} {f : Fm} (h : tbl[i]? = some f) : f.1 = (i : Int) + 1 := by
  have hi : i < 36 := by have := (List.getElem?_eq_some_iff.1 h).1; rwa [tbl_len] at this
  have e : (tbl.map (fun f => f.1))[i]? = some f.1 := by rw [List.getElem?_map, h]; rfl
  rw [tbl_codes, List.getElem?_map, List.getElem?_range hi] at e
  exact (Option.some.inj e).symm

def hN (vars lists places what n : Int) : Bool :=
  if what = 1 then Dec.okB n else if what = 2 then decide (0 ≤ n ∧ n < vars) else if what = 3 then decide (0 ≤ n ∧ n < lists) else if what = 4 then decide (0 ≤ n ∧ n < places) else if what = 5 then decide (1 ≤ n ∧ n ≤ 3) else if what = 6 then decide (n = 0 ∨ n = 1) else decide (n = 0)
def hS (P : ByteArray → Bool) (what : Int) (s : ByteArray) : Bool :=
  if what = 1 then true else if what = 2 then P s else if what = 3 then Ty.callB s.data.toList else decide (s.size = 0)
def codeB (c : Int) : Bool := decide (1 ≤ c ∧ c ≤ 36)
/-- A place is right. -/
def opB (P : ByteArray → Bool) (vars lists places : Int) (o : Vl) : Bool := codeB o.1 && (hN vars lists places (kn o.1) o.2.1 && hS P (ks o.1) o.2.2)
def lastB (l : List Vl) : Bool := match l.getLast? with
  | some o => decide (o.1 = 36)
  | none => false
def opsB (P : ByteArray → Bool) (l : List Vl) (vars lists : Int) : Bool := decide (1 ≤ l.length ∧ l.length ≤ 1500) && (lastB l && l.all (opB P vars lists l.length))

/-- The form of a code, if it has one. -/
def formAt (c : Int) : Fm := if codeB c then (tbl[(c - 1).toNat]?).getD zeroF else zeroF
theorem form_kinds {c : Int} (h : codeB c = true) : (formAt c).2.1 = kn c ∧ (formAt c).2.2.1 = ks c ∧ tbl[(c - 1).toNat]? = some (formAt c) := by
  have h' : 1 ≤ c ∧ c ≤ 36 := by simpa [codeB] using h
  have hi : (c - 1).toNat < tbl.length := by rw [tbl_len]; omega
  have e : tbl[(c - 1).toNat]? = some (formAt c) := by
    unfold formAt
    rw [if_pos h, List.getElem?_eq_getElem hi]
    rfl
  have hc := tbl_code e
  have hk := tbl_kinds _ (List.mem_of_getElem? e)
  have : (formAt c).1 = c := by rw [hc]; omega
  rw [this] at hk
  exact ⟨hk.1, hk.2, e⟩

/-! What the map holds. -/
def mkV (f : Int × Int × Int) : Value := .agg #[.int .i64 f.1, .int .i64 f.2.1, .int .i64 f.2.2, .string ⟨#[]⟩]
def dat (f : Int × Int × Int) : DataW Unit := .agg [.lit (.int .i64 f.1), .lit (.int .i64 f.2.1), .lit (.int .i64 f.2.2)]
theorem dat_inj {f g : Int × Int × Int} (h : dat f = dat g) : f = g := by
  obtain ⟨a, b, c⟩ := f
  obtain ⟨a', b', c'⟩ := g
  simpa [dat] using h
def datOf : List Value → Option (DataW Unit × List MemPlace)
  | [.int .i64 c, .int .i64 n, .int .i64 s, .string t] => if t.data.toList = [] then some (dat (c, n, s), []) else none
  | _ => none
def Rf : Value → Option (DataW Unit × List MemPlace)
  | .agg a => datOf a.toList
  | _ => none
theorem Rf_mk (f : Int × Int × Int) : Rf (mkV f) = some (dat f, []) := rfl
theorem Rf_inv (v : Value) (y : DataW Unit × List MemPlace) (h : Rf v = some y) : ∃ f, v = mkV f := by
  unfold Rf at h
  split at h
  · rename_i a
    unfold datOf at h
    split at h
    · rename_i c n s t ha
      split at h
      · rename_i ht
        refine ⟨(c, n, s), ?_⟩
        obtain ⟨⟨tl⟩⟩ := t
        obtain ⟨al⟩ := a
        simp only [] at ha ht
        subst ht
        rw [ha]
        rfl
      · cases h
    · cases h
  · cases h
def thr (f : Fm) : Int × Int × Int := (f.1, f.2.1, f.2.2.1)
/-- The datum of the forms that were put, the last one first. -/
def dR : List Fm → DataW Unit
  | [] => .map []
  | f :: l => (dR l).put (.string f.2.2.2) (dat (thr f))
theorem dR_map : ∀ l, Maps.IsMap (dR l)
  | [] => Maps.isMap_empty
  | _ :: l => (dR_map l).put _ _
theorem dR_has : ∀ (l : List Fm) (x : List UInt8), Maps.has (dR l) (.string x) = true ↔ x ∈ l.map fun f => f.2.2.2
  | [], x => by simp [dR, Maps.has_eq]
  | f :: l, x => by
    rw [dR, List.map_cons, List.mem_cons]
    by_cases h : x = f.2.2.2
    · subst h
      rw [Maps.has_put_same (dR_map l) (by trivial)]
      simp
    · rw [Maps.has_put_other (by simpa using h), dR_has l x]
      simp [h]
theorem dR_at : ∀ (l : List Fm) (x : List UInt8) (y : DataW Unit), (∀ zd, (dR l).atKey (.string x) zd = y) → ∃ f ∈ l, f.2.2.2 = x ∧ dat (thr f) = y
  | [], x, y, h => by
    have h1 := h (.nil)
    have h2 := h (.map [])
    simp [dR, DataW.atKey] at h1 h2
    rw [← h1] at h2
    cases h2
  | f :: l, x, y, h => by
    by_cases hx : x = f.2.2.2
    · subst hx
      refine ⟨f, by simp, rfl, ?_⟩
      have := h .nil
      rwa [dR, Maps.atKey_put_same (dR_map l) (by trivial)] at this
    · obtain ⟨g, hg, h1, h2⟩ := dR_at l x y fun zd => by
        have := h zd
        rwa [dR, Maps.atKey_put_other (by simpa using hx)] at this
      exact ⟨g, by simp [hg], h1, h2⟩

/-- What was gone through: forms of the table, no name twice, just those that are no longer to come. -/
def Came (left : Lit → Bool) (L : List Fm) : Prop := Collected (dR tbl.reverse) left (L.map fun f => f.2.2.2) ∧ ∀ f ∈ L, f ∈ tbl
theorem Came.start : Came (Maps.has (dR tbl.reverse)) [] := ⟨Collected.start _, fun f h => by cases h⟩
theorem Came.step {left : Lit → Bool} {L : List Fm} (h : Came left L) {x : List UInt8} {c : Int × Int × Int} (hl : left (.string x) = true) (hat : ∀ zd, (dR tbl.reverse).atKey (.string x) zd = dat c) : Came (fun z => left z && !z.sameKey (.string x)) (L ++ [(c.1, c.2.1, c.2.2, x)]) := by
  refine ⟨?_, fun f hf => ?_⟩
  · rw [List.map_append]
    exact h.1.step hl hat
  · rcases List.mem_append.1 hf with hf | hf
    · exact h.2 f hf
    · obtain ⟨g, hg, h1, h2⟩ := dR_at _ x _ hat
      have h3 := dat_inj h2
      simp only [List.mem_singleton] at hf
      subst hf
      obtain ⟨g0, g1, g2, g3⟩ := g
      simp only [thr] at h3 h1
      subst h3 h1
      exact List.mem_reverse.1 hg
theorem nodup_of_map {α β : Type} {f : α → β} : ∀ {l : List α}, (l.map f).Nodup → l.Nodup
  | [], _ => List.nodup_nil
  | x :: l, h => by
    rw [List.map_cons, List.nodup_cons] at h
    exact List.nodup_cons.2 ⟨fun hx => h.1 (List.mem_map_of_mem hx), nodup_of_map h.2⟩
theorem eq_of_name {f g : Fm} (hf : f ∈ tbl) (hg : g ∈ tbl) (h : f.2.2.2 = g.2.2.2) : f = g := by
  have h' : ∀ f ∈ tbl, ∀ g ∈ tbl, f.2.2.2 = g.2.2.2 → f = g := by decide +kernel
  exact h' f hf g hg h
theorem Came.perm {left : Lit → Bool} {L : List Fm} (h : Came left L) (hl : ∀ kl, left kl = false) : L.Perm tbl := by
  refine (List.perm_ext_iff_of_nodup (nodup_of_map h.1.1) (nodup_of_map tbl_names)).2 fun f => ⟨h.2 f, fun hf => ?_⟩
  have hx : f.2.2.2 ∈ L.map fun f => f.2.2.2 := (h.1.2 _).2 ⟨(dR_has _ _).2 (by rw [List.map_reverse, List.mem_reverse]; exact List.mem_map_of_mem hf), hl _⟩
  obtain ⟨g, hg, e⟩ := List.mem_map.1 hx
  rw [← eq_of_name (h.2 g hg) hf e]
  exact hg
theorem Came.len {left : Lit → Bool} {L : List Fm} (h : Came left L) : L.length ≤ 36 := by
  have := (nodup_of_map h.1.1).length_le_of_subset fun f hf => h.2 f hf
  rwa [tbl_len] at this
/-- Forms that are sorted by their codes are the table. -/
theorem sorted_is {L : List Fm} (hp : L.Perm tbl) (hs : L.Pairwise fun x y => ¬ y.1 < x.1) : L = tbl := by
  have h1 : tbl.Pairwise fun x y => ¬ y.1 < x.1 := by decide
  refine List.Perm.eq_of_pairwise (le := fun x y => ¬ y.1 < x.1) (fun a b ha hb h1 h2 => ?_) hs h1 hp
  have hc : a.1 = b.1 := by omega
  have ha := hp.mem_iff.1 ha
  obtain ⟨i, hi, rfl⟩ := List.getElem_of_mem ha
  obtain ⟨j, hj, rfl⟩ := List.getElem_of_mem hb
  have e1 := tbl_code (List.getElem?_eq_getElem hi)
  have e2 := tbl_code (List.getElem?_eq_getElem hj)
  have : i = j := by omega
  subst this
  rfl

end Oc
end Go.Proofs.YtaakeecliehjgaaGreatDoor
namespace Go.Proofs.YtaakeecliehjgaaGreatDoor
open Go.RowKit
namespace Pg
open St (Vl RdV)

def ltB (p s : ByteArray) : Bool := Op.bytesLess p.toList s.toList
def nm (ss : List ByteArray) (i : Nat) : ByteArray := ss.getD i ⟨#[]⟩
def nmB (s : ByteArray) : Bool := Ty.nameB s.data.toList
def upAt (ss : List ByteArray) (i : Nat) : Bool := decide (i = 0) || ltB (nm ss (i - 1)) (nm ss i)
def upB (ss : List ByteArray) (k : Nat) : Bool := (List.range k).all (upAt ss)
theorem upB_succ (ss : List ByteArray) (k : Nat) : upB ss (k + 1) = (upB ss k && upAt ss k) := by
  unfold upB
  rw [List.range_succ, List.all_append]
  simp
theorem upB_no {ss : List ByteArray} {i n : Nat} (h : i < n) (hi : upAt ss i = false) : upB ss n = false := by
  rcases hb : upB ss n with _ | _
  · rfl
  · unfold upB at hb
    rw [List.all_eq_true.1 hb i (List.mem_range.2 h)] at hi
    cases hi
theorem nm_get {ss : List ByteArray} {i : Nat} {s : ByteArray} (h : ss[i]? = some s) : nm ss i = s := by unfold nm; simp [h]
def namesB (ss : List ByteArray) : Bool := decide (ss.length ≤ 8) && (ss.all nmB && upB ss ss.length)
def eqB (x s : ByteArray) : Bool := decide (x.toList = s.toList)
def hasT (ss : List ByteArray) (s : ByteArray) : Bool := ss.any (eqB · s)
def freeOf (cells : List ByteArray) (v : ByteArray) : Bool := !hasT cells v
def listsB (vars cells : List ByteArray) : Bool := namesB vars && (namesB cells && vars.all (freeOf cells))
/-- Where a name stands, or -1. -/
def idx (ss : List ByteArray) (s : ByteArray) : Int := match ss.findIdx? (eqB · s) with | some k => k | none => -1
theorem idx_at {ss : List ByteArray} {k : Nat} {x s : ByteArray} (h : ss[k]? = some x) (hx : eqB x s = true) (hn : (ss.take k).any (eqB · s) = false) : idx ss s = k ∧ hasT ss s = true := by
  have hk : k < ss.length := (List.getElem?_eq_some_iff.1 h).1
  have he := (List.getElem?_eq_some_iff.1 h).2
  have hf : ss.findIdx? (eqB · s) = some k := by
    rw [List.findIdx?_eq_some_iff_getElem]
    refine ⟨hk, by rw [he]; exact hx, fun j hj hp => ?_⟩
    have : (ss.take k).any (eqB · s) = true := List.any_eq_true.2 ⟨ss[j], List.mem_take_iff_getElem.2 ⟨j, by omega, rfl⟩, hp⟩
    rw [hn] at this
    cases this
  refine ⟨by unfold idx; rw [hf], ?_⟩
  unfold hasT
  exact List.any_eq_true.2 ⟨x, List.mem_of_getElem? h, hx⟩
theorem idx_none {ss : List ByteArray} {s : ByteArray} (hn : ss.any (eqB · s) = false) : idx ss s = -1 ∧ hasT ss s = false := by
  have hf : ss.findIdx? (eqB · s) = none := by
    rw [List.findIdx?_eq_none_iff]
    intro x hx
    rcases hb : eqB x s with _ | _
    · rfl
    · rw [List.any_eq_true.2 ⟨x, hx, hb⟩] at hn
      cases hn
  exact ⟨by unfold idx; rw [hf], hn⟩
theorem any_takeT {p : ByteArray → Bool} {ks : List ByteArray} {k : Nat} {t : ByteArray} (h : ks[k]? = some t) : (ks.take (k + 1)).any p = ((ks.take k).any p || p t) := by
  rw [List.take_add_one, h, List.any_append]
  simp
theorem idx_neg (ss : List ByteArray) (s : ByteArray) : decide (idx ss s < 0) = freeOf ss s := by
  unfold freeOf hasT
  rcases hb : ss.any (eqB · s) with _ | _
  · rw [(idx_none hb).1]; rfl
  · obtain ⟨x, hx, hp⟩ := List.any_eq_true.1 hb
    rcases hf : ss.findIdx? (eqB · s) with _ | k
    · rw [List.findIdx?_eq_none_iff] at hf
      rw [hf x hx] at hp
      cases hp
    · unfold idx
      rw [hf]
      simp
def progB (P : ByteArray → Bool) (vars cells : List ByteArray) (st mn : List Vl) : Bool := listsB vars cells && (Oc.opsB P st vars.length cells.length && Oc.opsB P mn vars.length cells.length)
theorem all_takeT {p : ByteArray → Bool} {ks : List ByteArray} {k : Nat} {t : ByteArray} (h : ks[k]? = some t) : (ks.take (k + 1)).all p = ((ks.take k).all p && p t) := by
  rw [List.take_add_one, h, List.all_append]
  simp
theorem all_noT {p : ByteArray → Bool} {ks : List ByteArray} {t : ByteArray} (h : t ∈ ks) (hp : p t = false) : ks.all p = false := by
  rcases hb : ks.all p with _ | _
  · rfl
  · rw [List.all_eq_true.1 hb t h] at hp; cases hp

end Pg
end Go.Proofs.YtaakeecliehjgaaGreatDoor
