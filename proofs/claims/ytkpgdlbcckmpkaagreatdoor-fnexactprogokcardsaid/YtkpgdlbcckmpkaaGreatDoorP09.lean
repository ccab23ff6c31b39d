/-
  What is right of a program: names in order, none of both kinds, and places: plain.
  The contracts of the library that these proofs call, laid at this translation.
-/
import Derived.Test.YtkpgdlbcckmpkaaGreatDoorP03
import Derived.Test.YtkpgdlbcckmpkaaGreatDoorP07
import Derived.Test.YtkpgdlbcckmpkaaGreatDoorP08
import Derived.Shelf.Small.Bits
import Derived.Shelf.Strconv.Itoa0
import Derived.Test.YtkpgdlbcckmpkaaGreatDoorProg
namespace Go.Proofs.YtkpgdlbcckmpkaaGreatDoor
open Go.RowKit
namespace Pg
open St (Vl RdV)

def ltB (p s : ByteArray) : Bool := Op.bytesLess p.toList s.toList
def nm (ss : List ByteArray) (i : Nat) : ByteArray := ss.getD i ⟨#[]⟩
def nmB (s : ByteArray) : Bool := Ty.nameB s.data.toList
def upAt (ss : List ByteArray) (i : Nat) : Bool := decide (i = 0) || ltB (nm ss (i - 1)) (nm ss i)
def upB (ss : List ByteArray) (k : Nat) : Bool := (List.range k).all (upAt ss)
theorem upB_succ (ss : List ByteArray) (k : Nat) : upB ss (k + 1) = (upB ss k && upAt ss k) := by
  unfold upB
  rw [List.range_succ, List.all_append]
  simp
theorem upB_no {ss : List ByteArray} {i n : Nat} (h : i < n) (hi : upAt ss i = false) : upB ss n = false := by
  rcases hb : upB ss n with _ | _
  · rfl
  · unfold upB at hb
    rw [List.all_eq_true.1 hb i (List.mem_range.2 h)] at hi
    cases hi
theorem nm_get {ss : List ByteArray} {i : Nat} {s : ByteArray} (h : ss[i]? = some s) : nm ss i = s := by unfold nm; simp [h]
def namesB (ss : List ByteArray) : Bool := decide (ss.length ≤ 8) && (ss.all nmB && upB ss ss.length)
def eqB (x s : ByteArray) : Bool := decide (x.toList = s.toList)
def hasT (ss : List ByteArray) (s : ByteArray) : Bool := ss.any (eqB · s)
def freeOf (cells : List ByteArray) (v : ByteArray) : Bool := !hasT cells v
def listsB (vars cells : List ByteArray) : Bool := namesB vars && (namesB cells && vars.all (freeOf cells))
/-- Where a name stands, or -1. -/
def idx (ss : List ByteArray) (s : ByteArray) : Int := match ss.findIdx? (eqB · s) with | some k => k | none => -1
theorem idx_at {ss : List ByteArray} {k : Nat} {x s : ByteArray} (h : ss[k]? = some x) (hx : eqB x s = true) (hn : (ss.take k).any (eqB · s) = false) : idx ss s = k ∧ hasT ss s = true := by
  have hk : k < ss.length := (List.getElem?_eq_some_iff.1 h).1
  have he := (List.getElem?_eq_some_iff.1 h).2
  have hf : ss.findIdx? (eqB · s) = some k := by
    rw [List.findIdx?_eq_some_iff_getElem]
    refine ⟨hk, by rw [he]; exact hx, fun j hj hp => ?_⟩
    have : (ss.take k).any (eqB · s) = true := List.any_eq_true.2 ⟨ss[j], List.mem_take_iff_getElem.2 ⟨j, by omega, rfl⟩, hp⟩
    rw [hn] at this
    cases this
  refine ⟨by unfold idx; rw [hf], ?_⟩
  unfold hasT
  exact List.any_eq_true.2 ⟨x, List.mem_of_getElem? h, hx⟩
theorem idx_none {ss : List ByteArray} {s : ByteArray} (hn : ss.any (eqB · s) = false) : idx ss s = -1 ∧ hasT ss s = false := by
  have hf : ss.findIdx? (eqB · s) = none := by
    rw [List.findIdx?_eq_none_iff]
    intro x hx
    rcases hb : eqB x s with _ | _
    · rfl
    · rw [List.any_eq_true.2 ⟨x, hx, hb⟩] at hn
      cases hn
  exact ⟨by unfold idx; rw [hf], hn⟩
theorem any_takeT {p : ByteArray → Bool} {ks : List ByteArray} {k : Nat} {t : ByteArray} (h : ks[k]? = some t) : (ks.take (k + 1)).any p = ((ks.take k).any p || p t) := by
  rw [List.take_add_one, h, List.any_append]
  simp
theorem idx_neg (ss : List ByteArray) (s : ByteArray) : decide (idx ss s < 0) = freeOf ss s := by
  unfold freeOf hasT
  rcases hb : ss.any (eqB · s) with _ | _
  · rw [(idx_none hb).1]; rfl
  · obtain ⟨x, hx, hp⟩ := List.any_eq_true.1 hb
    rcases hf : ss.findIdx? (eqB · s) with _ | k
    · rw [List.findIdx?_eq_none_iff] at hf
      rw [hf x hx] at hp
      cases hp
    · unfold idx
      rw [hf]
      simp
def progB (P : ByteArray → Bool) (vars cells : List ByteArray) (st mn : List Vl) : Bool := listsB vars cells && (Oc.opsB P st vars.length cells.length && Oc.opsB P mn vars.length cells.length)
theorem all_takeT {p : ByteArray → Bool} {ks : List ByteArray} {k : Nat} {t : ByteArray} (h : ks[k]? = some t) : (ks.take (k + 1)).all p = ((ks.take k).all p && p t) := by
  rw [List.take_add_one, h, List.all_append]
  simp
theorem all_noT {p : ByteArray → Bool} {ks : List ByteArray} {t : ByteArray} (h : t ∈ ks) (hp : p t = false) : ks.all p = false := by
  rcases hb : ks.all p with _ | _
  · rfl
  · rw [List.all_eq_true.1 hb t h] at hp; cases hp

end Pg
end Go.Proofs.YtkpgdlbcckmpkaaGreatDoor

namespace Go.Proofs
open Go.Shelf
end Go.Proofs

