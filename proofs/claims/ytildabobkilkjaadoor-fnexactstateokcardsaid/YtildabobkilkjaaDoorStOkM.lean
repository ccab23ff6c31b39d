/-
  What a right state is, as a plain function; the specification's l11Less, the program's cellOk.
-/
import Derived.Test.YtildabobkilkjaaDoorStCmp
import Derived.Test.YtildabobkilkjaaDoorStSz
import Derived.Test.YtildabobkilkjaaDoorValWalks
namespace Go.Proofs.YtildabobkilkjaaDoor
open Go.RowKit
namespace St
open Nd

def okVl (v : Int × Int × ByteArray) : Bool := Go.Proofs.YtildabobkilkjaaDoor.Vl.okV v.1 v.2.1 v.2.2
def cellB (m : Int) (c : Cl) : Bool := decide (0 ≤ c.1) && (decide (c.1 < m) && (decide ((c.2.1.size : Int) ≤ 300) && okVl c.2.2))
def lessB (a b : Cl) : Bool := decide (cmpC a.1 a.2.1 b.1 b.2.1 < 0)
/-- More than the one ahead. -/
def prevB (cs : List Cl) (i : Nat) (c : Cl) : Bool := match cs[i - 1]? with | none => true | some p => lessB p c
theorem prev_at {cs : List Cl} {i : Nat} {c p : Cl} (h : cs[i - 1]? = some p) : prevB cs i c = lessB p c := by unfold prevB; rw [h]
/-- The cell at a place is right, and more than the one ahead. -/
def okAt (m : Int) (cs : List Cl) (i : Nat) : Bool := match cs[i]? with
  | none => true
  | some c => cellB m c && (decide (i = 0) || prevB cs i c)
theorem ok_at {m : Int} {cs : List Cl} {i : Nat} {c : Cl} (h : cs[i]? = some c) : okAt m cs i = (cellB m c && (decide (i = 0) || prevB cs i c)) := by unfold okAt; rw [h]
def cellsB (m : Int) (cs : List Cl) : Bool := (List.range cs.length).all (okAt m cs)
def stateB (vs : List St.Vl) (cs : List Cl) (nr er vars m : Int) : Bool := decide ((vs.length : Int) = vars) && (vs.all okVl && (decide (cs.length ≤ 40) && (cellsB m cs && (decide (0 ≤ nr ∧ nr ≤ 1000000) && decide (0 ≤ er ∧ er ≤ 7)))))

theorem cells_false {m : Int} {cs : List Cl} {i : Nat} (hi : i < cs.length) (h : okAt m cs i = false) : cellsB m cs = false := by
  unfold cellsB
  rw [List.all_eq_false]
  exact ⟨i, List.mem_range.2 hi, by simp [h]⟩
theorem cells_true {m : Int} {cs : List Cl} (h : ∀ i, i < cs.length → okAt m cs i = true) : cellsB m cs = true := by
  unfold cellsB
  rw [List.all_eq_true]
  exact fun i hi => h i (List.mem_range.1 hi)

theorem less_keys {x y : ByteArray} : cmpS x y < 0 ↔ Op.bytesLess x.toList y.toList = true := by
  unfold cmpS
  cases Op.bytesLess x.toList y.toList <;> simp
  split <;> simp
theorem less_iff {n n' : Int} {k k' : ByteArray} : cmpC n k n' k' < 0 ↔ (n < n' ∨ n = n' ∧ Op.bytesLess k.toList k'.toList = true) := by
  unfold cmpC cmpI
  by_cases h1 : n < n'
  · simp [h1]
  · by_cases h2 : n' < n
    · simp [h1, h2]; omega
    · have : n = n' := by omega
      subst this
      simp [less_keys]

theorem sLess (c : Cl) (n' : Int) (k' : ByteArray) (w : World) :
    Calls Tryd.prog 12 #[.agg #[.int .i64 c.1, .string c.2.1, .int .i64 c.2.2.1, .int .i64 c.2.2.2.1, .string c.2.2.2.2], .int .i64 n', .string k'] w fun e w' => e = .returned (.bool (decide (cmpC c.1 c.2.1 n' k' < 0))) ∧ Below w.heap.size w w' := by
  have hb : ∀ o, Below w.heap.size w (w.alloc o) := fun o => (Below.refl _ w).alloc (Nat.le_refl _) o
  have hi := @less_iff c.1 n' c.2.1 k'
  generalize cmpC c.1 c.2.1 n' k' = q at *
  by_cases h1 : c.1 < n'
  · have hq : decide (q < 0) = true := by simp [hi, h1]
    rw [hq]
    clear hi hq
    go_enter Tryd.func12, Tryd.ntmps12
    go_wp2_with fail
    go_ret
    exact ⟨rfl, hb _⟩
  · have e1 : decide (c.1 < n') = false := by simpa using h1
    by_cases h2 : c.1 = n'
    · have e2 : (c.1 == n') = true := by simpa using h2
      cases h3 : Op.bytesLess c.2.1.toList k'.toList with
      | true =>
        have hq : decide (q < 0) = true := by simp [hi, h2, h3]
        rw [hq]
        clear hi hq h1 h2
        go_enter Tryd.func12, Tryd.ntmps12
        go_wp2_with fail
        go_ret
        exact ⟨rfl, hb _⟩
      | false =>
        have hq : decide (q < 0) = false := by simp [hi, h2, h3]
        rw [hq]
        clear hi hq h1 h2
        go_enter Tryd.func12, Tryd.ntmps12
        go_wp2_with fail
        go_ret
        exact ⟨rfl, hb _⟩
    · have e2 : (c.1 == n') = false := by simpa using h2
      have hq : decide (q < 0) = false := by simp [hi, h2, h1]
      rw [hq]
      clear hi hq h1 h2
      go_enter Tryd.func12, Tryd.ntmps12
      go_wp2_with fail
      go_ret
      exact ⟨rfl, hb _⟩

theorem iCellOk (c : Cl) (m : Int) (a : Addr) (w : World) (hc : w.cell? ⟨0, 0, none⟩ = some (.iface 130 (.pointer (some a)))) (_hs : (c.2.1.size : Int) ≤ 1048576) (hs2 : (c.2.2.2.2.size : Int) ≤ 1048576) :
    Calls Tryd.prog 29 #[.agg #[.int .i64 c.1, .string c.2.1, .int .i64 c.2.2.1, .int .i64 c.2.2.2.1, .string c.2.2.2.2], .int .i64 m] w fun e w' => e = .returned (.bool (cellB m c)) ∧ Below w.heap.size w w' := by
  have hg : 0 < w.heap.size := World.block_lt_of_cell? w ⟨0, 0, none⟩ hc
  have hb : ∀ o, Below w.heap.size w (w.alloc o) := fun o => (Below.refl _ w).alloc (Nat.le_refl _) o
  have cv := fun o => iValOk c.2.2.1 c.2.2.2.1 c.2.2.2.2 a (w.alloc o) (((hb o).cell (p := ⟨0, 0, none⟩) hg).trans hc) hs2
  obtain ⟨R, hR⟩ : ∃ R, R = cellB m c := ⟨_, rfl⟩
  have HR : Hid (R = (decide (0 ≤ c.1) && (decide (c.1 < m) && (decide ((c.2.1.size : Int) ≤ 300) && Go.Proofs.YtildabobkilkjaaDoor.Vl.okV c.2.2.1 c.2.2.2.1 c.2.2.2.2)))) := hR
  rw [← hR]
  clear hR hc
  generalize Go.Proofs.YtildabobkilkjaaDoor.Vl.okV c.2.2.1 c.2.2.2.1 c.2.2.2.2 = V at *
  by_cases h1 : 0 ≤ c.1
  · by_cases h2 : c.1 < m
    · by_cases h3 : (c.2.1.size : Int) ≤ 300
      · have H : Hid (R = V) := by show R = V; rw [HR.out, decide_eq_true h1, decide_eq_true h2, decide_eq_true h3]; simp
        clear HR
        go_enter Tryd.func29, Tryd.ntmps29
        go_wp2_with (go_at_call 17; refine (cv _).mono ?_; rintro e w2 ⟨rfl, hb2⟩)
        go_ret
        exact ⟨by rw [H.out]; rfl, (hb _).trans (hb2.mono (hb _).size)⟩
      · have H : Hid (R = false) := by show R = false; rw [HR.out, decide_eq_false h3]; simp
        clear HR cv
        go_enter Tryd.func29, Tryd.ntmps29
        go_wp2_with fail
        go_ret
        exact ⟨by rw [H.out]; rfl, hb _⟩
    · have H : Hid (R = false) := by show R = false; rw [HR.out, decide_eq_false h2]; simp
      clear HR cv
      go_enter Tryd.func29, Tryd.ntmps29
      go_wp2_with fail
      go_ret
      exact ⟨by rw [H.out]; rfl, hb _⟩
  · have H : Hid (R = false) := by show R = false; rw [HR.out, decide_eq_false h1]; simp
    clear HR cv
    go_enter Tryd.func29, Tryd.ntmps29
    go_wp2_with fail
    go_ret
    exact ⟨by rw [H.out]; rfl, hb _⟩

end St
end Go.Proofs.YtildabobkilkjaaDoor
