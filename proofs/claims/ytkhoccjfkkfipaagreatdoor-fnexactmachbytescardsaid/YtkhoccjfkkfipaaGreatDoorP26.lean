/-
  What a right state is, as a plain function; the specification's l11Less, the program's cellOk.
  StateOk, the program's.
  StateOk, the program's, whole.
-/
import Derived.Test.YtkhoccjfkkfipaaGreatDoorP19
import Derived.Test.YtkhoccjfkkfipaaGreatDoorP11
import Derived.Test.YtkhoccjfkkfipaaGreatDoorP25
import Derived.Deep.RegionWith
namespace Go.Proofs.YtkhoccjfkkfipaaGreatDoor
open Go.RowKit
namespace St
open Nd

def okVl (v : Int × Int × ByteArray) : Bool := Go.Proofs.YtkhoccjfkkfipaaGreatDoor.Vl.okV v.1 v.2.1 v.2.2
def cellB (m : Int) (c : Cl) : Bool := decide (0 ≤ c.1) && (decide (c.1 < m) && (decide ((c.2.1.size : Int) ≤ 300) && okVl c.2.2))
def lessB (a b : Cl) : Bool := decide (cmpC a.1 a.2.1 b.1 b.2.1 < 0)
/-- More than the one ahead. -/
def prevB (cs : List Cl) (i : Nat) (c : Cl) : Bool := match cs[i - 1]? with | none => true | some p => lessB p c
theorem prev_at {cs : List Cl} {i : Nat} {c p : Cl} (h : cs[i - 1]? = some p) : prevB cs i c = lessB p c := by unfold prevB; rw [h]
/-- The cell at a place is right, and more than the one ahead. -/
def okAt (m : Int) (cs : List Cl) (i : Nat) : Bool := match cs[i]? with
  | none => true
  | some c => cellB m c && (decide (i = 0) || prevB cs i c)
theorem ok_at {m : Int} {cs : List Cl} {i : Nat} {c : Cl} (h : cs[i]? = some c) : okAt m cs i = (cellB m c && (decide (i = 0) || prevB cs i c)) := by unfold okAt; rw [h]
def cellsB (m : Int) (cs : List Cl) : Bool := (List.range cs.length).all (okAt m cs)
def stateB (vs : List St.Vl) (cs : List Cl) (nr er vars m : Int) : Bool := decide ((vs.length : Int) = vars) && (vs.all okVl && (decide (cs.length ≤ 40) && (cellsB m cs && (decide (0 ≤ nr ∧ nr ≤ 1000000) && decide (0 ≤ er ∧ er ≤ 7)))))

theorem cells_false {m : Int} {cs : List Cl} {i : Nat} (hi : i < cs.length) (h : okAt m cs i = false) : cellsB m cs = false := by
  unfold cellsB
  rw [List.all_eq_false]
  exact ⟨i, List.mem_range.2 hi, by simp [h]⟩
theorem cells_true {m : Int} {cs : List Cl} (h : ∀ i, i < cs.length → okAt m cs i = true) : cellsB m cs = true := by
  unfold cellsB
  rw [List.all_eq_true]
  exact fun i hi => h i (List.mem_range.1 hi)

theorem less_keys {x y : ByteArray} : cmpS x y < 0 ↔ Op.bytesLess x.toList y.toList = true := by
  unfold cmpS
  cases Op.bytesLess x.toList y.toList <;> simp
  split <;> simp
theorem less_iff {n n' : Int} {k k' : ByteArray} : cmpC n k n' k' < 0 ↔ (n < n' ∨ n = n' ∧ Op.bytesLess k.toList k'.toList = true) := by
  unfold cmpC cmpI
  by_cases h1 : n < n'
  · simp [h1]
  · by_cases h2 : n' < n
    · simp [h1, h2]; omega
    · have : n = n' := by omega
      subst this
      simp [less_keys]

theorem sLess (c : Cl) (n' : Int) (k' : ByteArray) (w : World) :
    Calls Tryz.prog 70 #[.agg #[.int .i64 c.1, .string c.2.1, .int .i64 c.2.2.1, .int .i64 c.2.2.2.1, .string c.2.2.2.2], .int .i64 n', .string k'] w fun e w' => e = .returned (.bool (decide (cmpC c.1 c.2.1 n' k' < 0))) ∧ Below w.heap.size w w' := by
  have hb : ∀ o, Below w.heap.size w (w.alloc o) := fun o => (Below.refl _ w).alloc (Nat.le_refl _) o
  have hi := @less_iff c.1 n' c.2.1 k'
  generalize cmpC c.1 c.2.1 n' k' = q at *
  by_cases h1 : c.1 < n'
  · have hq : decide (q < 0) = true := by simp [hi, h1]
    rw [hq]
    clear hi hq
    go_enter Tryz.func70, Tryz.ntmps70
    go_wp2_with fail
    go_ret
    exact ⟨rfl, hb _⟩
  · have e1 : decide (c.1 < n') = false := by simpa using h1
    by_cases h2 : c.1 = n'
    · have e2 : (c.1 == n') = true := by simpa using h2
      cases h3 : Op.bytesLess c.2.1.toList k'.toList with
      | true =>
        have hq : decide (q < 0) = true := by simp [hi, h2, h3]
        rw [hq]
        clear hi hq h1 h2
        go_enter Tryz.func70, Tryz.ntmps70
        go_wp2_with fail
        go_ret
        exact ⟨rfl, hb _⟩
      | false =>
        have hq : decide (q < 0) = false := by simp [hi, h2, h3]
        rw [hq]
        clear hi hq h1 h2
        go_enter Tryz.func70, Tryz.ntmps70
        go_wp2_with fail
        go_ret
        exact ⟨rfl, hb _⟩
    · have e2 : (c.1 == n') = false := by simpa using h2
      have hq : decide (q < 0) = false := by simp [hi, h2, h1]
      rw [hq]
      clear hi hq h1 h2
      go_enter Tryz.func70, Tryz.ntmps70
      go_wp2_with fail
      go_ret
      exact ⟨rfl, hb _⟩

theorem iCellOk (c : Cl) (m : Int) (a : Addr) (w : World) (hc : w.cell? ⟨1, 0, none⟩ = some (.iface 273 (.pointer (some a)))) (_hs : (c.2.1.size : Int) ≤ 1048576) (hs2 : (c.2.2.2.2.size : Int) ≤ 1048576) :
    Calls Tryz.prog 100 #[.agg #[.int .i64 c.1, .string c.2.1, .int .i64 c.2.2.1, .int .i64 c.2.2.2.1, .string c.2.2.2.2], .int .i64 m] w fun e w' => e = .returned (.bool (cellB m c)) ∧ Below w.heap.size w w' := by
  have hg : 1 < w.heap.size := World.block_lt_of_cell? w ⟨1, 0, none⟩ hc
  have hb : ∀ o, Below w.heap.size w (w.alloc o) := fun o => (Below.refl _ w).alloc (Nat.le_refl _) o
  have cv := fun o => iValOk c.2.2.1 c.2.2.2.1 c.2.2.2.2 a (w.alloc o) (((hb o).cell (p := ⟨1, 0, none⟩) hg).trans hc) hs2
  obtain ⟨R, hR⟩ : ∃ R, R = cellB m c := ⟨_, rfl⟩
  have HR : Hid (R = (decide (0 ≤ c.1) && (decide (c.1 < m) && (decide ((c.2.1.size : Int) ≤ 300) && Go.Proofs.YtkhoccjfkkfipaaGreatDoor.Vl.okV c.2.2.1 c.2.2.2.1 c.2.2.2.2)))) := hR
  rw [← hR]
  clear hR hc
  generalize Go.Proofs.YtkhoccjfkkfipaaGreatDoor.Vl.okV c.2.2.1 c.2.2.2.1 c.2.2.2.2 = V at *
  by_cases h1 : 0 ≤ c.1
  · by_cases h2 : c.1 < m
    · by_cases h3 : (c.2.1.size : Int) ≤ 300
      · have H : Hid (R = V) := by show R = V; rw [HR.out, decide_eq_true h1, decide_eq_true h2, decide_eq_true h3]; simp
        clear HR
        go_enter Tryz.func100, Tryz.ntmps100
        go_wp2_with (go_at_call 79; refine (cv _).mono ?_; rintro e w2 ⟨rfl, hb2⟩)
        go_ret
        exact ⟨by rw [H.out]; rfl, (hb _).trans (hb2.mono (hb _).size)⟩
      · have H : Hid (R = false) := by show R = false; rw [HR.out, decide_eq_false h3]; simp
        clear HR cv
        go_enter Tryz.func100, Tryz.ntmps100
        go_wp2_with fail
        go_ret
        exact ⟨by rw [H.out]; rfl, hb _⟩
    · have H : Hid (R = false) := by show R = false; rw [HR.out, decide_eq_false h2]; simp
      clear HR cv
      go_enter Tryz.func100, Tryz.ntmps100
      go_wp2_with fail
      go_ret
      exact ⟨by rw [H.out]; rfl, hb _⟩
  · have H : Hid (R = false) := by show R = false; rw [HR.out, decide_eq_false h1]; simp
    clear HR cv
    go_enter Tryz.func100, Tryz.ntmps100
    go_wp2_with fail
    go_ret
    exact ⟨by rw [H.out]; rfl, hb _⟩

end St
end Go.Proofs.YtkhoccjfkkfipaaGreatDoor
namespace Go.Proofs.YtkhoccjfkkfipaaGreatDoor
open Go.RowKit
namespace St
open Nd

/-- The sentinel in its variable. -/
def Sn (w : World) (a : Addr) : Prop := w.cell? ⟨1, 0, none⟩ = some (.iface 273 (.pointer (some a)))
theorem Sn.lt {w : World} {a : Addr} (h : Sn w a) : 1 < w.heap.size := World.block_lt_of_cell? w ⟨1, 0, none⟩ h
theorem Sn.below {w w' : World} {a : Addr} (h : Sn w a) (hb : Below w.heap.size w w') : Sn w' a := (hb.cell (p := ⟨1, 0, none⟩) h.lt).trans h

theorem wpList_call_v {P : Program} {ops : Array Oper} {rest : List Oper} {o : Oper} {a : Act} {w : World} {Q : Exit → Act → World → Prop} (hg : o.guard = none) (x y : Nat) (t : TypeId) (hop : o.op = Op.call { callee := Callee.value (.tmp x), args := #[.tmp y], argTypes := #[t] })
    (f : Nat) (cap : Array Value) (hx : a.eval (.tmp x) = .func (.func f) #[] cap) (hcf : ∀ vs w, (callFunc f vs).run P w = .ok (.enter f vs) w) (fv : Value) (hy : a.eval (.tmp y) = fv)
    (hc : Calls P f (#[fv] ++ cap) w fun e w' => ∃ v, e = .returned v ∧ wpList P ops Q rest (a.put o.dst v) w') : wpList P ops Q (o :: rest) a w := by
  refine wpList_plain hg fun K hK => ?_
  unfold Oper.wp
  simp [Act.eval] at hx hy
  simp [execOp, hop, resolve, invoke, hcf, go_sem, hx, hy]
  refine hc.mono ?_
  rintro e w' ⟨v, rfl, hk⟩
  exact hK _ _ hk
theorem enterOk : ∀ (vs : Array Value) (w : World), (callFunc 79 vs).run Tryz.prog w = .ok (.enter 79 vs) w := fun vs w => by kernel_rfl

theorem all_take {α : Type} {p : α → Bool} {ks : List α} {k : Nat} {t : α} (h : ks[k]? = some t) : (ks.take (k + 1)).all p = ((ks.take k).all p && p t) := by
  rw [List.take_add_one, h, List.all_append]
  simp
theorem all_no {α : Type} {p : α → Bool} {ks : List α} {t : α} (h : t ∈ ks) (hp : p t = false) : ks.all p = false := by
  rcases hb : ks.all p with _ | _
  · rfl
  · rw [List.all_eq_true.1 hb t h] at hp; cases hp

set_option maxRecDepth 100000 in
theorem iAllOk {vs : List St.Vl} {w : World} {ao : Option Addr} {cap : Nat} {a : Addr} (hS : Sn w a) (hA : RdV w ao vs) (hn : vs.length ≤ 1048576) (hs : ∀ v ∈ vs, SmV v) :
    Calls Tryz.prog 78 #[.slice ao vs.length cap, .func (.func 79) #[] #[]] w fun e w' => e = .returned (.bool (vs.all okVl)) ∧ Below w.heap.size w w' := by
  have bn : (vs.length : Int) ≤ 1048576 := by omega
  have hent := enterOk
  clear hn
  go_enter Tryz.func78, Tryz.ntmps78
  go_wp2_with fail
  go_loopw [9] (fun i wr => ∃ k : Nat, k ≤ vs.length ∧ i = .int .i64 k ∧ (vs.take k).all okVl = true ∧ Below w.heap.size w wr) (fun i _ => vs.length - (intOf i).toNat)
  case atStart => exact ⟨0, Nat.zero_le _, rfl, rfl, Below.refl _ _⟩
  case round =>
    obtain ⟨k, hkn, rfl, hall, hb⟩ := hrel
    by_cases hkl : k < vs.length
    · have hki : vs[k]? = some vs[k] := List.getElem?_eq_getElem hkl
      obtain ⟨b, o, rfl, hbl, _, c0, c1, c2⟩ := hA.below hb k _ hki
      have bk : (k : Int) < vs.length := by omega
      have hSr := hS.below hb
      have hT := all_take (p := okVl) hki
      rw [hall, Bool.true_and] at hT
      have hsk : (vs[k].2.2.size : Int) ≤ 1048576 := by have := hs _ (List.getElem_mem hkl); unfold SmV at this; omega
      have call := fun oo => iValOk vs[k].1 vs[k].2.1 vs[k].2.2 a (wr.alloc oo) (hSr.below ((Below.refl _ wr).alloc (Nat.le_refl _) oo)) hsk
      have hbo : ∀ oo, Below w.heap.size w (wr.alloc oo) := fun oo => hb.alloc hb.size _
      have HN : Hid (okVl vs[k] = false → vs.all okVl = false) := all_no (List.getElem_mem hkl)
      have HT : Hid ((vs.take (k + 1)).all okVl = okVl vs[k]) := hT
      have HB : Hid (∀ oo, Below w.heap.size w (wr.alloc oo)) := hbo
      change ∀ oo, Calls _ _ _ _ (fun e w' => e = .returned (.bool (okVl vs[k])) ∧ _) at call
      generalize okVl vs[k] = B at *
      generalize vs[k] = v at *
      clear hA hS hki hall hT hSr hsk hs hbo
      cases B
      · replace HN : Hid (vs.all okVl = false) := HN.out rfl
        go_wp2_with (refine wpList_call_v rfl 13 14 67 rfl 79 #[] (by simp [Act.eval]) hent _ rfl ?_; refine (call _).mono ?_; rintro e w2 ⟨rfl, hb2⟩; refine ⟨_, rfl, ?_⟩)
        go_ret
        exact ⟨by rw [HN.out]; rfl, (HB.out _).trans (hb2.mono (HB.out _).size)⟩
      · go_wp2_with (refine wpList_call_v rfl 13 14 67 rfl 79 #[] (by simp [Act.eval]) hent _ rfl ?_; refine (call _).mono ?_; rintro e w2 ⟨rfl, hb2⟩; refine ⟨_, rfl, ?_⟩)
        go_roundw
        case rel => exact ⟨k + 1, hkl, by go_num, HT.out, (HB.out _).trans (hb2.mono (HB.out _).size)⟩
        case measure => simp [intOf]; omega
    · obtain rfl : k = vs.length := by omega
      rw [List.take_length] at hall
      have H : Hid (vs.all okVl = true) := hall
      clear hall hA hS hs
      go_wp2_with fail
      go_ret
      exact ⟨by rw [H.out]; rfl, hb⟩

set_option maxHeartbeats 4000000 in
set_option maxRecDepth 100000 in
theorem iCellsOk {cs : List Cl} {w : World} {ao : Option Addr} {cap : Nat} {a : Addr} {m : Int} (hS : Sn w a) (hA : RdC w ao cs) (hn : cs.length ≤ 1048576) (hs : ∀ c ∈ cs, SmC c) :
    Calls Tryz.prog 80 #[.slice ao cs.length cap, .int .i64 m] w fun e w' => e = .returned (.bool (decide (cs.length ≤ 40) && cellsB m cs)) ∧ Below w.heap.size w w' := by
  have bn : (cs.length : Int) ≤ 1048576 := by omega
  obtain ⟨R, hR⟩ : ∃ R, R = (decide (cs.length ≤ 40) && cellsB m cs) := ⟨_, rfl⟩
  have HR : Hid (R = (decide (cs.length ≤ 40) && cellsB m cs)) := hR
  rw [← hR]
  clear hR hn
  by_cases h40 : cs.length ≤ 40
  · have b40 : ¬ ((40 : Int) < cs.length) := by omega
    go_enter Tryz.func80, Tryz.ntmps80
    go_wp2_with fail
    go_loopw [12] (fun i wr => ∃ j : Nat, j ≤ cs.length ∧ i = .int .i64 j ∧ Hid (∀ i, i < j → okAt m cs i = true) ∧ Below w.heap.size w wr) (fun i _ => cs.length - (intOf i).toNat)
    case atStart => exact ⟨0, Nat.zero_le _, rfl, (show ∀ i, i < 0 → okAt m cs i = true by omega), Below.refl _ _⟩
    case round =>
      obtain ⟨j, hj, rfl, HK, hb⟩ := hrel
      by_cases hjl : j < cs.length
      · have hcj : cs[j]? = some cs[j] := List.getElem?_eq_getElem hjl
        obtain ⟨b, o, rfl, hbl, _, _, p0, p1, p2, p3, p4⟩ := hA.below hb j _ hcj
        have bj : (j : Int) < cs.length := by omega
        have hsc := hs _ (List.getElem_mem hjl)
        have hcall := fun w' (h : Sn w' a) => iCellOk cs[j] m a w' h (by have := hsc.1; omega) (by have := hsc.2; omega)
        have hat := ok_at (m := m) hcj
        have HNo : Hid (okAt m cs j = false → R = false) := fun h => by rw [HR.out, cells_false hjl h]; simp
        have HYes : Hid (okAt m cs j = true → ∀ i, i < j + 1 → okAt m cs i = true) := fun h i hi => by
          by_cases e : i = j
          · rw [e]; exact h
          · exact HK.out i (by omega)
        obtain ⟨oC, hoC⟩ : ∃ oC, oC = Obj.cells #[.int .i64 cs[j].1, .string cs[j].2.1, .int .i64 cs[j].2.2.1, .int .i64 cs[j].2.2.2.1, .string cs[j].2.2.2.2] 71 := ⟨_, rfl⟩
        have hba : Below wr.heap.size wr (wr.alloc oC) := (Below.refl _ wr).alloc (Nat.le_refl _) _
        have hbw : Below w.heap.size w (wr.alloc oC).drew := (hb.trans (hba.mono hb.size)).drew
        have kC : Blk 71 (wr.alloc oC).drew wr.heap.size [.int .i64 cs[j].1, .string cs[j].2.1, .int .i64 cs[j].2.2.1, .int .i64 cs[j].2.2.2.1, .string cs[j].2.2.2.2] := by rw [hoC]; exact Blk.new _ _ _
        have x0 := kC.cell 0 rfl
        have x1 := kC.cell 1 rfl
        have x2 := kC.cell 2 rfl
        have x3 := kC.cell 3 rfl
        have x4 := kC.cell 4 rfl
        have call : Hid _ := hcall (wr.alloc oC).drew (hS.below hbw)
        have facts : Hid (∀ w3, Below (wr.alloc oC).drew.heap.size (wr.alloc oC).drew w3 → Below w.heap.size w w3 ∧ w3.cell? ⟨wr.heap.size, 0, none⟩ = some (.int .i64 cs[j].1) ∧ w3.cell? ⟨wr.heap.size, 1, none⟩ = some (.string cs[j].2.1) ∧ w3.cell? ⟨wr.heap.size, 2, none⟩ = some (.int .i64 cs[j].2.2.1) ∧ w3.cell? ⟨wr.heap.size, 3, none⟩ = some (.int .i64 cs[j].2.2.2.1) ∧ w3.cell? ⟨wr.heap.size, 4, none⟩ = some (.string cs[j].2.2.2.2)) := fun w3 h3 => by
          have k3 := kC.below h3
          exact ⟨hbw.trans (h3.mono hbw.size), k3.cell 0 rfl, k3.cell 1 rfl, k3.cell 2 rfl, k3.cell 3 rfl, k3.cell 4 rfl⟩
        have HC : Hid (RdC w (some ⟨b, o, none⟩) cs) := hA
        subst hoC
        cases hB : cellB m cs[j] with
        | false =>
          rw [hB, Bool.false_and] at hat
          have H : Hid (R = false) := HNo.out hat
          rw [show cellB m cs[j] = _ from hB] at call
          generalize cs[j] = c at *
          clear hA hs hsc hcall hat HNo HYes hba hbw kC HC hS hcj
          go_wp2_with fail
          clear p0 p1 p2 p3 p4
          first
            | (go_region_with (first | (go_at_call 100; refine Calls.mono call.out ?_; rintro e w3 ⟨rfl, hb3⟩; obtain ⟨B3, y0, y1, y2, y3, y4⟩ := facts.out w3 hb3) | (rw [if_neg (by simp [undef])])))
            | fail
          all_goals
            go_wp2_with fail
            go_ret
            exact ⟨by rw [H.out]; rfl, B3⟩
        | true =>
          rw [hB, Bool.true_and] at hat
          rw [show cellB m cs[j] = _ from hB] at call
          by_cases hj0 : j = 0
          · subst hj0
            simp only [Nat.zero_mul, Nat.add_zero] at p0 p1 p2 p3 p4
            have HY : Hid (∀ i, i < 0 + 1 → okAt m cs i = true) := HYes.out (by rw [hat]; simp)
            generalize cs[0] = c at *
            clear hA hs hsc hcall hat HNo HYes hba hbw kC HC hS hcj
            go_wp2_with fail
            clear p0 p1 p2 p3 p4
            first
              | (go_region_with (first | (go_at_call 100; refine Calls.mono call.out ?_; rintro e w3 ⟨rfl, hb3⟩; obtain ⟨B3, y0, y1, y2, y3, y4⟩ := facts.out w3 hb3) | (rw [if_neg (by simp [undef])])))
              | fail
            all_goals
              go_wp2_with fail
              go_roundw
            all_goals first
              | exact ⟨0 + 1, hjl, by go_num, HY, B3⟩
              | (simp [intOf]; omega)
          · obtain ⟨j', hj'⟩ : ∃ j', j = j' + 1 := ⟨j - 1, by omega⟩
            have hp : cs[j']? = some cs[j'] := List.getElem?_eq_getElem (by omega)
            have hjj : j - 1 = j' := by omega
            rw [decide_eq_false hj0, Bool.false_or, prev_at (by rw [hjj]; exact hp)] at hat
            have hat' : okAt m cs j = lessB cs[j'] cs[j] := hat
            have cmp := fun w' => iCmpCells cs[j'].1 cs[j'].2.1 (.int .i64 cs[j'].2.2.1) (.int .i64 cs[j'].2.2.2.1) (.string cs[j'].2.2.2.2) cs[j].1 cs[j].2.1 (.int .i64 cs[j].2.2.1) (.int .i64 cs[j].2.2.2.1) (.string cs[j].2.2.2.2) w'
            have hq0 : lessB cs[j'] cs[j] = decide (cmpC cs[j'].1 cs[j'].2.1 cs[j].1 cs[j].2.1 < 0) := rfl
            have facts2 : Hid (∀ w3, Below w.heap.size w w3 → w3.cell? ⟨b, o + j' * 5, none⟩ = some (.int .i64 cs[j'].1) ∧ w3.cell? ⟨b, o + j' * 5 + 1, none⟩ = some (.string cs[j'].2.1) ∧ w3.cell? ⟨b, o + j' * 5 + 2, none⟩ = some (.int .i64 cs[j'].2.2.1) ∧ w3.cell? ⟨b, o + j' * 5 + 3, none⟩ = some (.int .i64 cs[j'].2.2.2.1) ∧ w3.cell? ⟨b, o + j' * 5 + 4, none⟩ = some (.string cs[j'].2.2.2.2)) := fun w3 h3 => by
              obtain ⟨b', o', e, _, _, _, z0, z1, z2, z3, z4⟩ := hA.below h3 j' _ hp
              simp at e
              obtain ⟨rfl, rfl⟩ := e
              exact ⟨z0, z1, z2, z3, z4⟩
            have hsub : (j : Int) - 1 = (j' : Int) := by omega
            have bj' : (j' : Int) < cs.length := by omega
            have hwr : IntKind.i64.wrap (j' : Int) = (j' : Int) := by rw [IntKind.wrap_i64]; omega
            have hpos : (0 : Int) < j := by omega
            have hposd : decide ((0 : Int) < j) = true := decide_eq_true hpos
            obtain ⟨q, hq⟩ : ∃ q, q = cmpC cs[j'].1 cs[j'].2.1 cs[j].1 cs[j].2.1 := ⟨_, rfl⟩
            rw [← hq] at cmp hq0
            have CMP : Hid (∀ w', Calls Tryz.prog 101 #[.agg #[.int .i64 cs[j'].1, .string cs[j'].2.1, .int .i64 cs[j'].2.2.1, .int .i64 cs[j'].2.2.2.1, .string cs[j'].2.2.2.2], .agg #[.int .i64 cs[j].1, .string cs[j].2.1, .int .i64 cs[j].2.2.1, .int .i64 cs[j].2.2.2.1, .string cs[j].2.2.2.2]] w' fun e w'' => e = .returned (.int .i64 q) ∧ Below w'.heap.size w' w'') := cmp
            clear cmp
            rw [hq0] at hat'
            by_cases hlt : q < 0
            · have HY : Hid (∀ i, i < j + 1 → okAt m cs i = true) := HYes.out (by rw [hat', decide_eq_true hlt])
              have hge : decide (0 ≤ q) = false := by simpa using hlt
              generalize cs[j'] = d at *
              generalize cs[j] = c at *
              clear hA hs hsc hcall hat hat' HNo HYes hba hbw kC HC hS hcj hp hq hq0 hj0 hj' hjj hB
              go_wp2_with fail
              clear p0 p1 p2 p3 p4
              first
                | (go_region_with (first
                    | (go_at_call 100; refine Calls.mono call.out ?_; rintro e w3 ⟨rfl, hb3⟩; obtain ⟨B3, y0, y1, y2, y3, y4⟩ := facts.out w3 hb3; obtain ⟨z0, z1, z2, z3, z4⟩ := facts2.out w3 B3)
                    | (go_at_call 101; refine Calls.mono (CMP.out _) ?_; rintro e w4 ⟨rfl, hb4⟩)))
                | fail
              all_goals
                go_wp2_with fail
                go_roundw
              all_goals first
                | exact ⟨j + 1, hjl, by go_num, HY, B3.trans (hb4.mono B3.size)⟩
                | (simp [intOf]; omega)
            · have H : Hid (R = false) := HNo.out (by rw [hat', decide_eq_false hlt])
              have hge : decide (0 ≤ q) = true := by simpa using hlt
              generalize cs[j'] = d at *
              generalize cs[j] = c at *
              clear hA hs hsc hcall hat hat' HNo HYes hba hbw kC HC hS hcj hp hq hq0 hj0 hj' hjj hB
              go_wp2_with fail
              clear p0 p1 p2 p3 p4
              first
                | (go_region_with (first
                    | (go_at_call 100; refine Calls.mono call.out ?_; rintro e w3 ⟨rfl, hb3⟩; obtain ⟨B3, y0, y1, y2, y3, y4⟩ := facts.out w3 hb3; obtain ⟨z0, z1, z2, z3, z4⟩ := facts2.out w3 B3)
                    | (go_at_call 101; refine Calls.mono (CMP.out _) ?_; rintro e w4 ⟨rfl, hb4⟩)))
                | fail
              all_goals
                go_wp2_with fail
                go_ret
                exact ⟨by rw [H.out]; rfl, B3.trans (hb4.mono B3.size)⟩
      · obtain rfl : j = cs.length := by omega
        have H : Hid (R = true) := by show R = true; rw [HR.out, cells_true HK.out, decide_eq_true h40]; rfl
        clear HR HK hA hS hs
        go_wp2_with fail
        go_ret
        exact ⟨by rw [H.out]; rfl, hb⟩
  · have b40 : (40 : Int) < cs.length := by omega
    have H : Hid (R = false) := by show R = false; rw [HR.out, decide_eq_false h40]; rfl
    clear HR hA hS hs
    go_enter Tryz.func80, Tryz.ntmps80
    go_wp2_with fail
    go_ret
    exact ⟨by rw [H.out]; rfl, Below.refl _ _⟩

end St
end Go.Proofs.YtkhoccjfkkfipaaGreatDoor
namespace Go.Proofs.YtkhoccjfkkfipaaGreatDoor
open Go.RowKit
namespace St
open Nd

set_option maxHeartbeats 2000000 in
set_option maxRecDepth 100000 in
theorem iStateOk {a b : Option Addr} {ca cb : Nat} {vs : List St.Vl} {cs : List Cl} {nr er vars m : Int} {ad : Addr} {w : World} (hS : Sn w ad) (hV : RdV w a vs) (hC : RdC w b cs) (hn : vs.length ≤ 1048576) (hm : cs.length ≤ 1048576) (hsv : ∀ v ∈ vs, SmV v) (hsc : ∀ c ∈ cs, SmC c) :
    Calls Tryz.prog 56 #[.agg #[.slice a vs.length ca, .slice b cs.length cb, .int .i64 nr, .int .i64 er], .int .i64 vars, .int .i64 m] w fun e w' => e = .returned (.bool (stateB vs cs nr er vars m)) ∧ Below w.heap.size w w' := by
  obtain ⟨R, hR⟩ : ∃ R, R = stateB vs cs nr er vars m := ⟨_, rfl⟩
  have HR : Hid (R = (decide ((vs.length : Int) = vars) && (vs.all okVl && (decide (cs.length ≤ 40) && (cellsB m cs && (decide (0 ≤ nr ∧ nr ≤ 1000000) && decide (0 ≤ er ∧ er ≤ 7))))))) := hR
  rw [← hR]
  have bn : (vs.length : Int) ≤ 1048576 := by omega
  have bm : (cs.length : Int) ≤ 1048576 := by omega
  have hb0 : ∀ o, Below w.heap.size w (w.alloc o) := fun o => (Below.refl _ w).alloc (Nat.le_refl _) o
  have HB0 : Hid (∀ o, Below w.heap.size w (w.alloc o)) := hb0
  obtain ⟨oS, hoS⟩ : ∃ oS, oS = Obj.cells #[.slice a vs.length ca, .slice b cs.length cb, .int .i64 nr, .int .i64 er] 44 := ⟨_, rfl⟩
  have CA : Hid _ := iAllOk (cap := ca) (hS.below (hb0 oS)) (hV.below (hb0 oS)) hn hsv
  have CC : Hid (∀ w', Below w.heap.size w w' → Calls Tryz.prog 80 #[.slice b cs.length cb, .int .i64 m] w' fun e w'' => e = .returned (.bool (decide (cs.length ≤ 40) && cellsB m cs)) ∧ Below w'.heap.size w' w'') := fun w' h => iCellsOk (cap := cb) (hS.below h) (hC.below h) hm hsc
  have KS : Hid (Blk 44 (w.alloc oS) w.heap.size [.slice a vs.length ca, .slice b cs.length cb, .int .i64 nr, .int .i64 er]) := by rw [hoS]; exact Blk.new _ _ _
  subst hoS
  clear hS hV hC hn hm hsv hsc hb0 hR
  by_cases g1 : nr < 0
  · have H : Hid (R = false) := by show R = false; rw [HR.out, decide_eq_false (show ¬ (0 ≤ nr ∧ nr ≤ 1000000) by omega)]; simp
    clear HR CA CC KS
    go_enter Tryz.func56, Tryz.ntmps56
    go_wp2_with fail
    go_ret
    exact ⟨by rw [H.out]; rfl, HB0.out _⟩
  by_cases g2 : 1000000 < nr
  · have H : Hid (R = false) := by show R = false; rw [HR.out, decide_eq_false (show ¬ (0 ≤ nr ∧ nr ≤ 1000000) by omega)]; simp
    clear HR CA CC KS
    go_enter Tryz.func56, Tryz.ntmps56
    go_wp2_with fail
    go_ret
    exact ⟨by rw [H.out]; rfl, HB0.out _⟩
  by_cases g3 : er < 0
  · have H : Hid (R = false) := by show R = false; rw [HR.out, decide_eq_false (show ¬ (0 ≤ er ∧ er ≤ 7) by omega)]; simp
    clear HR CA CC KS
    go_enter Tryz.func56, Tryz.ntmps56
    go_wp2_with fail
    go_ret
    exact ⟨by rw [H.out]; rfl, HB0.out _⟩
  by_cases g4 : 7 < er
  · have H : Hid (R = false) := by show R = false; rw [HR.out, decide_eq_false (show ¬ (0 ≤ er ∧ er ≤ 7) by omega)]; simp
    clear HR CA CC KS
    go_enter Tryz.func56, Tryz.ntmps56
    go_wp2_with fail
    go_ret
    exact ⟨by rw [H.out]; rfl, HB0.out _⟩
  have hS : R = (decide ((vs.length : Int) = vars) && (vs.all okVl && (decide (cs.length ≤ 40) && cellsB m cs))) := by
    rw [HR.out, decide_eq_true (show 0 ≤ nr ∧ nr ≤ 1000000 by omega), decide_eq_true (show 0 ≤ er ∧ er ≤ 7 by omega)]
    simp
  obtain ⟨V, hVv⟩ : ∃ V, V = vs.all okVl := ⟨_, rfl⟩
  obtain ⟨D, hD⟩ : ∃ D, D = (decide (cs.length ≤ 40) && cellsB m cs) := ⟨_, rfl⟩
  have CC' : Hid (∀ w', Below w.heap.size w w' → Calls Tryz.prog 80 #[.slice b cs.length cb, .int .i64 m] w' fun e w'' => e = .returned (.bool D) ∧ Below w'.heap.size w' w'') := by rw [hD]; exact CC.out
  have CA' : Hid (Calls Tryz.prog 78 #[.slice a vs.length ca, .func (.func 79) #[] #[]] (w.alloc (.cells #[.slice a vs.length ca, .slice b cs.length cb, .int .i64 nr, .int .i64 er] 44)) fun e w' => e = .returned (.bool V) ∧ Below (w.alloc (.cells #[.slice a vs.length ca, .slice b cs.length cb, .int .i64 nr, .int .i64 er] 44)).heap.size (w.alloc (.cells #[.slice a vs.length ca, .slice b cs.length cb, .int .i64 nr, .int .i64 er] 44)) w') := by rw [hVv]; exact CA.out
  rw [← hVv, ← hD] at hS
  have HS : Hid (R = (decide ((vs.length : Int) = vars) && (V && D))) := hS
  clear HR CA CC hS hVv hD
  by_cases h1 : (vs.length : Int) = vars
  · have d1 : ((vs.length : Int) == vars) = true := by simpa using h1
    cases V with
    | false =>
      have H : Hid (R = false) := by show R = false; rw [HS.out]; simp
      clear HS h1 CC'
      go_enter Tryz.func56, Tryz.ntmps56
      go_wp2_with (go_at_call 78; refine Calls.mono CA'.out ?_; rintro e w2 ⟨rfl, hb2⟩)
      go_ret
      exact ⟨by rw [H.out]; rfl, (HB0.out _).trans (hb2.mono (HB0.out _).size)⟩
    | true =>
      have H : Hid (R = D) := by show R = D; rw [HS.out, decide_eq_true h1]; simp
      clear HS h1
      go_enter Tryz.func56, Tryz.ntmps56
      go_wp2_with (first
        | (go_at_call 78; refine Calls.mono CA'.out ?_; rintro e w2 ⟨rfl, hb2⟩; have B2 := (HB0.out _).trans (hb2.mono (HB0.out _).size); have x1 := (KS.out.below hb2).cell 1 rfl)
        | (go_at_call 80; refine Calls.mono (CC'.out _ B2) ?_; rintro e w3 ⟨rfl, hb3⟩))
      go_ret
      exact ⟨by rw [H.out]; rfl, B2.trans (hb3.mono B2.size)⟩
  · have d1 : ((vs.length : Int) == vars) = false := by simpa using h1
    have H : Hid (R = false) := by show R = false; rw [HS.out, decide_eq_false h1]; simp
    clear HS h1 CA' CC' KS
    go_enter Tryz.func56, Tryz.ntmps56
    go_wp2_with fail
    go_ret
    exact ⟨by rw [H.out]; rfl, HB0.out _⟩

end St
end Go.Proofs.YtkhoccjfkkfipaaGreatDoor
