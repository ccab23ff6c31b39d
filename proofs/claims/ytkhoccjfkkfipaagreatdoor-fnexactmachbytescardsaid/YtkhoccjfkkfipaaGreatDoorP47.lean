/-
  The laws' eqStringS, markStringS, heldStringS.
  Places of trees: plain.
  A map whose keys are places of lists: one that is not there is not found, and is put behind the others.
-/
import Derived.Test.YtkhoccjfkkfipaaGreatDoorP08
import Derived.Sort.EncStr
import Derived.Test.YtkhoccjfkkfipaaGreatDoorP13
import Derived.LaidEqlPtr
import Derived.Laws.StructEq
import Derived.Carry
import Derived.Maps.Own
namespace Go.Proofs.YtkhoccjfkkfipaaGreatDoor
open Go.RowKit
namespace Mk
open Nd

set_option maxRecDepth 100000 in
theorem lEqTxt {w : World} {v1 v2 : Value} {B1 B2 : Nat} {ss : List (List UInt8)} (h1 : w.ownsRow B1 9 1 v1 ss.length (ss.map encStr)) (h2 : w.ownsRow B2 9 1 v2 ss.length (ss.map encStr)) (hn : ss.length ≤ 3000000) :
    Calls Tryz.prog 34 #[v1, v2] w fun e w' => e = .returned (.bool true) ∧ ∃ n, w' = w.drewN n := by
  have bn : (ss.length : Int) ≤ 3000000 := by omega
  obtain ⟨a1, c1, rfl⟩ := owns_slice h1
  obtain ⟨a2, c2, rfl⟩ := owns_slice h2
  go_enter Tryz.func34, Tryz.ntmps34
  go_wp2_with fail
  go_loopw [5] (fun i wr => ∃ k m : Nat, i = .int .i64 k ∧ k ≤ ss.length ∧ wr = w.drewN m) (fun i _ => ss.length - (intOf i).toNat)
  case atStart => exact ⟨0, 0, rfl, Nat.zero_le _, rfl⟩
  case round =>
    obtain ⟨k, m, rfl, hk, rfl⟩ := hrel
    by_cases hkl : k < ss.length
    · have hx : (ss.map encStr)[k]? = some (.string ⟨ss[k].toArray⟩) := by rw [List.getElem?_map, List.getElem?_eq_getElem hkl]; rfl
      obtain ⟨g1, rfl, _, q1⟩ := row_cells h1 hkl
      obtain ⟨g2, rfl, _, q2⟩ := row_cells h2 hkl
      have r1 := q1 k _ hx
      have r2 := q2 k _ hx
      generalize ss[k] = x at r1 r2
      have bk : (k : Int) < ss.length := by omega
      clear q1 q2 hx h1 h2
      go_wp2_with fail
      go_quiet (fail)
      go_wp2_with fail
      go_roundw
      case rel => exact ⟨k + 1, _, by go_num, hkl, rfl⟩
      case measure => simp [intOf]; omega
    · obtain rfl : k = ss.length := by omega
      go_wp2_with fail
      go_ret
      exact ⟨rfl, m, rfl⟩

/-- The marks of a list of texts. -/
def mks (k n : Nat) : List (List UInt8) := (List.range n).map fun j => (markT (k + j)).data.toList
theorem mks_get {k n j : Nat} (h : j < n) : ((mks k n).map encStr)[j]? = some (.string (markT (k + j))) := by
  unfold mks
  rw [List.getElem?_map, List.getElem?_map, List.getElem?_range h]
  rfl
theorem mks_set {k n j : Nat} {xs : List Value} (hj : j < n) (hx : xs.length = n) : ((((mks k n).map encStr).take j) ++ xs.drop j).set j (.string (markT (k + j))) = (((mks k n).map encStr).take (j + 1)) ++ xs.drop (j + 1) := by
  have hl : (((mks k n).map encStr).take j).length = j := by simp [mks]; omega
  have hd : xs.drop j = xs[j] :: xs.drop (j + 1) := List.drop_eq_getElem_cons (by omega)
  rw [hd, List.take_add_one, mks_get hj]
  rw [List.set_append_right _ _ (by omega), hl, Nat.sub_self, List.set_cons_zero, Option.toList_some, List.append_assoc, List.singleton_append]

set_option maxRecDepth 100000 in
theorem lMarkTxt {w : World} {v : Value} {B n k : Nat} {xs : List Value} (h : w.ownsRow B 9 1 v n xs) (hs : ∀ x ∈ xs, ∃ s, x = .string s) (hn : n ≤ 3000000) (h1 : 1 ≤ k) (hk : k ≤ 4000000) :
    Calls Tryz.prog 38 #[v, .int .i64 k] w fun e w' => e = .returned (.int .i64 (k + n : Nat)) ∧ w'.ownsRow B 9 1 v n ((mks k n).map encStr) ∧ Turned (fun _ => False) v w w' := by
  have bn : (n : Int) ≤ 3000000 := by omega
  have hxl : xs.length = n := by simpa using h.1
  obtain ⟨ao, cap, rfl⟩ := owns_slice h
  go_enter Tryz.func38, Tryz.ntmps38
  go_wp2_with fail
  go_loopw [1, 5] (fun kv i wr => ∃ j : Nat, j ≤ n ∧ i = .int .i64 j ∧ kv = .int .i64 (k + j : Nat) ∧ wr.ownsRow B 9 1 (.slice ao n cap) n ((((mks k n).map encStr).take j) ++ xs.drop j) ∧ Turned (fun _ => False) (.slice ao n cap) w wr) (fun _ i _ => n - (intOf i).toNat)
  case atStart => exact ⟨0, Nat.zero_le _, rfl, rfl, by simpa using h, Turned.refl _ _ _⟩
  case round =>
    clear h
    obtain ⟨j, hj, rfl, rfl, ho, hT⟩ := hrel
    by_cases hjl : j < n
    · obtain ⟨g, rfl, hg, hc⟩ := row_cells ho hjl
      have hxj : (((mks k n).map encStr).take j ++ xs.drop j)[j]? = some xs[j] := by
        rw [List.getElem?_append_right (by simp; omega)]
        have hl : (((mks k n).map encStr).take j).length = j := by simp [mks]; omega
        rw [hl, Nat.sub_self, List.getElem?_drop, Nat.add_zero, List.getElem?_eq_getElem]
      have hcell := hc j _ hxj
      obtain ⟨s, hsx⟩ := hs xs[j] (List.getElem_mem _)
      rw [hsx] at hcell
      obtain ⟨cs, hrow⟩ := row_block ho
      have hfz := frozen_of_row hrow j
      have mt : ∀ w0 : World, Calls Tryz.prog 61 #[.int .i64 (k + j : Nat)] w0 fun e w' => e = .returned (.string (markT (k + j))) ∧ Below w0.heap.size w0 w' := fun w0 => lMarkText (k + j) (by omega) (by omega) w0
      have hset := mks_set (k := k) (xs := xs) hjl hxl
      have bj : (j : Int) < n := by omega
      have kb : ((k + j : Nat) : Int) ≤ 9000000 := by omega
      have HN : Hid (k + j + 1 = k + (j + 1)) := Nat.add_assoc _ _ _
      generalize hkj : k + j = kj at *
      clear hc hsx hxj
      go_wp2_with (go_at_call 61; refine (mt _).mono ?_; rintro e w3 ⟨rfl, hb3⟩; have e1 := (hb3.cell (p := ⟨g, j, none⟩) hg).trans hcell; have e2 := (hb3.frozen (p := ⟨g, j, none⟩) hg).trans hfz)
      go_roundw
      case rel =>
        refine ⟨j + 1, hjl, by go_num, ?_, ?_, ?_⟩
        · rw [← HN.out]; go_num
        · have h2 := owns_set (owns_same (w' := w3) ho fun b hb => by
            simp only [Value.ownBlock, Option.some.injEq] at hb
            subst hb
            exact hb3.block _ hg) j (.string (markT kj))
          rw [hset] at h2
          exact h2
        · refine ⟨hb3.os.trans hT.os, hb3.tape.trans hT.tape, hb3.output.trans hT.output, ?_, fun b hb hn hne => ?_⟩
          · have := hT.size; have := hb3.size; simp; omega
          · have hbg : b ≠ g := fun e => hne (by rw [e]; rfl)
            rw [Below.heap_setCell _ _ _ _ hbg, hb3.block b (Nat.lt_of_lt_of_le hb hT.size)]
            exact hT.block b hb hn hne
      case measure => simp [intOf]; omega
    · obtain rfl : j = n := by omega
      have hlm : (mks k j).length = j := by simp [mks]
      rw [List.take_of_length_le (by simp [hlm]), List.drop_of_length_le (by omega), List.append_nil] at ho
      have HO : Hid (wr.ownsRow B 9 1 (.slice ao j cap) j ((mks k j).map encStr)) := ho
      clear ho
      go_wp2_with fail
      go_ret
      exact ⟨rfl, HO.out, hT⟩

end Mk
end Go.Proofs.YtkhoccjfkkfipaaGreatDoor
namespace Go.Proofs.YtkhoccjfkkfipaaGreatDoor
open Go.RowKit
namespace Cm
open St (Vl)
open Nd Ty

/-- A text as the model has it. -/
def tx (s : List UInt8) : ByteArray := ⟨s.toArray⟩
def none' : ByteArray := ⟨#[]⟩
/-- The code of what has no more to tell. -/
def plainC (op : Int) : Int := if op = 6 then 9 else if op = 7 then 10 else if op = 8 then 11 else if op = 22 then 26 else if op = 23 then 27 else if op = 33 then 36 else if op = 35 then 32 else op + 3
/-- The one place of a node behind its kids. -/
def wordV (iv ic : ByteArray → Int) (op n : Int) (s : List UInt8) (k : Nat) : Vl :=
  if op = 1 then (1, n, none') else if op = 2 then (2, 0, tx s) else if op = 3 then (25, 0, tx s) else if op = 4 then (3, iv (tx s), none') else if op = 5 then (6, ic (tx s), none')
  else if op = 34 then (35, ic (tx s), none') else if op = 28 then (29, k, tx s) else (plainC op, 0, none')

/-- How places come, from a number on. -/
abbrev Pt := Nat → List Vl
def seqs : List Pt → Pt
  | [], _ => []
  | f :: fs, b => f b ++ seqs fs (b + (f b).length)
def prints : Nat → List Pt → Pt
  | _, [], _ => []
  | i, f :: fs, b => f b ++ (33, ((min i 1 : Nat) : Int), none') :: prints (i + 1) fs (b + (f b).length + 1)
def andV (f0 f1 : Pt) : Pt := fun b =>
  let a := f0 b
  let c := f1 (b + a.length + 1)
  a ++ (31, ((b + a.length + 1 + c.length + 2 : Nat) : Int), none') :: (c ++ [(28, 0, none'), (30, ((b + a.length + 1 + c.length + 3 : Nat) : Int), none'), (1, 0, none')])
def orV (f0 f1 : Pt) : Pt := fun b =>
  let a := f0 b
  let c := f1 (b + a.length + 3)
  a ++ (31, ((b + a.length + 3 : Nat) : Int), none') :: (1, 1000000, none') :: (30, ((b + a.length + 3 + c.length + 1 : Nat) : Int), none') :: (c ++ [(28, 0, none')])
def ifV (f0 f1 : Pt) : Pt := fun b =>
  let a := f0 b
  let c := f1 (b + a.length + 1)
  a ++ (31, ((b + a.length + 1 + c.length : Nat) : Int), none') :: c
def elseV (f0 f1 f2 : Pt) : Pt := fun b =>
  let a := f0 b
  let c := f1 (b + a.length + 1)
  let d := f2 (b + a.length + 1 + c.length + 1)
  a ++ (31, ((b + a.length + 1 + c.length + 1 : Nat) : Int), none') :: (c ++ (30, ((b + a.length + 1 + c.length + 1 + d.length : Nat) : Int), none') :: d)
def whileV (f0 f1 : Pt) : Pt := fun b =>
  let a := f0 b
  let c := f1 (b + a.length + 1)
  a ++ (31, ((b + a.length + 1 + c.length + 1 : Nat) : Int), none') :: (c ++ [(30, (b : Int), none')])

/-- A node's places, by those of its kids (of each: its kids' alone, and its own). -/
def opV (iv ic : ByteArray → Int) (op n : Int) (s : List UInt8) (ks : List Data) (fs : List (Pt × Pt)) : Pt := fun b =>
  if op = 29 then seqs (fs.map (·.2)) b
  else if op = 30 then (if fs.isEmpty then [(1, 0, none'), (9, 0, none'), (33, 0, none')] else prints 0 (fs.map (·.2)) b) ++ [(34, 0, none')]
  else if op = 31 then (match fs with | [f0, f1] => ifV f0.2 f1.1 b | [f0, f1, f2] => elseV f0.2 f1.1 f2.1 b | _ => [])
  else if op = 32 then (match fs with | [f0, f1] => whileV f0.2 f1.1 b | _ => [])
  else if op = 24 then (match fs with | [f0, f1] => andV f0.2 f1.2 b | _ => [])
  else if op = 25 then (match fs with | [f0, f1] => orV f0.2 f1.2 b | _ => [])
  else if op = 26 ∨ op = 27 then (match ks, fs with
    | [k0, _], [f0, f1] => seqs [f0.1, f1.2] b ++ [if opOf k0 = 4 then (4 + (op - 26), iv (tx (txtOf k0)), none') else (7 + (op - 26), ic (tx (txtOf k0)), none')]
    | _, _ => [])
  else if op = 21 then (match ks, fs with | [_, k1], [f0, _] => f0.2 b ++ [(24, 0, tx (txtOf k1))] | _, _ => [])
  else seqs (fs.map (·.2)) b ++ [wordV iv ic op n s ks.length]

mutual
def comp (iv ic : ByteArray → Int) : Data → Pt × Pt
  | .slice ks lab => (seqs ((comps iv ic ks).map (·.2)), opV iv ic (opOf (.slice ks lab)) (numOf (.slice ks lab)) (txtOf (.slice ks lab)) ks (comps iv ic ks))
  | _ => (fun _ => [], fun _ => [])
def comps (iv ic : ByteArray → Int) : List Data → List (Pt × Pt)
  | [] => []
  | t :: ts => comp iv ic t :: comps iv ic ts
end
theorem comps_map (iv ic : ByteArray → Int) : ∀ ts : List Data, comps iv ic ts = ts.map (comp iv ic)
  | [] => by simp [comps]
  | t :: ts => by simp [comps, comps_map iv ic ts]
/-- The places of a list of nodes. -/
def seqOf (iv ic : ByteArray → Int) (ts : List Data) : Pt := seqs ((ts.map (comp iv ic)).map (·.2))
/-- A node's places. -/
def nodeP (iv ic : ByteArray → Int) (t : Data) : Pt := (comp iv ic t).2
theorem comp_kids (iv ic : ByteArray → Int) (op n : Int) (s : List UInt8) (ks : List Data) : (comp iv ic (nd op n s ks)).1 = seqOf iv ic ks := by
  unfold nd seqOf
  rw [comp, comps_map]
theorem nodeP_nd (iv ic : ByteArray → Int) (op n : Int) (s : List UInt8) (ks : List Data) : nodeP iv ic (nd op n s ks) = opV iv ic op n s ks (ks.map (comp iv ic)) := by
  unfold nodeP
  rw [show comp iv ic (nd op n s ks) = (seqs ((comps iv ic ks).map (·.2)), opV iv ic (opOf (nd op n s ks)) (numOf (nd op n s ks)) (txtOf (nd op n s ks)) ks (comps iv ic ks)) by unfold nd; rw [comp], op_nd, num_nd, txt_nd, comps_map]
theorem seqs_append : ∀ (fs gs : List Pt) (b : Nat), seqs (fs ++ gs) b = seqs fs b ++ seqs gs (b + (seqs fs b).length)
  | [], gs, b => by simp [seqs]
  | f :: fs, gs, b => by
    simp only [List.cons_append, seqs, seqs_append fs gs, List.append_assoc, List.length_append, Nat.add_assoc]
theorem seqOf_nil (iv ic : ByteArray → Int) (b : Nat) : seqOf iv ic [] b = [] := rfl
theorem seqOf_take (iv ic : ByteArray → Int) {ts : List Data} {k : Nat} {t : Data} (h : ts[k]? = some t) (b : Nat) : seqOf iv ic (ts.take (k + 1)) b = seqOf iv ic (ts.take k) b ++ nodeP iv ic t (b + (seqOf iv ic (ts.take k) b).length) := by
  unfold seqOf
  rw [List.take_add_one, h]
  simp only [Option.toList_some, List.map_append, List.map_cons, List.map_nil, seqs_append]
  simp [seqs, nodeP]
theorem seqOf_len (iv ic : ByteArray → Int) (ts : List Data) (k b : Nat) : (seqOf iv ic (ts.take k) b).length ≤ (seqOf iv ic ts b).length := by
  have : seqOf iv ic ts b = seqOf iv ic (ts.take k) b ++ seqOf iv ic (ts.drop k) (b + (seqOf iv ic (ts.take k) b).length) := by
    unfold seqOf
    rw [← seqs_append, ← List.map_append, ← List.map_append, List.take_append_drop]
  rw [this, List.length_append]
  omega
theorem set_mid {α : Type} (l1 l2 : List α) (x y : α) : (l1 ++ x :: l2).set l1.length y = l1 ++ y :: l2 := by simp
theorem get_mid {α : Type} (l1 l2 : List α) (x : α) : (l1 ++ x :: l2)[l1.length]? = some x := by simp

end Cm
end Go.Proofs.YtkhoccjfkkfipaaGreatDoor
namespace Go.Proofs.YtkhoccjfkkfipaaGreatDoor
open Go.RowKit
namespace Nd

def keyV (g : Nat) (n : Int) : Value := .agg #[.pointer (some ⟨g, 0, none⟩), .int .i64 n]
/-- The map in block m: its keys are places of the blocks G. -/
def MapIs (w : World) (m : Nat) (G : List Nat) : Prop := ∃ es clock, w.heap[m]? = some (.map es clock) ∧ es.size = G.length ∧ ∀ e ∈ es.toList, ∃ g n, e.key = keyV g n ∧ g ∈ G

theorem MapIs.lt {w : World} {m : Nat} {G : List Nat} (h : MapIs w m G) : m < w.heap.size := by
  obtain ⟨es, c, h1, _⟩ := h
  exact heap_lt h1
theorem MapIs.same {w w' : World} {m : Nat} {G : List Nat} (h : MapIs w m G) (hw : w'.heap[m]? = w.heap[m]?) : MapIs w' m G := by
  obtain ⟨es, c, h1, h2⟩ := h
  exact ⟨es, c, hw.trans h1, h2⟩
theorem mapIs_made (w : World) : MapIs (w.alloc (.map #[] 0)) w.heap.size [] := ⟨#[], 0, heap_new _ _, rfl, fun e he => by simp at he⟩

theorem aggInt (w : World) : (isAgg 3).run Tryz.prog w = .ok false w := by kernel_rfl
theorem zeroInt (w : World) : (zeroValue 3).run Tryz.prog w = .ok (.int .i64 0) w := by kernel_rfl

end Nd
end Go.Proofs.YtkhoccjfkkfipaaGreatDoor
