/-
  CellGet of both sides.
-/
import Derived.Test.YtjlchfielpfehaaStGetS
import Derived.Test.YtjlchfielpfehaaStSeq
namespace Go.Proofs.Ytjlchfielpfehaa
open Go.RowKit
namespace St
open Nd
attribute [local go_sem] Oper.semAt_some

/-- What is got: the first cell's value, or nothing. -/
theorem get_cases (n : Int) (k : ByteArray) (cs : List Cl) : (atC n k cs = -1 ∧ getC n k cs = zeroV) ∨ ∃ (i : Nat) (c : Cl), cs[i]? = some c ∧ atC n k cs = i ∧ getC n k cs = c.2.2 := by
  cases h : cs.findIdx? (hit n k) with
  | none =>
    have hn := List.findIdx?_eq_none_iff.1 h
    left
    unfold atC getC
    rw [h, (find_none hn).2]
    exact ⟨rfl, rfl⟩
  | some i =>
    right
    obtain ⟨hi, hh, hno⟩ := List.findIdx?_eq_some_iff_getElem.1 h
    have hf := find_at (List.getElem?_eq_getElem hi) hh fun d hd => by
      obtain ⟨j, hj⟩ := List.getElem?_of_mem hd
      have hjl := (List.getElem?_eq_some_iff.1 hj).1
      rw [List.length_take] at hjl
      rw [List.getElem?_take_of_lt (by omega)] at hj
      have := hno j (by omega)
      obtain ⟨_, e⟩ := List.getElem?_eq_some_iff.1 hj
      rw [← e]
      simpa using this
    refine ⟨i, cs[i], List.getElem?_eq_getElem hi, ?_, ?_⟩
    · unfold atC; rw [h]
    · unfold getC; rw [hf.2]; rfl

set_option maxHeartbeats 1000000 in
set_option maxRecDepth 100000 in
theorem sCellGet {a b : Option Addr} {lv ca cb : Nat} {cs : List Cl} {nr er n : Int} {k : ByteArray} {w : World} (hC : RdC w b cs) (hm : cs.length ≤ 1048576) :
    Calls Try.prog 18 #[.agg #[.slice a lv ca, .slice b cs.length cb, .int .i64 nr, .int .i64 er], .int .i64 n, .string k] w fun e w' => e = .returned (.agg #[.int .i64 (getC n k cs).1, .int .i64 (getC n k cs).2.1, .string (getC n k cs).2.2]) ∧ Below w.heap.size w w' := by
  obtain ⟨W0, hW0⟩ : ∃ W0, W0 = (w.alloc (.cells #[.slice a lv ca, .slice b cs.length cb, .int .i64 nr, .int .i64 er] 31)).alloc (.cells #[.int .i64 0, .int .i64 0, .string ⟨#[]⟩] 42) := ⟨_, rfl⟩
  have hb0 : Below w.heap.size w W0 := by rw [hW0]; exact ((Below.refl _ w).alloc (Nat.le_refl _) _).alloc (by simp) _
  have k0 : Blk 31 W0 w.heap.size [.slice a lv ca, .slice b cs.length cb, .int .i64 nr, .int .i64 er] := by rw [hW0]; exact (Blk.new _ _ _).alloc _
  have k1 : Blk 42 W0 (w.heap.size + 1) [.int .i64 0, .int .i64 0, .string ⟨#[]⟩] := by
    have := Blk.new 42 (w.alloc (.cells #[.slice a lv ca, .slice b cs.length cb, .int .i64 nr, .int .i64 er] 31)) [.int .i64 0, .int .i64 0, .string ⟨#[]⟩]
    rw [World.size_alloc] at this
    rw [hW0]
    exact this
  have ca' := sAt (a := a) (lv := lv) (ca := ca) (cb := cb) (nr := nr) (er := er) (n := n) (k := k) (hC.below hb0) hm
  have hcs := get_cases n k cs
  generalize atC n k cs = A at *
  generalize getC n k cs = G at *
  go_enter Try.func18, Try.ntmps18
  go_wp2_with (go_at_call 38; refine hold ?_)
  rw [← hW0]
  clear hW0
  refine ca'.mono ?_
  rintro e w2 ⟨rfl, hb2⟩
  have j0 := k0.below hb2
  have j1 := k1.below hb2
  have hB2 := hb0.trans (hb2.mono hb0.size)
  have x1 := j0.cell 1 rfl
  have p0 := j1.cell 0 rfl
  have p1 := j1.cell 1 rfl
  have p2 := j1.cell 2 rfl
  have f1 := j1.frozen
  have HJ : Hid (Blk 42 w2 (w.heap.size + 1) [.int .i64 0, .int .i64 0, .string ⟨#[]⟩] ∧ Below w.heap.size w w2) := ⟨j1, hB2⟩
  rcases hcs with ⟨rfl, rfl⟩ | ⟨i, c, hci, rfl, rfl⟩
  · clear hC ca' j0 j1 k0 k1 hb0 hb2 hB2
    go_wp2_with fail
    obtain ⟨j1, B2⟩ := HJ.out
    exact ret_val Try.results18 rfl rfl (((j1.set 0 _).set 1 _).set 2 _) ⟨rfl, ((B2.setCell (by simp) _).setCell (by simp) _).setCell (by simp) _⟩
  · obtain ⟨b', o, rfl, hbl, _, _, q0, q1, q2, q3, q4⟩ := hC.below hB2 i c hci
    have hil : i < cs.length := (List.getElem?_eq_some_iff.1 hci).1
    have bi : (i : Int) < cs.length := by omega
    have bm : (cs.length : Int) ≤ 1048576 := by omega
    have q3' : w2.cell? ⟨b', o + i * 5 + 2 + 1, none⟩ = some (.int .i64 c.2.2.2.1) := q3
    have q4' : w2.cell? ⟨b', o + i * 5 + 2 + 2, none⟩ = some (.string c.2.2.2.2) := q4
    clear hC ca' j0 j1 k0 k1 hb0 hb2 hB2
    go_wp2_with fail
    obtain ⟨j1, B2⟩ := HJ.out
    exact ret_val Try.results18 rfl rfl (((j1.set 0 _).set 1 _).set 2 _) ⟨rfl, ((B2.setCell (by simp) _).setCell (by simp) _).setCell (by simp) _⟩

end St
end Go.Proofs.Ytjlchfielpfehaa
