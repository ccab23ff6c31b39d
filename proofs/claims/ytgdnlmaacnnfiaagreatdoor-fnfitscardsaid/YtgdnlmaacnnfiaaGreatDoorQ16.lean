/-
  The program's walk over a text along places: what it holds, and enter.
  onward, numbersOf, l4List.
-/
import Derived.Test.YtgdnlmaacnnfiaaGreatDoorQ15
import Derived.Deep.MidRow
import Derived.Test.YtgdnlmaacnnfiaaGreatDoorQ09
namespace Go.Proofs.YtgdnlmaacnnfiaaGreatDoor
open Go.RowKit
namespace Nf
set_option linter.unusedVariables false
open Rx Clo

/-- The pieces of a row of places, each from fr on. -/
def pcs (fr : Int) : List Nat → List Value
  | [] => []
  | p :: L => .int .i64 fr :: .int .i64 (p : Int) :: pcs fr L
theorem pcs_len (fr : Int) : ∀ L : List Nat, (pcs fr L).length = L.length * 2
  | [] => rfl
  | p :: L => by simp [pcs, pcs_len fr L]; omega
theorem pcs_app (fr : Int) : ∀ (L L' : List Nat), pcs fr (L ++ L') = pcs fr L ++ pcs fr L'
  | [], L' => rfl
  | p :: L, L' => by simp [pcs, pcs_app fr L L']
theorem pcs_at (fr : Int) : ∀ (L : List Nat) (k p : Nat), L[k]? = some p → (pcs fr L)[k * 2]? = some (.int .i64 fr) ∧ (pcs fr L)[k * 2 + 1]? = some (.int .i64 (p : Int))
  | [], k, p, h => by simp at h
  | x :: L, 0, p, h => by simp at h; subst h; simp [pcs]
  | x :: L, k + 1, p, h => by
    have := pcs_at fr L k p (by simpa using h)
    rw [show (k + 1) * 2 = k * 2 + 1 + 1 by omega, pcs]
    simpa using this

/-- The row of the walk's pieces is at block k. -/
def RowAt4 (q : Nat) (w : World) (k : Nat) : Prop := ∃ v, w.cell? ⟨q, 402, none⟩ = some v ∧ Value.ownBlock v = some k
theorem rowAt4_is {q k : Nat} {w : World} {v : Value} (h : w.cell? ⟨q, 402, none⟩ = some v) : RowAt4 q w k ↔ Value.ownBlock v = some k := by
  constructor
  · rintro ⟨v', h1, h2⟩
    rw [h] at h1
    cases h1
    exact h2
  · exact fun h2 => ⟨v, h, h2⟩
/-- Nothing is turned but the walk, and the row of its pieces. -/
structure Ch4 (q : Nat) (w w' : World) : Prop where
  os : w'.os = w.os
  tape : w'.tape = w.tape
  output : w'.output = w.output
  size : w.heap.size ≤ w'.heap.size
  own : ∀ k, k < w.heap.size → k ≠ q → ¬ RowAt4 q w k → w'.heap[k]? = w.heap[k]? ∧ ¬ RowAt4 q w' k
theorem Ch4.refl (q : Nat) (w : World) : Ch4 q w w := ⟨rfl, rfl, rfl, Nat.le_refl _, fun _ _ _ h => ⟨rfl, h⟩⟩
theorem Ch4.trans {q : Nat} {a b c : World} (h : Ch4 q a b) (k : Ch4 q b c) : Ch4 q a c :=
  ⟨k.os.trans h.os, k.tape.trans h.tape, k.output.trans h.output, Nat.le_trans h.size k.size, fun j h1 h2 h3 =>
    ⟨((k.own j (Nat.lt_of_lt_of_le h1 h.size) h2 (h.own j h1 h2 h3).2).1).trans (h.own j h1 h2 h3).1, (k.own j (Nat.lt_of_lt_of_le h1 h.size) h2 (h.own j h1 h2 h3).2).2⟩⟩
theorem rowAt4_same {q k : Nat} {w w' : World} (h : w'.heap[q]? = w.heap[q]?) : RowAt4 q w' k ↔ RowAt4 q w k := by
  have hc : w'.cell? ⟨q, 402, none⟩ = w.cell? ⟨q, 402, none⟩ := World.cell?_of_block h
  unfold RowAt4
  rw [hc]
theorem ch4_below {q : Nat} {w w' : World} (hq : q < w.heap.size) (h : Below w.heap.size w w') : Ch4 q w w' :=
  ⟨h.os, h.tape, h.output, h.size, fun k hk _ hr => ⟨h.block k hk, fun hr' => hr ((rowAt4_same (h.block q hq)).1 hr')⟩⟩

/-- The walk at block q: its list of places, its text, which places it holds, and its pieces. -/
structure Sw (q g n cap : Nat) (P : Nat → Pl) (txt : ByteArray) (fr : Int) (H : Nat → Bool) (L : List Nat) (w : World) : Prop where
  ne : q ≠ g
  c0 : w.cell? ⟨q, 0, none⟩ = some (.slice (some ⟨g, 0, none⟩) n cap)
  c1 : w.cell? ⟨q, 1, none⟩ = some (.string txt)
  held : ∀ k, k < 400 → w.cell? ⟨q, 2 + k, none⟩ = some (.bool (H k))
  row : ∃ pv, w.cell? ⟨q, 402, none⟩ = some pv ∧ w.ownsRow 0 127 2 pv L.length (pcs fr L) ∧ ∀ k, Value.ownBlock pv = some k → k ≠ q ∧ k ≠ g
  fz : ∀ j, w.frozen? ⟨q, j, none⟩ = false
  pr : Pr g n P w
  mem : ∀ x, x < 400 → (H x = true ↔ x ∈ L)
  lt : ∀ x ∈ L, x < n
  cnt : L.length + open' H 400 = 400
theorem Sw.q_lt {q g n cap : Nat} {P : Nat → Pl} {txt : ByteArray} {fr : Int} {H : Nat → Bool} {L : List Nat} {w : World} (h : Sw q g n cap P txt fr H L w) : q < w.heap.size := World.block_lt_of_cell? w _ h.c0
theorem Sw.on {q g n cap : Nat} {P : Nat → Pl} {txt : ByteArray} {fr : Int} {H : Nat → Bool} {L : List Nat} {w w' : World} (h : Sw q g n cap P txt fr H L w) (hb : Below w.heap.size w w') : Sw q g n cap P txt fr H L w' := by
  have hq := h.q_lt
  obtain ⟨pv, p1, p2, p3⟩ := h.row
  exact ⟨h.ne, (hb.cell (p := ⟨q, 0, none⟩) hq).trans h.c0, (hb.cell (p := ⟨q, 1, none⟩) hq).trans h.c1, fun k hk => (hb.cell (p := ⟨q, 2 + k, none⟩) hq).trans (h.held k hk),
    ⟨pv, (hb.cell (p := ⟨q, 402, none⟩) hq).trans p1, Rx.owns_same p2 fun k hk => hb.block k (p2.lt k hk).2, p3⟩, fun j => (hb.frozen (p := ⟨q, j, none⟩) hq).trans (h.fz j), h.pr.below hb, h.mem, h.lt, h.cnt⟩

/-- One place is held, and its piece put behind the others. -/
theorem Sw.push {q g n cap p : Nat} {P : Nat → Pl} {txt : ByteArray} {fr : Int} {H : Nat → Bool} {L : List Nat} {w w' : World} {pv' : Value} (h : Sw q g n cap P txt fr H L w) (hp : p < n) (hn : n ≤ 400) (hH : H p = false)
    (hs : w.heap.size ≤ w'.heap.size) (e0 : w'.cell? ⟨q, 0, none⟩ = w.cell? ⟨q, 0, none⟩) (e1 : w'.cell? ⟨q, 1, none⟩ = w.cell? ⟨q, 1, none⟩) (e2 : ∀ k, k < 400 → k ≠ p → w'.cell? ⟨q, 2 + k, none⟩ = w.cell? ⟨q, 2 + k, none⟩) (e3 : w'.cell? ⟨q, 2 + p, none⟩ = some (.bool true))
    (e4 : w'.cell? ⟨q, 402, none⟩ = some pv') (e5 : w'.ownsRow 0 127 2 pv' (L.length + 1) (pcs fr L ++ [.int .i64 fr, .int .i64 (p : Int)])) (e6 : ∀ k, Value.ownBlock pv' = some k → k ≠ q ∧ k ≠ g) (e7 : ∀ j, w'.frozen? ⟨q, j, none⟩ = false) (e8 : w'.heap[g]? = w.heap[g]?) :
    Sw q g n cap P txt fr (Clo.mark H p) (L ++ [p]) w' := by
  have hpr := h.pr.1
  refine ⟨h.ne, e0.trans h.c0, e1.trans h.c1, fun k hk => ?_, ⟨pv', e4, ?_, e6⟩, e7, h.pr.on e8 (by omega), fun x hx => ?_, fun x hx => ?_, ?_⟩
  · by_cases e : k = p
    · subst e
      rw [Clo.mark_self]
      exact e3
    · rw [e2 k hk e, h.held k hk]
      simp [Clo.mark, e]
  · rw [pcs_app, List.length_append]
    exact e5
  · simp only [Clo.mark, Bool.or_eq_true, decide_eq_true_eq, List.mem_append, List.mem_singleton, h.mem x hx]
  · rcases List.mem_append.1 hx with hx | hx
    · exact h.lt x hx
    · rw [List.mem_singleton.1 hx]
      exact hp
  · have := open_mark (n := 400) (show p < 400 by omega) hH
    have := h.cnt
    simp
    omega

/-- What enter does to what is held, from place p at place e of the text. -/
structure Dfs (P : Nat → Pl) (tg : Nat → Nat) (N e : Nat) (H : Nat → Bool) (p : Nat) (H' : Nat → Bool) : Prop where
  old : ∀ x, H x = true → H' x = true
  new : H' p = true
  run : ∀ x, H' x = true → H x = true ∨ Run P tg N p e x e
  shut : ∀ x, H' x = true → H x = true ∨ ∀ y : Nat, (y : Int) ∈ nextV (P x).op (P x).a (P x).b x (decide (e = 0)) (decide (e = N)) → H' y = true

theorem next_lt {E : Nat} {x : Pl} (h : Good E x) (p : Nat) (hp : p < E) (b f : Bool) : ∀ y ∈ nextV x.op x.a x.b p b f, ∃ z : Nat, y = z ∧ z ≤ E := by
  intro y hy
  rcases h with ⟨c, rfl⟩ | rfl | ⟨s, no, rfl, hs⟩ | rfl | rfl | ⟨a, ha, rfl⟩ | ⟨a, b, ha, hb', rfl⟩ <;> simp only [nextV, byteP, anyP, setP, startP, endP, jumpP, forkP] at hy
  · simp at hy
  · simp at hy
  · simp at hy
  · simp at hy
    exact ⟨p + 1, by omega, by omega⟩
  · simp at hy
    exact ⟨p + 1, by omega, by omega⟩
  · simp at hy
    exact ⟨a, hy, ha⟩
  · simp at hy
    rcases hy with rfl | rfl
    · exact ⟨_, rfl, ha⟩
    · exact ⟨_, rfl, hb'⟩

end Nf
end Go.Proofs.YtgdnlmaacnnfiaaGreatDoor

namespace Go.Proofs.YtgdnlmaacnnfiaaGreatDoor
open Go.RowKit
namespace Clo

/-- Numbers that come back: nil, or in a block of their own. -/
def NewInts (B : Nat) (w : World) (v : Value) (l : List Int) : Prop := (l = [] ∧ v = .slice none 0 0) ∨ (l ≠ [] ∧ ∃ g, v = .slice (some ⟨g, 0, none⟩) l.length l.length ∧ B ≤ g ∧ Is g l w)

theorem is_new (w : World) (l : List Int) {g : Nat} {o : Obj} (hg : g = w.heap.size) (ho : o = .cells (ints l).toArray 3) : Is g l (w.alloc o) := by
  subst ho hg
  exact heap_alloc_last _ _

theorem iOnward (op c : Int) (set : ByteArray) (no : Bool) (a b : Int) (k : Nat) (begin fin : Bool) (w : World) (hk : k ≤ 1048576) :
    Calls Tryz.prog 86 #[.agg #[.int .i64 op, .int .i64 c, .string set, .bool no, .int .i64 a, .int .i64 b], .int .i64 k, .bool begin, .bool fin] w fun e w' =>
      ∃ v, e = .returned v ∧ NewInts w.heap.size w' v (nextV op a b k begin fin) ∧ Below w.heap.size w w' := by
  have bk : (k : Int) ≤ 1048576 := by omega
  have hb : ∀ o, Below w.heap.size w (w.alloc o) := fun o => (Below.refl _ w).alloc (Nat.le_refl _) o
  by_cases h6 : op = 6
  · subst h6
    have HN : Hid (nextV 6 a b k begin fin = [a]) := by show nextV 6 a b k begin fin = [a]; simp [nextV]
    go_enter Tryz.func86, Tryz.ntmps86
    go_wp2_with fail
    go_ret
    rw [HN.out]
    exact ⟨_, rfl, .inr ⟨by simp, _, rfl, by simp, is_new _ [a] (by simp) rfl⟩, (hb _).alloc (by simp) _⟩
  by_cases h7 : op = 7
  · subst h7
    have HN : Hid (nextV 7 a b k begin fin = [a, b]) := by show nextV 7 a b k begin fin = [a, b]; simp [nextV]
    go_enter Tryz.func86, Tryz.ntmps86
    go_wp2_with fail
    go_ret
    rw [HN.out]
    exact ⟨_, rfl, .inr ⟨by simp, _, rfl, by simp, is_new _ [a, b] (by simp) rfl⟩, (hb _).alloc (by simp) _⟩
  by_cases h4 : op = 4
  · subst h4
    cases begin with
    | true =>
      have HN : Hid (nextV 4 a b k true fin = [(k : Int) + 1]) := by show nextV 4 a b k true fin = _; simp [nextV]
      go_enter Tryz.func86, Tryz.ntmps86
      go_wp2_with fail
      go_ret
      rw [HN.out]
      exact ⟨_, rfl, .inr ⟨by simp, _, rfl, by simp, is_new _ [(k : Int) + 1] (by simp) rfl⟩, (hb _).alloc (by simp) _⟩
    | false =>
      have HN : Hid (nextV 4 a b k false fin = []) := by show nextV 4 a b k false fin = _; simp [nextV]
      go_enter Tryz.func86, Tryz.ntmps86
      go_wp2_with fail
      go_ret
      rw [HN.out]
      exact ⟨_, rfl, .inl ⟨rfl, rfl⟩, hb _⟩
  by_cases h5 : op = 5
  · subst h5
    cases fin with
    | true =>
      have HN : Hid (nextV 5 a b k begin true = [(k : Int) + 1]) := by show nextV 5 a b k begin true = _; simp [nextV]
      go_enter Tryz.func86, Tryz.ntmps86
      go_wp2_with fail
      go_ret
      rw [HN.out]
      exact ⟨_, rfl, .inr ⟨by simp, _, rfl, by simp, is_new _ [(k : Int) + 1] (by simp) rfl⟩, (hb _).alloc (by simp) _⟩
    | false =>
      have HN : Hid (nextV 5 a b k begin false = []) := by show nextV 5 a b k begin false = _; simp [nextV]
      go_enter Tryz.func86, Tryz.ntmps86
      go_wp2_with fail
      go_ret
      rw [HN.out]
      exact ⟨_, rfl, .inl ⟨rfl, rfl⟩, hb _⟩
  have HN : Hid (nextV op a b k begin fin = []) := by show nextV op a b k begin fin = _; simp [nextV, h4, h5, h6, h7]
  have n4 : (op == 4) = false := by simp [h4]
  have n5 : (op == 5) = false := by simp [h5]
  have n6 : (op == 6) = false := by simp [h6]
  have n7 : (op == 7) = false := by simp [h7]
  go_enter Tryz.func86, Tryz.ntmps86
  go_wp2_with fail
  go_ret
  rw [HN.out]
  exact ⟨_, rfl, .inl ⟨rfl, rfl⟩, hb _⟩

theorem listV_in {M : Nat → Bool} {k : Nat} (h : M k = true) : listV M (k + 1) = listV M k ++ [k] := by rw [listV_succ, if_pos h]
theorem listV_out {M : Nat → Bool} {k : Nat} (h : M k = false) : listV M (k + 1) = listV M k := by rw [listV_succ, if_neg (by simp [h])]

/-- The places that are marked, as numbers. -/
def nums (M : Nat → Bool) (k : Nat) : List Int := (listV M k).map fun (x : Nat) => (x : Int)
theorem nums_in {M : Nat → Bool} {k : Nat} (h : M k = true) : nums M (k + 1) = nums M k ++ [(k : Int)] := by simp [nums, listV_in h]
theorem nums_out {M : Nat → Bool} {k : Nat} (h : M k = false) : nums M (k + 1) = nums M k := by simp [nums, listV_out h]
theorem nums_len (M : Nat → Bool) (k : Nat) : (nums M k).length ≤ k := by simpa [nums] using listV_len M k

/-- Numbers that come back in a row of the call's own. -/
def OwnInts (B : Nat) (w : World) (v : Value) (l : List Int) : Prop := w.ownsRow B 3 1 v l.length (ints l)

set_option maxRecDepth 100000 in
theorem sList {q n : Nat} {M : Nat → Bool} {w : World} (h : Bs q n M w) (hn : n ≤ 1048576) :
    Calls Tryz.prog 26 #[.slice (some ⟨q, 0, none⟩) n n] w fun e w' => ∃ v, e = .returned v ∧ OwnInts w.heap.size w' v (nums M n) ∧ Below w.heap.size w w' := by
  obtain ⟨i0, hi0, hz0, hz1, hz2⟩ := info_parts Tryz.infoIntr
  have hq := h.lt
  have bn : (n : Int) ≤ 1048576 := by omega
  have hc : ∀ k, k < n → w.cell? ⟨q, k, none⟩ = some (.bool (M k)) := fun k hk => bs_cell h hk
  clear h
  go_enter Tryz.func26, Tryz.ntmps26
  go_wp2_with fail
  go_loopw [3, 4] (fun v i wr => ∃ k : Nat, k ≤ n ∧ i = .int .i64 k ∧ wr.ownsRow w.heap.size 3 1 v (nums M k).length (ints (nums M k)) ∧ Below w.heap.size w wr) (fun _ i _ => n - (intOf i).toNat)
  case atStart => exact ⟨0, by omega, rfl, World.ownsRow_made w #[] 0 (Nat.le_refl _) (by unfold maxLen; omega) rfl, (Below.refl _ w).alloc (Nat.le_refl _) _⟩
  case round =>
    obtain ⟨k, hk, rfl, hown, hnx⟩ := hrel
    have hlen := nums_len M k
    have hsz := hnx.size
    by_cases hkl : k < n
    · have hck : wr.cell? ⟨q, k, none⟩ = some (.bool (M k)) := (hnx.cell (p := ⟨q, k, none⟩) hq).trans (hc k hkl)
      by_cases hM : M k = true
      · rw [hM] at hck
        go_wp2_with (first | (at_builtin; refine wpList_append_own_at _ rfl _ _ 29 rfl w.heap.size 3 i0 (.int .i64 0) 1 8 Tryz.underlying29 hi0 hz0 hz1 hz2 rfl (by decide) _ _ _ rfl (hown.alloc _) ⟨wr.heap.size, 0, none⟩ 1 1 [.int .i64 k] rfl rfl (cell_one_new _ _ _) (by simp [Value.oneCell']) (by unfold maxLen; omega) (by omega) (by simp; omega) ?_; intro v' w1 hown' hgrow _ _))
        go_roundw
        case rel =>
          refine ⟨k + 1, by omega, by go_num, ?_, ?_⟩
          · rw [nums_in hM]
            simpa [ints] using hown'
          · exact (hnx.alloc (by omega) _).grown hgrow (by simp; omega) (fun b hb => (hown.lt b hb).1)
        case measure => simp [intOf]; omega
      · have hM : M k = false := by simpa using hM
        rw [hM] at hck
        go_wp2_with fail
        go_roundw
        case rel => exact ⟨k + 1, by omega, by go_num, by rw [nums_out hM]; exact hown, hnx⟩
        case measure => simp [intOf]; omega
    · obtain rfl : k = n := by omega
      go_wp2_with fail
      go_ret
      exact ⟨_, rfl, hown, hnx⟩

end Clo
end Go.Proofs.YtgdnlmaacnnfiaaGreatDoor

