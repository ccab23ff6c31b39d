/-
  A Rex in the heap of which one node is turned, or that is put within another one.
  MatchTree of the program and of the specification where there is nothing to fit: what is not RexOk, or a place that the text has not; the law's own within and sameInts.
  The law's own within and sameInts, over lists of numbers that are read.
-/
import Derived.Test.YtgdnlmaacnnfiaaGreatDoorQ08
import Derived.Test.YtgdnlmaacnnfiaaGreatDoorQ09
import Derived.Test.YtgdnlmaacnnfiaaGreatDoorQ06
import Derived.Test.YtgdnlmaacnnfiaaGreatDoorQ11
import Derived.Test.YtgdnlmaacnnfiaaGreatDoorProg
import Derived.WalkKit
import Derived.ProofKit
import Derived.Below
import Derived.Deep.LoopGhost
import Derived.Deep.QuietTactic
import Derived.BigQuiet
namespace Go.Proofs.YtgdnlmaacnnfiaaGreatDoor
open Go.RowKit
namespace Rx

/-- The numbers and texts of a node are its own cells' alone. -/
theorem rexZ_op {w : World} {op c op' : Int} {s : List UInt8} {no : Bool} {ks : List Data} {S : Nat → Prop} {cs : List Value} (h : RexZ w (ndZ op c s no ks) S cs) : RexZ w (ndZ op' c s no ks) S (cs.set 0 (.int .i64 op')) := by
  rw [rexZ_nd] at h ⊢
  obtain ⟨v, xs, rfl, h⟩ := h
  exact ⟨v, xs, rfl, h⟩
theorem rexZ_c {w : World} {op c c' : Int} {s : List UInt8} {no : Bool} {ks : List Data} {S : Nat → Prop} {cs : List Value} (h : RexZ w (ndZ op c s no ks) S cs) : RexZ w (ndZ op c' s no ks) S (cs.set 1 (.int .i64 c')) := by
  rw [rexZ_nd] at h ⊢
  obtain ⟨v, xs, rfl, h⟩ := h
  exact ⟨v, xs, rfl, h⟩
theorem rexZ_set {w : World} {op c : Int} {s s' : List UInt8} {no : Bool} {ks : List Data} {S : Nat → Prop} {cs : List Value} (h : RexZ w (ndZ op c s no ks) S cs) : RexZ w (ndZ op c s' no ks) S (cs.set 2 (.string ⟨s'.toArray⟩)) := by
  rw [rexZ_nd] at h ⊢
  obtain ⟨v, xs, rfl, h⟩ := h
  exact ⟨v, xs, rfl, h⟩
theorem rexZ_no {w : World} {op c : Int} {s : List UInt8} {no no' : Bool} {ks : List Data} {S : Nat → Prop} {cs : List Value} (h : RexZ w (ndZ op c s no ks) S cs) : RexZ w (ndZ op c s no' ks) S (cs.set 3 (.bool no')) := by
  rw [rexZ_nd] at h ⊢
  obtain ⟨v, xs, rfl, h⟩ := h
  exact ⟨v, xs, rfl, h⟩

/-- One kid of a row is another one. -/
theorem rexZs_set {w : World} {j : Nat} {x : Value} (hj : j < 5) : ∀ {ks : List Data} {S : Nat → Prop} {xs : List Value} {i : Nat} {t t' : Data}, RexZs w ks S xs → ks[i]? = some t →
    (∀ (S1 : Nat → Prop) (cs : List Value), RexZ w t S1 cs → RexZ w t' S1 (cs.set j x)) → RexZs w (ks.set i t') S (xs.set (i * 5 + j) x)
  | [], S, xs, i, t, t', h, hi, hf => by simp at hi
  | t0 :: ts, S, xs, 0, t, t', h, hi, hf => by
    simp only [RexZs] at h
    obtain ⟨S1, S2, c1, c2, rfl, h1, h2, h3, h4⟩ := h
    simp at hi
    subst hi
    have hl := rexZ_len h1
    rw [List.set_cons_zero, RexZs, Nat.zero_mul, Nat.zero_add, List.set_append_left _ _ (by omega)]
    exact ⟨S1, S2, c1.set j x, c2, rfl, hf _ _ h1, h2, h3, h4⟩
  | t0 :: ts, S, xs, i + 1, t, t', h, hi, hf => by
    simp only [RexZs] at h
    obtain ⟨S1, S2, c1, c2, rfl, h1, h2, h3, h4⟩ := h
    simp at hi
    have hl := rexZ_len h1
    rw [List.set_cons_succ, RexZs, List.set_append_right _ _ (by omega), show (i + 1) * 5 + j - c1.length = i * 5 + j by omega]
    exact ⟨S1, S2, c1, c2.set (i * 5 + j) x, rfl, h1, rexZs_set hj h2 hi hf, h3, h4⟩

/-- A kid's cell is written: the row is that row with another kid. -/
theorem rexZ_kid {w : World} {op c : Int} {s : List UInt8} {no : Bool} {ks : List Data} {S : Nat → Prop} {a b cc d : Value} {g n cap : Nat} {i j : Nat} {t t' : Data} {x : Value} (hj : j < 5)
    (h : RexZ w (ndZ op c s no ks) S [a, b, cc, d, .slice (some ⟨g, 0, none⟩) n cap]) (hi : ks[i]? = some t)
    (hf : ∀ (w : World) (S1 : Nat → Prop) (cs : List Value), RexZ w t S1 cs → RexZ w t' S1 (cs.set j x)) :
    RexZ (w.setCell ⟨g, i * 5 + j, none⟩ x) (ndZ op c s no (ks.set i t')) S [a, b, cc, d, .slice (some ⟨g, 0, none⟩) n cap] := by
  rw [rexZ_nd] at h ⊢
  obtain ⟨v, xs, he, ho, hg, hx⟩ := h
  simp at he
  obtain ⟨rfl, rfl, rfl, rfl, rfl⟩ := he
  obtain rfl : n = ks.length := by
    obtain ⟨ao, cap', hh⟩ := owns_slice ho
    simp at hh
    exact hh.2.1
  refine ⟨_, xs.set (i * 5 + j) x, rfl, ?_, hg, ?_⟩
  · rw [List.length_set]
    exact (ho.stored (i * 5 + j) x).1
  · refine rexZs_set hj (rexZs_frame_of _ _ _ (fun t _ => rexZ_frame t) (fun k hk => Below.heap_setCell _ _ _ _ ?_) hx) hi (hf _)
    intro e
    exact hk.2 (by rw [e]; rfl)

/-- A Rex within another one: a row of one kid. -/
theorem rexZ_wrap {w : World} {t : Data} {S : Nat → Prop} {a b c d u : Value} (op : Int) (h : RexZ w t S [a, b, c, d, u]) (hS : ∀ k, S k → k < w.heap.size) :
    RexZ (w.alloc (.cells #[a, b, c, d, u] 26)) (ndZ op 0 [] false [t]) (fun k => S k ∨ k = w.heap.size) [.int .i64 op, .int .i64 0, .string ⟨#[]⟩, .bool false, .slice (some ⟨w.heap.size, 0, none⟩) 1 1] := by
  rw [rexZ_nd]
  refine ⟨_, [a, b, c, d, u], rfl, ⟨by simp, .inr ⟨w.heap.size, 1, #[a, b, c, d, u], rfl, Nat.zero_le _, heap_alloc_last _ _, Nat.le_refl _, by unfold maxLen; omega, by simp, by simp⟩⟩, ?_, ?_⟩
  · intro g hg
    simp [Value.ownBlock] at hg
    exact .inr hg.symm
  · simp only [RexZs]
    refine ⟨S, fun _ => False, [a, b, c, d, u], [], by simp, rexZ_frame _ _ _ (fun k hk => Below.heap_alloc _ _ _ (hS k hk)) h, rfl, fun k hk => ⟨⟨.inl hk, ?_⟩, fun h => h⟩, fun _ h => h.elim⟩
    have := hS k hk
    simp [Value.ownBlock]
    omega

/-- What may be turned of a node's set. -/
theorem setZ_not {s : List UInt8} {no : Bool} (h : SetZ s no) : SetZ s true := by
  rcases h with ⟨M, hM, rfl⟩ | h | h
  · exact .inl ⟨M, ⟨hM.1, hM.2.1, fun e => by simp at e⟩, rfl⟩
  · exact .inr (.inl h)
  · exact .inr (.inr h)
theorem setZ_a (no : Bool) : SetZ [97] no := by
  refine .inl ⟨fun b => decide (b = 97), ⟨by decide +kernel, by decide, fun _ => ⟨97, by omega, by omega, by decide⟩⟩, by decide +kernel⟩
theorem setZ_ab (no : Bool) : SetZ [97, 98] no := by
  refine .inl ⟨fun b => decide (b = 97) || decide (b = 98), ⟨by decide +kernel, by decide, fun _ => ⟨97, by omega, by omega, by decide⟩⟩, by decide +kernel⟩
theorem setsZ_mk {op c : Int} {s : List UInt8} {no : Bool} {ks : List Data} (h1 : SetsZs ks) (h2 : SetZ s no) : SetsZ (ndZ op c s no ks) := by
  unfold ndZ
  rw [SetsZ]
  exact ⟨h1, h2⟩
theorem setsZs_set : ∀ {ks : List Data} {i : Nat} {t : Data}, SetsZs ks → SetsZ t → SetsZs (ks.set i t)
  | [], i, t, _, _ => by simp [SetsZs]
  | t0 :: ts, 0, t, h, ht => by
    simp only [SetsZs, List.set_cons_zero] at h ⊢
    exact ⟨ht, h.2⟩
  | t0 :: ts, i + 1, t, h, ht => by
    simp only [SetsZs, List.set_cons_succ] at h ⊢
    exact ⟨h.1, setsZs_set h.2 ht⟩
theorem setsZs_of : ∀ {ks : List Data}, (∀ t ∈ ks, SetsZ t) → SetsZs ks
  | [], _ => by simp [SetsZs]
  | t :: ts, h => by
    simp only [SetsZs]
    exact ⟨h t (by simp), setsZs_of fun x hx => h x (by simp [hx])⟩
/-- What is right has such sets alone. -/
theorem setsZ_right : ∀ (d : Nat) (t : Data), RightD d t → SetsZ t := by
  intro d
  induction d with
  | zero => intro t h; exact h.elim
  | succ d ih =>
    intro t h
    rw [RightD] at h
    rcases h with ⟨b, hb, rfl⟩ | ⟨op, ho, rfl⟩ | ⟨M, no, hM, rfl⟩ | ⟨op, k, ho, rfl, hk⟩ | ⟨op, ks, ho, rfl, hl, hk⟩
    · exact setsZ_mk (by simp [SetsZs]) (.inr (.inl rfl))
    · exact setsZ_mk (by simp [SetsZs]) (.inr (.inl rfl))
    · exact setsZ_mk (by simp [SetsZs]) (.inl ⟨M, hM, rfl⟩)
    · exact setsZ_mk (setsZs_of (by intro x hx; simp at hx; subst hx; exact ih _ hk)) (.inr (.inl rfl))
    · exact setsZ_mk (setsZs_of fun k hm => ih k (hk k hm)) (.inr (.inl rfl))

end Rx
end Go.Proofs.YtgdnlmaacnnfiaaGreatDoor

namespace Go.Proofs.YtgdnlmaacnnfiaaGreatDoor
open Go.RowKit
namespace Mt
set_option linter.unusedVariables false

def RexOkTells (W : World) (f : Nat) (v : Value) (ok : Bool) : Prop := ∀ wx, Below W.heap.size W wx → Calls Tryz.prog f #[v] wx fun e w' => e = .returned (.bool ok) ∧ Below wx.heap.size wx w'

set_option maxRecDepth 100000 in
theorem iMatchNone (op cc : Int) (ss : ByteArray) (no : Bool) (ao : Option Addr) (n cap : Nat) (s : ByteArray) (hs : (s.size : Int) ≤ 1000) (at' : Int) (ok : Bool) (h : ok = false ∨ at' < 0 ∨ (s.size : Int) < at') (w : World)
    (hOk : RexOkTells w 11 (.agg #[.int .i64 op, .int .i64 cc, .string ss, .bool no, .slice ao n cap]) ok) :
    Calls Tryz.prog 7 #[.agg #[.int .i64 op, .int .i64 cc, .string ss, .bool no, .slice ao n cap], .string s, .int .i64 at'] w fun e w' => e = .returned (.slice none 0 0) ∧ Below w.heap.size w w' := by
  have call := fun o => hOk (w.alloc o) ((Below.refl _ w).alloc (Nat.le_refl _) o)
  have hb : ∀ o, Below w.heap.size w (w.alloc o) := fun o => (Below.refl _ w).alloc (Nat.le_refl _) o
  clear hOk
  cases ok with
  | false =>
    clear h
    go_enter Tryz.func7, Tryz.ntmps7
    go_wp2_with (go_at_call 11; refine (call _).mono ?_; rintro e w2 ⟨rfl, hb2⟩)
    go_ret
    exact ⟨rfl, (hb _).trans (hb2.mono (by simp))⟩
  | true =>
    rcases h with h | h | h
    · simp at h
    · have h1 : decide (0 ≤ at') = false := by simp; omega
      go_enter Tryz.func7, Tryz.ntmps7
      go_wp2_with (first | (go_at_call 11; refine (call _).mono ?_; rintro e w2 ⟨rfl, hb2⟩) | (go_at_call 20; go_in) | (go_at_call 41; go_in))
      go_ret
      exact ⟨rfl, (hb _).trans (hb2.mono (by simp))⟩
    · have h1 : 0 ≤ at' := by omega
      have h2 : decide (at' < (s.size : Int) + 1) = false := by simp; omega
      go_enter Tryz.func7, Tryz.ntmps7
      go_wp2_with (first | (go_at_call 11; refine (call _).mono ?_; rintro e w2 ⟨rfl, hb2⟩) | (go_at_call 20; go_in) | (go_at_call 41; go_in))
      go_ret
      exact ⟨rfl, (hb _).trans (hb2.mono (by simp))⟩

set_option maxRecDepth 100000 in
theorem sMatchNone (op cc : Int) (ss : ByteArray) (no : Bool) (ao : Option Addr) (n cap : Nat) (s : ByteArray) (hs : (s.size : Int) ≤ 1000) (at' : Int) (ok : Bool) (h : ok = false ∨ at' < 0 ∨ (s.size : Int) < at') (w : World)
    (hOk : RexOkTells w 23 (.agg #[.int .i64 op, .int .i64 cc, .string ss, .bool no, .slice ao n cap]) ok) :
    Calls Tryz.prog 9 #[.agg #[.int .i64 op, .int .i64 cc, .string ss, .bool no, .slice ao n cap], .string s, .int .i64 at'] w fun e w' => (∃ a, e = .returned (.slice a 0 0)) ∧ Below w.heap.size w w' := by
  have call := fun o => hOk (w.alloc o) ((Below.refl _ w).alloc (Nat.le_refl _) o)
  have hb : ∀ o, Below w.heap.size w (w.alloc o) := fun o => (Below.refl _ w).alloc (Nat.le_refl _) o
  have fin : ∀ {w2 : World} {o o' : Obj}, Below (w.alloc o).heap.size (w.alloc o) w2 → Below w.heap.size w (w2.alloc o') := fun h2 => ((hb _).trans (h2.mono (by simp))).alloc (by have := h2.size; simp at this; omega) _
  clear hOk
  cases ok with
  | false =>
    clear h
    go_enter Tryz.func9, Tryz.ntmps9
    go_wp2_with (go_at_call 23; refine (call _).mono ?_; rintro e w2 ⟨rfl, hb2⟩)
    go_ret
    exact ⟨⟨_, rfl⟩, fin hb2⟩
  | true =>
    rcases h with h | h | h
    · simp at h
    · have h1 : decide (0 ≤ at') = false := by simp; omega
      go_enter Tryz.func9, Tryz.ntmps9
      go_wp2_with (first | (go_at_call 23; refine (call _).mono ?_; rintro e w2 ⟨rfl, hb2⟩) | (go_at_call 24; go_in))
      go_ret
      exact ⟨⟨_, rfl⟩, fin hb2⟩
    · have h1 : 0 ≤ at' := by omega
      have h2 : decide (at' ≤ (s.size : Int)) = false := by simp; omega
      go_enter Tryz.func9, Tryz.ntmps9
      go_wp2_with (first | (go_at_call 23; refine (call _).mono ?_; rintro e w2 ⟨rfl, hb2⟩) | (go_at_call 24; go_in))
      go_ret
      exact ⟨⟨_, rfl⟩, fin hb2⟩

end Mt
end Go.Proofs.YtgdnlmaacnnfiaaGreatDoor

namespace Go.Proofs.YtgdnlmaacnnfiaaGreatDoor
open Go.RowKit
namespace Mt
set_option linter.unusedVariables false

/-- A list of numbers that is read. -/
def Nums (w : World) (a : Option Addr) (l : List Int) : Prop := ∀ i x, l[i]? = some x → ∃ b o, a = some ⟨b, o, none⟩ ∧ b < w.heap.size ∧ w.cell? ⟨b, o + i, none⟩ = some (.int .i64 x)
theorem Nums.on {W w : World} {a : Option Addr} {l : List Int} (h : Nums W a l) (hb : Below W.heap.size W w) : Nums w a l := fun i x hi => by
  obtain ⟨b, o, e, hl, hc⟩ := h i x hi
  exact ⟨b, o, e, Nat.lt_of_lt_of_le hl hb.size, (hb.cell (p := ⟨b, o + i, none⟩) hl).trans hc⟩

set_option maxRecDepth 100000 in
theorem lWithin (l : List Int) (hl : (l.length : Int) ≤ 100000) (a : Option Addr) (cap : Nat) (x : Int) (w : World) (hN : Nums w a l) :
    Calls Tryz.prog 15 #[.slice a l.length cap, .int .i64 x] w fun e w' => e = .returned (.bool (l.contains x)) ∧ w' = w := by
  go_enter Tryz.func15, Tryz.ntmps15
  go_wp2_with fail
  go_loopw [5] (fun i wr => ∃ k : Nat, i = .int .i64 k ∧ k ≤ l.length ∧ (l.take k).contains x = false ∧ wr = w) (fun i _ => l.length - (intOf i).toNat)
  case atStart => exact ⟨0, rfl, Nat.zero_le _, by simp, rfl⟩
  case round =>
    obtain ⟨k, rfl, hk, hno, rfl⟩ := hrel
    by_cases hkl : k < l.length
    · have hkI : (k : Int) < l.length := by omega
      obtain ⟨b, o, rfl, hb, hc⟩ := hN k l[k] (List.getElem?_eq_getElem hkl)
      by_cases he : l[k] = x
      · have HC : Hid (l.contains x = true) := by
          show _ = _
          rw [List.contains_iff_mem, ← he]
          exact List.getElem_mem hkl
        rw [he] at hc
        clear hno he hN
        go_wp2_with fail
        go_ret
        exact ⟨by rw [HC.out]; rfl, rfl⟩
      · have HT : Hid ((l.take (k + 1)).contains x = false) := by
          show _ = _
          rw [List.take_add_one, List.getElem?_eq_getElem hkl, Option.toList_some, List.contains_append, hno]
          simp
          exact fun e => he e.symm
        obtain ⟨y, hy⟩ : ∃ y, y = l[k] := ⟨_, rfl⟩
        rw [← hy] at hc he
        have he' : (y == x) = false := by simp [he]
        clear hno hy he hN
        go_wp2_with fail
        go_roundw
        case rel => exact ⟨k + 1, by go_num, by omega, HT.out, by first | rfl | trivial⟩
        case measure => simp [intOf]; omega
    · obtain rfl : k = l.length := by omega
      rw [List.take_length] at hno
      have HN : Hid (l.contains x = false) := hno
      clear hno hN
      go_wp2_with fail
      go_ret
      exact ⟨by rw [HN.out]; rfl, rfl⟩

set_option maxRecDepth 100000 in
theorem lSameInts (l : List Int) (hl : (l.length : Int) ≤ 100000) (a a' : Option Addr) (cap cap' : Nat) (w : World) (hN : Nums w a l) (hN' : Nums w a' l) :
    Calls Tryz.prog 8 #[.slice a l.length cap, .slice a' l.length cap'] w fun e w' => e = .returned (.bool true) ∧ ∃ n, w' = w.drewN n := by
  go_enter Tryz.func8, Tryz.ntmps8
  go_wp2_with fail
  go_loopw [5] (fun i wr => ∃ k m : Nat, i = .int .i64 k ∧ k ≤ l.length ∧ wr = w.drewN m) (fun i _ => l.length - (intOf i).toNat)
  case atStart => exact ⟨0, 0, rfl, Nat.zero_le _, rfl⟩
  case round =>
    obtain ⟨k, m, rfl, hk, rfl⟩ := hrel
    by_cases hkl : k < l.length
    · have hkI : (k : Int) < l.length := by omega
      obtain ⟨b, o, rfl, hb, hc⟩ := hN k l[k] (List.getElem?_eq_getElem hkl)
      obtain ⟨b', o', rfl, hb', hc'⟩ := hN' k l[k] (List.getElem?_eq_getElem hkl)
      obtain ⟨y, hy⟩ : ∃ y, y = l[k] := ⟨_, rfl⟩
      rw [← hy] at hc hc'
      clear hy hN hN'
      go_wp2_with fail
      go_quiet (fail)
      go_wp2_with fail
      go_roundw
      case rel => exact ⟨k + 1, _, by go_num, by omega, rfl⟩
      case measure => simp [intOf]; omega
    · obtain rfl : k = l.length := by omega
      clear hN hN'
      go_wp2_with fail
      go_ret
      exact ⟨rfl, m, rfl⟩

end Mt
end Go.Proofs.YtgdnlmaacnnfiaaGreatDoor

