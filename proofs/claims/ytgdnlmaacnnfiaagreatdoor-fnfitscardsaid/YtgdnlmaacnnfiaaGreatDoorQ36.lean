/-
  A drawn Rex that is put within another one; a row of kids that has grown by one.
  A drawn Rex of which one node has one kid more.
  The specification's copy of a Rex: l3Copy.
-/
import Derived.Test.YtgdnlmaacnnfiaaGreatDoorQ35
import Derived.Test.YtgdnlmaacnnfiaaGreatDoorQ06
namespace Go.Proofs.YtgdnlmaacnnfiaaGreatDoor
open Go.RowKit Go.Extern
namespace Dr
set_option linter.unusedVariables false
open Rx (RexZ RexZs ndZ SetsZ SetsZs SetZ cnt cnts Var)

theorem setsZ_one {t : Data} (h : SetsZ t) : SetsZs [t] := by simp [SetsZs, h]

/-- r = Rex with op 10 and the kid r -/
theorem Core.wrap {B p rb N : Nat} {W w : World} {op c : Int} {s : List UInt8} {no : Bool} {ks : List Data} {ao : Option Addr} {cap : Nat} {S : Nat → Prop} (h : Core B p rb N W w op c s no ks ao cap S) (o1 : Obj) :
    Tree B p rb (N + 1) W (set5 ((w.alloc o1).alloc (.cells #[.int .i64 op, .int .i64 c, .string ⟨s.toArray⟩, .bool no, .slice ao ks.length cap] 26)) rb (.int .i64 10) (.int .i64 0) (.string ⟨#[]⟩) (.bool false) (.slice (some ⟨w.heap.size + 1, 0, none⟩) 1 1)) := by
  obtain ⟨h1, h2, h3, h4, h5, h6, h7, h8, h9, h10⟩ := h
  have hr := h1.lt
  have hq := h5.lt
  have hz : (w.alloc o1).heap.size = w.heap.size + 1 := by simp
  obtain ⟨w1, hw1⟩ : ∃ w1, w1 = (w.alloc o1).alloc (.cells #[.int .i64 op, .int .i64 c, .string ⟨s.toArray⟩, .bool no, .slice ao ks.length cap] 26) := ⟨_, rfl⟩
  have hz1 : w1.heap.size = w.heap.size + 2 := by rw [hw1]; simp
  have hk : ∀ k, k < w.heap.size → w1.heap[k]? = w.heap[k]? := fun k hk => by rw [hw1, Below.heap_alloc _ _ _ (by rw [hz]; omega), Below.heap_alloc _ _ _ hk]
  have hx := Rx.rexZ_wrap (w := w.alloc o1) 10 (Rx.rexZ_frame _ _ _ (fun k hk => Below.heap_alloc _ _ _ (h3 k hk).2.1) h2) (fun k hk => by have := (h3 k hk).2.1; rw [hz]; omega)
  rw [hz, ← hw1] at hx
  rw [← hw1]
  have hO1 : Only p W w1 := by rw [hw1]; exact (h8.alloc _).alloc _
  have hC1 : Cur B p w1 := by rw [hw1]; exact (h9.alloc _).alloc _
  obtain ⟨hO, hC⟩ := set5_only hO1 hC1 (Nat.le_of_lt h4) h10 (.int .i64 10) (.int .i64 0) (.string ⟨#[]⟩) (.bool false) (.slice (some ⟨w.heap.size + 1, 0, none⟩) 1 1)
  refine ⟨10, 0, [], false, [ndZ op c s no ks], some ⟨w.heap.size + 1, 0, none⟩, 1, (fun k => S k ∨ k = w.heap.size + 1), set5_var (h1.kept (hk rb hr)), Rx.rexZ_frame _ _ _ (fun k hk' => set5_block _ _ _ ?_ _ _ _ _ _) hx, ?_, h4, (h5.kept (hk _ hq)).kept (set5_block _ _ _ (by omega) _ _ _ _ _), Rx.setsZ_mk (setsZ_one h6) (.inr (.inl rfl)), ?_, hO, hC, h10⟩
  · rcases hk' with h | rfl
    · exact (h3 k h).2.2
    · omega
  · intro k hk'
    rw [set5_size, hz1]
    rcases hk' with h | rfl
    · have := h3 k h
      exact ⟨this.1, by omega, this.2.2⟩
    · have := h8.size
      exact ⟨by omega, by omega, by omega⟩
  · rw [cnt_z]
    simp [cnts]
    omega

theorem rexZs_snoc {w : World} {t : Data} {cs : List Value} (ht : RexZ w t (fun _ => False) cs) : ∀ {ks : List Data} {S : Nat → Prop} {xs : List Value}, RexZs w ks S xs → RexZs w (ks ++ [t]) S (xs ++ cs)
  | [], S, xs, h => by
    simp only [RexZs] at h
    subst h
    simp only [List.nil_append, RexZs]
    exact ⟨fun _ => False, fun _ => False, cs, [], by simp, ht, rfl, fun _ h => h.elim, fun _ h => h.elim⟩
  | t0 :: ts, S, xs, h => by
    simp only [RexZs] at h
    obtain ⟨S1, S2, c1, c2, rfl, h1, h2, h3, h4⟩ := h
    simp only [List.cons_append, RexZs]
    exact ⟨S1, S2, c1, c2 ++ cs, by simp, h1, rexZs_snoc ht h2, h3, h4⟩

/-- One kid of a row is another one, in blocks of its own and new ones. -/
theorem rexZs_grow {w w' : World} {x : Value} {nb T : Nat → Prop} {t t' : Data} : ∀ {ks : List Data} {S : Nat → Prop} {xs : List Value} {i : Nat}, RexZs w ks S xs → ks[i]? = some t → (∀ k, nb k → ¬ S k) →
    (∀ k, S k → ¬ T k → w'.heap[k]? = w.heap[k]?) → (∀ (S1 : Nat → Prop) (cs : List Value), RexZ w t S1 cs → cs[4]? = xs[i * 5 + 4]? → (∀ k, S1 k → S k) → (∀ k, T k → S1 k) ∧ RexZ w' t' (fun k => S1 k ∨ nb k) (cs.set 4 x)) →
    RexZs w' (ks.set i t') (fun k => S k ∨ nb k) (xs.set (i * 5 + 4) x)
  | [], S, xs, i, h, hi, hn, hfr, hk => by simp at hi
  | t0 :: ts, S, xs, 0, h, hi, hn, hfr, hk => by
    simp only [RexZs] at h
    obtain ⟨S1, S2, c1, c2, rfl, h1, h2, h3, h4⟩ := h
    simp at hi
    subst hi
    have hl := Rx.rexZ_len h1
    obtain ⟨hT, hx⟩ := hk S1 c1 h1 (by rw [Nat.zero_mul, Nat.zero_add, List.getElem?_append_left (by omega)]) (fun k hk => (h3 k hk).1)
    rw [List.set_cons_zero, RexZs, Nat.zero_mul, Nat.zero_add, List.set_append_left _ _ (by omega)]
    refine ⟨fun k => S1 k ∨ nb k, S2, c1.set 4 x, c2, rfl, hx, Rx.rexZs_frame_of _ _ _ (fun t _ => Rx.rexZ_frame t) (fun k hk => hfr k (h4 k hk) fun ht => (h3 k (hT k ht)).2 hk) h2, ?_, fun k hk => .inl (h4 k hk)⟩
    rintro k (hk | hk)
    · exact ⟨.inl (h3 k hk).1, (h3 k hk).2⟩
    · exact ⟨.inr hk, fun h => hn k hk (h4 k h)⟩
  | t0 :: ts, S, xs, i + 1, h, hi, hn, hfr, hk => by
    simp only [RexZs] at h
    obtain ⟨S1, S2, c1, c2, rfl, h1, h2, h3, h4⟩ := h
    simp at hi
    have hl := Rx.rexZ_len h1
    have hpos : ∀ cs : List Value, cs[4]? = c2[i * 5 + 4]? → cs[4]? = (c1 ++ c2)[(i + 1) * 5 + 4]? := fun cs e => by
      rw [e, List.getElem?_append_right (by omega), show (i + 1) * 5 + 4 - c1.length = i * 5 + 4 by omega]
    obtain ⟨Sk, a, b, c, d, u, x0, x1, x2, x3, x4, hr, hsub⟩ := Rx.rexZs_at h2 hi
    have hT2 : ∀ k, T k → S2 k := fun k ht => hsub k ((hk Sk _ hr (hpos _ (by rw [x4]; rfl)) (fun k hk => h4 k (hsub k hk))).1 k ht)
    have ih := rexZs_grow (w' := w') (x := x) (nb := nb) (T := T) (t' := t') h2 hi (fun k hk h => hn k hk (h4 k h)) (fun k hk ht => hfr k (h4 k hk) ht) (fun S1 cs h1 e hs => hk S1 cs h1 (hpos cs e) (fun k hk => h4 k (hs k hk)))
    rw [List.set_cons_succ, RexZs, List.set_append_right _ _ (by omega), show (i + 1) * 5 + 4 - c1.length = i * 5 + 4 by omega]
    refine ⟨S1, fun k => S2 k ∨ nb k, c1, c2.set (i * 5 + 4) x, rfl, Rx.rexZ_frame _ _ _ (fun k hk => hfr k (h3 k hk).1 fun ht => (h3 k hk).2 (hT2 k ht)) h1, ih, ?_, ?_⟩
    · intro k hk
      refine ⟨.inl (h3 k hk).1, ?_⟩
      rintro (h | h)
      · exact (h3 k hk).2 h
      · exact hn k h (h3 k hk).1
    · rintro k (h | h)
      · exact .inl (h4 k h)
      · exact .inr h

/-- A node whose row of kids has grown by Rex of op 2. -/
theorem rexZ_more {w w4 : World} {op c : Int} {s : List UInt8} {no : Bool} {ks : List Data} {S : Nat → Prop} {v v4 : Value} {xs : List Value}
    (hg : ∀ g, v.ownBlock = some g → S g) (hxs : RexZs w ks (fun k => S k ∧ v.ownBlock ≠ some k) xs) (hS : ∀ k, S k → k < w.heap.size)
    (ho : w4.ownsRow 0 26 5 v4 (ks.length + 1) (xs ++ [.int .i64 2, .int .i64 0, .string ⟨#[]⟩, .bool false, .slice none 0 0]))
    (hfr : ∀ k, k < w.heap.size → v.ownBlock ≠ some k → w4.heap[k]? = w.heap[k]?) (hv : v4.ownBlock = v.ownBlock ∨ ∃ k, v4.ownBlock = some k ∧ w.heap.size ≤ k) :
    RexZ w4 (ndZ op c s no (ks ++ [ndZ 2 0 [] false []])) (fun k => S k ∨ (v4.ownBlock = some k ∧ w.heap.size ≤ k)) [.int .i64 op, .int .i64 c, .string ⟨s.toArray⟩, .bool no, v4] := by
  rw [Rx.rexZ_nd]
  refine ⟨v4, _, rfl, by rw [List.length_append]; exact ho, ?_, ?_⟩
  · intro g hg4
    rcases hv with e | ⟨k, e, hk⟩
    · exact .inl (hg g (by rw [← e]; exact hg4))
    · exact .inr ⟨hg4, by rw [e] at hg4; cases hg4; exact hk⟩
  · have h1 : RexZs w4 ks (fun k => S k ∧ v.ownBlock ≠ some k) xs := Rx.rexZs_frame_of _ _ _ (fun t _ => Rx.rexZ_frame t) (fun k hk => hfr k (hS k hk.1) hk.2) hxs
    refine rexZs_snoc (cs := [.int .i64 2, .int .i64 0, .string ⟨#[]⟩, .bool false, .slice none 0 0]) ?_ (rexZs_mono_of _ _ _ _ ?_ h1)
    · rw [Rx.rexZ_nd]
      exact ⟨_, [], rfl, World.ownsRow_nil _ _ _ _, fun g hg => by simp [Value.ownBlock] at hg, by simp only [RexZs]⟩
    · intro k hk
      refine ⟨.inl hk.1, ?_⟩
      rcases hv with e | ⟨k', e, hk'⟩
      · rw [e]; exact hk.2
      · rw [e]
        intro e2
        cases e2
        have := hS _ hk.1
        omega

end Dr
end Go.Proofs.YtgdnlmaacnnfiaaGreatDoor

namespace Go.Proofs.YtgdnlmaacnnfiaaGreatDoor
open Go.RowKit Go.Extern
namespace Dr
set_option linter.unusedVariables false
open Rx (RexZ RexZs ndZ SetsZ SetsZs SetZ cnt cnts Var)

theorem owns_unique {w : World} {B B' : Nat} {T : TypeId} {size n : Nat} {v : Value} {xs ys : List Value} (h : w.ownsRow B T size v n xs) (h' : w.ownsRow B' T size v n ys) : xs = ys := by
  rcases h.2 with ⟨rfl, rfl⟩ | ⟨g, cap, cur, rfl, _, hg, _, _, _, ht⟩
  · have h1 := h.1
    have h2 := h'.1
    simp at h1 h2
    rw [h1, h2]
  · rcases h'.2 with ⟨e, _⟩ | ⟨g', cap', cur', e, _, hg', _, _, _, ht'⟩
    · simp at e
    · simp at e
      obtain ⟨rfl, rfl⟩ := e
      rw [hg] at hg'
      simp at hg'
      rw [← ht, ← ht', hg']

/-- The cells of Rex with op 2. -/
def any5 : List Value := [.int .i64 2, .int .i64 0, .string ⟨#[]⟩, .bool false, .slice none 0 0]
/-- What comes of a row that has grown. -/
structure More (p B : Nat) (W w w4 : World) (v v4 : Value) (n : Nat) (xs : List Value) : Prop where
  row : w4.ownsRow 0 26 5 v4 (n + 1) (xs ++ any5)
  frame : ∀ k, k < w.heap.size → v.ownBlock ≠ some k → w4.heap[k]? = w.heap[k]?
  own : v4.ownBlock = v.ownBlock ∨ ∃ k, v4.ownBlock = some k ∧ w.heap.size ≤ k
  size : w.heap.size ≤ w4.heap.size
  only : Only p W w4
  cur : Cur B p w4

theorem setsZs_snoc {ks : List Data} (h : SetsZs ks) : SetsZs (ks ++ [ndZ 2 0 [] false []]) := by
  induction ks with
  | nil => exact setsZ_one (Rx.setsZ_mk (by simp [SetsZs]) (.inr (.inl rfl)))
  | cons t ts ih =>
    simp only [SetsZs, List.cons_append] at h ⊢
    exact ⟨h.1, ih h.2⟩
theorem cnts_more (ks : List Data) : cnts (ks ++ [ndZ 2 0 [] false []]) = cnts ks + 1 := by
  induction ks with
  | nil => simp [cnts, cnt_z]
  | cons t ts ih => simp [cnts, ih]; omega
theorem cnts_one : ∀ {ks : List Data} {i : Nat} {t t' : Data}, ks[i]? = some t → cnt t' = cnt t + 1 → cnts (ks.set i t') = cnts ks + 1
  | [], i, t, t', h, _ => by simp at h
  | t0 :: ts, 0, t, t', h, e => by
    simp at h
    subst h
    simp [cnts, e]
    omega
  | t0 :: ts, i + 1, t, t', h, e => by
    simp at h
    simp [cnts, cnts_one h e]
    omega

theorem Core.moreRoot {B p rb N : Nat} {W w w4 : World} {op c : Int} {s : List UInt8} {no : Bool} {ks : List Data} {ao ao4 : Option Addr} {cap cap4 : Nat} {S : Nat → Prop} {xs : List Value} (h : Core B p rb N W w op c s no ks ao cap S)
    (ho : w.ownsRow 0 26 5 (.slice ao ks.length cap) ks.length xs) (hm : More p B W w w4 (.slice ao ks.length cap) (.slice ao4 (ks.length + 1) cap4) ks.length xs) :
    Tree B p rb (N + 1) W (w4.setCell ⟨rb, 4, none⟩ (.slice ao4 (ks.length + 1) cap4)) := by
  obtain ⟨h1, h2, h3, h4, h5, h6, h7, h8, h9, h10⟩ := h
  have hr := h1.lt
  have hq := h5.lt
  rw [Rx.rexZ_nd] at h2
  obtain ⟨v, ys, he, ho', hg, hx⟩ := h2
  simp at he
  subst he
  obtain rfl := owns_unique ho ho'
  have hnr : ∀ k, Value.ownBlock (.slice ao ks.length cap) = some k → W.heap.size < k ∧ k < w.heap.size ∧ k ≠ rb := fun k hk => h3 k (hg k hk)
  have hx4 := rexZ_more (op := op) (c := c) (s := s) (no := no) hg hx (fun k hk => (h3 k hk).2.1) hm.row hm.frame hm.own
  have hV4 := h1.kept (hm.frame rb hr (fun e => (hnr rb e).2.2 rfl))
  have hZ4 := h5.kept (hm.frame W.heap.size hq (fun e => by have := (hnr _ e).1; omega))
  obtain ⟨hO, hC⟩ := only_set hm.only hm.cur (Nat.le_of_lt h4) h10 4 (.slice ao4 (ks.length + 1) cap4)
  have hk : ∀ k, k ≠ rb → (w4.setCell ⟨rb, 4, none⟩ (.slice ao4 (ks.length + 1) cap4)).heap[k]? = w4.heap[k]? := fun k hk => Below.heap_setCell _ _ _ _ hk
  have hl : (ks ++ [ndZ 2 0 [] false []]).length = ks.length + 1 := by simp
  have hsz := hm.size
  obtain ⟨hzk, hzs⟩ := Rx.setsZ_nd h6
  have h4l : ∀ k, Value.ownBlock (.slice ao4 (ks.length + 1) cap4) = some k → k < w4.heap.size := fun k hk => (hm.row.lt k hk).2
  have hxF : RexZ (w4.setCell ⟨rb, 4, none⟩ (.slice ao4 (ks.length + 1) cap4)) (ndZ op c s no (ks ++ [ndZ 2 0 [] false []])) (fun k => S k ∨ (Value.ownBlock (.slice ao4 (ks.length + 1) cap4) = some k ∧ w.heap.size ≤ k)) [.int .i64 op, .int .i64 c, .string ⟨s.toArray⟩, .bool no, .slice ao4 (ks.length + 1) cap4] := by
    refine Rx.rexZ_frame _ _ _ (fun k hk' => hk k ?_) hx4
    rcases hk' with h | ⟨_, h⟩
    · exact (h3 k h).2.2
    · omega
  refine ⟨op, c, s, no, ks ++ [ndZ 2 0 [] false []], ao4, cap4, _, by rw [hl]; exact hV4.set4 _, by rw [hl]; exact hxF, ?_, h4, hZ4.kept (hk _ (by omega)), Rx.setsZ_mk (setsZs_snoc hzk) hzs, ?_, hO, hC, h10⟩
  · rintro k (h | ⟨e, h⟩)
    · have := h3 k h
      exact ⟨this.1, by simp; omega, this.2.2⟩
    · have := h4l k e
      have := h8.size
      exact ⟨by omega, by simpa using h4l k e, by omega⟩
  · rw [cnt_z] at h7 ⊢
    rw [cnts_more]
    omega

theorem Core.moreKid {B p rb N : Nat} {W w w4 : World} {op c op1 c1 : Int} {s s1 : List UInt8} {no no1 : Bool} {ks ks1 : List Data} {g : Nat} {cap cap1 cap4 : Nat} {ao1 ao4 : Option Addr} {S : Nat → Prop} {xs ys : List Value} {i : Nat} (h : Core B p rb N W w op c s no ks (some ⟨g, 0, none⟩) cap S)
    (hi : ks[i]? = some (ndZ op1 c1 s1 no1 ks1)) (hz1 : SetsZ (ndZ op1 c1 s1 no1 ks1)) (hrow : w.ownsRow 0 26 5 (.slice (some ⟨g, 0, none⟩) ks.length cap) ks.length ys) (h4c : ys[i * 5 + 4]? = some (.slice ao1 ks1.length cap1))
    (ho : w.ownsRow 0 26 5 (.slice ao1 ks1.length cap1) ks1.length xs) (hm : More p B W w w4 (.slice ao1 ks1.length cap1) (.slice ao4 (ks1.length + 1) cap4) ks1.length xs) :
    Tree B p rb (N + 1) W (w4.setCell ⟨g, i * 5 + 4, none⟩ (.slice ao4 (ks1.length + 1) cap4)) := by
  obtain ⟨h1, h2, h3, h4, h5, h6, h7, h8, h9, h10⟩ := h
  have hr := h1.lt
  have hq := h5.lt
  rw [Rx.rexZ_nd] at h2
  obtain ⟨v, zs, he, ho', hg, hx⟩ := h2
  simp at he
  subst he
  obtain rfl := owns_unique hrow ho'
  have hgS : S g := hg g rfl
  have hgg := h3 g hgS
  obtain ⟨hzk, hzs⟩ := Rx.setsZ_nd h6
  -- the kid's own row
  obtain ⟨Sk, a, b, cc, d, u, x0, x1, x2, x3, x4, hkr, hksub⟩ := Rx.rexZs_at hx hi
  have hu : u = .slice ao1 ks1.length cap1 := by rw [h4c] at x4; exact (Option.some.inj x4).symm
  subst hu
  have hT : ∀ k, Value.ownBlock (.slice ao1 ks1.length cap1) = some k → (S k ∧ Value.ownBlock (.slice (some ⟨g, 0, none⟩) ks.length cap) ≠ some k) := fun k hk => by
    rw [Rx.rexZ_nd] at hkr
    obtain ⟨v, zs, he, _, hg1, _⟩ := hkr
    simp at he
    exact hksub k (hg1 k (by rw [← he.2.2.2.2]; exact hk))
  have hTg : Value.ownBlock (.slice ao1 ks1.length cap1) ≠ some g := fun e => (hT g e).2 rfl
  have hk4 : ∀ k, k ≠ g → (w4.setCell ⟨g, i * 5 + 4, none⟩ (.slice ao4 (ks1.length + 1) cap4)).heap[k]? = w4.heap[k]? := fun k hk => Below.heap_setCell _ _ _ _ hk
  have hg4 : w4.heap[g]? = w.heap[g]? := hm.frame g hgg.2.1 hTg
  have hrow4 := (Rx.owns_same hrow (fun b hb => by simp [Value.ownBlock] at hb; subst hb; exact hg4)).stored (i * 5 + 4) (.slice ao4 (ks1.length + 1) cap4)
  have hgrow := rexZs_grow (w' := w4.setCell ⟨g, i * 5 + 4, none⟩ (.slice ao4 (ks1.length + 1) cap4)) (x := .slice ao4 (ks1.length + 1) cap4) (nb := fun k => Value.ownBlock (.slice ao4 (ks1.length + 1) cap4) = some k ∧ w.heap.size ≤ k) (T := fun k => Value.ownBlock (.slice ao1 ks1.length cap1) = some k)
    (t' := ndZ op1 c1 s1 no1 (ks1 ++ [ndZ 2 0 [] false []])) hx hi (fun k hk h => by have := (h3 k h.1).2.1; have := hk.2; omega)
    (fun k hk ht => by rw [hk4 k (fun e => hk.2 (by rw [e]; rfl)), hm.frame k (h3 k hk.1).2.1 ht]) (by
      intro S1 cs hr1 e4 hsub
      rw [h4c] at e4
      rw [Rx.rexZ_nd] at hr1
      obtain ⟨v, zs, he, ho1, hg1, hx1⟩ := hr1
      subst he
      simp at e4
      subst e4
      obtain rfl := owns_unique ho ho1
      refine ⟨hg1, ?_⟩
      have := rexZ_more (op := op1) (c := c1) (s := s1) (no := no1) hg1 hx1 (fun k hk => (h3 k (hsub k hk).1).2.1) hm.row hm.frame hm.own
      refine Rx.rexZ_frame _ _ _ (fun k hk => hk4 k ?_) this
      rcases hk with hk | ⟨_, hk⟩
      · exact fun e => (hsub k hk).2 (by rw [e]; rfl)
      · omega)
  have hV4 := h1.kept (hm.frame rb hr (fun e => (h3 rb (hT rb e).1).2.2 rfl))
  have hZ4 := h5.kept (hm.frame W.heap.size hq (fun e => by have := (h3 _ (hT _ e).1).1; omega))
  obtain ⟨hO, hC⟩ := only_set hm.only hm.cur (Nat.le_of_lt hgg.1) h10 (i * 5 + 4) (.slice ao4 (ks1.length + 1) cap4)
  have hsz := hm.size
  have h4l : ∀ k, Value.ownBlock (.slice ao4 (ks1.length + 1) cap4) = some k → k < w4.heap.size := fun k hk => (hm.row.lt k hk).2
  refine ⟨op, c, s, no, ks.set i (ndZ op1 c1 s1 no1 (ks1 ++ [ndZ 2 0 [] false []])), some ⟨g, 0, none⟩, cap, fun k => S k ∨ (Value.ownBlock (.slice ao4 (ks1.length + 1) cap4) = some k ∧ w.heap.size ≤ k), by rw [List.length_set]; exact hV4.kept (hk4 rb (Ne.symm hgg.2.2)), ?_, ?_, h4, hZ4.kept (hk4 _ (by omega)), Rx.setsZ_mk (Rx.setsZs_set hzk (Rx.setsZ_mk (setsZs_snoc (Rx.setsZ_nd hz1).1) (Rx.setsZ_nd hz1).2)) hzs, ?_, hO, hC, h10⟩
  · rw [List.length_set, Rx.rexZ_nd]
    refine ⟨_, _, rfl, by rw [List.length_set]; exact hrow4.1, fun k hk => .inl (hg k hk), rexZs_mono_of _ _ _ _ ?_ hgrow⟩
    rintro k (⟨h, hne⟩ | ⟨e, h⟩)
    · exact ⟨.inl h, hne⟩
    · refine ⟨.inr ⟨e, h⟩, fun e2 => ?_⟩
      simp [Value.ownBlock] at e2
      omega
  · rintro k (h | ⟨e, h⟩)
    · have := h3 k h
      exact ⟨this.1, by simp; omega, this.2.2⟩
    · have := h4l k e
      have := h8.size
      exact ⟨by omega, by simpa using h4l k e, by omega⟩
  · rw [cnt_z] at h7 ⊢
    rw [cnts_one hi (by rw [cnt_z, cnt_z, cnts_more])]
    omega

end Dr
end Go.Proofs.YtgdnlmaacnnfiaaGreatDoor

namespace Go.Proofs.YtgdnlmaacnnfiaaGreatDoor
open Go.RowKit
namespace Rx

theorem enter_l3Copy (vs : Array Value) (w : World) : (callFunc 35 vs).run Tryz.prog w = .ok (.enter 35 vs) w := by kernel_rfl

set_option maxHeartbeats 8000000 in
set_option maxRecDepth 100000 in
theorem sCopy : ∀ (dd : Nat) (t : Data) (S : Nat → Prop) (a b c d u : Value) (w : World), dep t ≤ dd → cnt t ≤ 100000 → RexIs w t S [a, b, c, d, u] → (∀ k, S k → k < w.heap.size) →
    Calls Tryz.prog 35 #[.agg #[a, b, c, d, u]] w fun e w' => RexRet t w e w' := by
  intro dd
  induction dd with
  | zero => intro t S a b c d u w hd _ h; obtain ⟨op, c, s, no, ks, rfl⟩ := rex_node h; rw [dep_nd] at hd; omega
  | succ dd ih =>
    intro t S a b c d u w hd hc h hS
    obtain ⟨op, c', s, no, ks, rfl⟩ := rex_node h
    rw [dep_nd] at hd
    rw [cnt_nd] at hc
    have hkl := cnts_len ks
    have hnI : (ks.length : Int) ≤ 100000 := by omega
    rw [rex_nd] at h
    obtain ⟨v, xs, hcs, ho, hg0, hx⟩ := h
    simp at hcs
    obtain ⟨rfl, rfl, rfl, rfl, rfl⟩ := hcs
    obtain ⟨ao, cap, rfl⟩ := owns_slice ho
    obtain ⟨q, hq0⟩ : ∃ q, q = w.heap.size + 1 + 1 := ⟨_, rfl⟩
    obtain ⟨r, hr0⟩ : ∃ r, r = w.heap.size + 1 := ⟨_, rfl⟩
    obtain ⟨w1, hw1⟩ : ∃ w1, w1 = ((w.alloc (.cells #[.int .i64 op, .int .i64 c', .string ⟨s.toArray⟩, .bool no, .slice ao ks.length cap] 26)).alloc (.cells #[.int .i64 0, .int .i64 0, .string ⟨#[]⟩, .bool false, .slice none 0 0] 26)).alloc (.cells #[.int .i64 op, .int .i64 c', .string ⟨s.toArray⟩, .bool no, .slice none 0 0] 26) := ⟨_, rfl⟩
    have hsz1 : w1.heap.size = w.heap.size + 3 := by rw [hw1]; simp
    have hV1 : Var w1 q (.int .i64 op) (.int .i64 c') (.string ⟨s.toArray⟩) (.bool no) (.slice none 0 0) := by
      have h := heap_alloc_last ((w.alloc (.cells #[.int .i64 op, .int .i64 c', .string ⟨s.toArray⟩, .bool no, .slice ao ks.length cap] 26)).alloc (.cells #[.int .i64 0, .int .i64 0, .string ⟨#[]⟩, .bool false, .slice none 0 0] 26)) (.cells #[.int .i64 op, .int .i64 c', .string ⟨s.toArray⟩, .bool no, .slice none 0 0] 26)
      unfold Var
      rw [hw1, hq0]
      simpa using h
    have hZ1 : Var w1 r (.int .i64 0) (.int .i64 0) (.string ⟨#[]⟩) (.bool false) (.slice none 0 0) := by
      have h := heap_alloc_last (w.alloc (.cells #[.int .i64 op, .int .i64 c', .string ⟨s.toArray⟩, .bool no, .slice ao ks.length cap] 26)) (.cells #[.int .i64 0, .int .i64 0, .string ⟨#[]⟩, .bool false, .slice none 0 0] 26)
      unfold Var
      rw [hw1, hr0, Below.heap_alloc _ _ _ (by simp)]
      simpa using h
    have hX1 : Var w1 w.heap.size (.int .i64 op) (.int .i64 c') (.string ⟨s.toArray⟩) (.bool no) (.slice ao ks.length cap) := by
      unfold Var
      rw [hw1, Below.heap_alloc _ _ _ (by simp; omega), Below.heap_alloc _ _ _ (by simp)]
      exact heap_alloc_last _ _
    have hb01 : Below w.heap.size w w1 := by rw [hw1]; exact (((Below.refl _ w).alloc (Nat.le_refl _) _).alloc (by simp) _).alloc (by simp; omega) _
    go_enter Tryz.func35, Tryz.ntmps35
    go_wp2_with fail
    rw [← hw1, ← hq0, ← hr0]
    clear hw1
    obtain ⟨i0, hi0, hz0, hz1, hz2⟩ := info_parts Tryz.info26r
    go_loopw [4] (fun i wr => ∃ (k : Nat) (u : Value), k ≤ ks.length ∧ i = .int .i64 k ∧ Var wr q (.int .i64 op) (.int .i64 c') (.string ⟨s.toArray⟩) (.bool no) u ∧ Kids wr w1.heap.size (ks.take k) u ∧ Var wr r (.int .i64 0) (.int .i64 0) (.string ⟨#[]⟩) (.bool false) (.slice none 0 0) ∧ Var wr w.heap.size (.int .i64 op) (.int .i64 c') (.string ⟨s.toArray⟩) (.bool no) (.slice ao ks.length cap) ∧ Below w.heap.size w wr ∧ w1.grownBy wr (some q)) (fun i _ => ks.length - (intOf i).toNat)
    case atStart => exact ⟨0, _, Nat.zero_le _, rfl, hV1, kids_nil _ _, hZ1, hX1, hb01, World.grownBy.refl _ _⟩
    case round =>
      obtain ⟨k, u, hk, rfl, hV, hK, hZ, hX, hb, hg⟩ := hrel
      clear hV1 hZ1 hX1 hb01
      have xc4 := hX.cell.2.2.2.2
      have hgs := hg.size
      by_cases hkl2 : k < ks.length
      · have hkI : (k : Int) < ks.length := by omega
        have hki : ks[k]? = some ks[k] := List.getElem?_eq_getElem hkl2
        obtain ⟨T1, a1, b1, c1, d1, v1, x0, x1, x2, x3, x4, hr1, hs1⟩ := rexs_at hx hki
        obtain ⟨g, rfl, hgl, hcw⟩ := row_cells ho hkl2
        have cc : ∀ j x, xs[j]? = some x → wr.cell? ⟨g, j, none⟩ = some x := fun j x hx => (hb.cell (p := ⟨g, j, none⟩) hgl).trans (hcw j x hx)
        have p0 := cc _ _ x0
        have p1 := cc _ _ x1
        have p2 := cc _ _ x2
        have p3 := cc _ _ x3
        have p4 := cc _ _ x4
        obtain ⟨op1, cc1, ss1, no1, ao1, n1, cap1, rfl, rfl, rfl, rfl, rfl⟩ := rex_cells hr1
        have hm : ks[k] ∈ ks := List.getElem_mem hkl2
        have dm1 := deps_mem hm
        have dm2 := cnts_mem hm
        have hx3 : RexIs wr.drew ks[k] T1 [.int .i64 op1, .int .i64 cc1, .string ⟨ss1.toArray⟩, .bool no1, .slice ao1 n1 cap1] := rex_frame (w := w) _ _ _ (fun j hj => hb.block j (hS j (hs1 j hj).1)) hr1
        have call := ih ks[k] T1 _ _ _ _ _ wr.drew (by omega) (by omega) hx3 (fun j hj => Nat.lt_of_lt_of_le (hS j (hs1 j hj).1) hb.size)
        have c4 := hV.cell.2.2.2.2
        obtain ⟨ys, S', hown, hks, hS'⟩ := hK
        have hlt : (ks.take k).length = k := by simp; omega
        rw [hlt] at hown
        have hqlt : q < w1.heap.size := by omega
        have hk64 : Hid ((k + 1) * 64 ≤ 140737488355328) := by show _ ≤ _; omega
        have hkm : Hid (k + 1 ≤ maxLen) := by show _ ≤ _; unfold maxLen; omega
        have hqr : q < wr.heap.size := by omega
        have hownq : ∀ b, u.ownBlock = some b → w1.heap.size ≤ b := fun b hb => (hown.lt b hb).1
        have Hq : Hid (q = w.heap.size + 1 + 1) := hq0
        have Hr : Hid (r = w.heap.size + 1) := hr0
        obtain ⟨T, hT⟩ : ∃ T, T = ks[k] := ⟨_, rfl⟩
        have HT : Hid (ks.take (k + 1) = ks.take k ++ [T]) := by show _ = _; rw [List.take_add_one, hki, hT]; rfl
        rw [← hT] at call
        clear hx x0 x1 x2 x3 x4 hcw cc hx3 hki hm ih ho hr1 hT hq0 hr0
        go_wp2_with fail
        go_region_law (first
          | (refine step_call rfl 35 27 26 rfl (.agg #[.int .i64 op1, .int .i64 cc1, .string ⟨ss1.toArray⟩, .bool no1, .slice ao1 n1 cap1]) (by simp [Act.eval]) enter_l3Copy ?_; refine call.mono ?_; rintro e w3 ⟨a3, b3, c3, d3, u3', rfl, hb3, hr3⟩; refine ⟨_, rfl, ?_⟩; have hV3 := hV.kept (hb3.block q hqr); have c43 := hV3.cell.2.2.2.2; have c43' := fun o => (hV3.kept (Below.heap_alloc w3 o q hV3.lt)).cell.2.2.2.2; have hown3 := owns_same hown (fun b hb => hb3.block b (hown.lt b hb).2); have hsz3 : wr.heap.size ≤ w3.heap.size := hb3.size; obtain ⟨op3, cc3, ss3, no3, ao3, n3, cap3, rfl, rfl, rfl, rfl, rfl⟩ := rex_cells hr3)
          | (refine step_append_own rfl (.tmp 22) (.tmp 29) 24 rfl w1.heap.size 26 i0 _ 5 64 Tryz.underlying24 hi0 hz0 hz1 hz2 rfl (by decide) u k ys (by simp [Act.eval]) (hown3.alloc _) ⟨w3.heap.size, 0, none⟩ 1 1 [.int .i64 op3, .int .i64 cc3, .string ⟨ss3.toArray⟩, .bool no3, .slice ao3 n3 cap3] (by simp [Act.eval]) rfl (cell_five_new _ _ _ _ _ _) (by simp [Value.oneCell']) hkm.out hk64.out (by simp; omega) ?_; intro v4 w4 hown4 hgr4 hb4; have hV4 := (hV3.kept (Below.heap_alloc w3 _ q hV3.lt)).kept (hgr4.block q (by simp; omega) (fun e => by have := hownq q e.symm; omega)); have c44 := hV4.cell.2.2.2.2; have f44 := hV4.frozen 4; obtain ⟨ao4, cap4, rfl⟩ := owns_slice hown4))
        all_goals go_wp2_with fail
        all_goals go_roundw
        all_goals try (simp only [intOf]; omega)
        all_goals (
          have Hq' := Hq.out
          have Hr' := Hr.out
          have hlw : w1.heap.size ≤ (w3.alloc (.cells #[.int .i64 op3, .int .i64 cc3, .string ⟨ss3.toArray⟩, .bool no3, .slice ao3 n3 cap3] 26)).heap.size := by simp; omega
          have hgA : w1.grownBy (w3.alloc (.cells #[.int .i64 op3, .int .i64 cc3, .string ⟨ss3.toArray⟩, .bool no3, .slice ao3 n3 cap3] 26)) (some q) := (hg.trans (grown_of_below (w := wr) ⟨hb3.os, hb3.tape, hb3.output, hb3.size, hb3.block⟩ _)).trans (World.grownBy_alloc _ _ _)
          have hbA : Below w.heap.size w (w3.alloc (.cells #[.int .i64 op3, .int .i64 cc3, .string ⟨ss3.toArray⟩, .bool no3, .slice ao3 n3 cap3] 26)) := (hb.trans (Below.mono (w := wr) (B := wr.heap.size) ⟨hb3.os, hb3.tape, hb3.output, hb3.size, hb3.block⟩ hb.size)).alloc (by omega) _
          have hkeep : ∀ j, j < w1.heap.size → j ≠ q → ∀ {a b c d u : Value}, Var wr j a b c d u → Var (w4.setCell ⟨q, 4, none⟩ (.slice ao4 (k + 1) cap4)) j a b c d u := fun j hj hjq _ _ _ _ _ h =>
            (((h.kept (w' := w3) (hb3.block _ (show j < wr.heap.size by omega))).kept (Below.heap_alloc w3 (.cells #[.int .i64 op3, .int .i64 cc3, .string ⟨ss3.toArray⟩, .bool no3, .slice ao3 n3 cap3] 26) j (by omega))).kept (hgr4.block _ (by simp; omega) (fun e => by have := hownq _ e.symm; omega))).kept (Below.heap_setCell _ ⟨q, 4, none⟩ _ _ hjq)
          have hKn := kids_snoc (w := wr) (w1 := w3) (w2 := w4) hks hS' hgs hr3 hsz3 (fun j _ h2 _ => hb3.block j h2) (fun j hj => (hown.lt j hj).2) (by rw [hlt]; exact hown4) (Nat.le_trans (by simp) hgr4.size) (fun j h1 h2 => (hgr4.block j (by simp; omega) (Ne.symm h2)).trans (Below.heap_alloc _ _ _ h1)) (hb4.imp id fun h => ⟨_, h, by simp⟩)
          refine ⟨k + 1, _, by omega, by go_num, hV4.set4 _, ?_, hkeep r (by omega) (by omega) hZ, hkeep w.heap.size (by omega) (by omega) hX, (hbA.grown hgr4 (by simp; omega) (fun j hj => by have := hownq j hj; omega)).setCell (p := ⟨q, 4, none⟩) (show w.heap.size ≤ q by omega) _, (grown_own hgA hgr4 hownq).trans (grown_set w4 ⟨q, 4, none⟩ _)⟩
          rw [HT.out]
          exact kids_set hKn hqlt 4 _)
      · obtain rfl : k = ks.length := by omega
        rw [List.take_length] at hK
        obtain ⟨c0, c1, c2, c3, c4⟩ := hV.cell
        obtain ⟨z0, z1, z2, z3, z4⟩ := hZ.cell
        have y0 := hZ.frozen 0
        have y1 := hZ.frozen 1
        have y2 := hZ.frozen 2
        have y3 := hZ.frozen 3
        have y4 := hZ.frozen 4
        have hR := kids_rex hK op c' s no
        obtain ⟨ao2, cap2, rfl⟩ : ∃ ao2 cap2, u = .slice ao2 ks.length cap2 := by
          obtain ⟨ys, S', ho', _⟩ := hK
          exact owns_slice ho'
        have Hr : Hid (r = w.heap.size + 1) := hr0
        have Hq : Hid (q = w.heap.size + 1 + 1) := hq0
        clear ho hx hK ih hr0 hq0
        go_wp2_with fail
        have hr0 := Hr.out
        have hq0 := Hq.out
        have hF := ((((hZ.set0 (.int .i64 op)).set1 (.int .i64 c')).set2 (.string ⟨s.toArray⟩)).set3 (.bool no)).set4 (.slice ao2 ks.length cap2)
        obtain ⟨x0, x1, x2, x3, x4⟩ := hF.cell
        have hbF : ∀ (n : Nat) (x : Value) (W : World), Below w.heap.size w W → Below w.heap.size w (W.setCell ⟨r, n, none⟩ x) := fun n x W hW => hW.setCell (p := ⟨r, n, none⟩) (show w.heap.size ≤ r by omega) x
        have hbn : ∀ (n : Nat) (x : Value) (W : World) (j : Nat), j ≠ r → (W.setCell ⟨r, n, none⟩ x).heap[j]? = W.heap[j]? := fun n x W j hj => Below.heap_setCell W ⟨r, n, none⟩ x j hj
        refine bodyPost_ret (v := .agg #[.int .i64 op, .int .i64 c', .string ⟨s.toArray⟩, .bool no, .slice ao2 ks.length cap2]) ?_ rfl ⟨_, _, _, _, _, rfl, hbF _ _ _ (hbF _ _ _ (hbF _ _ _ (hbF _ _ _ (hbF _ _ _ hb)))), rex_mono (rex_frame _ _ _ (fun j hj => ?_) hR) fun j hj => ⟨?_, ?_⟩⟩
        · clear hR hF c0 c1 c2 c3 c4 z0 z1 z2 z3 z4 y0 y1 y2 y3 y4 hbF hbn hgs
          simp [results, Tryz.results35, go_sem, x0, x1, x2, x3, x4]
        · have h1 := hj.1
          rw [hbn _ _ _ _ (by omega), hbn _ _ _ _ (by omega), hbn _ _ _ _ (by omega), hbn _ _ _ _ (by omega), hbn _ _ _ _ (by omega)]
        · have := hj.1; omega
        · have := hj.2; simpa using this

end Rx
end Go.Proofs.YtgdnlmaacnnfiaaGreatDoor

