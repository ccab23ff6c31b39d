/-
  How many Rex a pattern of so many bytes has.
  RexParse of the program, and what it defers.
  The laws' eqRex: two Rex that tell the same.
  What is parsed is right.
-/
import Derived.Test.YtgdnlmaacnnfiaaGreatDoorQ02
import Derived.Test.YtgdnlmaacnnfiaaGreatDoorQ05
import Derived.Defers
import Derived.Recover
import Derived.Test.YtgdnlmaacnnfiaaGreatDoorQ01
namespace Go.Proofs.YtgdnlmaacnnfiaaGreatDoor
namespace Rx

theorem cnts_snoc (ts : List Data) (t : Data) : cnts (ts ++ [t]) = cnts ts + cnt t := by
  induction ts with
  | nil => simp [cnts]
  | cons a ts ih => simp [cnts, ih]; omega

theorem cnt_one (op : Nat) (t : Data) : cnt (one op t) = cnt t + 1 := by unfold one; rw [cnt_nd]; simp [cnts]

section
variable {g : Nat → Nat} {N : Nat}

theorem stars_cnt : ∀ (f : Nat) (t : Data) (i : Nat), cnt (stars g f t i).1 + i ≤ cnt t + (stars g f t i).2 := by
  intro f
  induction f with
  | zero => intro t i; simp [stars]
  | succ f ih =>
    intro t i
    rw [stars]
    have a := fun op => ih (one op t) (i + 1)
    simp only [cnt_one] at a
    split
    · have := a 8; omega
    split
    · have := a 9; omega
    split
    · have := a 10; omega
    · exact Nat.le_refl _

theorem setAt_cnt {i k : Nat} {t : Data} (h : setAt g N i = some (t, k)) : cnt t = 1 := by
  unfold setAt setEnd at h
  split at h
  · simp at h
  · split at h
    · simp at h
    · simp at h
      rw [← h.1]
      unfold setOf
      rw [cnt_nd]; simp [cnts]

theorem atomAt_cnt (hg : ∀ i, N ≤ i → g i = 256) {F : Nat → Option (Data × Nat)} (hF : ∀ i t j, F i = some (t, j) → i ≤ j ∧ cnt t + 2 * i ≤ 2 * j + 1) {i k : Nat} {t : Data} (h : atomAt g N F i = some (t, k)) : cnt t + 1 + 2 * i ≤ 2 * k := by
  have leaf1 : ∀ op, cnt (leaf op) = 1 := fun op => by unfold leaf; rw [cnt_nd]; simp [cnts]
  have chr1 : ∀ b, cnt (chr b) = 1 := fun op => by unfold chr; rw [cnt_nd]; simp [cnts]
  unfold atomAt at h
  split at h
  · simp at h
  split at h
  · unfold shut at h
    split at h
    · simp at h
    · rename_i t' j' h2
      have := hF _ _ _ h2
      split at h
      · simp at h
        obtain ⟨rfl, rfl⟩ := h
        omega
      · simp at h
  split at h
  · simp at h; obtain ⟨rfl, rfl⟩ := h; rw [leaf1]; omega
  split at h
  · simp at h; obtain ⟨rfl, rfl⟩ := h; rw [leaf1]; omega
  split at h
  · simp at h; obtain ⟨rfl, rfl⟩ := h; rw [leaf1]; omega
  split at h
  · have := setAt_cnt h; have := setAt_in hg h; omega
  split at h
  · split at h
    · simp at h
    · simp at h; obtain ⟨rfl, rfl⟩ := h; rw [chr1]; omega
  split at h
  · simp at h
  · simp at h; obtain ⟨rfl, rfl⟩ := h; rw [chr1]; omega

theorem piece_cnt (hg : ∀ i, N ≤ i → g i = 256) {A : Nat → Option (Data × Nat)} (hA : ∀ i t j, A i = some (t, j) → cnt t + 1 + 2 * i ≤ 2 * j) {i j : Nat} {t : Data} (h : pieceAt g N A i = some (t, j)) : cnt t + 1 + 2 * i ≤ 2 * j := by
  unfold pieceAt at h
  split at h
  · simp at h
  · rename_i t' j' h1
    have := hA _ _ _ h1
    have a := stars_cnt (g := g) (N + 1) t' j'
    have b := (stars_in hg (N + 1) t' j').1
    simp at h
    rw [h] at a b
    simp at a b
    omega

theorem partLoop_cnt (hg : ∀ i, N ≤ i → g i = 256) {A : Nat → Option (Data × Nat)} (hA : ∀ i t j, A i = some (t, j) → cnt t + 1 + 2 * i ≤ 2 * j) : ∀ (f i : Nat) (ts us : List Data) (j : Nat), partLoop g N A f i ts = some (us, j) → cnts us + us.length + 2 * i ≤ cnts ts + ts.length + 2 * j := by
  intro f
  induction f with
  | zero => intro i ts us j h; simp [partLoop] at h
  | succ f ih =>
    intro i ts us j h
    rw [partLoop] at h
    split at h
    · simp at h; obtain ⟨rfl, rfl⟩ := h; omega
    split at h
    · simp at h
    · rename_i t j' h1
      have := piece_cnt hg hA h1
      have := ih _ _ _ _ h
      rw [cnts_snoc] at this
      simp at this
      omega

theorem part_cnt (hg : ∀ i, N ≤ i → g i = 256) {A : Nat → Option (Data × Nat)} (hin : ∀ i t j, A i = some (t, j) → i < j ∧ j ≤ N) (hA : ∀ i t j, A i = some (t, j) → cnt t + 1 + 2 * i ≤ 2 * j) {i j : Nat} {t : Data} (h : partAt g N A i = some (t, j)) : cnt t + 2 * i ≤ 2 * j + 1 := by
  have hij := (partAt_in hg hin h).1
  unfold partAt partEnd at h
  split at h
  · simp at h
  · rename_i ts j' h1
    have := partLoop_cnt hg hA _ _ _ _ _ h1
    simp [cnts] at this
    simp at h
    obtain ⟨rfl, rfl⟩ := h
    unfold catOf
    split
    · unfold leaf; rw [cnt_nd]; simp [cnts]; omega
    · simp [cnts] at this; omega
    · rename_i h3 h4
      rw [cnt_nd]
      have : 2 ≤ ts.length := by
        rcases ts with _ | ⟨a, _ | ⟨b, ts⟩⟩
        · exact (h3 rfl).elim
        · exact (h4 a rfl).elim
        · simp
      omega

theorem patLoop_cnt (hg : ∀ i, N ≤ i → g i = 256) {A : Nat → Option (Data × Nat)} (hin : ∀ i t j, A i = some (t, j) → i < j ∧ j ≤ N) (hA : ∀ i t j, A i = some (t, j) → cnt t + 1 + 2 * i ≤ 2 * j) : ∀ (f i : Nat) (ts us : List Data) (j : Nat), patLoop g N A f i ts = some (us, j) → cnts us + us.length + 2 * i ≤ cnts ts + ts.length + 2 * j ∧ ts.length ≤ us.length := by
  intro f
  induction f with
  | zero => intro i ts us j h; simp [patLoop] at h
  | succ f ih =>
    intro i ts us j h
    rw [patLoop] at h
    split at h
    · split at h
      · simp at h
      · rename_i t j' h1
        have := part_cnt hg hin hA h1
        have := ih _ _ _ _ h
        rw [cnts_snoc] at this
        simp at this
        omega
    · simp at h; obtain ⟨rfl, rfl⟩ := h; omega

theorem pat_cnt (hg : ∀ i, N ≤ i → g i = 256) {A : Nat → Option (Data × Nat)} (hin : ∀ i t j, A i = some (t, j) → i < j ∧ j ≤ N) (hA : ∀ i t j, A i = some (t, j) → cnt t + 1 + 2 * i ≤ 2 * j) {i j : Nat} {t : Data} (h : patAt g N A i = some (t, j)) : cnt t + 2 * i ≤ 2 * j + 1 := by
  unfold patAt patEnd at h
  split at h
  · simp at h
  · rename_i t' j' h1
    have := part_cnt hg hin hA h1
    split at h
    · simp at h
    · rename_i us k h2
      have a := patLoop_cnt hg hin hA _ _ _ _ _ h2
      simp [cnts] at a
      simp at h
      obtain ⟨rfl, rfl⟩ := h
      unfold orOf
      split
      · simp [cnts] at a; omega
      · rename_i h3
        rw [cnt_nd]
        have : 2 ≤ us.length := by
          rcases us with _ | ⟨a', _ | ⟨b, us⟩⟩
          · simp at a
          · exact (h3 a' rfl).elim
          · simp
        omega

theorem atomN_cnt (hg : ∀ i, N ≤ i → g i = 256) : ∀ (n i : Nat) (t : Data) (j : Nat), atomN g N n i = some (t, j) → cnt t + 1 + 2 * i ≤ 2 * j := by
  intro n
  induction n with
  | zero => intro i t j h; simp [atomN] at h
  | succ n ih =>
    intro i t j h
    rw [atomN] at h
    exact atomAt_cnt hg (fun _ _ _ h => ⟨(patAt_in hg (atomN_in hg n) h).1, pat_cnt hg (atomN_in hg n) ih h⟩) h

theorem patN_cnt (hg : ∀ i, N ≤ i → g i = 256) {n i j : Nat} {t : Data} (h : patN g N n i = some (t, j)) : cnt t + 2 * i ≤ 2 * j + 1 := pat_cnt hg (atomN_in hg n) (atomN_cnt hg n) h

theorem whole_cnt (hg : ∀ i, N ≤ i → g i = 256) {n : Nat} {t : Data} (h : wholeV g N n = some t) : cnt t ≤ 2 * N + 1 := by
  unfold wholeV at h
  split at h
  · simp at h
  · rename_i t' j h1
    have := patN_cnt hg h1
    split at h
    · simp at h; subst h; omega
    · simp at h

end
end Rx
end Go.Proofs.YtgdnlmaacnnfiaaGreatDoor

namespace Go.Proofs.YtgdnlmaacnnfiaaGreatDoor
open Go.RowKit
namespace Rx

/-- The second result's variable. -/
def Flag (w : World) (q : Nat) (b : Bool) : Prop := w.heap[q]? = some (.cells #[.bool b] 4 (0, 0))
theorem Flag.cell {w : World} {q : Nat} {b : Bool} (h : Flag w q b) : w.cell? ⟨q, 0, none⟩ = some (.bool b) := by
  rw [cell_of_row w q _ _ _ _ h]; rfl
theorem Flag.frozen {w : World} {q : Nat} {b : Bool} (h : Flag w q b) : w.frozen? ⟨q, 0, none⟩ = false := by
  unfold Flag at h
  simp [World.frozen?, h]
theorem Flag.set {w : World} {q : Nat} {b : Bool} (h : Flag w q b) (x : Bool) : Flag (w.setCell ⟨q, 0, none⟩ (.bool x)) q x := by
  unfold Flag at h ⊢
  simp [World.setCell, Array.getElem?_modify, h]
theorem Flag.kept {w w' : World} {q : Nat} {b : Bool} (h : Flag w q b) (hw : w'.heap[q]? = w.heap[q]?) : Flag w' q b := hw.trans h

theorem frozen_of_row {w : World} {q : Nat} {cs : Array Value} {t : TypeId} (h : w.heap[q]? = some (.cells cs t (0, 0))) (k : Nat) : w.frozen? ⟨q, k, none⟩ = false := by simp [World.frozen?, h]

def Zero (w : World) (q : Nat) : Prop := Var w q (.int .i64 0) (.int .i64 0) (.string ⟨#[]⟩) (.bool false) (.slice none 0 0)

/-- What RexParse answers. -/
def parseV (s : ByteArray) : Option Data := if 60 < s.size then none else wholeV (gOf s) s.size 61

def RexOut (r : Option Data) (w : World) (e : Ending) (w' : World) : Prop := match r with
  | none => e = .returned (.tuple #[.agg #[.int .i64 0, .int .i64 0, .string ⟨#[]⟩, .bool false, .slice none 0 0], .bool false]) ∧ Below w.heap.size w w'
  | some t => ∃ a b c d u, e = .returned (.tuple #[.agg #[a, b, c, d, u], .bool true]) ∧ Below w.heap.size w w' ∧ RexIs w' t (Iv w.heap.size w'.heap.size) [a, b, c, d, u]

end Rx
end Go.Proofs.YtgdnlmaacnnfiaaGreatDoor

namespace Go.Proofs.YtgdnlmaacnnfiaaGreatDoor
open Go.RowKit
namespace Rx

theorem rexs_at {w : World} : ∀ {ts : List Data} {S : Nat → Prop} {xs : List Value} {i : Nat} {t : Data}, RexsIs w ts S xs → ts[i]? = some t → ∃ (S1 : Nat → Prop) (a b c d u : Value), xs[i * 5]? = some a ∧ xs[i * 5 + 1]? = some b ∧ xs[i * 5 + 2]? = some c ∧ xs[i * 5 + 3]? = some d ∧ xs[i * 5 + 4]? = some u ∧ RexIs w t S1 [a, b, c, d, u] ∧ ∀ k, S1 k → S k
  | [], S, xs, i, t, h, hi => by simp at hi
  | t' :: ts, S, xs, 0, t, h, hi => by
    simp only [RexsIs] at h
    obtain ⟨S1, S2, c1, c2, rfl, h1, _, h3, _⟩ := h
    simp at hi
    subst hi
    have hl := rex_len h1
    match c1, hl with
    | [a, b, c, d, u], _ => exact ⟨S1, a, b, c, d, u, by simp, by simp, by simp, by simp, by simp, h1, fun k hk => (h3 k hk).1⟩
  | t' :: ts, S, xs, i + 1, t, h, hi => by
    simp only [RexsIs] at h
    obtain ⟨S1, S2, c1, c2, rfl, h1, h2, _, h4⟩ := h
    simp at hi
    have hl := rex_len h1
    obtain ⟨S3, a, b, c, d, u, e1, e2, e3, e4, e5, h5, h6⟩ := rexs_at h2 hi
    have sh : ∀ j, (c1 ++ c2)[(i + 1) * 5 + j]? = c2[i * 5 + j]? := fun j => by
      rw [List.getElem?_append_right (by omega)]
      congr 1
      omega
    exact ⟨S3, a, b, c, d, u, (sh 0).trans e1, (sh 1).trans e2, (sh 2).trans e3, (sh 3).trans e4, (sh 4).trans e5, h5, fun k hk => h4 k (h6 k hk)⟩

theorem row_cells {w : World} {B e n k cap : Nat} {ao : Option Addr} {xs : List Value} (ho : w.ownsRow B e 5 (.slice ao n cap) n xs) (hk : k < n) : ∃ g, ao = some ⟨g, 0, none⟩ ∧ g < w.heap.size ∧ ∀ j x, xs[j]? = some x → w.cell? ⟨g, j, none⟩ = some x := by
  rcases ho.2 with ⟨h, hn⟩ | ⟨g, cap', cur, h, _⟩
  · omega
  · simp only [Value.slice.injEq] at h
    obtain ⟨rfl, _, rfl⟩ := h
    refine ⟨g, rfl, (ho.lt g rfl).2, fun j x hx => ?_⟩
    have := ho.cells (g := g) rfl j x hx
    have hadd : (⟨g, 0, none⟩ : Addr).add j = ⟨g, j, none⟩ := by unfold Addr.add; split <;> simp_all
    rw [← hadd]
    exact this


end Rx
end Go.Proofs.YtgdnlmaacnnfiaaGreatDoor

namespace Go.Proofs.YtgdnlmaacnnfiaaGreatDoor
namespace Rx

/-- A set that some text in square brackets tells. -/
def okSet (M : Nat → Bool) (no : Bool) : Prop := bytesOf M ≠ [] ∧ (M 93 = true → M 92 = true ∧ M 94 = true) ∧ (no = false → ∃ b, b < 256 ∧ b ≠ 94 ∧ M b = true)

/-- Right, and at most so deep. -/
def RightD : Nat → Data → Prop
  | 0, _ => False
  | d + 1, t => (∃ b, b < 256 ∧ t = chr b) ∨ (∃ op, (op = 2 ∨ op = 4 ∨ op = 5 ∨ op = 11) ∧ t = leaf op) ∨ (∃ M no, okSet M no ∧ t = setOf M no) ∨
      (∃ op k, (op = 8 ∨ op = 9 ∨ op = 10) ∧ t = one op k ∧ RightD d k) ∨ (∃ op ks, (op = 6 ∨ op = 7) ∧ t = nd op 0 [] false ks ∧ 2 ≤ ks.length ∧ ∀ k ∈ ks, RightD d k)

theorem dep_one (op : Nat) (t : Data) : dep (one op t) = dep t + 1 := by simp [one, nd, dep, deps]
theorem deps_le_of {ks : List Data} {d : Nat} (h : ∀ k ∈ ks, dep k ≤ d) : deps ks ≤ d := by
  induction ks with
  | nil => simp [deps]
  | cons k ks ih =>
    have h1 := h k (by simp)
    have h2 := ih fun x hx => h x (by simp [hx])
    simp [deps]
    omega
theorem deps_mem' : ∀ {ts : List Data} {t : Data}, t ∈ ts → dep t ≤ deps ts
  | t' :: ts, t, h => by
    rcases List.mem_cons.1 h with rfl | h
    · simp [deps]; omega
    · have := deps_mem' h; simp [deps]; omega

theorem right_dep : ∀ (d : Nat) (t : Data), RightD d t → ∀ d', dep t ≤ d' → RightD d' t := by
  intro d
  induction d with
  | zero => intro t h; exact h.elim
  | succ d ih =>
    intro t h d' hd
    rw [RightD] at h
    have hpos : 0 < dep t := by cases t <;> simp [dep]
    obtain ⟨d', rfl⟩ : ∃ x, d' = x + 1 := ⟨d' - 1, by omega⟩
    rw [RightD]
    rcases h with h | h | h | ⟨op, k, ho, rfl, hk⟩ | ⟨op, ks, ho, rfl, hl, hk⟩
    · exact .inl h
    · exact .inr (.inl h)
    · exact .inr (.inr (.inl h))
    · rw [dep_one] at hd
      exact .inr (.inr (.inr (.inl ⟨op, k, ho, rfl, ih k hk d' (by omega)⟩)))
    · have hd2 : dep (nd op 0 [] false ks) = deps ks + 1 := by simp [nd, dep]
      refine .inr (.inr (.inr (.inr ⟨op, ks, ho, rfl, hl, fun k hm => ih k (hk k hm) d' ?_⟩)))
      have := deps_mem' hm
      omega

/-- Right, however deep. -/
def Rt (t : Data) : Prop := ∃ d, RightD d t

theorem rt_chr {b : Nat} (h : b < 256) : Rt (chr b) := ⟨1, .inl ⟨b, h, rfl⟩⟩
theorem rt_leaf {op : Nat} (h : op = 2 ∨ op = 4 ∨ op = 5 ∨ op = 11) : Rt (leaf op) := ⟨1, .inr (.inl ⟨op, h, rfl⟩)⟩
theorem rt_set {M : Nat → Bool} {no : Bool} (h : okSet M no) : Rt (setOf M no) := ⟨1, .inr (.inr (.inl ⟨M, no, h, rfl⟩))⟩
theorem rt_one {op : Nat} {t : Data} (ho : op = 8 ∨ op = 9 ∨ op = 10) (h : Rt t) : Rt (one op t) := by
  obtain ⟨d, h⟩ := h
  exact ⟨d + 1, .inr (.inr (.inr (.inl ⟨op, t, ho, rfl, h⟩)))⟩
theorem rt_many {op : Nat} {ks : List Data} (ho : op = 6 ∨ op = 7) (hl : 2 ≤ ks.length) (h : ∀ k ∈ ks, Rt k) : Rt (nd op 0 [] false ks) :=
  ⟨deps ks + 1, .inr (.inr (.inr (.inr ⟨op, ks, ho, rfl, hl, fun k hk => by obtain ⟨d, hd⟩ := h k hk; exact right_dep d k hd _ (deps_mem' hk)⟩)))⟩
theorem rt_cat {ks : List Data} (h : ∀ k ∈ ks, Rt k) : Rt (catOf ks) := by
  match ks with
  | [] => exact rt_leaf (by omega)
  | [t] => exact h t (by simp)
  | t1 :: t2 :: ts => exact rt_many (.inl rfl) (by simp) h
theorem rt_or {ks : List Data} (hne : ks ≠ []) (h : ∀ k ∈ ks, Rt k) : Rt (orOf ks) := by
  match ks with
  | [] => exact absurd rfl hne
  | [t] => exact h t (by simp)
  | t1 :: t2 :: ts => exact rt_many (.inr rfl) (by simp) h

section
variable {g : Nat → Nat} {N : Nat}

theorem setLoop_inv : ∀ (f i : Nat) (M M' : Nat → Bool) (k : Nat), setLoop g f i M = some (M', k) → (M 93 = true → M 92 = true ∧ M 94 = true) → (M' 93 = true → M' 92 = true ∧ M' 94 = true) ∧ ∀ b, M b = true → M' b = true := by
  intro f
  induction f with
  | zero => intro i M M' k h; simp [setLoop] at h
  | succ f ih =>
    intro i M M' k h hM
    rw [setLoop] at h
    split at h
    · simp at h
    · split at h
      · simp at h
        obtain ⟨rfl, _⟩ := h
        exact ⟨hM, fun _ h => h⟩
      · rename_i h93
        have key : ∀ hi, hi ≠ 93 → (spanOn M (g i) hi 93 = true → spanOn M (g i) hi 92 = true ∧ spanOn M (g i) hi 94 = true) ∧ ∀ b, M b = true → spanOn M (g i) hi b = true := by
          intro hi hh
          refine ⟨fun h => ?_, fun b hb => by simp [spanOn, hb]⟩
          simp only [spanOn, Bool.or_eq_true, Bool.and_eq_true, decide_eq_true_eq] at h ⊢
          rcases h with h | h
          · exact ⟨.inl (hM h).1, .inl (hM h).2⟩
          · exact ⟨.inr (by omega), .inr (by omega)⟩
        split at h
        · rename_i hc
          split at h
          · simp at h
          · obtain ⟨k1, k2⟩ := key (g (i + 2)) hc.2
            obtain ⟨r1, r2⟩ := ih _ _ _ _ h k1
            exact ⟨r1, fun b hb => r2 b (k2 b hb)⟩
        · obtain ⟨k1, k2⟩ := key (g i) h93
          obtain ⟨r1, r2⟩ := ih _ _ _ _ h k1
          exact ⟨r1, fun b hb => r2 b (k2 b hb)⟩

theorem setLoop_first {f i : Nat} {M M' : Nat → Bool} {k : Nat} (h : setLoop g f i M = some (M', k)) (hM : M 93 = true → M 92 = true ∧ M 94 = true) (h93 : g i ≠ 93) : M' (g i) = true := by
  cases f with
  | zero => simp [setLoop] at h
  | succ f =>
    have h256 : g i ≠ 256 := by
      intro e
      rw [setLoop, if_pos e] at h
      simp at h
    rw [setLoop, if_neg h256, if_neg h93] at h
    · have key : ∀ hi, hi ≠ 93 → g i ≤ hi → (spanOn M (g i) hi 93 = true → spanOn M (g i) hi 92 = true ∧ spanOn M (g i) hi 94 = true) ∧ spanOn M (g i) hi (g i) = true := by
        intro hi hh hle
        refine ⟨fun h => ?_, by simp [spanOn, hle]⟩
        simp only [spanOn, Bool.or_eq_true, Bool.and_eq_true, decide_eq_true_eq] at h ⊢
        rcases h with h | h
        · exact ⟨.inl (hM h).1, .inl (hM h).2⟩
        · exact ⟨.inr (by omega), .inr (by omega)⟩
      split at h
      · rename_i hc
        split at h
        · simp at h
        · rename_i hb
          obtain ⟨k1, k2⟩ := key (g (i + 2)) hc.2 (by omega)
          exact (setLoop_inv _ _ _ _ _ h k1).2 _ k2
      · obtain ⟨k1, k2⟩ := key (g i) h93 (Nat.le_refl _)
        exact (setLoop_inv _ _ _ _ _ h k1).2 _ k2

theorem setAt_rt (hlt : ∀ i, g i ≤ 256) {i k : Nat} {t : Data} (h : setAt g N i = some (t, k)) : Rt t := by
  unfold setAt at h
  rcases hr : setLoop g (N + 1) (if g i = 94 then i + 1 else i) (fun _ => false) with _ | ⟨M, k'⟩
  · rw [hr] at h; simp [setEnd] at h
  · rw [hr] at h
    simp only [setEnd] at h
    split at h
    · simp at h
    · rename_i hb
      simp at h
      rw [← h.1]
      refine rt_set ⟨hb, (setLoop_inv _ _ _ _ _ hr (by simp)).1, fun hno => ?_⟩
      have h94 : g i ≠ 94 := by simpa using hno
      rw [if_neg h94] at hr
      have h256 : g i ≠ 256 := by
        intro e
        rw [setLoop, if_pos e] at hr
        simp at hr
      have h93 : g i ≠ 93 := by
        intro e
        rw [setLoop, if_neg h256, if_pos e] at hr
        simp at hr
        apply hb
        rw [← hr.1]
        simp [bytesOf]
      exact ⟨g i, by have := hlt i; omega, h94, setLoop_first hr (by simp) h93⟩

theorem atomAt_rt (hlt : ∀ i, g i ≤ 256) {F : Nat → Option (Data × Nat)} (hF : ∀ i t j, F i = some (t, j) → Rt t) {i k : Nat} {t : Data} (h : atomAt g N F i = some (t, k)) : Rt t := by
  unfold atomAt at h
  have h1 := hlt i
  split at h
  · simp at h
  · split at h
    · rcases hr : F (i + 1) with _ | ⟨t1, j1⟩
      · rw [hr] at h; simp [shut] at h
      · rw [hr] at h
        simp only [shut] at h
        split at h
        · simp at h; rw [← h.1]; exact hF _ _ _ hr
        · simp at h
    · split at h
      · simp at h; rw [← h.1]; exact rt_leaf (by omega)
      · split at h
        · simp at h; rw [← h.1]; exact rt_leaf (by omega)
        · split at h
          · simp at h; rw [← h.1]; exact rt_leaf (by omega)
          · split at h
            · exact setAt_rt hlt h
            · split at h
              · split at h
                · simp at h
                · have h2 := hlt (i + 1)
                  simp at h; rw [← h.1]; exact rt_chr (by omega)
              · split at h
                · simp at h
                · simp at h; rw [← h.1]; exact rt_chr (by omega)

theorem stars_rt : ∀ (f : Nat) (t : Data) (i : Nat), Rt t → Rt (stars g f t i).1 := by
  intro f
  induction f with
  | zero => intro t i h; exact h
  | succ f ih =>
    intro t i h
    rw [stars]
    split
    · exact ih _ _ (rt_one (by omega) h)
    · split
      · exact ih _ _ (rt_one (by omega) h)
      · split
        · exact ih _ _ (rt_one (by omega) h)
        · exact h

theorem pieceAt_rt {A : Nat → Option (Data × Nat)} (hA : ∀ i t j, A i = some (t, j) → Rt t) {i j : Nat} {t : Data} (h : pieceAt g N A i = some (t, j)) : Rt t := by
  unfold pieceAt at h
  rcases hr : A i with _ | ⟨t1, j1⟩
  · rw [hr] at h; simp at h
  · rw [hr] at h
    simp only [Option.some.injEq] at h
    have := stars_rt (g := g) (N + 1) t1 j1 (hA _ _ _ hr)
    rw [h] at this
    exact this

theorem partLoop_rt {A : Nat → Option (Data × Nat)} (hA : ∀ i t j, A i = some (t, j) → Rt t) : ∀ (f i : Nat) (ts us : List Data) (j : Nat), (∀ t ∈ ts, Rt t) → partLoop g N A f i ts = some (us, j) → ∀ t ∈ us, Rt t := by
  intro f
  induction f with
  | zero => intro i ts us j _ h; simp [partLoop] at h
  | succ f ih =>
    intro i ts us j hts h
    rw [partLoop] at h
    split at h
    · simp at h; rw [← h.1]; exact hts
    · rcases hr : pieceAt g N A i with _ | ⟨t1, j1⟩
      · rw [hr] at h; simp at h
      · rw [hr] at h
        refine ih j1 _ us j (fun t ht => ?_) h
        rcases List.mem_append.1 ht with ht | ht
        · exact hts t ht
        · obtain rfl : t = t1 := by simpa using ht
          exact pieceAt_rt hA hr

theorem partAt_rt {A : Nat → Option (Data × Nat)} (hA : ∀ i t j, A i = some (t, j) → Rt t) {i j : Nat} {t : Data} (h : partAt g N A i = some (t, j)) : Rt t := by
  unfold partAt at h
  rcases hr : partLoop g N A (N + 1) i [] with _ | ⟨us, j1⟩
  · rw [hr] at h; simp [partEnd] at h
  · rw [hr] at h
    simp [partEnd] at h
    rw [← h.1]
    exact rt_cat (partLoop_rt hA _ _ _ _ _ (by simp) hr)

theorem patLoop_rt {A : Nat → Option (Data × Nat)} (hA : ∀ i t j, A i = some (t, j) → Rt t) : ∀ (f i : Nat) (ts us : List Data) (j : Nat), ts ≠ [] → (∀ t ∈ ts, Rt t) → patLoop g N A f i ts = some (us, j) → us ≠ [] ∧ ∀ t ∈ us, Rt t := by
  intro f
  induction f with
  | zero => intro i ts us j _ _ h; simp [patLoop] at h
  | succ f ih =>
    intro i ts us j hne hts h
    rw [patLoop] at h
    split at h
    · rcases hr : partAt g N A (i + 1) with _ | ⟨t1, j1⟩
      · rw [hr] at h; simp at h
      · rw [hr] at h
        refine ih j1 _ us j (by simp) (fun t ht => ?_) h
        rcases List.mem_append.1 ht with ht | ht
        · exact hts t ht
        · obtain rfl : t = t1 := by simpa using ht
          exact partAt_rt hA hr
    · simp at h; rw [← h.1]; exact ⟨hne, hts⟩

theorem patAt_rt {A : Nat → Option (Data × Nat)} (hA : ∀ i t j, A i = some (t, j) → Rt t) {i j : Nat} {t : Data} (h : patAt g N A i = some (t, j)) : Rt t := by
  unfold patAt at h
  rcases hr : partAt g N A i with _ | ⟨t1, j1⟩
  · rw [hr] at h; simp at h
  · rw [hr] at h
    simp only at h
    rcases hq : patLoop g N A (N + 1) j1 [t1] with _ | ⟨us, j2⟩
    · rw [hq] at h; simp [patEnd] at h
    · rw [hq] at h
      simp [patEnd] at h
      rw [← h.1]
      have hall : ∀ x ∈ [t1], Rt x := by
        intro x hx
        obtain rfl : x = t1 := by simpa using hx
        exact partAt_rt hA hr
      obtain ⟨h1, h2⟩ := patLoop_rt hA _ _ _ _ _ (by simp) hall hq
      exact rt_or h1 h2

theorem atomN_rt (hlt : ∀ i, g i ≤ 256) : ∀ (n i : Nat) (t : Data) (j : Nat), atomN g N n i = some (t, j) → Rt t := by
  intro n
  induction n with
  | zero => intro i t j h; simp [atomN] at h
  | succ n ih =>
    intro i t j h
    rw [atomN] at h
    exact atomAt_rt hlt (fun i t j h => patAt_rt ih h) h

/-- What is parsed is right, and at most MaxDeep. -/
theorem whole_right (hlt : ∀ i, g i ≤ 256) {n : Nat} {t : Data} (h : wholeV g N n = some t) : RightD 12 t := by
  unfold wholeV at h
  rcases hr : patN g N n 0 with _ | ⟨t1, j⟩
  · rw [hr] at h; simp at h
  · rw [hr] at h
    simp only at h
    split at h
    · rename_i hc
      simp at h
      subst h
      obtain ⟨d, hd⟩ := patAt_rt (atomN_rt hlt n) hr
      exact right_dep d _ hd 12 hc.2
    · simp at h

end
end Rx
end Go.Proofs.YtgdnlmaacnnfiaaGreatDoor

