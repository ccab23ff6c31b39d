/-
  Chapter 5's specification: l5One at patterns without kids.
  Chapter 5's specification: what is told once for each part and place.
-/
import Derived.Test.YtgdnlmaacnnfiaaGreatDoorQ12
import Derived.Deep.QuietTactic
namespace Go.Proofs.YtgdnlmaacnnfiaaGreatDoor
open Go.RowKit
namespace Mt
open Rx Clo

/-- How l5One answers. -/
def OneOut (s : ByteArray) (t : Data) (at' : Nat) (w : World) (e : Ending) (w' : World) : Prop :=
  ∃ (m : Nat) (ok : Bool), e = .returned (.tuple #[.int .i64 m, .bool ok]) ∧ m ≤ 1 ∧ (ok = true → at' + m ≤ s.size) ∧ (∀ j, Fit (gOf s) s.size t at' j ↔ ok = true ∧ j = at' + m) ∧ Below w.heap.size w w'

theorem inS_list {l : List UInt8} {b : Nat} : inS ⟨l.toArray⟩ b = true ↔ ∃ x, x ∈ l ∧ x.toNat = b := by
  rw [inS_iff]
  constructor
  · rintro ⟨i, h1, h2⟩
    have h1' : i < l.length := by simpa [ByteArray.size] using h1
    rw [gOf_in h1] at h2
    exact ⟨l[i], List.getElem_mem _, h2⟩
  · rintro ⟨x, hx, h2⟩
    obtain ⟨i, hi, rfl⟩ := List.getElem_of_mem hx
    have h1 : i < (⟨l.toArray⟩ : ByteArray).size := by simpa [ByteArray.size] using hi
    refine ⟨i, h1, ?_⟩
    rw [gOf_in h1]
    exact h2

set_option maxRecDepth 100000 in
theorem sOneChr (b : Nat) (s : ByteArray) (at' : Nat) (hat : at' ≤ s.size) (w : World) (ao : Option Addr) (n cap : Nat) :
    Calls Tryz.prog 85 #[.agg #[.int .i64 1, .int .i64 b, .string ⟨#[]⟩, .bool false, .slice ao n cap], .string s, .int .i64 at'] w fun e w' => OneOut s (chr b) at' w e w' := by
  by_cases hl : at' < s.size
  · have e1 : ¬ (at' : Int) = s.size := by omega
    have e2 : ((at' : Int) == (s.size : Int)) = false := by simp; omega
    have hg := gOf_in hl
    have hw : wrap64 (s[at'].toNat : Int) = s[at'].toNat := by unfold wrap64; have := s[at'].toNat_lt; omega
    go_enter Tryz.func85, Tryz.ntmps85
    go_wp2_with fail
    go_quiet (fail)
    go_wp2_with fail
    go_ret2
    refine ⟨1, ((s[at'].toNat : Int) == (b : Int)), by simp [hw], by omega, fun _ => by omega, fun j => ?_, below_drewN ((Below.refl _ w).alloc (Nat.le_refl _) _) _⟩
    rw [fit_chr, hg]
    simp
    omega
  · obtain rfl : at' = s.size := by omega
    go_enter Tryz.func85, Tryz.ntmps85
    go_wp2_with fail
    go_ret2
    refine ⟨0, false, by simp, by omega, nofun, fun j => ?_, (Below.refl _ w).alloc (Nat.le_refl _) _⟩
    rw [fit_chr]
    simp

set_option maxRecDepth 100000 in
theorem sOneAny (s : ByteArray) (at' : Nat) (hat : at' ≤ s.size) (w : World) (ao : Option Addr) (n cap : Nat) :
    Calls Tryz.prog 85 #[.agg #[.int .i64 2, .int .i64 0, .string ⟨#[]⟩, .bool false, .slice ao n cap], .string s, .int .i64 at'] w fun e w' => OneOut s (leaf 2) at' w e w' := by
  by_cases hl : at' < s.size
  · have e1 : ¬ (at' : Int) = s.size := by omega
    have e2 : ((at' : Int) == (s.size : Int)) = false := by simp; omega
    go_enter Tryz.func85, Tryz.ntmps85
    go_wp2_with fail
    go_ret2
    refine ⟨1, true, by simp, by omega, fun _ => by omega, fun j => ?_, (Below.refl _ w).alloc (Nat.le_refl _) _⟩
    rw [fit_any]
    simp [hl]
  · obtain rfl : at' = s.size := by omega
    go_enter Tryz.func85, Tryz.ntmps85
    go_wp2_with fail
    go_ret2
    refine ⟨0, false, by simp, by omega, nofun, fun j => ?_, (Below.refl _ w).alloc (Nat.le_refl _) _⟩
    rw [fit_any]
    simp

set_option maxRecDepth 100000 in
theorem sOneSet (M : Nat → Bool) (no : Bool) (s : ByteArray) (at' : Nat) (hat : at' ≤ s.size) (w : World) (ao : Option Addr) (n cap : Nat) :
    Calls Tryz.prog 85 #[.agg #[.int .i64 3, .int .i64 0, .string ⟨(bytesOf M).toArray⟩, .bool no, .slice ao n cap], .string s, .int .i64 at'] w fun e w' => OneOut s (Rx.setOf M no) at' w e w' := by
  obtain ⟨z, hz⟩ : ∃ z : ByteArray, z = ⟨(bytesOf M).toArray⟩ := ⟨_, rfl⟩
  have hzl : (z.size : Int) < 9000000000000000000 := by
    have : (bytesOf M).length ≤ 256 := by
      unfold bytesOf
      rw [List.length_map]
      exact Nat.le_trans (List.length_filter_le _ _) (by simp)
    have : z.size = (bytesOf M).length := by rw [hz]; simp [ByteArray.size]
    omega
  have hin : ∀ b, inS z b = true ↔ ∃ x, x ∈ bytesOf M ∧ x.toNat = b := fun b => by rw [hz]; exact inS_list
  rw [← hz]
  clear hz
  by_cases hl : at' < s.size
  · have e1 : ¬ (at' : Int) = s.size := by omega
    have e2 : ((at' : Int) == (s.size : Int)) = false := by simp; omega
    have hg := gOf_in hl
    obtain ⟨B, hB⟩ : ∃ B : Bool, B = inS z s[at'].toNat := ⟨_, rfl⟩
    have hc := fun w => sIn z s[at'].toNat hzl w
    rw [← hB] at hc
    go_enter Tryz.func85, Tryz.ntmps85
    go_wp2_with fail
    go_quiet (first | (go_at_call 93; exact Calls.quiet_of_same (hc _)))
    go_wp2_with fail
    go_ret2
    refine ⟨1, B != no, (by simp; rw [hB]; cases inS z _ <;> cases no <;> rfl), by omega, fun _ => by omega, fun j => ?_, below_drewN ((Below.refl _ w).alloc (Nat.le_refl _) _) _⟩
    rw [fit_set, hg, ← hin, ← hB]
    cases B <;> cases no <;> simp [hl]
  · obtain rfl : at' = s.size := by omega
    go_enter Tryz.func85, Tryz.ntmps85
    go_wp2_with fail
    go_ret2
    refine ⟨0, false, by simp, by omega, nofun, fun j => ?_, (Below.refl _ w).alloc (Nat.le_refl _) _⟩
    rw [fit_set]
    simp

set_option maxRecDepth 100000 in
theorem sOneStart (s : ByteArray) (at' : Nat) (hat : at' ≤ s.size) (w : World) (ao : Option Addr) (n cap : Nat) :
    Calls Tryz.prog 85 #[.agg #[.int .i64 4, .int .i64 0, .string ⟨#[]⟩, .bool false, .slice ao n cap], .string s, .int .i64 at'] w fun e w' => OneOut s (leaf 4) at' w e w' := by
  go_enter Tryz.func85, Tryz.ntmps85
  go_wp2_with fail
  go_ret2
  refine ⟨0, ((at' : Int) == 0), by simp, by omega, fun _ => by omega, fun j => ?_, (Below.refl _ w).alloc (Nat.le_refl _) _⟩
  rw [fit_start]
  simp

set_option maxRecDepth 100000 in
theorem sOneEnd (s : ByteArray) (at' : Nat) (hat : at' ≤ s.size) (w : World) (ao : Option Addr) (n cap : Nat) :
    Calls Tryz.prog 85 #[.agg #[.int .i64 5, .int .i64 0, .string ⟨#[]⟩, .bool false, .slice ao n cap], .string s, .int .i64 at'] w fun e w' => OneOut s (leaf 5) at' w e w' := by
  go_enter Tryz.func85, Tryz.ntmps85
  go_wp2_with fail
  go_ret2
  refine ⟨0, ((at' : Int) == (s.size : Int)), by simp, by omega, fun _ => by omega, fun j => ?_, (Below.refl _ w).alloc (Nat.le_refl _) _⟩
  rw [fit_end]
  simp
  omega

set_option maxRecDepth 100000 in
theorem sOneNone (s : ByteArray) (at' : Nat) (hat : at' ≤ s.size) (w : World) (ao : Option Addr) (n cap : Nat) :
    Calls Tryz.prog 85 #[.agg #[.int .i64 11, .int .i64 0, .string ⟨#[]⟩, .bool false, .slice ao n cap], .string s, .int .i64 at'] w fun e w' => OneOut s (leaf 11) at' w e w' := by
  go_enter Tryz.func85, Tryz.ntmps85
  go_wp2_with fail
  go_ret2
  refine ⟨0, true, by simp, by omega, fun _ => by omega, fun j => ?_, (Below.refl _ w).alloc (Nat.le_refl _) _⟩
  rw [fit_none]
  simp

end Mt
end Go.Proofs.YtgdnlmaacnnfiaaGreatDoor

namespace Go.Proofs.YtgdnlmaacnnfiaaGreatDoor
open Go.RowKit
namespace Mt
open Rx Clo

/-- What is kept while ends are told: all but block e and the rows of ends from B on. -/
structure Kp (B e : Nat) (w w' : World) : Prop where
  os : w'.os = w.os
  tape : w'.tape = w.tape
  output : w'.output = w.output
  size : w.heap.size ≤ w'.heap.size
  block : ∀ k, k < w.heap.size → k ≠ e → (B ≤ k → ∀ cs fr, w.heap[k]? ≠ some (.cells cs 60 fr)) → w'.heap[k]? = w.heap[k]?
  row : ∀ m a l c, w.cell? ⟨e, m, none⟩ = some (.slice (some a) l c) → w'.cell? ⟨e, m, none⟩ = some (.slice (some a) l c)

theorem Kp.refl (B e : Nat) (w : World) : Kp B e w w := ⟨rfl, rfl, rfl, Nat.le_refl _, fun _ _ _ _ => rfl, fun _ _ _ _ h => h⟩
theorem Kp.trans {B e : Nat} {w w1 w2 : World} (h : Kp B e w w1) (h' : Kp B e w1 w2) : Kp B e w w2 := by
  refine ⟨h'.os.trans h.os, h'.tape.trans h.tape, h'.output.trans h.output, Nat.le_trans h.size h'.size, fun k hk he hr => ?_, fun m a l c hm => h'.row m a l c (h.row m a l c hm)⟩
  have h1 := h.block k hk he hr
  have := h.size
  exact (h'.block k (by omega) he (fun hB cs fr hc => hr hB cs fr (h1 ▸ hc))).trans h1
theorem Kp.drewN {B e : Nat} {w w' : World} (h : Kp B e w w') (n : Nat) : Kp B e w (w'.drewN n) := ⟨h.os, h.tape, h.output, h.size, h.block, h.row⟩
theorem lt_of_cell {w : World} {a : Addr} {v : Value} (h : w.cell? a = some v) : a.block < w.heap.size := World.block_lt_of_cell? w _ h
theorem Kp.alloc {B e : Nat} {w w' : World} (h : Kp B e w w') (o : Obj) : Kp B e w (w'.alloc o) := by
  have hs := h.size
  refine ⟨h.os, h.tape, h.output, by simp; omega, fun k hk he hr => (Below.heap_alloc _ _ _ (by omega)).trans (h.block k hk he hr), fun m a l c hm => ?_⟩
  have h1 := h.row m a l c hm
  rw [← h1]
  exact World.cell?_of_block (Below.heap_alloc _ _ _ (lt_of_cell h1))
theorem Kp.set {B e q : Nat} {w w' : World} (h : Kp B e w w') (hq : w.heap.size ≤ q) (he : e < w.heap.size) (j : Nat) (v : Value) : Kp B e w (w'.setCell ⟨q, j, none⟩ v) := by
  refine ⟨h.os, h.tape, h.output, by simpa using h.size, fun k hk hke hr => (Below.heap_setCell _ _ _ _ (by show k ≠ q; omega)).trans (h.block k hk hke hr), fun m a l c hm => ?_⟩
  rw [← h.row m a l c hm]
  exact World.cell?_of_block (Below.heap_setCell _ _ _ _ (by show e ≠ q; omega))
theorem Kp.of_but {B e q : Nat} {w w1 w2 : World} (h : Kp B e w w1) (hb : But q w1 w2) (hq : w.heap.size ≤ q) (he : e < w.heap.size) : Kp B e w w2 := by
  obtain ⟨h1, h2, h3, h4, h5⟩ := hb
  have := h.size
  refine ⟨h1.trans h.os, h2.trans h.tape, h3.trans h.output, by omega, fun k hk hke hr => (h5 k (by omega) (by omega)).trans (h.block k hk hke hr), fun m a l c hm => ?_⟩
  rw [← h.row m a l c hm]
  exact World.cell?_of_block (h5 e (by omega) (by omega))
theorem But.alloc {q : Nat} {w w' : World} (h : But q w w') (o : Obj) : But q w (w'.alloc o) := by
  obtain ⟨h1, h2, h3, h4, h5⟩ := h
  exact ⟨h1, h2, h3, by simp; omega, fun k hk hl => (Below.heap_alloc _ _ _ (by omega)).trans (h5 k hk hl)⟩
theorem But.drewN {q : Nat} {w w' : World} (h : But q w w') (n : Nat) : But q w (w'.drewN n) := h
theorem But.kp {e : Nat} {w0 w w' : World} (hb : But e w0 w) (h : Kp w0.heap.size e w w') : But e w0 w' := by
  obtain ⟨h1, h2, h3, h4, h5⟩ := hb
  have := h.size
  exact ⟨h.os.trans h1, h.tape.trans h2, h.output.trans h3, by omega, fun k hk hl => (h.block k (by omega) hk (fun hB => by omega)).trans (h5 k hk hl)⟩
theorem But.cell {q : Nat} {w w' : World} (h : But q w w') {a : Addr} (hq : a.block ≠ q) (hl : a.block < w.heap.size) : w'.cell? a = w.cell? a := World.cell?_of_block (h.2.2.2.2 a.block hq hl)

theorem bs_kp {B e q n : Nat} {M : Nat → Bool} {w w' : World} (h : Bs q n M w) (hk : Kp B e w w') (hq : q ≠ e) : Bs q n M w' := by
  refine h.kept (hk.block q h.lt hq fun _ cs fr hc => ?_)
  unfold Bs at h
  rw [h] at hc
  simp at hc
theorem kp_cell {B e : Nat} {w w' : World} (hk : Kp B e w w') {a : Addr} (hl : a.block < w.heap.size) (he : a.block ≠ e) (hr : ∀ cs fr, w.heap[a.block]? ≠ some (.cells cs 60 fr)) : w'.cell? a = w.cell? a :=
  World.cell?_of_block (hk.block a.block hl he fun _ => hr)

/-- A row of ends of one part; A: the blocks that are not in it. -/
def RowIs (A : Nat → Prop) (B N : Nat) (g : Nat → Nat) (t : Data) (w : World) (b : Nat) : Prop :=
  ∃ cs : Array Value, w.heap[b]? = some (.cells cs 60 (0, 0)) ∧ cs.size = N + 1 ∧ ∀ a, a ≤ N → cs[a]? = some (.slice none 0 0) ∨ ∃ d, cs[a]? = some (.slice (some ⟨d, 0, none⟩) (N + 1) (N + 1)) ∧ B ≤ d ∧ ¬ A d ∧ Bs d (N + 1) (endsB g N t a) w

/-- The ends that are told already. -/
structure Memo (A : Nat → Prop) (B e np N : Nat) (g : Nat → Nat) (ts : Nat → Data) (w : World) : Prop where
  cells : ∃ cs : Array Value, w.heap[e]? = some (.cells cs 116 (0, 0)) ∧ cs.size = np ∧ ∀ m, m < np → cs[m]? = some (.slice none 0 0) ∨ ∃ b, cs[m]? = some (.slice (some ⟨b, 0, none⟩) (N + 1) (N + 1)) ∧ B ≤ b ∧ ¬ A b ∧ RowIs A B N g (ts m) w b
  inj : ∀ m m' b n c n' c', w.cell? ⟨e, m, none⟩ = some (.slice (some ⟨b, 0, none⟩) n c) → w.cell? ⟨e, m', none⟩ = some (.slice (some ⟨b, 0, none⟩) n' c') → m = m'

section
variable {A : Nat → Prop} {B e np N : Nat} {g : Nat → Nat} {ts : Nat → Data} {w w' : World}

theorem row_kept {t : Data} {b : Nat} (h : RowIs A B N g t w b) (hw : ∀ k, B ≤ k → k < w.heap.size → ¬ A k → w'.heap[k]? = w.heap[k]?) (hb : B ≤ b) (hA : ¬ A b) : RowIs A B N g t w' b := by
  obtain ⟨cs, h1, h2, h3⟩ := h
  have hlt : b < w.heap.size := by
    rcases Nat.lt_or_ge b w.heap.size with h | h
    · exact h
    · rw [Array.getElem?_eq_none h] at h1; simp at h1
  refine ⟨cs, (hw b hb hlt hA).trans h1, h2, fun a ha => ?_⟩
  rcases h3 a ha with h | ⟨d, hd, hB, hAd, hs⟩
  · exact .inl h
  · exact .inr ⟨d, hd, hB, hAd, hs.kept (hw d hB hs.lt hAd)⟩

theorem memo_kept (h : Memo A B e np N g ts w) (he : w'.heap[e]? = w.heap[e]?) (hw : ∀ k, B ≤ k → k < w.heap.size → ¬ A k → w'.heap[k]? = w.heap[k]?) : Memo A B e np N g ts w' := by
  obtain ⟨cs, h1, h2, h3⟩ := h.cells
  refine ⟨⟨cs, he.trans h1, h2, fun m hm => ?_⟩, ?_⟩
  · rcases h3 m hm with h | ⟨b, hb, hB, hA, hr⟩
    · exact .inl h
    · exact .inr ⟨b, hb, hB, hA, row_kept hr hw hB hA⟩
  · intro m m' b n c n' c' h4 h5
    rw [World.cell?_of_block (a := ⟨e, m, none⟩) he] at h4
    rw [World.cell?_of_block (a := ⟨e, m', none⟩) he] at h5
    exact h.inj m m' b n c n' c' h4 h5

theorem memo_lt (h : Memo A B e np N g ts w) : e < w.heap.size := by
  obtain ⟨cs, h1, _⟩ := h.cells
  rcases Nat.lt_or_ge e w.heap.size with h | h
  · exact h
  · rw [Array.getElem?_eq_none h] at h1; simp at h1

theorem memo_drewN (h : Memo A B e np N g ts w) (n : Nat) : Memo A B e np N g ts (w.drewN n) := memo_kept h rfl fun _ _ _ _ => rfl
theorem memo_alloc (h : Memo A B e np N g ts w) (o : Obj) : Memo A B e np N g ts (w.alloc o) :=
  memo_kept h (Below.heap_alloc _ _ _ (memo_lt h)) fun _ _ hl _ => Below.heap_alloc _ _ _ hl
theorem memo_set (h : Memo A B e np N g ts w) {q : Nat} (hq : A q) (he : q ≠ e) (j : Nat) (v : Value) : Memo A B e np N g ts (w.setCell ⟨q, j, none⟩ v) :=
  memo_kept h (Below.heap_setCell _ _ _ _ (Ne.symm he)) fun k _ _ hA => Below.heap_setCell _ _ _ _ fun hk => hA (by rw [hk]; exact hq)
theorem memo_but (h : Memo A B e np N g ts w) {q : Nat} (hq : A q) (he : q ≠ e) (hb : But q w w') : Memo A B e np N g ts w' :=
  memo_kept h (hb.2.2.2.2 e (Ne.symm he) (memo_lt h)) fun k _ hl hA => hb.2.2.2.2 k (fun hk => hA (by rw [hk]; exact hq)) hl

theorem row_mono {A' : Nat → Prop} {t : Data} {b : Nat} (h : RowIs A B N g t w b) (hA : ∀ k, k < w.heap.size → A' k → A k) : RowIs A' B N g t w b := by
  obtain ⟨cs, h1, h2, h3⟩ := h
  refine ⟨cs, h1, h2, fun a ha => ?_⟩
  rcases h3 a ha with h | ⟨d, hd, hB, hAd, hs⟩
  · exact .inl h
  · exact .inr ⟨d, hd, hB, fun h => hAd (hA d hs.lt h), hs⟩

/-- Blocks that there are not yet may be kept out, too. -/
theorem memo_mono {A' : Nat → Prop} (h : Memo A B e np N g ts w) (hA : ∀ k, k < w.heap.size → A' k → A k) : Memo A' B e np N g ts w := by
  obtain ⟨cs, h1, h2, h3⟩ := h.cells
  refine ⟨⟨cs, h1, h2, fun m hm => ?_⟩, h.inj⟩
  rcases h3 m hm with h | ⟨b, hb, hB, hAb, hr⟩
  · exact .inl h
  · refine .inr ⟨b, hb, hB, fun h => hAb (hA b ?_ h), row_mono hr hA⟩
    obtain ⟨cs', h4, _⟩ := hr
    rcases Nat.lt_or_ge b w.heap.size with h | h
    · exact h
    · rw [Array.getElem?_eq_none h] at h4; simp at h4

theorem memo_cell (h : Memo A B e np N g ts w) {m : Nat} (hm : m < np) : w.cell? ⟨e, m, none⟩ = some (.slice none 0 0) ∨ ∃ b, w.cell? ⟨e, m, none⟩ = some (.slice (some ⟨b, 0, none⟩) (N + 1) (N + 1)) ∧ B ≤ b ∧ ¬ A b ∧ RowIs A B N g (ts m) w b := by
  obtain ⟨cs, h1, h2, h3⟩ := h.cells
  rw [cell_of_row w e m _ _ _ h1]
  exact h3 m hm
theorem memo_frozen (h : Memo A B e np N g ts w) (m : Nat) : w.frozen? ⟨e, m, none⟩ = false := by
  obtain ⟨cs, h1, _⟩ := h.cells
  simp [World.frozen?, h1]
theorem row_cell {t : Data} {b : Nat} (h : RowIs A B N g t w b) {a : Nat} (ha : a ≤ N) : w.cell? ⟨b, a, none⟩ = some (.slice none 0 0) ∨ ∃ d, w.cell? ⟨b, a, none⟩ = some (.slice (some ⟨d, 0, none⟩) (N + 1) (N + 1)) ∧ B ≤ d ∧ ¬ A d ∧ Bs d (N + 1) (endsB g N t a) w := by
  obtain ⟨cs, h1, h2, h3⟩ := h
  rw [cell_of_row w b a _ _ _ h1]
  exact h3 a ha
theorem row_frozen {t : Data} {b : Nat} (h : RowIs A B N g t w b) (a : Nat) : w.frozen? ⟨b, a, none⟩ = false := by
  obtain ⟨cs, h1, _⟩ := h
  simp [World.frozen?, h1]
theorem row_lt {t : Data} {b : Nat} (h : RowIs A B N g t w b) : b < w.heap.size := by
  obtain ⟨cs, h1, _⟩ := h
  rcases Nat.lt_or_ge b w.heap.size with h | h
  · exact h
  · rw [Array.getElem?_eq_none h] at h1; simp at h1

theorem heap_set_at (w : World) (q j : Nat) (v : Value) {cs : Array Value} {T : TypeId} (h : w.heap[q]? = some (.cells cs T (0, 0))) : (w.setCell ⟨q, j, none⟩ v).heap[q]? = some (.cells (cs.set! j v) T (0, 0)) := by
  simp [World.setCell, Array.getElem?_modify, h]

theorem set_get {cs : Array Value} {j k : Nat} {v : Value} (hj : j < cs.size) : (cs.set! j v)[k]? = if k = j then some v else cs[k]? := by
  rw [Array.set!_eq_setIfInBounds, Array.getElem?_setIfInBounds]
  by_cases e : j = k
  · subst e; simp [hj]
  · rw [if_neg e, if_neg (Ne.symm e)]

/-- A row is laid for a part that has none. -/
theorem memo_row (h : Memo A B e np N g ts w) (hB : B ≤ w.heap.size) (he : e < B) (hA : ∀ k, A k → k < w.heap.size) {m : Nat} (hm : m < np) :
    Memo A B e np N g ts ((w.alloc (.cells (madeCells #[.slice none 0 0] (N + 1)) 60)).setCell ⟨e, m, none⟩ (.slice (some ⟨w.heap.size, 0, none⟩) (N + 1) (N + 1))) := by
  obtain ⟨cs, h1, h2, h3⟩ := h.cells
  have he1 : (w.alloc (.cells (madeCells #[.slice none 0 0] (N + 1)) 60)).heap[e]? = some (.cells cs 116 (0, 0)) := (Below.heap_alloc _ _ _ (memo_lt h)).trans h1
  have hw : ∀ k, B ≤ k → k < w.heap.size → ¬ A k → ((w.alloc (.cells (madeCells #[.slice none 0 0] (N + 1)) 60)).setCell ⟨e, m, none⟩ (.slice (some ⟨w.heap.size, 0, none⟩) (N + 1) (N + 1))).heap[k]? = w.heap[k]? := fun k hk hl _ =>
    (Below.heap_setCell _ _ _ _ (by show k ≠ e; omega)).trans (Below.heap_alloc _ _ _ hl)
  have hnew : ((w.alloc (.cells (madeCells #[.slice none 0 0] (N + 1)) 60)).setCell ⟨e, m, none⟩ (.slice (some ⟨w.heap.size, 0, none⟩) (N + 1) (N + 1))).heap[w.heap.size]? = some (.cells (madeCells #[.slice none 0 0] (N + 1)) 60 (0, 0)) :=
    (Below.heap_setCell _ _ _ _ (by show w.heap.size ≠ e; omega)).trans (heap_alloc_last _ _)
  have hse := heap_set_at _ e m (.slice (some ⟨w.heap.size, 0, none⟩) (N + 1) (N + 1)) he1
  refine ⟨⟨_, hse, by simp [h2], fun k hk => ?_⟩, ?_⟩
  · rw [set_get (by omega)]
    by_cases ek : k = m
    · rw [if_pos ek]
      refine .inr ⟨w.heap.size, rfl, hB, fun h => by have := hA _ h; omega, _, hnew, by rw [size_madeCells], fun a ha => .inl ?_⟩
      rw [← Array.getElem?_toList, toList_madeCells_one]
      simp [List.getElem?_replicate]
      omega
    · rw [if_neg ek]
      rcases h3 k hk with h | ⟨b, hb, hBb, hAb, hr⟩
      · exact .inl h
      · exact .inr ⟨b, hb, hBb, hAb, row_kept hr hw hBb hAb⟩
  · intro k k' b n c n' c' h4 h5
    rw [cell_of_row _ e k _ _ _ hse, set_get (by omega)] at h4
    rw [cell_of_row _ e k' _ _ _ hse, set_get (by omega)] at h5
    have old : ∀ (k n c b : Nat), cs[k]? = some (Value.slice (some ⟨b, 0, none⟩) n c) → b < w.heap.size := by
      intro k n c b hk
      have hkn : k < np := by
        rcases Nat.lt_or_ge k cs.size with h | h
        · omega
        · rw [Array.getElem?_eq_none h] at hk; simp at hk
      rcases h3 k hkn with h | ⟨b', hb, _, _, hr⟩
      · rw [h] at hk; simp at hk
      · rw [hb] at hk
        simp at hk
        have := row_lt hr
        omega
    by_cases e1 : k = m <;> by_cases e2 : k' = m
    · omega
    · rw [if_pos e1] at h4
      rw [if_neg e2] at h5
      simp at h4
      have := old _ _ _ _ h5
      omega
    · rw [if_neg e1] at h4
      rw [if_pos e2] at h5
      simp at h5
      have := old _ _ _ _ h4
      omega
    · rw [if_neg e1] at h4
      rw [if_neg e2] at h5
      exact h.inj k k' b n c n' c' (by rw [cell_of_row w e k _ _ _ h1]; exact h4) (by rw [cell_of_row w e k' _ _ _ h1]; exact h5)

/-- Ends are laid into the row of a part. -/
theorem memo_ends (h : Memo A B e np N g ts w) (he : e < B) {m b a d : Nat} (hm : m < np) (hc : w.cell? ⟨e, m, none⟩ = some (.slice (some ⟨b, 0, none⟩) (N + 1) (N + 1))) (ha : a ≤ N) (hd : B ≤ d) (hAd : ¬ A d) (hs : Bs d (N + 1) (endsB g N (ts m) a) w) :
    Memo A B e np N g ts (w.setCell ⟨b, a, none⟩ (.slice (some ⟨d, 0, none⟩) (N + 1) (N + 1))) := by
  obtain ⟨cs, h1, h2, h3⟩ := h.cells
  have hcm : cs[m]? = some (.slice (some ⟨b, 0, none⟩) (N + 1) (N + 1)) := by rw [← cell_of_row w e m _ _ _ h1]; exact hc
  obtain ⟨_, _, rc, q1, q2, q3⟩ : B ≤ b ∧ ¬ A b ∧ RowIs A B N g (ts m) w b := by
    rcases h3 m hm with h | ⟨b', hb, hB, hA, hr⟩
    · rw [h] at hcm; simp at hcm
    · rw [hb] at hcm; simp at hcm; obtain rfl := hcm; exact ⟨hB, hA, hr⟩
  have hbe : b ≠ e := by omega
  have bsk : ∀ q M, Bs q (N + 1) M w → Bs q (N + 1) M (w.setCell ⟨b, a, none⟩ (.slice (some ⟨d, 0, none⟩) (N + 1) (N + 1))) := by
    intro q M hq
    refine hq.kept (Below.heap_setCell _ _ _ _ fun hqb => ?_)
    have hqb : q = b := hqb
    unfold Bs at hq
    rw [hqb, q1] at hq
    simp at hq
  refine ⟨⟨cs, (Below.heap_setCell _ _ _ _ (by show e ≠ b; omega)).trans h1, h2, fun k hk => ?_⟩, ?_⟩
  · rcases h3 k hk with h4 | ⟨b', hb, hBb, hAb, hr⟩
    · exact .inl h4
    · refine .inr ⟨b', hb, hBb, hAb, ?_⟩
      by_cases ek : k = m
      · subst ek
        rw [hb] at hcm
        simp at hcm
        subst hcm
        refine ⟨_, heap_set_at w b' a _ q1, by simp [q2], fun x hx => ?_⟩
        rw [set_get (by omega)]
        by_cases ex : x = a
        · rw [if_pos ex, ex]
          exact .inr ⟨d, rfl, hd, hAd, bsk d _ hs⟩
        · rw [if_neg ex]
          rcases q3 x hx with h5 | ⟨d', h5, h6, h7, h8⟩
          · exact .inl h5
          · exact .inr ⟨d', h5, h6, h7, bsk d' _ h8⟩
      · have hbb : b' ≠ b := fun hbb => ek (h.inj k m b (N + 1) (N + 1) (N + 1) (N + 1) (by rw [cell_of_row w e k _ _ _ h1, hb, hbb]) hc)
        obtain ⟨rc', p1, p2, p3⟩ := hr
        refine ⟨rc', (Below.heap_setCell _ _ _ _ hbb).trans p1, p2, fun x hx => ?_⟩
        rcases p3 x hx with h5 | ⟨d', h5, h6, h7, h8⟩
        · exact .inl h5
        · exact .inr ⟨d', h5, h6, h7, bsk d' _ h8⟩
  · intro k k' b' n c n' c' h4 h5
    have hbl : ∀ k, (w.setCell ⟨b, a, none⟩ (.slice (some ⟨d, 0, none⟩) (N + 1) (N + 1))).cell? ⟨e, k, none⟩ = w.cell? ⟨e, k, none⟩ := fun k => World.cell?_of_block (Below.heap_setCell _ _ _ _ (by show e ≠ b; omega))
    rw [hbl] at h4 h5
    exact h.inj k k' b' n c n' c' h4 h5

end
end Mt
end Go.Proofs.YtgdnlmaacnnfiaaGreatDoor

