/-
  The cursor of the draws: what l1New, l1Byte, l1Below and l1Once do to memory, and the ranges of what they answer.
-/
import Derived.Test.YtjlchfielpfehaaProg
import Derived.WalkKit
import Derived.WalkSmall
import Derived.Deep.QuietTactic
import Derived.BigQuiet
namespace Go.Proofs.Ytjlchfielpfehaa
open Go.RowKit Go.Extern

/-! Numbers -/
theorem and_nn (x : Int) (m : Nat) (hm : m < 9223372036854775808) : 0 ≤ bits .and .i64 x (m : Int) ∧ bits .and .i64 x (m : Int) ≤ m := by
  have h2 : (BitVec.ofInt 64 (m : Int)).toNat = m := by
    rw [BitVec.ofInt_natCast, BitVec.toNat_ofNat]; exact Nat.mod_eq_of_lt (by omega)
  have h3 : ((BitVec.ofInt 64 x) &&& (BitVec.ofInt 64 (m : Int))).toNat ≤ m := by
    rw [BitVec.toNat_and, h2]; exact Nat.and_le_right
  have h4 : bits .and .i64 x (m : Int) = IntKind.i64.wrap ((((BitVec.ofInt 64 x) &&& (BitVec.ofInt 64 (m : Int))).toNat : Nat) : Int) := rfl
  rw [h4]
  generalize ((BitVec.ofInt 64 x) &&& (BitVec.ofInt 64 (m : Int))).toNat = q at h3
  have h5 : IntKind.i64.wrap (q : Int) = q := by
    have e1 : IntKind.i64.wrap (q : Int) = if (q : Int) % 18446744073709551616 ≥ 9223372036854775808 then (q : Int) % 18446744073709551616 - 18446744073709551616 else (q : Int) % 18446744073709551616 := by
      simp [IntKind.wrap, IntKind.bits, IntKind.signed]
    rw [e1]
    split <;> omega
  rw [h5]
  omega
theorem and255 (x : Int) : 0 ≤ bits .and .i64 x 255 ∧ bits .and .i64 x 255 ≤ 255 := and_nn x 255 (by decide)

/-! Frames -/
/-- Of all blocks that are there, none but block p has turned. -/
structure Only (p : Nat) (w w' : World) : Prop where
  os : w'.os = w.os
  tape : w'.tape = w.tape
  output : w'.output = w.output
  size : w.heap.size ≤ w'.heap.size
  block : ∀ k, k ≠ p → k < w.heap.size → w'.heap[k]? = w.heap[k]?

theorem Only.refl (p : Nat) (w : World) : Only p w w := ⟨rfl, rfl, rfl, Nat.le_refl _, fun _ _ _ => rfl⟩
theorem Only.trans {p : Nat} {a b c : World} (h : Only p a b) (k : Only p b c) : Only p a c :=
  ⟨k.os.trans h.os, k.tape.trans h.tape, k.output.trans h.output, Nat.le_trans h.size k.size, fun j hj hl => (k.block j hj (Nat.lt_of_lt_of_le hl h.size)).trans (h.block j hj hl)⟩
theorem Only.drewN {p : Nat} {a w : World} (h : Only p a w) (n : Nat) : Only p a (w.drewN n) := ⟨h.os, h.tape, h.output, h.size, h.block⟩
theorem Only.alloc {p : Nat} {a w : World} (h : Only p a w) (o : Obj) : Only p a (w.alloc o) :=
  h.trans ⟨rfl, rfl, rfl, by simp, fun k _ hk => Below.heap_alloc w o k hk⟩
theorem Only.setCell {p : Nat} {a w : World} (h : Only p a w) (j : Nat) (u : Value) : Only p a (w.setCell ⟨p, j, none⟩ u) := by
  have hb : Below p w (w.setCell ⟨p, j, none⟩ u) := (Below.refl p w).setCell (Nat.le_refl _) u
  exact h.trans ⟨hb.os, hb.tape, hb.output, hb.size, fun k hk _ => Below.heap_setCell w ⟨p, j, none⟩ u k hk⟩
theorem Only.below {p B : Nat} {w w' : World} (h : Only p w w') (hp : B ≤ p) (hB : B ≤ w.heap.size) : Below B w w' :=
  ⟨h.os, h.tape, h.output, h.size, fun k hk => h.block k (by omega) (by omega)⟩
theorem Only.cell {p : Nat} {w w' : World} (h : Only p w w') {a : Addr} (h1 : a.block ≠ p) (h2 : a.block < w.heap.size) : w'.cell? a = w.cell? a := World.cell?_of_block (w := w) (h.block a.block h1 h2)
theorem Only.frozen {p : Nat} {w w' : World} (h : Only p w w') {a : Addr} (h1 : a.block ≠ p) (h2 : a.block < w.heap.size) : w'.frozen? a = w.frozen? a := World.frozen?_of_block (w := w) (h.block a.block h1 h2)

/-- A slice of bytes whose cells lie in blocks below B. -/
def Bytes (B : Nat) (w : World) (sa : Option Addr) (len : Nat) : Prop :=
  ∀ k, k < len → ∃ blk off b, sa = some ⟨blk, off, none⟩ ∧ blk < B ∧ w.cell? ⟨blk, off + k, none⟩ = some (.int .u8 b) ∧ 0 ≤ b ∧ b ≤ 255
theorem Bytes.below {B : Nat} {w w' : World} {sa : Option Addr} {len : Nat} (h : Bytes B w sa len) (hb : Below B w w') : Bytes B w' sa len := fun k hk => by
  obtain ⟨blk, off, b, e, hl, hc, h0, h1⟩ := h k hk
  exact ⟨blk, off, b, e, hl, by rw [hb.cell (p := ⟨blk, off + k, none⟩) hl]; exact hc, h0, h1⟩

/-- Block p holds a cursor: its bytes lie in blocks below B, p does not. -/
structure Cur (B p : Nat) (w : World) : Prop where
  le : B ≤ p
  lt : p < w.heap.size
  cells : ∃ sa len cap i h, w.cell? ⟨p, 0, none⟩ = some (.slice sa len cap) ∧ w.cell? ⟨p, 1, none⟩ = some (.int .i64 (i : Nat)) ∧ w.cell? ⟨p, 2, none⟩ = some (.int .i64 h) ∧ i ≤ len ∧ len ≤ 1048576 ∧ Bytes B w sa len
  fr1 : w.frozen? ⟨p, 1, none⟩ = false
  fr2 : w.frozen? ⟨p, 2, none⟩ = false
theorem Cur.frame {B p q : Nat} {w w' : World} (hC : Cur B p w) (h : Only q w w') (hq : p ≠ q) (hB : B ≤ q) : Cur B p w' := by
  obtain ⟨sa, len, cap, i, hh, c0, c1, c2, hi, hl, hy⟩ := hC.cells
  have hlt := hC.lt
  have hle := hC.le
  refine ⟨hC.le, Nat.lt_of_lt_of_le hC.lt h.size, ⟨sa, len, cap, i, hh, ?_, ?_, ?_, hi, hl, hy.below (h.below hB (by omega))⟩, ?_, ?_⟩
  · rw [h.cell (a := ⟨p, 0, none⟩) hq hlt]; exact c0
  · rw [h.cell (a := ⟨p, 1, none⟩) hq hlt]; exact c1
  · rw [h.cell (a := ⟨p, 2, none⟩) hq hlt]; exact c2
  · rw [h.frozen (a := ⟨p, 1, none⟩) hq hlt]; exact hC.fr1
  · rw [h.frozen (a := ⟨p, 2, none⟩) hq hlt]; exact hC.fr2
theorem Cur.alloc {B p : Nat} {w : World} (hC : Cur B p w) (o : Obj) : Cur B p (w.alloc o) :=
  hC.frame (q := w.heap.size) ((Only.refl _ w).alloc o) (by have := hC.lt; omega) (by have := hC.le; have := hC.lt; omega)

theorem byte_in (p i len cap : Nat) (h b : Int) (blk off : Nat) (w : World) (f2 : w.frozen? ⟨p, 2, none⟩ = false) (f1 : w.frozen? ⟨p, 1, none⟩ = false)
    (c0 : w.cell? ⟨p, 0, none⟩ = some (.slice (some ⟨blk, off, none⟩) len cap)) (c1 : w.cell? ⟨p, 1, none⟩ = some (.int .i64 i)) (c2 : w.cell? ⟨p, 2, none⟩ = some (.int .i64 h))
    (hi : i < len) (hl : len ≤ 1048576) (hb : w.cell? ⟨blk, off + i, none⟩ = some (.int .u8 b)) (hne : ¬ blk = p) (hb0 : 0 ≤ b) (hb1 : b ≤ 255) :
    Calls Try.prog 62 #[.pointer (some ⟨p, 0, none⟩)] w fun e w' => ∃ x h' n, e = .returned (.int .i64 x) ∧ (0 ≤ x ∧ x ≤ 255) ∧ w' = ((w.setCell ⟨p, 2, none⟩ (.int .i64 h')).drewN n).setCell ⟨p, 1, none⟩ (.int .i64 ((i : Int) + 1)) := by
  go_enter Try.func62, Try.ntmps62
  go_wp2
  go_quiet (fail)
  go_wp2
  go_quiet (fail)
  go_wp2
  go_quiet (fail)
  go_wp2
  go_ret
  exact ⟨_, _, _, rfl, and255 _, rfl⟩

theorem byte_out (p len cap : Nat) (h : Int) (sa : Option Addr) (w : World) (f2 : w.frozen? ⟨p, 2, none⟩ = false)
    (c0 : w.cell? ⟨p, 0, none⟩ = some (.slice sa len cap)) (c1 : w.cell? ⟨p, 1, none⟩ = some (.int .i64 len)) (c2 : w.cell? ⟨p, 2, none⟩ = some (.int .i64 h)) :
    Calls Try.prog 62 #[.pointer (some ⟨p, 0, none⟩)] w fun e w' => ∃ x h' n, e = .returned (.int .i64 x) ∧ (0 ≤ x ∧ x ≤ 255) ∧ w' = (w.setCell ⟨p, 2, none⟩ (.int .i64 h')).drewN n := by
  go_enter Try.func62, Try.ntmps62
  go_wp2
  go_quiet (fail)
  go_wp2
  go_quiet (fail)
  go_wp2
  go_ret
  exact ⟨_, _, _, rfl, and255 _, World.drewN_drewN _ _ _⟩

theorem cs_same {w : World} {p j : Nat} {u v : Value} (h : w.cell? ⟨p, j, none⟩ = some u) : (w.setCell ⟨p, j, none⟩ v).cell? ⟨p, j, none⟩ = some v := World.cell?_setCell_same _ _ _ h
theorem cs_other {w : World} {p j k : Nat} {v : Value} (h : j ≠ k) : (w.setCell ⟨p, j, none⟩ v).cell? ⟨p, k, none⟩ = w.cell? ⟨p, k, none⟩ := World.cell?_setCell_other _ _ _ _ (fun e => h (by cases e; rfl))

/-- l1Byte: 0 to 255; it turns the cursor alone. -/
theorem byte_any (B p : Nat) (w : World) (hC : Cur B p w) :
    Calls Try.prog 62 #[.pointer (some ⟨p, 0, none⟩)] w fun e w' => ∃ x, e = .returned (.int .i64 x) ∧ 0 ≤ x ∧ x ≤ 255 ∧ Only p w w' ∧ Cur B p w' := by
  obtain ⟨sa, len, cap, i, h, c0, c1, c2, hi, hl, hy⟩ := hC.cells
  have hle := hC.le
  have hlt := hC.lt
  by_cases hlt2 : i < len
  · obtain ⟨blk, off, b, rfl, hk, hc, h0, h1⟩ := hy i hlt2
    refine (byte_in p i len cap h b blk off w hC.fr2 hC.fr1 c0 c1 c2 hlt2 hl hc (by omega) h0 h1).mono ?_
    rintro e w' ⟨x, h', n, rfl, ⟨hx0, hx1⟩, rfl⟩
    have ho : Only p w (((w.setCell ⟨p, 2, none⟩ (.int .i64 h')).drewN n).setCell ⟨p, 1, none⟩ (.int .i64 ((i : Int) + 1))) := (((Only.refl p w).setCell 2 _).drewN n).setCell 1 _
    refine ⟨x, rfl, hx0, hx1, ho, hC.le, Nat.lt_of_lt_of_le hC.lt ho.size, ⟨_, len, cap, i + 1, h', ?_, ?_, ?_, hlt2, hl, hy.below (ho.below hle (by omega))⟩, ?_, ?_⟩
    · rw [cs_other (by decide), World.cell?_drewN, cs_other (by decide)]; exact c0
    · have e1 : ((i + 1 : Nat) : Int) = (i : Int) + 1 := by omega
      rw [e1]
      exact cs_same (by rw [World.cell?_drewN, cs_other (by decide)]; exact c1)
    · rw [cs_other (by decide), World.cell?_drewN]; exact cs_same c2
    · simp [hC.fr1]
    · simp [hC.fr2]
  · have e1 : i = len := by omega
    subst e1
    refine (byte_out p i cap h sa w hC.fr2 c0 c1 c2).mono ?_
    rintro e w' ⟨x, h', n, rfl, ⟨hx0, hx1⟩, rfl⟩
    have ho : Only p w ((w.setCell ⟨p, 2, none⟩ (.int .i64 h')).drewN n) := ((Only.refl p w).setCell 2 _).drewN n
    refine ⟨x, rfl, hx0, hx1, ho, hC.le, Nat.lt_of_lt_of_le hC.lt ho.size, ⟨sa, i, cap, i, h', ?_, ?_, ?_, hi, hl, hy.below (ho.below hle (by omega))⟩, ?_, ?_⟩
    · rw [World.cell?_drewN, cs_other (by decide)]; exact c0
    · rw [World.cell?_drewN, cs_other (by decide)]; exact c1
    · rw [World.cell?_drewN]; exact cs_same c2
    · simp [hC.fr1]
    · simp [hC.fr2]

/-- l1Below at a number from 1 to 256. -/
theorem below_small (B p : Nat) (n : Int) (w : World) (hC : Cur B p w) (h0 : 0 < n) (h1 : n ≤ 256) :
    Calls Try.prog 47 #[.pointer (some ⟨p, 0, none⟩), .int .i64 n] w fun e w' => ∃ x, e = .returned (.int .i64 x) ∧ 0 ≤ x ∧ x < n ∧ Only p w w' ∧ Cur B p w' := by
  go_enter Try.func47, Try.ntmps47
  go_wp2_with (go_at_call 62; refine (byte_any B p _ ?_).mono ?_; assumption; rintro e w' ⟨x, rfl, hx0, hx1, ho, hC'⟩)
  go_ret
  exact ⟨_, rfl, Int.emod_nonneg _ (by omega), Int.emod_lt_of_pos _ h0, by assumption, by assumption⟩

theorem list_cell {p q : Nat} {x : Int} {xs : List Int} {w w' : World} (ho : Only p w w') (hq : q ≠ p) (hql : q < w.heap.size)
    (hx : ∀ k, (hk : k < xs.length) → w.cell? ⟨q, k, none⟩ = some (.int .i64 xs[k])) (h0 : 0 ≤ x) (h1 : x < xs.length) : ∃ v, v ∈ xs ∧ w'.cell? ⟨q, x.toNat, none⟩ = some (.int .i64 v) :=
  ⟨xs[x.toNat]'(by omega), List.getElem_mem _, by rw [ho.cell (a := ⟨q, x.toNat, none⟩) hq hql]; exact hx _ _⟩

/-! l1New -/
theorem new_empty (sa : Option Addr) (cap : Nat) (w : World) :
    Calls Try.prog 25 #[.slice sa 0 cap] w fun e w' => e = .returned (.pointer (some ⟨w.heap.size, 0, none⟩)) ∧ ∃ h, w' = w.alloc (.cells #[.slice sa 0 cap, .int .i64 0, .int .i64 h] 75) := by
  go_enter Try.func25, Try.ntmps25
  go_wp2
  go_loop [3, 4] (fun n i => (∃ h, n = .int .i64 h) ∧ i = .int .i64 0) (fun _ _ => 0)
  case atStart => exact ⟨⟨_, rfl⟩, rfl⟩
  case round =>
    obtain ⟨⟨h, rfl⟩, rfl⟩ := hrel
    go_wp2
    go_ret
    exact ⟨rfl, _, rfl⟩
theorem new_some (blk off len cap : Nat) (B : Nat) (w : World) (hl : len ≤ 1048576) (hy : Bytes B w (some ⟨blk, off, none⟩) len) :
    Calls Try.prog 25 #[.slice (some ⟨blk, off, none⟩) len cap] w fun e w' => e = .returned (.pointer (some ⟨w.heap.size, 0, none⟩)) ∧ ∃ h, w' = w.alloc (.cells #[.slice (some ⟨blk, off, none⟩) len cap, .int .i64 0, .int .i64 h] 75) := by
  have hb : ∀ k, k < len → ∃ b, w.cell? ⟨blk, off + k, none⟩ = some (.int .u8 b) ∧ 0 ≤ b ∧ b ≤ 255 := fun k hk => by
    obtain ⟨blk', off', b, e, _, h1, h2, h3⟩ := hy k hk
    simp only [Option.some.injEq, Addr.mk.injEq, and_true] at e
    obtain ⟨rfl, rfl⟩ := e
    exact ⟨b, h1, h2, h3⟩
  clear hy
  go_enter Try.func25, Try.ntmps25
  go_wp2
  go_loop [3, 4] (fun n i => ∃ (h : Int) (k : Nat), n = .int .i64 h ∧ i = .int .i64 k ∧ k ≤ len) (fun _ i => len - (intOf i).toNat)
  case atStart => exact ⟨_, 0, rfl, rfl, Nat.zero_le _⟩
  case round =>
    obtain ⟨h, k, rfl, rfl, hk⟩ := hrel
    by_cases hlt : k < len
    · obtain ⟨b, hc, b0, b1⟩ := hb k hlt
      clear hb
      by_cases h4 : (k : Int) < 4000
      · go_wp2
        go_round
        case rel => exact ⟨_, k + 1, rfl, by go_num, by omega⟩
        case measure => simp [intOf]; omega
      · go_wp2
        go_ret
        exact ⟨rfl, _, rfl⟩
    · clear hb
      go_wp2
      go_ret
      exact ⟨rfl, _, rfl⟩

/-- l1New: a cursor over the bytes that came in. -/
theorem new_any (sa : Option Addr) (len cap B : Nat) (w : World) (hB : B ≤ w.heap.size) (hl : len ≤ 1048576) (hy : Bytes B w sa len) :
    Calls Try.prog 25 #[.slice sa len cap] w fun e w' => e = .returned (.pointer (some ⟨w.heap.size, 0, none⟩)) ∧ Below w.heap.size w w' ∧ Cur B w.heap.size w' := by
  have fin : ∀ h : Int, Below w.heap.size w (w.alloc (.cells #[.slice sa len cap, .int .i64 0, .int .i64 h] 75)) ∧ Cur B w.heap.size (w.alloc (.cells #[.slice sa len cap, .int .i64 0, .int .i64 h] 75)) := fun h => by
    have hb := (Below.refl w.heap.size w).alloc (Nat.le_refl _) (.cells #[.slice sa len cap, .int .i64 0, .int .i64 h] 75)
    refine ⟨hb, hB, by simp, ⟨sa, len, cap, 0, h, ?_, ?_, ?_, Nat.zero_le _, hl, hy.below (hb.mono hB)⟩, ?_, ?_⟩
    · rw [World.cell?_alloc_at _ _ _ _ rfl]; rfl
    · rw [World.cell?_alloc_at _ _ _ _ rfl]; rfl
    · rw [World.cell?_alloc_at _ _ _ _ rfl]; rfl
    · exact World.frozen?_alloc_at _ _ _ _ rfl
    · exact World.frozen?_alloc_at _ _ _ _ rfl
  rcases Nat.eq_zero_or_pos len with rfl | hp
  · refine (new_empty sa cap w).mono ?_
    rintro e w' ⟨rfl, h, rfl⟩
    exact ⟨rfl, fin h⟩
  · obtain ⟨blk, off, b, rfl, _⟩ := hy 0 hp
    refine (new_some blk off len cap B w hl hy).mono ?_
    rintro e w' ⟨rfl, h, rfl⟩
    exact ⟨rfl, fin h⟩

end Go.Proofs.Ytjlchfielpfehaa
