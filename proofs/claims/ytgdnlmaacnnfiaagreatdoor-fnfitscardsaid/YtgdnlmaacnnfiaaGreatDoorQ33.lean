/-
  The cursor of the draws: what l1New, l1Byte, l1Below and l1Once do to memory, and the ranges of what they answer.
  The draws of patterns' texts: l3DrawText, l3Dent, DrawRexParse.
-/
import Derived.Test.YtgdnlmaacnnfiaaGreatDoorProg
import Derived.WalkKit
import Derived.WalkSmall
import Derived.Deep.QuietTactic
import Derived.BigQuiet
import Derived.Deep.CutRange
import Derived.Deep.RegionWith
import Derived.Deep.CutBlock
import Derived.Deep.DeepCutAuto
namespace Go.Proofs.YtgdnlmaacnnfiaaGreatDoor
open Go.RowKit Go.Extern

/-! Numbers -/
theorem and_nn (x : Int) (m : Nat) (hm : m < 9223372036854775808) : 0 ≤ bits .and .i64 x (m : Int) ∧ bits .and .i64 x (m : Int) ≤ m := by
  have h2 : (BitVec.ofInt 64 (m : Int)).toNat = m := by
    rw [BitVec.ofInt_natCast, BitVec.toNat_ofNat]; exact Nat.mod_eq_of_lt (by omega)
  have h3 : ((BitVec.ofInt 64 x) &&& (BitVec.ofInt 64 (m : Int))).toNat ≤ m := by
    rw [BitVec.toNat_and, h2]; exact Nat.and_le_right
  have h4 : bits .and .i64 x (m : Int) = IntKind.i64.wrap ((((BitVec.ofInt 64 x) &&& (BitVec.ofInt 64 (m : Int))).toNat : Nat) : Int) := rfl
  rw [h4]
  generalize ((BitVec.ofInt 64 x) &&& (BitVec.ofInt 64 (m : Int))).toNat = q at h3
  have h5 : IntKind.i64.wrap (q : Int) = q := by
    have e1 : IntKind.i64.wrap (q : Int) = if (q : Int) % 18446744073709551616 ≥ 9223372036854775808 then (q : Int) % 18446744073709551616 - 18446744073709551616 else (q : Int) % 18446744073709551616 := by
      simp [IntKind.wrap, IntKind.bits, IntKind.signed]
    rw [e1]
    split <;> omega
  rw [h5]
  omega
theorem and255 (x : Int) : 0 ≤ bits .and .i64 x 255 ∧ bits .and .i64 x 255 ≤ 255 := and_nn x 255 (by decide)

/-! Frames -/
/-- Of all blocks that are there, none but block p has turned. -/
structure Only (p : Nat) (w w' : World) : Prop where
  os : w'.os = w.os
  tape : w'.tape = w.tape
  output : w'.output = w.output
  size : w.heap.size ≤ w'.heap.size
  block : ∀ k, k ≠ p → k < w.heap.size → w'.heap[k]? = w.heap[k]?

theorem Only.refl (p : Nat) (w : World) : Only p w w := ⟨rfl, rfl, rfl, Nat.le_refl _, fun _ _ _ => rfl⟩
theorem Only.trans {p : Nat} {a b c : World} (h : Only p a b) (k : Only p b c) : Only p a c :=
  ⟨k.os.trans h.os, k.tape.trans h.tape, k.output.trans h.output, Nat.le_trans h.size k.size, fun j hj hl => (k.block j hj (Nat.lt_of_lt_of_le hl h.size)).trans (h.block j hj hl)⟩
theorem Only.drewN {p : Nat} {a w : World} (h : Only p a w) (n : Nat) : Only p a (w.drewN n) := ⟨h.os, h.tape, h.output, h.size, h.block⟩
theorem Only.alloc {p : Nat} {a w : World} (h : Only p a w) (o : Obj) : Only p a (w.alloc o) :=
  h.trans ⟨rfl, rfl, rfl, by simp, fun k _ hk => Below.heap_alloc w o k hk⟩
theorem Only.setCell {p : Nat} {a w : World} (h : Only p a w) (j : Nat) (u : Value) : Only p a (w.setCell ⟨p, j, none⟩ u) := by
  have hb : Below p w (w.setCell ⟨p, j, none⟩ u) := (Below.refl p w).setCell (Nat.le_refl _) u
  exact h.trans ⟨hb.os, hb.tape, hb.output, hb.size, fun k hk _ => Below.heap_setCell w ⟨p, j, none⟩ u k hk⟩
theorem Only.below {p B : Nat} {w w' : World} (h : Only p w w') (hp : B ≤ p) (hB : B ≤ w.heap.size) : Below B w w' :=
  ⟨h.os, h.tape, h.output, h.size, fun k hk => h.block k (by omega) (by omega)⟩
theorem Only.cell {p : Nat} {w w' : World} (h : Only p w w') {a : Addr} (h1 : a.block ≠ p) (h2 : a.block < w.heap.size) : w'.cell? a = w.cell? a := World.cell?_of_block (w := w) (h.block a.block h1 h2)
theorem Only.frozen {p : Nat} {w w' : World} (h : Only p w w') {a : Addr} (h1 : a.block ≠ p) (h2 : a.block < w.heap.size) : w'.frozen? a = w.frozen? a := World.frozen?_of_block (w := w) (h.block a.block h1 h2)

/-- A slice of bytes whose cells lie in blocks below B. -/
def Bytes (B : Nat) (w : World) (sa : Option Addr) (len : Nat) : Prop :=
  ∀ k, k < len → ∃ blk off b, sa = some ⟨blk, off, none⟩ ∧ blk < B ∧ w.cell? ⟨blk, off + k, none⟩ = some (.int .u8 b) ∧ 0 ≤ b ∧ b ≤ 255
theorem Bytes.below {B : Nat} {w w' : World} {sa : Option Addr} {len : Nat} (h : Bytes B w sa len) (hb : Below B w w') : Bytes B w' sa len := fun k hk => by
  obtain ⟨blk, off, b, e, hl, hc, h0, h1⟩ := h k hk
  exact ⟨blk, off, b, e, hl, by rw [hb.cell (p := ⟨blk, off + k, none⟩) hl]; exact hc, h0, h1⟩

/-- Block p holds a cursor: its bytes lie in blocks below B, p does not. -/
structure Cur (B p : Nat) (w : World) : Prop where
  le : B ≤ p
  lt : p < w.heap.size
  cells : ∃ sa len cap i h, w.cell? ⟨p, 0, none⟩ = some (.slice sa len cap) ∧ w.cell? ⟨p, 1, none⟩ = some (.int .i64 (i : Nat)) ∧ w.cell? ⟨p, 2, none⟩ = some (.int .i64 h) ∧ i ≤ len ∧ len ≤ 1048576 ∧ Bytes B w sa len
  fr1 : w.frozen? ⟨p, 1, none⟩ = false
  fr2 : w.frozen? ⟨p, 2, none⟩ = false
theorem Cur.frame {B p q : Nat} {w w' : World} (hC : Cur B p w) (h : Only q w w') (hq : p ≠ q) (hB : B ≤ q) : Cur B p w' := by
  obtain ⟨sa, len, cap, i, hh, c0, c1, c2, hi, hl, hy⟩ := hC.cells
  have hlt := hC.lt
  have hle := hC.le
  refine ⟨hC.le, Nat.lt_of_lt_of_le hC.lt h.size, ⟨sa, len, cap, i, hh, ?_, ?_, ?_, hi, hl, hy.below (h.below hB (by omega))⟩, ?_, ?_⟩
  · rw [h.cell (a := ⟨p, 0, none⟩) hq hlt]; exact c0
  · rw [h.cell (a := ⟨p, 1, none⟩) hq hlt]; exact c1
  · rw [h.cell (a := ⟨p, 2, none⟩) hq hlt]; exact c2
  · rw [h.frozen (a := ⟨p, 1, none⟩) hq hlt]; exact hC.fr1
  · rw [h.frozen (a := ⟨p, 2, none⟩) hq hlt]; exact hC.fr2
theorem Cur.alloc {B p : Nat} {w : World} (hC : Cur B p w) (o : Obj) : Cur B p (w.alloc o) :=
  hC.frame (q := w.heap.size) ((Only.refl _ w).alloc o) (by have := hC.lt; omega) (by have := hC.le; have := hC.lt; omega)

theorem byte_in (p i len cap : Nat) (h b : Int) (blk off : Nat) (w : World) (f2 : w.frozen? ⟨p, 2, none⟩ = false) (f1 : w.frozen? ⟨p, 1, none⟩ = false)
    (c0 : w.cell? ⟨p, 0, none⟩ = some (.slice (some ⟨blk, off, none⟩) len cap)) (c1 : w.cell? ⟨p, 1, none⟩ = some (.int .i64 i)) (c2 : w.cell? ⟨p, 2, none⟩ = some (.int .i64 h))
    (hi : i < len) (hl : len ≤ 1048576) (hb : w.cell? ⟨blk, off + i, none⟩ = some (.int .u8 b)) (hne : ¬ blk = p) (hb0 : 0 ≤ b) (hb1 : b ≤ 255) :
    Calls Tryz.prog 40 #[.pointer (some ⟨p, 0, none⟩)] w fun e w' => ∃ x h' n, e = .returned (.int .i64 x) ∧ (0 ≤ x ∧ x ≤ 255) ∧ w' = ((w.setCell ⟨p, 2, none⟩ (.int .i64 h')).drewN n).setCell ⟨p, 1, none⟩ (.int .i64 ((i : Int) + 1)) := by
  go_enter Tryz.func40, Tryz.ntmps40
  go_wp2
  go_quiet (fail)
  go_wp2
  go_quiet (fail)
  go_wp2
  go_quiet (fail)
  go_wp2
  go_ret
  exact ⟨_, _, _, rfl, and255 _, rfl⟩

theorem byte_out (p len cap : Nat) (h : Int) (sa : Option Addr) (w : World) (f2 : w.frozen? ⟨p, 2, none⟩ = false)
    (c0 : w.cell? ⟨p, 0, none⟩ = some (.slice sa len cap)) (c1 : w.cell? ⟨p, 1, none⟩ = some (.int .i64 len)) (c2 : w.cell? ⟨p, 2, none⟩ = some (.int .i64 h)) :
    Calls Tryz.prog 40 #[.pointer (some ⟨p, 0, none⟩)] w fun e w' => ∃ x h' n, e = .returned (.int .i64 x) ∧ (0 ≤ x ∧ x ≤ 255) ∧ w' = (w.setCell ⟨p, 2, none⟩ (.int .i64 h')).drewN n := by
  go_enter Tryz.func40, Tryz.ntmps40
  go_wp2
  go_quiet (fail)
  go_wp2
  go_quiet (fail)
  go_wp2
  go_ret
  exact ⟨_, _, _, rfl, and255 _, World.drewN_drewN _ _ _⟩

theorem cs_same {w : World} {p j : Nat} {u v : Value} (h : w.cell? ⟨p, j, none⟩ = some u) : (w.setCell ⟨p, j, none⟩ v).cell? ⟨p, j, none⟩ = some v := World.cell?_setCell_same _ _ _ h
theorem cs_other {w : World} {p j k : Nat} {v : Value} (h : j ≠ k) : (w.setCell ⟨p, j, none⟩ v).cell? ⟨p, k, none⟩ = w.cell? ⟨p, k, none⟩ := World.cell?_setCell_other _ _ _ _ (fun e => h (by cases e; rfl))

/-- l1Byte: 0 to 255; it turns the cursor alone. -/
theorem byte_any (B p : Nat) (w : World) (hC : Cur B p w) :
    Calls Tryz.prog 40 #[.pointer (some ⟨p, 0, none⟩)] w fun e w' => ∃ x, e = .returned (.int .i64 x) ∧ 0 ≤ x ∧ x ≤ 255 ∧ Only p w w' ∧ Cur B p w' := by
  obtain ⟨sa, len, cap, i, h, c0, c1, c2, hi, hl, hy⟩ := hC.cells
  have hle := hC.le
  have hlt := hC.lt
  by_cases hlt2 : i < len
  · obtain ⟨blk, off, b, rfl, hk, hc, h0, h1⟩ := hy i hlt2
    refine (byte_in p i len cap h b blk off w hC.fr2 hC.fr1 c0 c1 c2 hlt2 hl hc (by omega) h0 h1).mono ?_
    rintro e w' ⟨x, h', n, rfl, ⟨hx0, hx1⟩, rfl⟩
    have ho : Only p w (((w.setCell ⟨p, 2, none⟩ (.int .i64 h')).drewN n).setCell ⟨p, 1, none⟩ (.int .i64 ((i : Int) + 1))) := (((Only.refl p w).setCell 2 _).drewN n).setCell 1 _
    refine ⟨x, rfl, hx0, hx1, ho, hC.le, Nat.lt_of_lt_of_le hC.lt ho.size, ⟨_, len, cap, i + 1, h', ?_, ?_, ?_, hlt2, hl, hy.below (ho.below hle (by omega))⟩, ?_, ?_⟩
    · rw [cs_other (by decide), World.cell?_drewN, cs_other (by decide)]; exact c0
    · have e1 : ((i + 1 : Nat) : Int) = (i : Int) + 1 := by omega
      rw [e1]
      exact cs_same (by rw [World.cell?_drewN, cs_other (by decide)]; exact c1)
    · rw [cs_other (by decide), World.cell?_drewN]; exact cs_same c2
    · simp [hC.fr1]
    · simp [hC.fr2]
  · have e1 : i = len := by omega
    subst e1
    refine (byte_out p i cap h sa w hC.fr2 c0 c1 c2).mono ?_
    rintro e w' ⟨x, h', n, rfl, ⟨hx0, hx1⟩, rfl⟩
    have ho : Only p w ((w.setCell ⟨p, 2, none⟩ (.int .i64 h')).drewN n) := ((Only.refl p w).setCell 2 _).drewN n
    refine ⟨x, rfl, hx0, hx1, ho, hC.le, Nat.lt_of_lt_of_le hC.lt ho.size, ⟨sa, i, cap, i, h', ?_, ?_, ?_, hi, hl, hy.below (ho.below hle (by omega))⟩, ?_, ?_⟩
    · rw [World.cell?_drewN, cs_other (by decide)]; exact c0
    · rw [World.cell?_drewN, cs_other (by decide)]; exact c1
    · rw [World.cell?_drewN]; exact cs_same c2
    · simp [hC.fr1]
    · simp [hC.fr2]

/-- l1Below at a number from 1 to 256. -/
theorem below_small (B p : Nat) (n : Int) (w : World) (hC : Cur B p w) (h0 : 0 < n) (h1 : n ≤ 256) :
    Calls Tryz.prog 19 #[.pointer (some ⟨p, 0, none⟩), .int .i64 n] w fun e w' => ∃ x, e = .returned (.int .i64 x) ∧ 0 ≤ x ∧ x < n ∧ Only p w w' ∧ Cur B p w' := by
  go_enter Tryz.func19, Tryz.ntmps19
  go_wp2_with (go_at_call 40; refine (byte_any B p _ ?_).mono ?_; assumption; rintro e w' ⟨x, rfl, hx0, hx1, ho, hC'⟩)
  go_ret
  exact ⟨_, rfl, Int.emod_nonneg _ (by omega), Int.emod_lt_of_pos _ h0, by assumption, by assumption⟩

/-- l1Once at a number from 1 to 256. -/
theorem once_small (B p : Nat) (n : Int) (w : World) (hC : Cur B p w) (h0 : 0 < n) (h1 : n ≤ 256) :
    Calls Tryz.prog 37 #[.pointer (some ⟨p, 0, none⟩), .int .i64 n] w fun e w' => ∃ b, e = .returned (.bool b) ∧ Only p w w' ∧ Cur B p w' := by
  go_enter Tryz.func37, Tryz.ntmps37
  go_wp2_with (go_at_call 19; refine (below_small B p _ _ ?_ h0 h1).mono ?_; assumption; rintro e w' ⟨x, rfl, hx0, hx1, ho, hC'⟩)
  go_ret
  exact ⟨_, rfl, by assumption, by assumption⟩

theorem list_cell {p q : Nat} {x : Int} {xs : List Int} {w w' : World} (ho : Only p w w') (hq : q ≠ p) (hql : q < w.heap.size)
    (hx : ∀ k, (hk : k < xs.length) → w.cell? ⟨q, k, none⟩ = some (.int .i64 xs[k])) (h0 : 0 ≤ x) (h1 : x < xs.length) : ∃ v, v ∈ xs ∧ w'.cell? ⟨q, x.toNat, none⟩ = some (.int .i64 v) :=
  ⟨xs[x.toNat]'(by omega), List.getElem_mem _, by rw [ho.cell (a := ⟨q, x.toNat, none⟩) hq hql]; exact hx _ _⟩

/-- l1PickInt over a list that lies in a block of its own. -/
theorem pick_int (B p q cap : Nat) (xs : List Int) (w : World) (hC : Cur B p w) (hq : q ≠ p) (hql : q < w.heap.size) (h0 : 0 < xs.length) (h1 : xs.length ≤ 256)
    (hx : ∀ k, (hk : k < xs.length) → w.cell? ⟨q, k, none⟩ = some (.int .i64 xs[k])) :
    Calls Tryz.prog 38 #[.pointer (some ⟨p, 0, none⟩), .slice (some ⟨q, 0, none⟩) xs.length cap] w fun e w' => ∃ x, x ∈ xs ∧ e = .returned (.int .i64 x) ∧ Only p w w' ∧ Cur B p w' := by
  have i0 : (0 : Int) < (xs.length : Int) := by omega
  have i1 : (xs.length : Int) ≤ 256 := by omega
  have hl : ∀ w' x, Only p w w' → 0 ≤ x → x < (xs.length : Int) → ∃ v, v ∈ xs ∧ w'.cell? ⟨q, x.toNat, none⟩ = some (.int .i64 v) := fun w' x ho => list_cell ho hq hql hx
  clear hx
  go_enter Tryz.func38, Tryz.ntmps38
  go_wp2_with (go_at_call 19; refine (below_small B p _ _ ?_ i0 i1).mono ?_; assumption; rintro e w' ⟨x, rfl, hx0, hx1, ho, hC'⟩; obtain ⟨v, hv, hvc⟩ := hl w' x ho hx0 hx1)
  go_ret
  exact ⟨_, hv, rfl, by assumption, by assumption⟩

/-! l1New -/
theorem new_empty (sa : Option Addr) (cap : Nat) (w : World) :
    Calls Tryz.prog 16 #[.slice sa 0 cap] w fun e w' => e = .returned (.pointer (some ⟨w.heap.size, 0, none⟩)) ∧ ∃ h, w' = w.alloc (.cells #[.slice sa 0 cap, .int .i64 0, .int .i64 h] 80) := by
  go_enter Tryz.func16, Tryz.ntmps16
  go_wp2
  go_loop [3, 4] (fun n i => (∃ h, n = .int .i64 h) ∧ i = .int .i64 0) (fun _ _ => 0)
  case atStart => exact ⟨⟨_, rfl⟩, rfl⟩
  case round =>
    obtain ⟨⟨h, rfl⟩, rfl⟩ := hrel
    go_wp2
    go_ret
    exact ⟨rfl, _, rfl⟩
theorem new_some (blk off len cap : Nat) (B : Nat) (w : World) (hl : len ≤ 1048576) (hy : Bytes B w (some ⟨blk, off, none⟩) len) :
    Calls Tryz.prog 16 #[.slice (some ⟨blk, off, none⟩) len cap] w fun e w' => e = .returned (.pointer (some ⟨w.heap.size, 0, none⟩)) ∧ ∃ h, w' = w.alloc (.cells #[.slice (some ⟨blk, off, none⟩) len cap, .int .i64 0, .int .i64 h] 80) := by
  have hb : ∀ k, k < len → ∃ b, w.cell? ⟨blk, off + k, none⟩ = some (.int .u8 b) ∧ 0 ≤ b ∧ b ≤ 255 := fun k hk => by
    obtain ⟨blk', off', b, e, _, h1, h2, h3⟩ := hy k hk
    simp only [Option.some.injEq, Addr.mk.injEq, and_true] at e
    obtain ⟨rfl, rfl⟩ := e
    exact ⟨b, h1, h2, h3⟩
  clear hy
  go_enter Tryz.func16, Tryz.ntmps16
  go_wp2
  go_loop [3, 4] (fun n i => ∃ (h : Int) (k : Nat), n = .int .i64 h ∧ i = .int .i64 k ∧ k ≤ len) (fun _ i => len - (intOf i).toNat)
  case atStart => exact ⟨_, 0, rfl, rfl, Nat.zero_le _⟩
  case round =>
    obtain ⟨h, k, rfl, rfl, hk⟩ := hrel
    by_cases hlt : k < len
    · obtain ⟨b, hc, b0, b1⟩ := hb k hlt
      clear hb
      by_cases h4 : (k : Int) < 4000
      · go_wp2
        go_round
        case rel => exact ⟨_, k + 1, rfl, by go_num, by omega⟩
        case measure => simp [intOf]; omega
      · go_wp2
        go_ret
        exact ⟨rfl, _, rfl⟩
    · clear hb
      go_wp2
      go_ret
      exact ⟨rfl, _, rfl⟩

/-- l1New: a cursor over the bytes that came in. -/
theorem new_any (sa : Option Addr) (len cap B : Nat) (w : World) (hB : B ≤ w.heap.size) (hl : len ≤ 1048576) (hy : Bytes B w sa len) :
    Calls Tryz.prog 16 #[.slice sa len cap] w fun e w' => e = .returned (.pointer (some ⟨w.heap.size, 0, none⟩)) ∧ Below w.heap.size w w' ∧ Cur B w.heap.size w' := by
  have fin : ∀ h : Int, Below w.heap.size w (w.alloc (.cells #[.slice sa len cap, .int .i64 0, .int .i64 h] 80)) ∧ Cur B w.heap.size (w.alloc (.cells #[.slice sa len cap, .int .i64 0, .int .i64 h] 80)) := fun h => by
    have hb := (Below.refl w.heap.size w).alloc (Nat.le_refl _) (.cells #[.slice sa len cap, .int .i64 0, .int .i64 h] 80)
    refine ⟨hb, hB, by simp, ⟨sa, len, cap, 0, h, ?_, ?_, ?_, Nat.zero_le _, hl, hy.below (hb.mono hB)⟩, ?_, ?_⟩
    · rw [World.cell?_alloc_at _ _ _ _ rfl]; rfl
    · rw [World.cell?_alloc_at _ _ _ _ rfl]; rfl
    · rw [World.cell?_alloc_at _ _ _ _ rfl]; rfl
    · exact World.frozen?_alloc_at _ _ _ _ rfl
    · exact World.frozen?_alloc_at _ _ _ _ rfl
  rcases Nat.eq_zero_or_pos len with rfl | hp
  · refine (new_empty sa cap w).mono ?_
    rintro e w' ⟨rfl, h, rfl⟩
    exact ⟨rfl, fin h⟩
  · obtain ⟨blk, off, b, rfl, _⟩ := hy 0 hp
    refine (new_some blk off len cap B w hl hy).mono ?_
    rintro e w' ⟨rfl, h, rfl⟩
    exact ⟨rfl, fin h⟩

end Go.Proofs.YtgdnlmaacnnfiaaGreatDoor

namespace Go.Proofs.YtgdnlmaacnnfiaaGreatDoor
open Go.RowKit Go.Extern
namespace Dr

theorem below_drewN {B : Nat} {W w : World} (h : Below B W w) (n : Nat) : Below B W (w.drewN n) := ⟨h.os, h.tape, h.output, h.size, h.block⟩
theorem only_below {p : Nat} {w w' : World} (h : Below w.heap.size w w') : Only p w w' := ⟨h.os, h.tape, h.output, h.size, fun k _ hk => h.block k hk⟩
theorem cur_grown {B p : Nat} {w w' : World} (hC : Cur B p w) (h : Below w.heap.size w w') : Cur B p w' :=
  hC.frame (q := w.heap.size) (only_below h) (by have := hC.lt; omega) (by have := hC.le; have := hC.lt; omega)
theorem cur_drewN {B p : Nat} {w : World} (hC : Cur B p w) (n : Nat) : Cur B p (w.drewN n) := cur_grown hC (below_drewN (Below.refl _ _) n)
theorem alloc_strs (w : World) (xs : List ByteArray) (t : TypeId) (k : Nat) (hk : k < xs.length) : (w.alloc (.cells (xs.map Value.string).toArray t)).cell? ⟨w.heap.size, k, none⟩ = some (.string xs[k]) := by
  rw [World.cell?_alloc_at _ _ _ _ rfl]
  simp [hk]
theorem list_str {p q : Nat} {x : Int} {xs : List ByteArray} {w w' : World} (ho : Only p w w') (hq : q ≠ p) (hql : q < w.heap.size)
    (hx : ∀ k, (hk : k < xs.length) → w.cell? ⟨q, k, none⟩ = some (.string xs[k])) (h0 : 0 ≤ x) (h1 : x < xs.length) : ∃ v, v ∈ xs ∧ w'.cell? ⟨q, x.toNat, none⟩ = some (.string v) :=
  ⟨xs[x.toNat]'(by omega), List.getElem_mem _, by rw [ho.cell (a := ⟨q, x.toNat, none⟩) hq hql]; exact hx _ _⟩

theorem pick_str (B p q cap : Nat) (xs : List ByteArray) (w : World) (hC : Cur B p w) (hq : q ≠ p) (hql : q < w.heap.size) (h0 : 0 < xs.length) (h1 : xs.length ≤ 256)
    (hx : ∀ k, (hk : k < xs.length) → w.cell? ⟨q, k, none⟩ = some (.string xs[k])) :
    Calls Tryz.prog 39 #[.pointer (some ⟨p, 0, none⟩), .slice (some ⟨q, 0, none⟩) xs.length cap] w fun e w' => ∃ x, x ∈ xs ∧ e = .returned (.string x) ∧ Only p w w' ∧ Cur B p w' := by
  have i0 : (0 : Int) < (xs.length : Int) := by omega
  have i1 : (xs.length : Int) ≤ 256 := by omega
  have hl : ∀ w' x, Only p w w' → 0 ≤ x → x < (xs.length : Int) → ∃ v, v ∈ xs ∧ w'.cell? ⟨q, x.toNat, none⟩ = some (.string v) := fun w' x ho => list_str ho hq hql hx
  clear hx
  go_enter Tryz.func39, Tryz.ntmps39
  go_wp2_with (go_at_call 19; refine (below_small B p _ _ ?_ i0 i1).mono ?_; assumption; rintro e w' ⟨x, rfl, hx0, hx1, ho, hC'⟩; obtain ⟨v, hv, hvc⟩ := hl w' x ho hx0 hx1)
  go_ret
  exact ⟨_, hv, rfl, by assumption, by assumption⟩
theorem pick_strsD (B p n cap m : Nat) (xs : List ByteArray) (t : TypeId) (w : World) (hC : Cur B p w) (hn : xs.length = n) (h0 : 0 < n) (h1 : n ≤ 256) (hs : ∀ s ∈ xs, s.size ≤ 24) :
    Calls Tryz.prog 39 #[.pointer (some ⟨p, 0, none⟩), .slice (some ⟨w.heap.size, 0, none⟩) n cap] ((w.alloc (.cells (xs.map Value.string).toArray t)).drewN m) fun e w' => ∃ x : ByteArray, e = .returned (.string x) ∧ (x.size : Int) ≤ 24 ∧ Only p w w' ∧ Cur B p w' := by
  subst hn
  have hlt := hC.lt
  refine (pick_str B p w.heap.size cap xs _ (cur_drewN (hC.alloc _) m) (by omega) (by show w.heap.size < (w.alloc _).heap.size; simp) h0 h1 (fun k hk => alloc_strs w xs t k hk)).mono ?_
  rintro e w' ⟨x, hx, rfl, ho, hC'⟩
  exact ⟨x, rfl, by have := hs x hx; omega, (((Only.refl p w).alloc _).drewN m).trans ho, hC'⟩
def LT : List ByteArray := [⟨#[97]⟩, ⟨#[97, 98, 124, 99]⟩, ⟨#[40, 97, 98, 41, 42]⟩, ⟨#[97, 43, 98, 63]⟩, ⟨#[94, 97]⟩, ⟨#[98, 36]⟩, ⟨#[91, 97, 45, 99, 93, 43]⟩, ⟨#[91, 94, 98, 93]⟩, ⟨#[46, 42, 98]⟩, ⟨#[40, 97, 124, 98, 41, 43, 99]⟩, ⟨#[]⟩, ⟨#[97, 124, 124, 98]⟩, ⟨#[40, 97, 42, 41, 42]⟩, ⟨#[120, 92, 46, 121]⟩, ⟨#[91, 93, 97, 93]⟩, ⟨#[97, 40, 98]⟩, ⟨#[42, 97]⟩, ⟨#[40, 40, 97, 41, 41]⟩, ⟨#[94, 36]⟩, ⟨#[40, 94, 97, 124, 98, 36, 41, 42]⟩, ⟨#[91, 98, 45, 97, 93]⟩, ⟨#[97, 92]⟩]
theorem LT_in : ∀ s ∈ LT, s.size ≤ 24 := by decide +kernel
theorem pick_LT (B p cap : Nat) (t : TypeId) (w : World) (hC : Cur B p w) :
    Calls Tryz.prog 39 #[.pointer (some ⟨p, 0, none⟩), .slice (some ⟨w.heap.size, 0, none⟩) 22 cap] (w.alloc (.cells #[.string ⟨#[97]⟩, .string ⟨#[97, 98, 124, 99]⟩, .string ⟨#[40, 97, 98, 41, 42]⟩, .string ⟨#[97, 43, 98, 63]⟩, .string ⟨#[94, 97]⟩, .string ⟨#[98, 36]⟩, .string ⟨#[91, 97, 45, 99, 93, 43]⟩, .string ⟨#[91, 94, 98, 93]⟩, .string ⟨#[46, 42, 98]⟩, .string ⟨#[40, 97, 124, 98, 41, 43, 99]⟩, .string ⟨#[]⟩, .string ⟨#[97, 124, 124, 98]⟩, .string ⟨#[40, 97, 42, 41, 42]⟩, .string ⟨#[120, 92, 46, 121]⟩, .string ⟨#[91, 93, 97, 93]⟩, .string ⟨#[97, 40, 98]⟩, .string ⟨#[42, 97]⟩, .string ⟨#[40, 40, 97, 41, 41]⟩, .string ⟨#[94, 36]⟩, .string ⟨#[40, 94, 97, 124, 98, 36, 41, 42]⟩, .string ⟨#[91, 98, 45, 97, 93]⟩, .string ⟨#[97, 92]⟩] t)) fun e w' => ∃ x : ByteArray, e = .returned (.string x) ∧ (x.size : Int) ≤ 24 ∧ Only p w w' ∧ Cur B p w' :=
  pick_strsD B p 22 cap 0 LT t w hC rfl (by decide) (by decide) LT_in
def LN : List ByteArray := [⟨#[97]⟩, ⟨#[42]⟩, ⟨#[40]⟩, ⟨#[41]⟩, ⟨#[124]⟩, ⟨#[91]⟩, ⟨#[93]⟩, ⟨#[92]⟩, ⟨#[46]⟩]
theorem LN_in : ∀ s ∈ LN, s.size ≤ 24 := by decide +kernel
theorem pick_LN0 (B p cap : Nat) (t : TypeId) (w : World) (hC : Cur B p w) :
    Calls Tryz.prog 39 #[.pointer (some ⟨p, 0, none⟩), .slice (some ⟨w.heap.size, 0, none⟩) 9 cap] (w.alloc (.cells #[.string ⟨#[97]⟩, .string ⟨#[42]⟩, .string ⟨#[40]⟩, .string ⟨#[41]⟩, .string ⟨#[124]⟩, .string ⟨#[91]⟩, .string ⟨#[93]⟩, .string ⟨#[92]⟩, .string ⟨#[46]⟩] t)) fun e w' => ∃ x : ByteArray, e = .returned (.string x) ∧ (x.size : Int) ≤ 24 ∧ Only p w w' ∧ Cur B p w' :=
  pick_strsD B p 9 cap 0 LN t w hC rfl (by decide) (by decide) LN_in
theorem pick_LN1 (B p cap : Nat) (t : TypeId) (w : World) (hC : Cur B p w) :
    Calls Tryz.prog 39 #[.pointer (some ⟨p, 0, none⟩), .slice (some ⟨w.heap.size, 0, none⟩) 9 cap] (w.alloc (.cells #[.string ⟨#[97]⟩, .string ⟨#[42]⟩, .string ⟨#[40]⟩, .string ⟨#[41]⟩, .string ⟨#[124]⟩, .string ⟨#[91]⟩, .string ⟨#[93]⟩, .string ⟨#[92]⟩, .string ⟨#[46]⟩] t)).drew fun e w' => ∃ x : ByteArray, e = .returned (.string x) ∧ (x.size : Int) ≤ 24 ∧ Only p w w' ∧ Cur B p w' :=
  pick_strsD B p 9 cap 1 LN t w hC rfl (by decide) (by decide) LN_in
theorem pick_LN2 (B p cap : Nat) (t : TypeId) (w : World) (hC : Cur B p w) :
    Calls Tryz.prog 39 #[.pointer (some ⟨p, 0, none⟩), .slice (some ⟨w.heap.size, 0, none⟩) 9 cap] (w.alloc (.cells #[.string ⟨#[97]⟩, .string ⟨#[42]⟩, .string ⟨#[40]⟩, .string ⟨#[41]⟩, .string ⟨#[124]⟩, .string ⟨#[91]⟩, .string ⟨#[93]⟩, .string ⟨#[92]⟩, .string ⟨#[46]⟩] t)).drew.drew fun e w' => ∃ x : ByteArray, e = .returned (.string x) ∧ (x.size : Int) ≤ 24 ∧ Only p w w' ∧ Cur B p w' :=
  pick_strsD B p 9 cap 2 LN t w hC rfl (by decide) (by decide) LN_in

theorem drawText (B p : Nat) (w : World) (hC : Cur B p w) :
    Calls Tryz.prog 69 #[.pointer (some ⟨p, 0, none⟩)] w fun e w' => ∃ s : ByteArray, e = .returned (.string s) ∧ (s.size : Int) ≤ 24 ∧ Only p w w' ∧ Cur B p w' := by
  go_enter Tryz.func69, Tryz.ntmps69
  go_wp2_with (go_at_call 39; with_reducible refine (pick_LT B p _ _ _ ?_).mono ?_; assumption; rintro e w1 ⟨s1, rfl, hs1, ho1, hC1⟩)
  go_ret
  exact ⟨_, rfl, hs1, ho1, hC1⟩

set_option maxRecDepth 100000 in
theorem dent (B p : Nat) (s : ByteArray) (hs : (s.size : Int) ≤ 24) (w : World) (hC : Cur B p w) :
    Calls Tryz.prog 68 #[.pointer (some ⟨p, 0, none⟩), .string s] w fun e w' => ∃ s : ByteArray, e = .returned (.string s) ∧ (s.size : Int) ≤ 48 ∧ Only p w w' ∧ Cur B p w' := by
  go_enter Tryz.func68, Tryz.ntmps68
  go_upto_region 3 with (first | (go_at_call 19; with_reducible refine (below_small B p ((s.size : Int) + 1) _ ?_ ?_ ?_).mono ?_; assumption; omega; omega; rintro e w1 ⟨x, rfl, hx0, hx1, ho1, hC1⟩) | (go_at_call 19; with_reducible refine (below_small B p 4 _ ?_ ?_ ?_).mono ?_; assumption; omega; omega; rintro e w2 ⟨y, rfl, hy0, hy1, ho2, hC2⟩))
  have hO := ho1.trans ho2
  clear ho1 ho2 hC1 hC
  obtain ⟨k, rfl⟩ : ∃ k : Nat, x = k := ⟨x.toNat, by omega⟩
  have hk : k ≤ s.size := by omega
  by_cases hy : y = 0
  · subst hy
    go_wp2_with fail
    go_region_with (go_at_call 39; first | (with_reducible refine (pick_LN1 B p _ _ _ ?_).mono ?_; assumption; rintro e w3 ⟨s3, rfl, hs3, ho3, hC3⟩) | (with_reducible refine (pick_LN2 B p _ _ _ ?_).mono ?_; assumption; rintro e w3 ⟨s3, rfl, hs3, ho3, hC3⟩) | (with_reducible refine (pick_LN0 B p _ _ _ ?_).mono ?_; assumption; rintro e w3 ⟨s3, rfl, hs3, ho3, hC3⟩))
    all_goals
      go_wp2_with fail
      have hsz : (((s.extract 0 k ++ s3 ++ s.extract k s.size).size : Nat) : Int) ≤ 48 := by
        rw [ByteArray.size_append, ByteArray.size_append, ByteArray.size_extract, ByteArray.size_extract]; omega
      refine bodyPost_ret (v := .string (s.extract 0 k ++ s3 ++ s.extract k s.size)) (by simp [results, Tryz.results68, go_sem]) rfl ?_
      first | exact ⟨_, rfl, hsz, hO.trans ho3, hC3⟩ | exact ⟨_, rfl, hsz, (hO.trans ho3).drewN 1, cur_drewN hC3 1⟩ | exact ⟨_, rfl, hsz, (hO.trans ho3).drewN 2, cur_drewN hC3 2⟩
  · have hyb : (y == 0) = false := by simp [hy]
    by_cases hy1' : y = 1
    · subst hy1'
      go_wp2_with (go_at_call 69; refine (drawText B p _ ?_).mono ?_; assumption; rintro e w3 ⟨s3, rfl, hs3, ho3, hC3⟩)
      go_ret
      exact ⟨_, rfl, by rw [ByteArray.size_append]; omega, hO.trans ho3, hC3⟩
    · have hyb1 : (y == 1) = false := by simp [hy1']
      go_wp2_with fail
      go_ret
      exact ⟨_, rfl, by omega, hO, hC2⟩

def strLen : Value → Nat
  | .string s => s.size
  | _ => 0

end Dr
end Go.Proofs.YtgdnlmaacnnfiaaGreatDoor

