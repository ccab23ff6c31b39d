/-
  Rows of bytes that a call owns: what is appended to them; numbers and texts that are put there, the program's.
  Numbers and texts as bytes: what both sides answer, at all arguments.
-/
import Derived.Test.YtkhoccjfkkfipaaGreatDoorProg
import Derived.Test.YtkhoccjfkkfipaaGreatDoorP01
import Derived.WalkKit
import Derived.WalkLawsBesides
import Derived.Deep.QuietTactic
import Derived.BigQuiet
import Derived.Laws.AppendOwn
import Derived.Laws.IdiomStrings
import Derived.Below
import Derived.OwnWalk
import Derived.Lib.AppendStr
import Derived.Deep.OwnRows
import Derived.Laws.AppendOwnNone
namespace Go.Proofs.YtkhoccjfkkfipaaGreatDoor
open Go.RowKit
namespace Bt
set_option linter.unusedSimpArgs false
set_option linter.unusedVariables false

theorem hold {p : Prop} (h : Hid p) : p := h
theorem Tryz.infoByte : (Tryz.prog.info? 5).map (fun i => (i.zero, i.size, i.bytes)) = some (some (.int .u8 0), 1, 1) := by kernel_rfl

/-- Bytes that the call owns, in blocks from B on. -/
def Row (B : Nat) (w : World) (ao : Option Addr) (cap : Nat) (L : List UInt8) : Prop := w.ownsRow B 5 1 (.slice ao L.length cap) L.length (Lib.byteCells L)

theorem Row.nil (B : Nat) (w : World) : Row B w none 0 [] := World.ownsRow_nil w B _ _
theorem Row.lt {B : Nat} {w : World} {ao : Option Addr} {cap : Nat} {L : List UInt8} (h : Row B w ao cap L) {a : Addr} (ha : ao = some a) : B ≤ a.block ∧ a.block < w.heap.size := World.ownsRow.lt h a.block (by rw [ha]; rfl)
theorem Row.same {B : Nat} {w w' : World} {ao : Option Addr} {cap : Nat} {L : List UInt8} (h : Row B w ao cap L) (hb : ∀ a, ao = some a → w'.heap[a.block]? = w.heap[a.block]?) : Row B w' ao cap L := by
  obtain ⟨h1, h2⟩ := h
  refine ⟨h1, ?_⟩
  rcases h2 with h2 | ⟨g, c, cur, e, hg, hh, h3⟩
  · exact .inl h2
  · simp only [Value.slice.injEq] at e
    obtain ⟨rfl, _, rfl⟩ := e
    exact .inr ⟨g, cap, cur, rfl, hg, (hb _ rfl).trans hh, h3⟩
theorem Row.below {B C : Nat} {w w' : World} {ao : Option Addr} {cap : Nat} {L : List UInt8} (h : Row B w ao cap L) (hb : Below C w w') (hC : w.heap.size ≤ C) : Row B w' ao cap L :=
  h.same fun a ha => hb.block _ (by have := (h.lt ha).2; omega)
theorem Row.mono {B C : Nat} {w : World} {ao : Option Addr} {cap : Nat} {L : List UInt8} (h : Row B w ao cap L) (hC : C ≤ B) : Row C w ao cap L := by
  obtain ⟨h1, h2⟩ := h
  refine ⟨h1, ?_⟩
  rcases h2 with h2 | ⟨g, c, cur, e, hg, h3⟩
  · exact .inl h2
  · exact .inr ⟨g, c, cur, e, by omega, h3⟩
theorem Row.alloc {B : Nat} {w : World} {ao : Option Addr} {cap : Nat} {L : List UInt8} (h : Row B w ao cap L) (o : Obj) : Row B (w.alloc o) ao cap L := World.ownsRow.alloc h o

theorem own_form {B n : Nat} {w : World} {v : Value} {xs : List Value} (h : w.ownsRow B 5 1 v n xs) : ∃ ao cap, v = .slice ao n cap := by
  rcases h.2 with ⟨rfl, hn⟩ | ⟨g, cap, cur, rfl, _⟩
  · rw [hn]; exact ⟨_, _, rfl⟩
  · exact ⟨_, _, rfl⟩

/-- Bytes that can be read at the head of a block. -/
def Rd (w : World) (ao : Option Addr) (L : List UInt8) : Prop := ∀ i x, L[i]? = some x → ∃ b o, ao = some ⟨b, o, none⟩ ∧ b < w.heap.size ∧ w.cell? ⟨b, o + i, none⟩ = some (.int .u8 (x.toNat : Int))
theorem Rd.same {w w' : World} {ao : Option Addr} {L : List UInt8} (h : Rd w ao L) (hs : w.heap.size ≤ w'.heap.size) (hb : ∀ a, ao = some a → a.block < w.heap.size → w'.heap[a.block]? = w.heap[a.block]?) : Rd w' ao L := fun i x hi => by
  obtain ⟨b, o, e, hl, hc⟩ := h i x hi
  exact ⟨b, o, e, by omega, (World.cell?_of_block (a := ⟨b, o + i, none⟩) (show w'.heap[b]? = w.heap[b]? from hb ⟨b, o, none⟩ e hl)).trans hc⟩
theorem Rd.below {C : Nat} {w w' : World} {ao : Option Addr} {L : List UInt8} (h : Rd w ao L) (hb : Below C w w') (hC : w.heap.size ≤ C) : Rd w' ao L := h.same hb.size fun a _ hl => hb.block _ (by omega)
theorem Row.rd {B : Nat} {w : World} {ao : Option Addr} {cap : Nat} {L : List UInt8} (h : Row B w ao cap L) : Rd w ao L := fun i x hi => by
  have hi2 := (List.getElem?_eq_some_iff.1 hi).1
  rcases h.2 with ⟨_, h0⟩ | ⟨g, c, cur, e, hg, hh, _⟩
  · omega
  · simp only [Value.slice.injEq] at e
    obtain ⟨rfl, _, rfl⟩ := e
    refine ⟨g, 0, rfl, (h.lt rfl).2, ?_⟩
    rw [Nat.zero_add]
    have h2 : w.ownsRow B 5 1 (.slice (some ⟨g, 0, none⟩) L.length cap) L.length (Lib.byteCells L) := h
    rw [h2.cellAt i (by omega)]
    simp [Lib.byteCells, hi]

/-- What is no row of bytes has not turned. -/
def Ch (w w' : World) : Prop := ∀ k, k < w.heap.size → (∀ cur fr, w.heap[k]? ≠ some (.cells cur 5 fr)) → w'.heap[k]? = w.heap[k]?
theorem Ch.refl (w : World) : Ch w w := fun _ _ _ => rfl
theorem Ch.trans {a b c : World} (h : Ch a b) (hs : a.heap.size ≤ b.heap.size) (h2 : Ch b c) : Ch a c := fun k hk hn => by
  have e := h k hk hn
  exact (h2 k (by omega) (fun cur fr => by rw [e]; exact hn cur fr)).trans e
theorem Ch.of_below {w w' : World} (h : Below w.heap.size w w') : Ch w w' := fun k hk _ => h.block k hk
theorem Ch.alloc (w : World) (o : Obj) : Ch w (w.alloc o) := Ch.of_below ((Below.refl _ w).alloc (Nat.le_refl _) o)
theorem Ch.grown {B n : Nat} {w w' : World} {v : Value} {xs : List Value} (h : w.ownsRow B 5 1 v n xs) (hg : w.grownBy w' v.ownBlock) : Ch w w' := fun k hk hn => hg.block k hk fun e => by
  rcases h.2 with ⟨rfl, _⟩ | ⟨g, cap, cur, rfl, _, hh, _⟩
  · simp [Value.ownBlock] at e
  · simp only [Value.ownBlock, Option.some.injEq] at e
    subst e
    exact hn cur _ hh

/-- One byte behind, out of a row of one that has just been made. -/
theorem app_one {w : World} {B : Nat} {ops : Array Oper} {rest : List Oper} {o : Oper} {a : Act} {Q : Exit → Act → World → Prop} (hgd : o.guard = none) (x y : Operand) (ho : o.op = .call { callee := .builtin .append, args := #[x, y], argTypes := #[35, 35] })
    (L : List UInt8) (ao : Option Addr) (cap : Nat) (hx : a.eval x = .slice ao L.length cap) (hown : Row B w ao cap L) (v : Int) (hy : a.eval y = .slice (some ⟨w.heap.size, 0, none⟩) 1 1) (b : UInt8) (hv : v = b.toNat)
    (room : L.length + 1 ≤ 1099511627776) (hB : B ≤ w.heap.size)
    (h : ∀ ao' cap' w', Row B w' ao' cap' (L ++ [b]) → Below B w w' → Ch w w' → wpList Tryz.prog ops Q rest (a.put o.dst (.slice ao' (L ++ [b]).length cap')) w') : wpList Tryz.prog ops Q (o :: rest) a (w.alloc (.cells #[.int .u8 v] 5)) := by
  subst hv
  have hB2 : B ≤ (w.alloc (.cells #[.int .u8 (b.toNat : Int)] 5)).heap.size := by simp; omega
  have hown2 : Row B (w.alloc (.cells #[.int .u8 (b.toNat : Int)] 5)) ao cap L := hown.alloc _
  obtain ⟨i0, hi0, hz0, hz1, hz2⟩ := info_parts Tryz.infoByte
  refine wpList_append_own _ hgd x y 35 ho B 5 i0 (.int .u8 0) 1 1 Tryz.underlying35 hi0 hz0 hz1 hz2 rfl (by decide) _ L.length (Lib.byteCells L) hx hown2 ⟨w.heap.size, 0, none⟩ 1 1 [.int .u8 (b.toNat : Int)] hy rfl (fun j u hj => ?_) (fun u hu => by simp at hu; subst hu; rfl) (by unfold maxLen; omega) (by omega) hB2 ?_
  · match j with
    | 0 =>
      simp at hj
      subst hj
      simp [Addr.add]
    | j + 1 => simp at hj
  · intro v' w' hown' hgr _
    obtain ⟨ao', cap', rfl⟩ := own_form hown'
    have hl : (L ++ [b]).length = L.length + 1 := by simp
    have hb : Below B (w.alloc (.cells #[.int .u8 (b.toNat : Int)] 5)) w' := Below.grown (Below.refl B _) hgr hB2 fun k hk => (World.ownsRow.lt hown2 k hk).1
    have := h ao' cap' w' (by unfold Row; rw [hl]; unfold Lib.byteCells at hown' ⊢; rw [List.map_append]; exact hown') ((Below.alloc (Below.refl B w) hB _).trans hb) ((Ch.alloc w _).trans (by simp) (Ch.grown hown2 hgr))
    rw [hl] at this
    exact this

/-- Bytes behind, out of a block. -/
theorem app_row {w : World} {B : Nat} {ops : Array Oper} {rest : List Oper} {o : Oper} {a : Act} {Q : Exit → Act → World → Prop} (hgd : o.guard = none) (x y : Operand) (ho : o.op = .call { callee := .builtin .append, args := #[x, y], argTypes := #[35, 35] })
    (L : List UInt8) (ao : Option Addr) (cap : Nat) (hx : a.eval x = .slice ao L.length cap) (hown : Row B w ao cap L) (M : List UInt8) (g c : Nat) (hy : a.eval y = .slice (some ⟨g, 0, none⟩) M.length c) (hc : Rd w (some ⟨g, 0, none⟩) M)
    (room : L.length + M.length ≤ 1099511627776) (hB : B ≤ w.heap.size)
    (h : ∀ ao' cap' w', Row B w' ao' cap' (L ++ M) → Below B w w' → Ch w w' → wpList Tryz.prog ops Q rest (a.put o.dst (.slice ao' (L ++ M).length cap')) w') : wpList Tryz.prog ops Q (o :: rest) a w := by
  obtain ⟨i0, hi0, hz0, hz1, hz2⟩ := info_parts Tryz.infoByte
  refine wpList_append_own _ hgd x y 35 ho B 5 i0 (.int .u8 0) 1 1 Tryz.underlying35 hi0 hz0 hz1 hz2 rfl (by decide) _ L.length (Lib.byteCells L) hx hown ⟨g, 0, none⟩ M.length c (Lib.byteCells M) hy (by simp [Lib.byteCells]) (fun j u hj => ?_) (fun u hu => ?_) (by unfold maxLen; omega) (by omega) hB ?_
  · simp only [Lib.byteCells, List.getElem?_map, Option.map_eq_some_iff] at hj
    obtain ⟨b, hb, rfl⟩ := hj
    obtain ⟨g', o', e, _, h1⟩ := hc j b hb
    simp only [Option.some.injEq, Addr.mk.injEq] at e
    obtain ⟨rfl, rfl, _⟩ := e
    have : (⟨g, 0, none⟩ : Addr).add j = ⟨g, 0 + j, none⟩ := by unfold Addr.add; split <;> simp_all
    rw [this]
    exact h1
  · simp only [Lib.byteCells, List.mem_map] at hu
    obtain ⟨b, _, rfl⟩ := hu
    rfl
  · intro v' w' hown' hgr _
    obtain ⟨ao', cap', rfl⟩ := own_form hown'
    have hl : (L ++ M).length = L.length + M.length := by simp
    have := h ao' cap' w' (by unfold Row; rw [hl]; unfold Lib.byteCells at hown' ⊢; rw [List.map_append]; exact hown') (Below.grown (Below.refl B w) hgr hB fun k hk => (World.ownsRow.lt hown k hk).1) (Ch.grown hown hgr)
    rw [hl] at this
    exact this

/-- Bytes behind, out of a row of any owner. -/
theorem app_any {w : World} {B C : Nat} {ops : Array Oper} {rest : List Oper} {o : Oper} {a : Act} {Q : Exit → Act → World → Prop} (hgd : o.guard = none) (x y : Operand) (ho : o.op = .call { callee := .builtin .append, args := #[x, y], argTypes := #[35, 35] })
    (L : List UInt8) (ao : Option Addr) (cap : Nat) (hx : a.eval x = .slice ao L.length cap) (hown : Row B w ao cap L) (M : List UInt8) (am : Option Addr) (c : Nat) (hy : a.eval y = .slice am M.length c) (hM : Row C w am c M)
    (room : L.length + M.length ≤ 1099511627776) (hB : B ≤ w.heap.size)
    (h : ∀ ao' cap' w', Row B w' ao' cap' (L ++ M) → Below B w w' → Ch w w' → wpList Tryz.prog ops Q rest (a.put o.dst (.slice ao' (L ++ M).length cap')) w') : wpList Tryz.prog ops Q (o :: rest) a w := by
  rcases hM.2 with ⟨e, h0⟩ | ⟨g, c', cur, e, hg, _⟩
  · have hm : M = [] := List.length_eq_zero_iff.1 h0
    subst hm
    simp only [Value.slice.injEq] at e
    obtain ⟨rfl, _, rfl⟩ := e
    obtain ⟨i0, hi0, hz0, hz1, hz2⟩ := info_parts Tryz.infoByte
    refine wpList_append_own_none hgd x y 35 ho B 5 i0 1 Tryz.underlying35 hi0 (.slice ao L.length cap) L.length _ hx hown hy ?_
    have := h ao cap w (by rw [List.append_nil]; exact hown) (Below.refl _ _) (Ch.refl _)
    rw [List.append_nil] at this
    exact this
  · simp only [Value.slice.injEq] at e
    obtain ⟨rfl, _, rfl⟩ := e
    exact app_row hgd x y ho L ao cap hx hown M g c hy hM.rd room hB h

/-- A text's bytes behind. -/
theorem app_str {w : World} {B : Nat} {ops : Array Oper} {rest : List Oper} {o : Oper} {a : Act} {Q : Exit → Act → World → Prop} (hgd : o.guard = none) (x y : Operand) (ho : o.op = .call { callee := .builtin .append, args := #[x, y], argTypes := #[35, 9] })
    (L : List UInt8) (ao : Option Addr) (cap : Nat) (hx : a.eval x = .slice ao L.length cap) (hown : Row B w ao cap L) (s : ByteArray) (hy : a.eval y = .string s)
    (room : L.length + s.size ≤ 1099511627776) (hB : B ≤ w.heap.size)
    (h : ∀ ao' cap' w', Row B w' ao' cap' (L ++ s.data.toList) → Below B w w' → Ch w w' → wpList Tryz.prog ops Q rest (a.put o.dst (.slice ao' (L ++ s.data.toList).length cap')) w') : wpList Tryz.prog ops Q (o :: rest) a w := by
  obtain ⟨i0, hi0, hz0, hz1, hz2⟩ := info_parts Tryz.infoByte
  refine Lib.wpList_append_own_string _ hgd x y 35 9 ho B 5 i0 Tryz.underlying35 Tryz.underlying9 hi0 hz0 hz1 hz2 _ L.length (Lib.byteCells L) hx hown s hy (by unfold maxLen; omega) (by omega) hB ?_
  intro v' w' hown' hgr _
  obtain ⟨ao', cap', rfl⟩ := own_form hown'
  have hl : (L ++ s.data.toList).length = L.length + s.size := by rw [List.length_append]; rfl
  have := h ao' cap' w' (by unfold Row; rw [hl]; unfold Lib.byteCells Lib.strCells at *; rw [List.map_append]; exact hown') (Below.grown (Below.refl B w) hgr hB fun k hk => (World.ownsRow.lt hown k hk).1) (Ch.grown hown hgr)
  rw [hl] at this
  exact this

theorem uv_len {x : Nat} (h : x < 9223372036854775808) : (Lib.uvarint x).length ≤ 10 := Lib.uvarint_length64 (by omega)

set_option maxHeartbeats 1000000 in
set_option maxRecDepth 100000 in
theorem iPutN {B x : Nat} {L : List UInt8} {ao : Option Addr} {cap : Nat} {w : World} (hr : Row B w ao cap L) (hx : x < 9223372036854775808) (room : L.length + 10 ≤ 1099511627776) (hB : B ≤ w.heap.size) :
    Calls Tryz.prog 32 #[.slice ao L.length cap, .int .i64 x] w fun e w' => ∃ ao' cap', e = .returned (.slice ao' (L ++ Lib.uvarint x).length cap') ∧ Row B w' ao' cap' (L ++ Lib.uvarint x) ∧ Below B w w' ∧ Ch w w' := by
  have HL : Hid ((Lib.uvarint x).length ≤ 10) := uv_len hx
  have HR : Hid (L.length + 10 ≤ 1099511627776) := room
  have HB : Hid (B ≤ w.heap.size) := hB
  have hx2 : (x : Int) ≤ 9223372036854775807 := by omega
  clear room hB
  go_enter Tryz.func32, Tryz.ntmps32
  go_wp2_with fail
  go_loopw [0, 1] (fun vb vx wr => ∃ (y : Nat) (pre : List UInt8) (ao : Option Addr) (cap : Nat), vb = .slice ao (L ++ pre).length cap ∧ vx = .int .i64 y ∧ y ≤ x ∧ Lib.uvarint x = pre ++ Lib.uvarint y ∧ Row B wr ao cap (L ++ pre) ∧ Below B w wr ∧ Ch w wr) (fun _ vx _ => (intOf vx).toNat)
  case atStart => exact ⟨x, [], ao, cap, by simp, rfl, Nat.le_refl _, rfl, by rw [List.append_nil]; exact hr, Below.refl _ _, Ch.refl _⟩
  case round =>
    clear hr
    obtain ⟨y, pre, ao, cap, rfl, rfl, hy, hsplit, hr1, hnx, hcx⟩ := hrel
    have HS : Hid (Lib.uvarint x = pre ++ Lib.uvarint y) := hsplit
    have R1 : Hid ((L ++ pre).length + 1 ≤ 1099511627776) := by
      have h1 := HL.out
      have h2 := HR.out
      have h3 := Lib.uvarint_pos y
      rw [hsplit, List.length_append] at h1
      show _ ≤ _
      rw [List.length_append]
      omega
    have R2 : Hid (B ≤ wr.heap.size) := Nat.le_trans HB.out hnx.size
    have hy2 : (y : Int) ≤ 9223372036854775807 := by omega
    clear hsplit
    obtain ⟨M, hM⟩ : ∃ M, M = L ++ pre := ⟨_, rfl⟩
    have HM : Hid (M = L ++ pre) := hM
    rw [← hM] at hr1 R1 ⊢
    clear hM
    by_cases h128 : 128 ≤ y
    · have h128i : (128 : Int) ≤ y := by omega
      obtain ⟨b, hb⟩ : ∃ b : UInt8, b = (y % 128 + 128).toUInt8 := ⟨_, rfl⟩
      have hbn : Hid ((b.toNat : Int) = (y : Int) % 128 + 128) := by show _ = _; rw [hb, Lib.toUInt8_toNat (by omega)]; omega
      have HBB : Hid (b = (y % 128 + 128).toUInt8) := hb
      clear hb
      go_wp2_with (at_builtin; refine app_one rfl _ _ rfl M _ _ rfl hr1 _ rfl b hbn.out.symm R1.out R2.out ?_; intro ao2 cap2 w2 hr2 hb2 hc2)
      go_roundw
      case rel =>
        refine ⟨y / 128, pre ++ [b], ao2, cap2, ?_, by go_num, by omega, ?_, ?_, hnx.trans hb2, hcx.trans hnx.size hc2⟩
        · congr 1; rw [HM.out]; simp only [List.length_append, List.length_singleton]; omega
        · rw [HS.out, Lib.uvarint_big h128, HBB.out]; simp
        · rw [← List.append_assoc, ← HM.out]; exact hr2
      case measure => simp [intOf]; omega
    · have h128i : ¬ (128 : Int) ≤ y := by omega
      obtain ⟨b, hb⟩ : ∃ b : UInt8, b = y.toUInt8 := ⟨_, rfl⟩
      have hbn : Hid ((b.toNat : Int) = (y : Int)) := by show _ = _; rw [hb, Lib.toUInt8_toNat (by omega)]
      have HBB : Hid (b = y.toUInt8) := hb
      clear hb
      go_wp2_with (at_builtin; refine app_one rfl _ _ rfl M _ _ rfl hr1 _ rfl b hbn.out.symm R1.out R2.out ?_; intro ao2 cap2 w2 hr2 hb2 hc2)
      go_ret
      have e : L ++ Lib.uvarint x = M ++ [b] := by rw [HS.out, Lib.uvarint_small (by omega), ← HBB.out, HM.out, List.append_assoc]
      have el : L.length + (Lib.uvarint x).length = M.length + 1 := by have := congrArg List.length e; simpa using this
      exact ⟨ao2, cap2, by rw [el]; rfl, by rw [e]; exact hr2, hnx.trans hb2, hcx.trans hnx.size hc2⟩

end Bt
end Go.Proofs.YtkhoccjfkkfipaaGreatDoor
namespace Go.Proofs.YtkhoccjfkkfipaaGreatDoor
open Go.RowKit
namespace Bt
set_option linter.unusedSimpArgs false
set_option linter.unusedVariables false

theorem iAm (n c : Int) (w : World) : Calls Tryz.prog 113 #[.int .i64 n, .int .i64 c] w fun e w' => e = .returned (.bool (decide (0 ≤ n ∧ n < c))) ∧ w' = w := by
  obtain ⟨R, hR⟩ : ∃ R, R = decide (0 ≤ n ∧ n < c) := ⟨_, rfl⟩
  rw [← hR]
  by_cases h0 : 0 ≤ n
  · by_cases h1 : n < c
    · have H : Hid (R = true) := hR.trans (decide_eq_true ⟨h0, h1⟩)
      clear hR
      go_enter Tryz.func113, Tryz.ntmps113
      go_wp2_with fail
      go_ret
      exact ⟨by rw [H.out]; simp, rfl⟩
    · have H : Hid (R = false) := hR.trans (decide_eq_false fun h => h1 h.2)
      have e1 : decide (n < c) = false := decide_eq_false h1
      clear hR
      go_enter Tryz.func113, Tryz.ntmps113
      go_wp2_with fail
      go_ret
      exact ⟨by rw [H.out]; simp, rfl⟩
  · have H : Hid (R = false) := hR.trans (decide_eq_false fun h => h0 h.1)
    have e1 : decide (0 ≤ n) = false := decide_eq_false h0
    clear hR
    go_enter Tryz.func113, Tryz.ntmps113
    go_wp2_with fail
    go_ret
    exact ⟨by rw [H.out]; simp, rfl⟩

theorem sIn (x lo hi : Int) (w : World) : Calls Tryz.prog 45 #[.int .i64 x, .int .i64 lo, .int .i64 hi] w fun e w' => e = .returned (.bool (decide (lo ≤ x ∧ x ≤ hi))) ∧ w' = w := by
  obtain ⟨R, hR⟩ : ∃ R, R = decide (lo ≤ x ∧ x ≤ hi) := ⟨_, rfl⟩
  rw [← hR]
  by_cases h1 : lo ≤ x
  · by_cases h2 : x ≤ hi
    · have HR : Hid (R = true) := hR.trans (decide_eq_true ⟨h1, h2⟩)
      clear hR
      go_enter Tryz.func45, Tryz.ntmps45
      go_wp2_with fail
      go_ret
      exact ⟨by rw [HR.out]; simp <;> omega, rfl⟩
    · have HR : Hid (R = false) := hR.trans (decide_eq_false fun h => h2 h.2)
      clear hR
      go_enter Tryz.func45, Tryz.ntmps45
      go_wp2_with fail
      go_ret
      exact ⟨by rw [HR.out]; simp <;> omega, rfl⟩
  · have HR : Hid (R = false) := hR.trans (decide_eq_false fun h => h1 h.1)
    clear hR
    go_enter Tryz.func45, Tryz.ntmps45
    go_wp2_with fail
    go_ret
    exact ⟨by rw [HR.out]; rfl, rfl⟩

theorem row_new (w : World) : Row w.heap.size (w.alloc (.cells #[] 5)) (some ⟨w.heap.size, 0, none⟩) 0 [] := World.ownsRow_made w #[] 0 (Nat.le_refl _) (by unfold maxLen; omega) rfl

/-- New bytes V are answered; all that was there is as it was. -/
def Ans (w : World) (V : List UInt8) (e : Ending) (w' : World) : Prop := ∃ ao cap, e = .returned (.slice ao V.length cap) ∧ Row w.heap.size w' ao cap V ∧ Below w.heap.size w w'

theorem putV_of {x : Nat} (h : x ≤ 4611686018427387903) : putV (x : Int) = Lib.uvarint x := by unfold putV; rw [if_pos (by omega)]; simp
theorem putV_len (n : Int) : (putV n).length ≤ 10 := by
  unfold putV
  split
  · exact uv_len (by omega)
  · simp
theorem putI_len (n : Int) : (putI n).length ≤ 10 := by
  unfold putI
  split
  · split <;> exact putV_len _
  · simp

theorem iPutI {B : Nat} {n : Int} {L : List UInt8} {ao : Option Addr} {cap : Nat} {w : World} (hr : Row B w ao cap L) (h1 : -2305843009213693951 ≤ n) (h2 : n ≤ 2305843009213693951) (room : L.length + 10 ≤ 1099511627776) (hB : B ≤ w.heap.size) :
    Calls Tryz.prog 57 #[.slice ao L.length cap, .int .i64 n] w fun e w' => ∃ ao' cap', e = .returned (.slice ao' (L ++ putI n).length cap') ∧ Row B w' ao' cap' (L ++ putI n) ∧ Below B w w' ∧ Ch w w' := by
  by_cases hn : n < 0
  · obtain ⟨x, hx⟩ : ∃ x : Nat, x = (-2 * n - 1).toNat := ⟨_, rfl⟩
    have hx1 : -2 * n - 1 = (x : Int) := by omega
    have hP : Hid (Lib.uvarint x = putI n) := by
      show _ = _
      unfold putI
      rw [if_pos ⟨h1, h2⟩, if_pos hn, hx1, putV_of (by omega)]
    have call := iPutN (x := x) hr (by omega) room hB
    clear hr room hx
    go_enter Tryz.func57, Tryz.ntmps57
    go_wp2_with (go_at_call 32; refine call.mono ?_; rintro e w2 ⟨ao2, cap2, rfl, hr2, hb2, hc2⟩)
    go_ret
    rw [← hP.out]
    exact ⟨ao2, cap2, by simp, hr2, hb2, hc2⟩
  · obtain ⟨x, hx⟩ : ∃ x : Nat, x = (2 * n).toNat := ⟨_, rfl⟩
    have hx1 : 2 * n = (x : Int) := by omega
    have hP : Hid (Lib.uvarint x = putI n) := by
      show _ = _
      unfold putI
      rw [if_pos ⟨h1, h2⟩, if_neg hn, hx1, putV_of (by omega)]
    have call := iPutN (x := x) hr (by omega) room hB
    clear hr room hx
    go_enter Tryz.func57, Tryz.ntmps57
    go_wp2_with (go_at_call 32; refine call.mono ?_; rintro e w2 ⟨ao2, cap2, rfl, hr2, hb2, hc2⟩)
    go_ret
    rw [← hP.out]
    exact ⟨ao2, cap2, by simp, hr2, hb2, hc2⟩

theorem iPutS {B : Nat} {s : ByteArray} {L : List UInt8} {ao : Option Addr} {cap : Nat} {w : World} (hr : Row B w ao cap L) (hs : s.size ≤ 1048576) (room : L.length + 1048600 ≤ 1099511627776) (hB : B ≤ w.heap.size) :
    Calls Tryz.prog 33 #[.slice ao L.length cap, .string s] w fun e w' => ∃ ao' cap', e = .returned (.slice ao' (L ++ putT s.data.toList).length cap') ∧ Row B w' ao' cap' (L ++ putT s.data.toList) ∧ Below B w w' ∧ Ch w w' := by
  have call := iPutN (x := s.size) hr (by omega) (by omega) hB
  have hP : Hid (L ++ Lib.uvarint s.size ++ s.data.toList = L ++ putT s.data.toList) := by
    show _ = _
    unfold putT
    have e : s.data.toList.length = s.size := rfl
    rw [e, putV_of (by omega), List.append_assoc]
  have R1 : Hid ((L ++ Lib.uvarint s.size).length + s.size ≤ 1099511627776) := by
    have := uv_len (x := s.size) (by omega)
    show _ ≤ _
    rw [List.length_append]
    omega
  have HB : Hid (B ≤ w.heap.size) := hB
  have bs : (s.size : Int) ≤ 1048576 := by omega
  obtain ⟨M, hM⟩ : ∃ M, M = L ++ Lib.uvarint s.size := ⟨_, rfl⟩
  rw [← hM] at call hP R1
  clear hr room hB hs hM
  go_enter Tryz.func33, Tryz.ntmps33
  go_wp2_with (first | (go_at_call 32; refine call.mono ?_; rintro e w2 ⟨ao2, cap2, rfl, hr2, hb2, hc2⟩) | (at_builtin; refine app_str rfl _ _ rfl _ _ _ rfl hr2 s rfl R1.out (Nat.le_trans HB.out hb2.size) ?_; intro ao3 cap3 w3 hr3 hb3 hc3))
  go_ret
  have el := congrArg List.length hP.out
  simp only [List.length_append] at el
  rw [hP.out] at hr3
  refine ⟨ao3, cap3, ?_, hr3, hb2.trans hb3, hc2.trans hb2.size hc3⟩
  simp only [List.length_append]
  rw [← el]
  rfl

set_option maxHeartbeats 1000000 in
set_option maxRecDepth 100000 in
theorem sPutNum (n : Int) (w : World) : Calls Tryz.prog 48 #[.int .i64 n] w (Ans w (putV n)) := by
  have hB : w.heap.size ≤ w.heap.size := Nat.le_refl _
  by_cases hn : 0 ≤ n ∧ n ≤ 4611686018427387903
  · obtain ⟨x, rfl⟩ : ∃ x : Nat, n = (x : Int) := ⟨n.toNat, by omega⟩
    have hx : x ≤ 4611686018427387903 := by omega
    rw [putV_of hx]
    have HL : Hid ((Lib.uvarint x).length ≤ 10) := uv_len (by omega)
    have d0 : (0 : Int) ≤ x := by omega
    have d1 : (x : Int) ≤ 4611686018427387903 := by omega
    have call := sIn (x : Int) 0 4611686018427387903
    rw [decide_eq_true hn] at call
    clear hn
    have h0 := row_new w
    go_enter Tryz.func48, Tryz.ntmps48
    go_wp2_with (go_at_call 45; refine (call _).mono ?_; rintro e w2 ⟨rfl, hw⟩; have hw := hw.symm; subst hw)
    clear call
    go_loopw [3, 0] (fun vb vx wr => ∃ (y : Nat) (pre : List UInt8) (ao : Option Addr) (cap : Nat), vb = .slice ao pre.length cap ∧ vx = .int .i64 y ∧ y ≤ x ∧ Lib.uvarint x = pre ++ Lib.uvarint y ∧ Row w.heap.size wr ao cap pre ∧ Below w.heap.size w wr) (fun _ vx _ => (intOf vx).toNat)
    case atStart => exact ⟨x, [], some ⟨w.heap.size, 0, none⟩, 0, rfl, rfl, Nat.le_refl _, rfl, h0, (Below.refl _ w).alloc (Nat.le_refl _) _⟩
    case round =>
      clear h0
      obtain ⟨y, pre, ao, cap, rfl, rfl, hy, hsplit, hr1, hnx⟩ := hrel
      have HS : Hid (Lib.uvarint x = pre ++ Lib.uvarint y) := hsplit
      have R1 : Hid (pre.length + 1 ≤ 1099511627776) := by
        have h1 := HL.out
        have h3 := Lib.uvarint_pos y
        rw [hsplit, List.length_append] at h1
        show _ ≤ _
        omega
      have R2 : Hid (w.heap.size ≤ wr.heap.size) := hnx.size
      have hy2 : (y : Int) ≤ 4611686018427387903 := by omega
      clear hsplit
      by_cases h128 : 128 ≤ y
      · have h128i : (127 : Int) < y := by omega
        obtain ⟨b, hb⟩ : ∃ b : UInt8, b = (y % 128 + 128).toUInt8 := ⟨_, rfl⟩
        have hbn : Hid ((b.toNat : Int) = (y : Int) % 128 + 128) := by show _ = _; rw [hb, Lib.toUInt8_toNat (by omega)]; omega
        have HBB : Hid (b = (y % 128 + 128).toUInt8) := hb
        clear hb
        go_wp2_with (at_builtin; refine app_one rfl _ _ rfl pre _ _ rfl hr1 _ rfl b hbn.out.symm R1.out R2.out ?_; intro ao2 cap2 w2 hr2 hb2 _)
        go_roundw
        case rel =>
          refine ⟨y / 128, pre ++ [b], ao2, cap2, ?_, by go_num, by omega, ?_, hr2, hnx.trans hb2⟩
          · congr 1; simp only [List.length_append, List.length_singleton]
          · rw [HS.out, Lib.uvarint_big h128, HBB.out]; simp
        case measure => simp [intOf]; omega
      · have h128i : ¬ (127 : Int) < y := by omega
        obtain ⟨b, hb⟩ : ∃ b : UInt8, b = y.toUInt8 := ⟨_, rfl⟩
        have hbn : Hid ((b.toNat : Int) = (y : Int)) := by show _ = _; rw [hb, Lib.toUInt8_toNat (by omega)]
        have HBB : Hid (b = y.toUInt8) := hb
        clear hb
        go_wp2_with (at_builtin; refine app_one rfl _ _ rfl pre _ _ rfl hr1 _ rfl b hbn.out.symm R1.out R2.out ?_; intro ao2 cap2 w2 hr2 hb2 _)
        go_ret
        have e : Lib.uvarint x = pre ++ [b] := by rw [HS.out, Lib.uvarint_small (by omega), ← HBB.out]
        have el : (Lib.uvarint x).length = pre.length + 1 := by have := congrArg List.length e; simpa using this
        exact ⟨ao2, cap2, by rw [el]; rfl, by rw [e]; exact hr2, hnx.trans hb2⟩
  · have HV : Hid (putV n = []) := by show _ = _; unfold putV; rw [if_neg hn]
    have call := sIn n 0 4611686018427387903
    rw [decide_eq_false hn] at call
    clear hn
    have h0 := row_new w
    go_enter Tryz.func48, Tryz.ntmps48
    go_wp2_with (go_at_call 45; refine (call _).mono ?_; rintro e w2 ⟨rfl, hw⟩; have hw := hw.symm; subst hw)
    go_ret
    rw [HV.out]
    exact ⟨_, _, rfl, h0, (Below.refl _ w).alloc (Nat.le_refl _) _⟩

set_option maxRecDepth 100000 in
theorem sPutInt (n : Int) (w : World) : Calls Tryz.prog 71 #[.int .i64 n] w (Ans w (putI n)) := by
  have call := sIn n (-2305843009213693951) 2305843009213693951
  by_cases hn : -2305843009213693951 ≤ n ∧ n ≤ 2305843009213693951
  · rw [decide_eq_true hn] at call
    have d0 : (-2305843009213693951 : Int) ≤ n := hn.1
    have d1 : (n : Int) ≤ 2305843009213693951 := hn.2
    by_cases hneg : n < 0
    · have HV : Hid (putV (-2 * n - 1) = putI n) := by show _ = _; unfold putI; rw [if_pos hn, if_pos hneg]
      have cp := sPutNum (-2 * n - 1) w
      clear hn
      go_enter Tryz.func71, Tryz.ntmps71
      go_wp2_with (first | (go_at_call 45; refine (call _).mono ?_; rintro e w2 ⟨rfl, hw⟩; have hw := hw.symm; subst hw) | (go_at_call 48; refine cp.mono ?_; rintro e w2 ⟨ao2, cap2, rfl, hr2, hb2⟩))
      go_ret
      rw [← HV.out]
      exact ⟨ao2, cap2, rfl, hr2, hb2⟩
    · have HV : Hid (putV (2 * n) = putI n) := by show _ = _; unfold putI; rw [if_pos hn, if_neg hneg]
      have cp := sPutNum (2 * n) w
      clear hn
      go_enter Tryz.func71, Tryz.ntmps71
      go_wp2_with (first | (go_at_call 45; refine (call _).mono ?_; rintro e w2 ⟨rfl, hw⟩; have hw := hw.symm; subst hw) | (go_at_call 48; refine cp.mono ?_; rintro e w2 ⟨ao2, cap2, rfl, hr2, hb2⟩))
      go_ret
      rw [← HV.out]
      exact ⟨ao2, cap2, rfl, hr2, hb2⟩
  · rw [decide_eq_false hn] at call
    have HV : Hid (putI n = []) := by show _ = _; unfold putI; rw [if_neg hn]
    have h0 := row_new w
    clear hn
    go_enter Tryz.func71, Tryz.ntmps71
    go_wp2_with (go_at_call 45; refine (call _).mono ?_; rintro e w2 ⟨rfl, hw⟩; have hw := hw.symm; subst hw)
    go_ret
    rw [HV.out]
    exact ⟨_, _, rfl, h0, (Below.refl _ w).alloc (Nat.le_refl _) _⟩

theorem str_rd {w : World} {s : ByteArray} {cap n m : Nat} : Rd (w.alloc (.cells (bytesRow s cap) 5 (n, m))) (some ⟨w.heap.size, 0, none⟩) s.data.toList := fun i x hi => by
  have hil := (List.getElem?_eq_some_iff.1 hi).1
  refine ⟨_, 0, rfl, by simp, ?_⟩
  have h0 : (w.alloc (.cells (bytesRow s cap) 5 (n, m))).heap[w.heap.size]? = some (.cells (bytesRow s cap) 5 (n, m)) := heap_alloc_new w _
  rw [Nat.zero_add, cell_of_row _ _ i _ _ _ h0, bytesRow_at s cap i (by simpa using hil)]
  have : s.data[i]'(by simpa using hil) = x := by
    have := (List.getElem?_eq_some_iff.1 hi).2
    simpa using this
  rw [this]

set_option maxRecDepth 100000 in
theorem sPutText (s : ByteArray) (hs : s.size ≤ 1048576) (w : World) : Calls Tryz.prog 50 #[.string s] w (Ans w (putT s.data.toList)) := by
  have cp := sPutNum (s.size : Int) w
  have hcv := fun w => run_bytes_of_string (P := Tryz.prog) w 9 35 5 s Tryz.underlying9 Tryz.underlying35 Tryz.underlying5
  have hP : Hid (putV (s.size : Int) ++ s.data.toList = putT s.data.toList) := rfl
  have R1 : Hid ((putV (s.size : Int)).length + s.data.toList.length ≤ 1099511627776) := by
    have := putV_len (s.size : Int)
    have e : s.data.toList.length = s.size := rfl
    show _ ≤ _
    omega
  have bs : (s.size : Int) ≤ 1048576 := by omega
  clear hs
  go_enter Tryz.func50, Tryz.ntmps50
  go_wp2_with (first | (go_at_call 48; refine cp.mono ?_; rintro e w2 ⟨ao2, cap2, rfl, hr2, hb2⟩) | (at_builtin; refine app_row rfl _ _ rfl _ _ _ rfl (Row.alloc (w := w2.drew) hr2 _) s.data.toList _ _ rfl str_rd R1.out (Nat.le_trans hb2.size (by simp)) ?_; intro ao3 cap3 w3 hr3 hb3 _))
  go_ret
  rw [hP.out] at hr3 
  have el := congrArg List.length hP.out
  simp only [List.length_append] at el
  have hd : Below w.heap.size w w2.drew := ⟨hb2.os, hb2.tape, hb2.output, hb2.size, hb2.block⟩
  refine ⟨ao3, cap3, ?_, hr3, (hd.alloc hb2.size _).trans hb3⟩
  rw [← el]
  simp

end Bt
end Go.Proofs.YtkhoccjfkkfipaaGreatDoor
