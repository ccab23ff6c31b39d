/-
  Rows of bytes that a call owns: what is appended to them; numbers and texts that are put there, the program's.
-/
import Derived.Test.YtmhmoopijfhhbaaProg
import Derived.Test.YtmhmoopijfhhbaaBtMath
import Derived.WalkKit
import Derived.WalkLawsBesides
import Derived.Deep.QuietTactic
import Derived.BigQuiet
import Derived.Laws.AppendOwn
import Derived.Laws.IdiomStrings
import Derived.Below
import Derived.OwnWalk
import Derived.Lib.AppendStr
import Derived.Deep.OwnRows
namespace Go.Proofs.Ytmhmoopijfhhbaa
open Go.RowKit
namespace Bt
set_option linter.unusedSimpArgs false
set_option linter.unusedVariables false

theorem hold {p : Prop} (h : Hid p) : p := h
theorem Try.infoByte : (Try.prog.info? 5).map (fun i => (i.zero, i.size, i.bytes)) = some (some (.int .u8 0), 1, 1) := by kernel_rfl

/-- Bytes that the call owns, in blocks from B on. -/
def Row (B : Nat) (w : World) (ao : Option Addr) (cap : Nat) (L : List UInt8) : Prop := w.ownsRow B 5 1 (.slice ao L.length cap) L.length (Lib.byteCells L)

theorem Row.nil (B : Nat) (w : World) : Row B w none 0 [] := World.ownsRow_nil w B _ _
theorem Row.lt {B : Nat} {w : World} {ao : Option Addr} {cap : Nat} {L : List UInt8} (h : Row B w ao cap L) {a : Addr} (ha : ao = some a) : B ≤ a.block ∧ a.block < w.heap.size := World.ownsRow.lt h a.block (by rw [ha]; rfl)
theorem Row.same {B : Nat} {w w' : World} {ao : Option Addr} {cap : Nat} {L : List UInt8} (h : Row B w ao cap L) (hb : ∀ a, ao = some a → w'.heap[a.block]? = w.heap[a.block]?) : Row B w' ao cap L := by
  obtain ⟨h1, h2⟩ := h
  refine ⟨h1, ?_⟩
  rcases h2 with h2 | ⟨g, c, cur, e, hg, hh, h3⟩
  · exact .inl h2
  · simp only [Value.slice.injEq] at e
    obtain ⟨rfl, _, rfl⟩ := e
    exact .inr ⟨g, cap, cur, rfl, hg, (hb _ rfl).trans hh, h3⟩
theorem Row.below {B C : Nat} {w w' : World} {ao : Option Addr} {cap : Nat} {L : List UInt8} (h : Row B w ao cap L) (hb : Below C w w') (hC : w.heap.size ≤ C) : Row B w' ao cap L :=
  h.same fun a ha => hb.block _ (by have := (h.lt ha).2; omega)
theorem Row.mono {B C : Nat} {w : World} {ao : Option Addr} {cap : Nat} {L : List UInt8} (h : Row B w ao cap L) (hC : C ≤ B) : Row C w ao cap L := by
  obtain ⟨h1, h2⟩ := h
  refine ⟨h1, ?_⟩
  rcases h2 with h2 | ⟨g, c, cur, e, hg, h3⟩
  · exact .inl h2
  · exact .inr ⟨g, c, cur, e, by omega, h3⟩
theorem Row.alloc {B : Nat} {w : World} {ao : Option Addr} {cap : Nat} {L : List UInt8} (h : Row B w ao cap L) (o : Obj) : Row B (w.alloc o) ao cap L := World.ownsRow.alloc h o

theorem own_form {B n : Nat} {w : World} {v : Value} {xs : List Value} (h : w.ownsRow B 5 1 v n xs) : ∃ ao cap, v = .slice ao n cap := by
  rcases h.2 with ⟨rfl, hn⟩ | ⟨g, cap, cur, rfl, _⟩
  · rw [hn]; exact ⟨_, _, rfl⟩
  · exact ⟨_, _, rfl⟩

/-- Bytes that can be read at the head of a block. -/
def Rd (w : World) (ao : Option Addr) (L : List UInt8) : Prop := ∀ i x, L[i]? = some x → ∃ b o, ao = some ⟨b, o, none⟩ ∧ b < w.heap.size ∧ w.cell? ⟨b, o + i, none⟩ = some (.int .u8 (x.toNat : Int))
theorem Rd.same {w w' : World} {ao : Option Addr} {L : List UInt8} (h : Rd w ao L) (hs : w.heap.size ≤ w'.heap.size) (hb : ∀ a, ao = some a → a.block < w.heap.size → w'.heap[a.block]? = w.heap[a.block]?) : Rd w' ao L := fun i x hi => by
  obtain ⟨b, o, e, hl, hc⟩ := h i x hi
  exact ⟨b, o, e, by omega, (World.cell?_of_block (a := ⟨b, o + i, none⟩) (show w'.heap[b]? = w.heap[b]? from hb ⟨b, o, none⟩ e hl)).trans hc⟩
theorem Rd.below {C : Nat} {w w' : World} {ao : Option Addr} {L : List UInt8} (h : Rd w ao L) (hb : Below C w w') (hC : w.heap.size ≤ C) : Rd w' ao L := h.same hb.size fun a _ hl => hb.block _ (by omega)
theorem Row.rd {B : Nat} {w : World} {ao : Option Addr} {cap : Nat} {L : List UInt8} (h : Row B w ao cap L) : Rd w ao L := fun i x hi => by
  have hi2 := (List.getElem?_eq_some_iff.1 hi).1
  rcases h.2 with ⟨_, h0⟩ | ⟨g, c, cur, e, hg, hh, _⟩
  · omega
  · simp only [Value.slice.injEq] at e
    obtain ⟨rfl, _, rfl⟩ := e
    refine ⟨g, 0, rfl, (h.lt rfl).2, ?_⟩
    rw [Nat.zero_add]
    have h2 : w.ownsRow B 5 1 (.slice (some ⟨g, 0, none⟩) L.length cap) L.length (Lib.byteCells L) := h
    rw [h2.cellAt i (by omega)]
    simp [Lib.byteCells, hi]

/-- One byte behind, out of a row of one that has just been made. -/
theorem app_one {w : World} {B : Nat} {ops : Array Oper} {rest : List Oper} {o : Oper} {a : Act} {Q : Exit → Act → World → Prop} (hgd : o.guard = none) (x y : Operand) (ho : o.op = .call { callee := .builtin .append, args := #[x, y], argTypes := #[22, 22] })
    (L : List UInt8) (ao : Option Addr) (cap : Nat) (hx : a.eval x = .slice ao L.length cap) (hown : Row B w ao cap L) (v : Int) (hy : a.eval y = .slice (some ⟨w.heap.size, 0, none⟩) 1 1) (b : UInt8) (hv : v = b.toNat)
    (room : L.length + 1 ≤ 1099511627776) (hB : B ≤ w.heap.size)
    (h : ∀ ao' cap' w', Row B w' ao' cap' (L ++ [b]) → Below B w w' → wpList Try.prog ops Q rest (a.put o.dst (.slice ao' (L ++ [b]).length cap')) w') : wpList Try.prog ops Q (o :: rest) a (w.alloc (.cells #[.int .u8 v] 5)) := by
  subst hv
  have hB2 : B ≤ (w.alloc (.cells #[.int .u8 (b.toNat : Int)] 5)).heap.size := by simp; omega
  have hown2 : Row B (w.alloc (.cells #[.int .u8 (b.toNat : Int)] 5)) ao cap L := hown.alloc _
  obtain ⟨i0, hi0, hz0, hz1, hz2⟩ := info_parts Try.infoByte
  refine wpList_append_own _ hgd x y 22 ho B 5 i0 (.int .u8 0) 1 1 Try.underlying22 hi0 hz0 hz1 hz2 rfl (by decide) _ L.length (Lib.byteCells L) hx hown2 ⟨w.heap.size, 0, none⟩ 1 1 [.int .u8 (b.toNat : Int)] hy rfl (fun j u hj => ?_) (fun u hu => by simp at hu; subst hu; rfl) (by unfold maxLen; omega) (by omega) hB2 ?_
  · match j with
    | 0 =>
      simp at hj
      subst hj
      simp [Addr.add]
    | j + 1 => simp at hj
  · intro v' w' hown' hgr _
    obtain ⟨ao', cap', rfl⟩ := own_form hown'
    have hl : (L ++ [b]).length = L.length + 1 := by simp
    have hb : Below B (w.alloc (.cells #[.int .u8 (b.toNat : Int)] 5)) w' := Below.grown (Below.refl B _) hgr hB2 fun k hk => (World.ownsRow.lt hown2 k hk).1
    have := h ao' cap' w' (by unfold Row; rw [hl]; unfold Lib.byteCells at hown' ⊢; rw [List.map_append]; exact hown') ((Below.alloc (Below.refl B w) hB _).trans hb)
    rw [hl] at this
    exact this

/-- Bytes behind, out of a block. -/
theorem app_row {w : World} {B : Nat} {ops : Array Oper} {rest : List Oper} {o : Oper} {a : Act} {Q : Exit → Act → World → Prop} (hgd : o.guard = none) (x y : Operand) (ho : o.op = .call { callee := .builtin .append, args := #[x, y], argTypes := #[22, 22] })
    (L : List UInt8) (ao : Option Addr) (cap : Nat) (hx : a.eval x = .slice ao L.length cap) (hown : Row B w ao cap L) (M : List UInt8) (g c : Nat) (hy : a.eval y = .slice (some ⟨g, 0, none⟩) M.length c) (hc : Rd w (some ⟨g, 0, none⟩) M)
    (room : L.length + M.length ≤ 1099511627776) (hB : B ≤ w.heap.size)
    (h : ∀ ao' cap' w', Row B w' ao' cap' (L ++ M) → Below B w w' → wpList Try.prog ops Q rest (a.put o.dst (.slice ao' (L ++ M).length cap')) w') : wpList Try.prog ops Q (o :: rest) a w := by
  obtain ⟨i0, hi0, hz0, hz1, hz2⟩ := info_parts Try.infoByte
  refine wpList_append_own _ hgd x y 22 ho B 5 i0 (.int .u8 0) 1 1 Try.underlying22 hi0 hz0 hz1 hz2 rfl (by decide) _ L.length (Lib.byteCells L) hx hown ⟨g, 0, none⟩ M.length c (Lib.byteCells M) hy (by simp [Lib.byteCells]) (fun j u hj => ?_) (fun u hu => ?_) (by unfold maxLen; omega) (by omega) hB ?_
  · simp only [Lib.byteCells, List.getElem?_map, Option.map_eq_some_iff] at hj
    obtain ⟨b, hb, rfl⟩ := hj
    obtain ⟨g', o', e, _, h1⟩ := hc j b hb
    simp only [Option.some.injEq, Addr.mk.injEq] at e
    obtain ⟨rfl, rfl, _⟩ := e
    have : (⟨g, 0, none⟩ : Addr).add j = ⟨g, 0 + j, none⟩ := by unfold Addr.add; split <;> simp_all
    rw [this]
    exact h1
  · simp only [Lib.byteCells, List.mem_map] at hu
    obtain ⟨b, _, rfl⟩ := hu
    rfl
  · intro v' w' hown' hgr _
    obtain ⟨ao', cap', rfl⟩ := own_form hown'
    have hl : (L ++ M).length = L.length + M.length := by simp
    have := h ao' cap' w' (by unfold Row; rw [hl]; unfold Lib.byteCells at hown' ⊢; rw [List.map_append]; exact hown') (Below.grown (Below.refl B w) hgr hB fun k hk => (World.ownsRow.lt hown k hk).1)
    rw [hl] at this
    exact this

/-- A text's bytes behind. -/
theorem app_str {w : World} {B : Nat} {ops : Array Oper} {rest : List Oper} {o : Oper} {a : Act} {Q : Exit → Act → World → Prop} (hgd : o.guard = none) (x y : Operand) (ho : o.op = .call { callee := .builtin .append, args := #[x, y], argTypes := #[22, 9] })
    (L : List UInt8) (ao : Option Addr) (cap : Nat) (hx : a.eval x = .slice ao L.length cap) (hown : Row B w ao cap L) (s : ByteArray) (hy : a.eval y = .string s)
    (room : L.length + s.size ≤ 1099511627776) (hB : B ≤ w.heap.size)
    (h : ∀ ao' cap' w', Row B w' ao' cap' (L ++ s.data.toList) → Below B w w' → wpList Try.prog ops Q rest (a.put o.dst (.slice ao' (L ++ s.data.toList).length cap')) w') : wpList Try.prog ops Q (o :: rest) a w := by
  obtain ⟨i0, hi0, hz0, hz1, hz2⟩ := info_parts Try.infoByte
  refine Lib.wpList_append_own_string _ hgd x y 22 9 ho B 5 i0 Try.underlying22 Try.underlying9 hi0 hz0 hz1 hz2 _ L.length (Lib.byteCells L) hx hown s hy (by unfold maxLen; omega) (by omega) hB ?_
  intro v' w' hown' hgr _
  obtain ⟨ao', cap', rfl⟩ := own_form hown'
  have hl : (L ++ s.data.toList).length = L.length + s.size := by rw [List.length_append]; rfl
  have := h ao' cap' w' (by unfold Row; rw [hl]; unfold Lib.byteCells Lib.strCells at *; rw [List.map_append]; exact hown') (Below.grown (Below.refl B w) hgr hB fun k hk => (World.ownsRow.lt hown k hk).1)
  rw [hl] at this
  exact this

theorem uv_len {x : Nat} (h : x < 9223372036854775808) : (Lib.uvarint x).length ≤ 10 := Lib.uvarint_length64 (by omega)

set_option maxHeartbeats 1000000 in
set_option maxRecDepth 100000 in
theorem iPutN {B x : Nat} {L : List UInt8} {ao : Option Addr} {cap : Nat} {w : World} (hr : Row B w ao cap L) (hx : x < 9223372036854775808) (room : L.length + 10 ≤ 1099511627776) (hB : B ≤ w.heap.size) :
    Calls Try.prog 26 #[.slice ao L.length cap, .int .i64 x] w fun e w' => ∃ ao' cap', e = .returned (.slice ao' (L ++ Lib.uvarint x).length cap') ∧ Row B w' ao' cap' (L ++ Lib.uvarint x) ∧ Below B w w' := by
  have HL : Hid ((Lib.uvarint x).length ≤ 10) := uv_len hx
  have HR : Hid (L.length + 10 ≤ 1099511627776) := room
  have HB : Hid (B ≤ w.heap.size) := hB
  have hx2 : (x : Int) ≤ 9223372036854775807 := by omega
  clear room hB
  go_enter Try.func26, Try.ntmps26
  go_wp2_with fail
  go_loopw [0, 1] (fun vb vx wr => ∃ (y : Nat) (pre : List UInt8) (ao : Option Addr) (cap : Nat), vb = .slice ao (L ++ pre).length cap ∧ vx = .int .i64 y ∧ y ≤ x ∧ Lib.uvarint x = pre ++ Lib.uvarint y ∧ Row B wr ao cap (L ++ pre) ∧ Below B w wr) (fun _ vx _ => (intOf vx).toNat)
  case atStart => exact ⟨x, [], ao, cap, by simp, rfl, Nat.le_refl _, rfl, by rw [List.append_nil]; exact hr, Below.refl _ _⟩
  case round =>
    clear hr
    obtain ⟨y, pre, ao, cap, rfl, rfl, hy, hsplit, hr1, hnx⟩ := hrel
    have HS : Hid (Lib.uvarint x = pre ++ Lib.uvarint y) := hsplit
    have R1 : Hid ((L ++ pre).length + 1 ≤ 1099511627776) := by
      have h1 := HL.out
      have h2 := HR.out
      have h3 := Lib.uvarint_pos y
      rw [hsplit, List.length_append] at h1
      show _ ≤ _
      rw [List.length_append]
      omega
    have R2 : Hid (B ≤ wr.heap.size) := Nat.le_trans HB.out hnx.size
    have hy2 : (y : Int) ≤ 9223372036854775807 := by omega
    clear hsplit
    obtain ⟨M, hM⟩ : ∃ M, M = L ++ pre := ⟨_, rfl⟩
    have HM : Hid (M = L ++ pre) := hM
    rw [← hM] at hr1 R1 ⊢
    clear hM
    by_cases h128 : 128 ≤ y
    · have h128i : (128 : Int) ≤ y := by omega
      obtain ⟨b, hb⟩ : ∃ b : UInt8, b = (y % 128 + 128).toUInt8 := ⟨_, rfl⟩
      have hbn : Hid ((b.toNat : Int) = (y : Int) % 128 + 128) := by show _ = _; rw [hb, Lib.toUInt8_toNat (by omega)]; omega
      have HBB : Hid (b = (y % 128 + 128).toUInt8) := hb
      clear hb
      go_wp2_with (at_builtin; refine app_one rfl _ _ rfl M _ _ rfl hr1 _ rfl b hbn.out.symm R1.out R2.out ?_; intro ao2 cap2 w2 hr2 hb2)
      go_roundw
      case rel =>
        refine ⟨y / 128, pre ++ [b], ao2, cap2, ?_, by go_num, by omega, ?_, ?_, hnx.trans hb2⟩
        · congr 1; rw [HM.out]; simp only [List.length_append, List.length_singleton]; omega
        · rw [HS.out, Lib.uvarint_big h128, HBB.out]; simp
        · rw [← List.append_assoc, ← HM.out]; exact hr2
      case measure => simp [intOf]; omega
    · have h128i : ¬ (128 : Int) ≤ y := by omega
      obtain ⟨b, hb⟩ : ∃ b : UInt8, b = y.toUInt8 := ⟨_, rfl⟩
      have hbn : Hid ((b.toNat : Int) = (y : Int)) := by show _ = _; rw [hb, Lib.toUInt8_toNat (by omega)]
      have HBB : Hid (b = y.toUInt8) := hb
      clear hb
      go_wp2_with (at_builtin; refine app_one rfl _ _ rfl M _ _ rfl hr1 _ rfl b hbn.out.symm R1.out R2.out ?_; intro ao2 cap2 w2 hr2 hb2)
      go_ret
      have e : L ++ Lib.uvarint x = M ++ [b] := by rw [HS.out, Lib.uvarint_small (by omega), ← HBB.out, HM.out, List.append_assoc]
      have el : L.length + (Lib.uvarint x).length = M.length + 1 := by have := congrArg List.length e; simpa using this
      exact ⟨ao2, cap2, by rw [el]; rfl, by rw [e]; exact hr2, hnx.trans hb2⟩

end Bt
end Go.Proofs.Ytmhmoopijfhhbaa
