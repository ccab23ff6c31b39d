/-
  Rows of bytes at the front of a text: rowOf, blanksOf, digitsOf.
-/
import Derived.Test.YtildabobkilkjaaDoorDecBase
import Derived.Test.YtildabobkilkjaaDoorNumSpec
import Derived.Laws.RangeString
import Derived.Laws.RangeAny
import Derived.LoopTactic
namespace Go.Proofs.YtildabobkilkjaaDoor
open Go.RowKit Go.Extern.Stop Go.Stop Go.Extern

theorem low_of {b : UInt8} {lo hi : Nat} (h : (decide (lo ≤ b.toNat) && decide (b.toNat ≤ hi)) = true) : lo ≤ b.toNat ∧ b.toNat ≤ hi := by simpa using h
theorem get_l {s : ByteArray} {k : Nat} (h : k < s.size) : s.data.toList[k]'(by simpa using h) = s[k] := rfl
theorem below_iter (w : World) (s : ByteArray) (pos : Nat) : Below w.heap.size w (w.iter s pos) := (Below.refl _ w).alloc (Nat.le_refl _) _

theorem ret_nat {a b : Nat} (h : a = b) : Ending.returned (.int .i64 (a : Int)) = .returned (.int .i64 (b : Int)) := by rw [h]

set_option maxRecDepth 1000000 in
theorem iRowOf (s : ByteArray) (lo hi : Nat) (p : UInt8 → Bool) (hp : ∀ b, p b = (decide (lo ≤ b.toNat) && decide (b.toNat ≤ hi))) (hhi : (hi : Int) < 128) (w : World) :
    Calls Tryd.prog 50 #[.string s, .int .i32 lo, .int .i32 hi] w fun e w' => e = .returned (.int .i64 (Num.rowFrom p s.data.toList 0)) ∧ Below w.heap.size w w' := by
  have hlen : s.data.toList.length = s.size := by simp
  go_enter Tryd.func50, Tryd.ntmps50
  go_wp2
  go_loopw [] (fun w' => ∃ pos : Nat, w' = w.iter s pos ∧ pos ≤ s.size ∧ pos + Num.rowFrom p s.data.toList pos = Num.rowFrom p s.data.toList 0) (fun w' => s.size - w'.iterPos w.heap.size)
  case atStart => exact ⟨0, rfl, Nat.zero_le _, by omega⟩
  case round =>
    obtain ⟨pos, rfl, hle, hrow⟩ := hrel
    have H : Hid (pos + Num.rowFrom p s.data.toList pos = Num.rowFrom p s.data.toList 0) := hrow
    clear hrow
    by_cases hq : pos < s.size
    · have hnx : ∀ ty, (Instr.next (.pointer (some ⟨w.heap.size, 0, none⟩)) true ty).run Tryd.prog (w.iter s pos) = _ := fun ty => run_next_any w s pos ty hq
      by_cases hb : p s[pos] = true
      · obtain ⟨b1, b2⟩ := low_of ((hp _).symm.trans hb)
        have hd := decode_ascii s pos hq (by omega)
        rw [hd] at hnx
        have b1' : (lo : Int) ≤ (s[pos].toNat : Int) := by omega
        have b2' : (s[pos].toNat : Int) ≤ (hi : Int) := by omega
        have HS := Num.row_step (p := p) (l := s.data.toList) (k := pos) (by omega) hb
        have H2 : Hid (Num.rowFrom p s.data.toList pos = Num.rowFrom p s.data.toList (pos + 1) + 1) := HS
        clear HS hd hb b1 b2
        go_wp2
        go_roundw
        case rel => exact ⟨pos + 1, rfl, by omega, by have := H.out; have := H2.out; omega⟩
        case measure => simp; omega
      · have hb' : p s[pos] = false := by simpa using hb
        have H2 : Hid (Num.rowFrom p s.data.toList pos = 0) := Num.row_stop (by omega) hb'
        have hr : ((Utf8.decode s pos).1 : Int) < lo ∨ (hi : Int) < ((Utf8.decode s pos).1 : Int) := by
          rcases Nat.lt_or_ge s[pos].toNat 128 with hl | hl
          · rw [decode_ascii s pos hq hl]
            have : ¬ (lo ≤ s[pos].toNat ∧ s[pos].toNat ≤ hi) := fun hh => by
              rw [hp] at hb'; simp [hh.1, hh.2] at hb'
            show (s[pos].toNat : Int) < lo ∨ (hi : Int) < (s[pos].toNat : Int)
            omega
          · have := (decode_high s pos hq hl).1
            omega
        have e : Hid (Num.rowFrom p s.data.toList 0 = pos) := by have := H.out; have := H2.out; show _ = _; omega
        clear hb hb'
        generalize (Utf8.decode s pos).1 = r at *
        have hge : ¬ (r : Int) < lo → (hi : Int) < r := fun h => by omega
        by_cases h1 : (r : Int) < lo
        · go_wp2
          go_ret
          exact ⟨ret_nat e.out.symm, below_iter _ _ _⟩
        · have h2 := hge h1
          clear hr hge
          go_wp2
          go_ret
          exact ⟨ret_nat e.out.symm, below_iter _ _ _⟩
    · have hnx : ∀ ty, (Instr.next (.pointer (some ⟨w.heap.size, 0, none⟩)) true ty).run Tryd.prog (w.iter s pos) = _ := fun ty => run_next_end w s pos ty hq
      have e : Hid (Num.rowFrom p s.data.toList 0 = s.size) := by
        have := H.out; have := Num.row_end p (l := s.data.toList) (k := pos) (by omega); show _ = _; omega
      go_wp2
      go_ret
      exact ⟨ret_nat e.out.symm, below_iter _ _ _⟩

theorem iBlanksOf (s : ByteArray) (w : World) :
    Calls Tryd.prog 43 #[.string s] w fun e w' => e = .returned (.int .i64 (Num.rowFrom Num.blank s.data.toList 0)) ∧ Below w.heap.size w w' := by
  have hp : ∀ b : UInt8, Num.blank b = (decide (32 ≤ b.toNat) && decide (b.toNat ≤ 32)) := by
    intro b
    by_cases h : b = 32
    · subst h; rfl
    · have hn : b.toNat ≠ 32 := fun e => h (UInt8.toNat_inj.mp e)
      have e1 : Num.blank b = false := by simp [Num.blank, h]
      rw [e1]; symm; simp; omega
  have hr := fun w => iRowOf s 32 32 Num.blank hp (by decide) w
  go_enter Tryd.func43, Tryd.ntmps43
  go_wp2_with (go_at_call 50; refine (hr _).mono ?_; rintro e w' ⟨rfl, hb⟩)
  go_ret
  exact ⟨rfl, hb⟩
theorem iDigitsOf (s : ByteArray) (w : World) :
    Calls Tryd.prog 58 #[.string s] w fun e w' => e = .returned (.int .i64 (Num.rowFrom Num.digB s.data.toList 0)) ∧ Below w.heap.size w w' := by
  have hr := fun w => iRowOf s 48 57 Num.digB (fun _ => rfl) (by decide) w
  go_enter Tryd.func58, Tryd.ntmps58
  go_wp2_with (go_at_call 50; refine (hr _).mono ?_; rintro e w' ⟨rfl, hb⟩)
  go_ret
  exact ⟨rfl, hb⟩
end Go.Proofs.YtildabobkilkjaaDoor
