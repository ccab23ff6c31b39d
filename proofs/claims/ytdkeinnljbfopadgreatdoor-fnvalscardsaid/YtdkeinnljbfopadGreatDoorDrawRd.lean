/-
  The draw of a text to be read: DrawRead.
-/
import Derived.Test.YtdkeinnljbfopadGreatDoorDrawCmp
namespace Go.Proofs.YtdkeinnljbfopadGreatDoor
open Go.RowKit Go.Extern
set_option linter.unusedVariables false

def strLen : Value → Nat
  | .string s => s.size
  | _ => 0

set_option maxHeartbeats 1000000 in
set_option maxRecDepth 100000 in
theorem vDrawRead (sa : Option Addr) (len cap B : Nat) (w : World) (hB : B ≤ w.heap.size) (hl : len ≤ 1048576) (hy : Bytes B w sa len) :
    Calls Tryz.prog 39 #[.slice sa len cap] w fun e w' => ∃ s : ByteArray, e = .returned (.string s) ∧ (s.size : Int) ≤ 301 ∧ Below B w w' := by
  have hn := new_any sa len cap B w hB hl hy
  clear hy
  go_enter Tryz.func39, Tryz.ntmps39
  go_upto_region 3 with (first | (go_at_call 42; refine hn.mono ?_; rintro e w1 ⟨rfl, hb, hC⟩) | (go_at_call 65; refine (drawText B w.heap.size _ hC).mono ?_; rintro e w2 ⟨s, rfl, hs, ho, hC2⟩))
  have hb2 : Below B w w2 := (hb.mono hB).trans (ho.below hB (Nat.le_trans hB hb.size))
  have hz2 : B ≤ w2.heap.size := Nat.le_trans hB (Nat.le_trans hb.size ho.size)
  clear hn hb hC ho
  go_wp2_with (go_at_call 70; refine (once_small B w.heap.size 30 _ hC2 (by decide) (by decide)).mono ?_; rintro e w3 ⟨b, rfl, ho3, hC3⟩)
  · rename_i hbt
    subst hbt
    go_loopw [4] (fun v wr => ∃ s : ByteArray, v = .string s ∧ (s.size : Int) ≤ 301 ∧ Below B w wr ∧ B ≤ wr.heap.size ∧ Cur B w.heap.size wr) (fun v _ => 302 - strLen v)
    case atStart => exact ⟨s, rfl, by omega, hb2.trans (ho3.below hB hz2), Nat.le_trans hz2 ho3.size, hC3⟩
    case round =>
      obtain ⟨t, rfl, ht, hbr, hzr, hCr⟩ := hrel
      clear hb2 hz2 hC2 ho3 hC3
      go_upto_region 5 with (go_at_call 45; refine (below_small B w.heap.size 2 _ hCr (by decide) (by decide)).mono ?_; rintro e w4 ⟨x, rfl, hx0, hx1, ho4, hC4⟩)
      · rename_i hlt
        have hcat : (t ++ (⟨#[49]⟩ : ByteArray)).size = t.size + 1 := by rw [ByteArray.size_append]; rfl
        go_wp2_with fail
        go_roundw
        case rel => exact ⟨_, rfl, by omega, hbr.trans (ho4.below hB hzr), Nat.le_trans hzr ho4.size, hC4⟩
        case measure =>
          show 302 - (t ++ (⟨#[49]⟩ : ByteArray)).size < 302 - t.size
          omega
      · go_ret
        exact ⟨t, rfl, ht, hbr.trans (ho4.below hB hzr)⟩
  · go_ret
    exact ⟨s, rfl, by omega, hb2.trans (ho3.below hB hz2)⟩
end Go.Proofs.YtdkeinnljbfopadGreatDoor
