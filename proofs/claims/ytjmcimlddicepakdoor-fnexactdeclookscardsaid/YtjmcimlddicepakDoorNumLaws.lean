/-
  The walks of the laws FnExactDecFront and FnExactDecLooks.
-/
import Derived.Test.YtjmcimlddicepakDoorNumWorth
import Derived.Test.YtjmcimlddicepakDoorNumSpecEnd
namespace Go.Proofs.YtjmcimlddicepakDoor
open Go.RowKit Go.Extern.Stop Go.Stop Go.Extern

theorem lawFront (s : ByteArray) (a : Addr) (w : World) (hc : w.cell? ⟨0, 0, none⟩ = some (.iface 121 (.pointer (some a)))) (hs : s.size ≤ maxLen) :
    Calls Tryd.prog 4 #[.string s] w fun e w' => e = .returned (.bool true) ∧ Below w.heap.size w w' := by
  by_cases hl : (1048576 : Int) < (s.size : Int)
  · go_enter Tryd.func4, Tryd.ntmps4
    go_wp2
    go_ret
    exact ⟨rfl, Below.refl _ _⟩
  · have hi := iDecFront s a w hc hs
    have hsp := sDecFront s w (by omega)
    clear hs
    generalize Num.frontV s.data.toList = V at *
    generalize Num.frontN s.data.toList = n at *
    go_enter Tryd.func4, Tryd.ntmps4
    go_wp2_with (first | (go_at_call 8; refine hsp.mono ?_; rintro e w' ⟨rfl, hw⟩; have hw := hw.symm; subst hw) | (go_at_call 9; refine hi.mono ?_; rintro e w' ⟨rfl, hb⟩))
    go_ret
    exact ⟨rfl, hb⟩
theorem lawLooks (s : ByteArray) (a : Addr) (w : World) (hc : w.cell? ⟨0, 0, none⟩ = some (.iface 121 (.pointer (some a)))) (hs : s.size ≤ maxLen) :
    Calls Tryd.prog 5 #[.string s] w fun e w' => e = .returned (.bool true) ∧ Below w.heap.size w w' := by
  by_cases hl : (1048576 : Int) < (s.size : Int)
  · go_enter Tryd.func5, Tryd.ntmps5
    go_wp2
    go_ret
    exact ⟨rfl, Below.refl _ _⟩
  · have hi := iDecLooks s a w hc hs
    have hsp := sDecLooks s w (by omega)
    clear hs
    generalize Num.looksV s.data.toList = V at *
    generalize Num.looksB s.data.toList = n at *
    go_enter Tryd.func5, Tryd.ntmps5
    go_wp2_with (first | (go_at_call 10; refine hsp.mono ?_; rintro e w' ⟨rfl, hw⟩; have hw := hw.symm; subst hw) | (go_at_call 11; refine hi.mono ?_; rintro e w' ⟨rfl, hb⟩))
    go_ret
    exact ⟨rfl, hb⟩
end Go.Proofs.YtjmcimlddicepakDoor
