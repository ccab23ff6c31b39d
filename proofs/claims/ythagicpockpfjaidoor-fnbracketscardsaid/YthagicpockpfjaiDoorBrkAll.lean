/-
  FnBrackets at all bytes.
-/
import Derived.Test.YthagicpockpfjaiDoorBrkLaw
import Derived.Test.YthagicpockpfjaiDoorRexSpecFace
import Derived.Test.YthagicpockpfjaiDoorRexNfaOf
import Derived.Test.YthagicpockpfjaiDoorRexSetOf
import Derived.Test.YthagicpockpfjaiDoorDrawRex
namespace Go.Proofs.YthagicpockpfjaiDoor
open Go.RowKit
namespace Rx
namespace Bk

theorem brk_big (sa : Option Addr) (len cap : Nat) (w : World) (h : (1048576 : Int) < len) :
    Calls Tryd.prog 3 #[.slice sa len cap] w fun e w' => e = .returned (.bool true) ∧ Below w.heap.size w w' := by
  have e1 : decide ((1048576 : Int) < len) = true := decide_eq_true h
  have e2 : decide (1048576 < len) = true := decide_eq_true (by omega)
  go_enter Tryd.func3, Tryd.ntmps3
  go_wp2_with (first | (go_at_call 4; go_in))
  all_goals first | (go_ret; exact ⟨rfl, Below.refl _ _⟩) | exact ⟨rfl, Below.refl _ _⟩

theorem lawAll (sa : Option Addr) (len cap : Nat) (a : Addr) (m : Int) (w : World) (hc : w.cell? ⟨0, 0, none⟩ = some (.iface 113 (.pointer (some a))))
    (hm : w.cell? ⟨1, 0, none⟩ = some (.int .i64 m)) (hy : Bytes w.heap.size w sa len) :
    Calls Tryd.prog 3 #[.slice sa len cap] w fun e w' => e = .returned (.bool true) ∧ Below w.heap.size w w' := by
  by_cases h : len ≤ 1048576
  · have hlt : 0 < w.heap.size := World.block_lt_of_cell? w _ hc
    exact lawBrk (fun t => nl t + 1) sa len cap w h (Dr.drawParse sa len cap w.heap.size w (Nat.le_refl _) h hy)
      (fun s w1 hs hb => iRexParse s a w1 ((hb.cell (p := ⟨0, 0, none⟩) hlt).trans hc) (by omega))
      (fun s w1 => sRexParse s w1)
      (fun t w1 S x b c d u hr hn hb hx hS => iNfaOf (setOk hm) hr hn w1 hb S x b c d u hx hS)
  · exact brk_big sa len cap w (by omega)

end Bk
end Rx
end Go.Proofs.YthagicpockpfjaiDoor
