/-
  The law FnExactTidy, at every list of rules.
-/
import Derived.Test.YtjdohfdkkppnpaaDoorRuEq
import Derived.Test.YtjdohfdkkppnpaaDoorRuMem
import Derived.Test.YtjdohfdkkppnpaaDoorRuSpec
namespace Go.Proofs.YtjdohfdkkppnpaaDoor
open Go.RowKit
namespace Ty
open Nd

set_option maxRecDepth 100000 in
theorem lawTidy {w : World} {rs : List Ru} {ao : Option Addr} {cap : Nat} (hS : Sen w) (hn : rs.length ≤ maxLen) (hA : RArgs w rs ao 0) :
    Calls Tryd.prog 3 #[.slice ao rs.length cap] w fun e w' => e = .returned (.bool true) ∧ Below w.heap.size w w' := by
  have csz := lSzRuleS hn w ao cap 1048576 hA (by omega) (by omega)
  have ct := fun w' (h : Below w.heap.size w w') (hz : sizR rs ≤ 1048576) => lToRuleS hz w' ao cap (rargs_frame h hA)
  clear hn
  go_enter Tryd.func3, Tryd.ntmps3
  go_wp2_with (first
    | (go_at_call 4; refine csz.mono ?_; rintro e w1 ⟨z, rfl, z0, z1, z2, hb1⟩)
    | (go_at_call 6; refine hold ?_))
  · go_ret
    exact ⟨rfl, hb1⟩
  have hz : sizR rs ≤ 1048576 := by omega
  refine (ct w1 hb1 hz).mono ?_
  rintro e w2 ⟨v2, xs2, rfl, o2, R2, hb2⟩
  have B2 := hb1.trans (hb2.mono hb1.size)
  obtain ⟨ao2, cap2, rfl⟩ := owns_slice o2
  go_wp2_with (go_at_call 5; refine hold ?_)
  refine (sTidy (hS.later B2) hz (fun k hk => hk.2) o2 R2).mono ?_
  rintro e w3 ⟨rfl, hb3⟩
  have B3 := B2.trans (hb3.mono B2.size)
  go_wp2_with (go_at_call 6; refine hold ?_)
  refine (ct w3 B3 hz).mono ?_
  rintro e w4 ⟨v4, xs4, rfl, o4, R4, hb4⟩
  have B4 := B3.trans (hb4.mono B3.size)
  obtain ⟨ao4, cap4, rfl⟩ := owns_slice o4
  go_wp2_with (go_at_call 7; refine hold ?_)
  refine (iTidy (hS.later B4) hz (fun k hk => hk.2) o4 R4).mono ?_
  rintro e w5 ⟨rfl, hb5⟩
  have B5 := B4.trans (hb5.mono B4.size)
  generalize tidyB rs = T at *
  go_wp2_with (go_at_call 6; refine hold ?_)
  refine (ct w5 B5 hz).mono ?_
  rintro e w6 ⟨v6, xs6, rfl, o6, R6, hb6⟩
  have B6 := B5.trans (hb6.mono B5.size)
  obtain ⟨ao6, cap6, rfl⟩ := owns_slice o6
  go_wp2_with (go_at_call 8; refine hold ?_)
  have h46 : Below w4.heap.size w4 w6 := hb5.trans (hb6.mono hb5.size)
  refine (lEqRuleS hz (owns_same o4 fun g hg => h46.block g (o4.lt g hg).2) o6 (rules_frame (fun k hk => h46.block k hk.2) R4) R6 (fun k hk => Nat.lt_of_lt_of_le hk.2 h46.size) (fun k hk => hk.2)).mono ?_
  rintro e w7 ⟨rfl, hb7⟩
  have B7 := B6.trans (hb7.mono B6.size)
  clear ct csz o2 R2 o4 R4 o6 R6
  go_wp2_with fail
  go_ret
  exact ⟨rfl, B7⟩

end Ty
end Go.Proofs.YtjdohfdkkppnpaaDoor
