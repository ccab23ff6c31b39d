/-
  StateOk, the program's, whole.
-/
import Derived.Test.YtildabobkilkjaaDoorStOkI
namespace Go.Proofs.YtildabobkilkjaaDoor
open Go.RowKit
namespace St
open Nd

set_option maxHeartbeats 2000000 in
set_option maxRecDepth 100000 in
theorem iStateOk {a b : Option Addr} {ca cb : Nat} {vs : List St.Vl} {cs : List Cl} {nr er vars m : Int} {ad : Addr} {w : World} (hS : Sn w ad) (hV : RdV w a vs) (hC : RdC w b cs) (hn : vs.length ≤ 1048576) (hm : cs.length ≤ 1048576) (hsv : ∀ v ∈ vs, SmV v) (hsc : ∀ c ∈ cs, SmC c) :
    Calls Tryd.prog 7 #[.agg #[.slice a vs.length ca, .slice b cs.length cb, .int .i64 nr, .int .i64 er], .int .i64 vars, .int .i64 m] w fun e w' => e = .returned (.bool (stateB vs cs nr er vars m)) ∧ Below w.heap.size w w' := by
  obtain ⟨R, hR⟩ : ∃ R, R = stateB vs cs nr er vars m := ⟨_, rfl⟩
  have HR : Hid (R = (decide ((vs.length : Int) = vars) && (vs.all okVl && (decide (cs.length ≤ 40) && (cellsB m cs && (decide (0 ≤ nr ∧ nr ≤ 1000000) && decide (0 ≤ er ∧ er ≤ 7))))))) := hR
  rw [← hR]
  have bn : (vs.length : Int) ≤ 1048576 := by omega
  have bm : (cs.length : Int) ≤ 1048576 := by omega
  have hb0 : ∀ o, Below w.heap.size w (w.alloc o) := fun o => (Below.refl _ w).alloc (Nat.le_refl _) o
  have HB0 : Hid (∀ o, Below w.heap.size w (w.alloc o)) := hb0
  obtain ⟨oS, hoS⟩ : ∃ oS, oS = Obj.cells #[.slice a vs.length ca, .slice b cs.length cb, .int .i64 nr, .int .i64 er] 31 := ⟨_, rfl⟩
  have CA : Hid _ := iAllOk (cap := ca) (hS.below (hb0 oS)) (hV.below (hb0 oS)) hn hsv
  have CC : Hid (∀ w', Below w.heap.size w w' → Calls Tryd.prog 18 #[.slice b cs.length cb, .int .i64 m] w' fun e w'' => e = .returned (.bool (decide (cs.length ≤ 40) && cellsB m cs)) ∧ Below w'.heap.size w' w'') := fun w' h => iCellsOk (cap := cb) (hS.below h) (hC.below h) hm hsc
  have KS : Hid (Blk 31 (w.alloc oS) w.heap.size [.slice a vs.length ca, .slice b cs.length cb, .int .i64 nr, .int .i64 er]) := by rw [hoS]; exact Blk.new _ _ _
  subst hoS
  clear hS hV hC hn hm hsv hsc hb0 hR
  by_cases g1 : nr < 0
  · have H : Hid (R = false) := by show R = false; rw [HR.out, decide_eq_false (show ¬ (0 ≤ nr ∧ nr ≤ 1000000) by omega)]; simp
    clear HR CA CC KS
    go_enter Tryd.func7, Tryd.ntmps7
    go_wp2_with fail
    go_ret
    exact ⟨by rw [H.out]; rfl, HB0.out _⟩
  by_cases g2 : 1000000 < nr
  · have H : Hid (R = false) := by show R = false; rw [HR.out, decide_eq_false (show ¬ (0 ≤ nr ∧ nr ≤ 1000000) by omega)]; simp
    clear HR CA CC KS
    go_enter Tryd.func7, Tryd.ntmps7
    go_wp2_with fail
    go_ret
    exact ⟨by rw [H.out]; rfl, HB0.out _⟩
  by_cases g3 : er < 0
  · have H : Hid (R = false) := by show R = false; rw [HR.out, decide_eq_false (show ¬ (0 ≤ er ∧ er ≤ 7) by omega)]; simp
    clear HR CA CC KS
    go_enter Tryd.func7, Tryd.ntmps7
    go_wp2_with fail
    go_ret
    exact ⟨by rw [H.out]; rfl, HB0.out _⟩
  by_cases g4 : 7 < er
  · have H : Hid (R = false) := by show R = false; rw [HR.out, decide_eq_false (show ¬ (0 ≤ er ∧ er ≤ 7) by omega)]; simp
    clear HR CA CC KS
    go_enter Tryd.func7, Tryd.ntmps7
    go_wp2_with fail
    go_ret
    exact ⟨by rw [H.out]; rfl, HB0.out _⟩
  have hS : R = (decide ((vs.length : Int) = vars) && (vs.all okVl && (decide (cs.length ≤ 40) && cellsB m cs))) := by
    rw [HR.out, decide_eq_true (show 0 ≤ nr ∧ nr ≤ 1000000 by omega), decide_eq_true (show 0 ≤ er ∧ er ≤ 7 by omega)]
    simp
  obtain ⟨V, hVv⟩ : ∃ V, V = vs.all okVl := ⟨_, rfl⟩
  obtain ⟨D, hD⟩ : ∃ D, D = (decide (cs.length ≤ 40) && cellsB m cs) := ⟨_, rfl⟩
  have CC' : Hid (∀ w', Below w.heap.size w w' → Calls Tryd.prog 18 #[.slice b cs.length cb, .int .i64 m] w' fun e w'' => e = .returned (.bool D) ∧ Below w'.heap.size w' w'') := by rw [hD]; exact CC.out
  have CA' : Hid (Calls Tryd.prog 16 #[.slice a vs.length ca, .func (.func 17) #[] #[]] (w.alloc (.cells #[.slice a vs.length ca, .slice b cs.length cb, .int .i64 nr, .int .i64 er] 31)) fun e w' => e = .returned (.bool V) ∧ Below (w.alloc (.cells #[.slice a vs.length ca, .slice b cs.length cb, .int .i64 nr, .int .i64 er] 31)).heap.size (w.alloc (.cells #[.slice a vs.length ca, .slice b cs.length cb, .int .i64 nr, .int .i64 er] 31)) w') := by rw [hVv]; exact CA.out
  rw [← hVv, ← hD] at hS
  have HS : Hid (R = (decide ((vs.length : Int) = vars) && (V && D))) := hS
  clear HR CA CC hS hVv hD
  by_cases h1 : (vs.length : Int) = vars
  · have d1 : ((vs.length : Int) == vars) = true := by simpa using h1
    cases V with
    | false =>
      have H : Hid (R = false) := by show R = false; rw [HS.out]; simp
      clear HS h1 CC'
      go_enter Tryd.func7, Tryd.ntmps7
      go_wp2_with (go_at_call 16; refine Calls.mono CA'.out ?_; rintro e w2 ⟨rfl, hb2⟩)
      go_ret
      exact ⟨by rw [H.out]; rfl, (HB0.out _).trans (hb2.mono (HB0.out _).size)⟩
    | true =>
      have H : Hid (R = D) := by show R = D; rw [HS.out, decide_eq_true h1]; simp
      clear HS h1
      go_enter Tryd.func7, Tryd.ntmps7
      go_wp2_with (first
        | (go_at_call 16; refine Calls.mono CA'.out ?_; rintro e w2 ⟨rfl, hb2⟩; have B2 := (HB0.out _).trans (hb2.mono (HB0.out _).size); have x1 := (KS.out.below hb2).cell 1 rfl)
        | (go_at_call 18; refine Calls.mono (CC'.out _ B2) ?_; rintro e w3 ⟨rfl, hb3⟩))
      go_ret
      exact ⟨by rw [H.out]; rfl, B2.trans (hb3.mono B2.size)⟩
  · have d1 : ((vs.length : Int) == vars) = false := by simpa using h1
    have H : Hid (R = false) := by show R = false; rw [HS.out, decide_eq_false h1]; simp
    clear HS h1 CA' CC' KS
    go_enter Tryd.func7, Tryd.ntmps7
    go_wp2_with fail
    go_ret
    exact ⟨by rw [H.out]; rfl, HB0.out _⟩

end St
end Go.Proofs.YtildabobkilkjaaDoor
