/-
  StateOk, the program's, whole.
  A region that draws its order and whose callees make memory alone, walked once, in the order of the text: the worlds grown out of one, as a family.
  The specification's place of a call.
-/
import Derived.Test.YtaakeecliehjgaaGreatDoorP25
import Derived.Test.YtaakeecliehjgaaGreatDoorProg
import Derived.Deep.QuietTactic
import Derived.BigQuiet
import Derived.WalkKit
import Derived.Below
import Derived.Test.YtaakeecliehjgaaGreatDoorP15
namespace Go.Proofs.YtaakeecliehjgaaGreatDoor
open Go.RowKit
namespace St
open Nd

set_option maxHeartbeats 2000000 in
set_option maxRecDepth 100000 in
theorem iStateOk {a b : Option Addr} {ca cb : Nat} {vs : List St.Vl} {cs : List Cl} {nr er vars m : Int} {ad : Addr} {w : World} (hS : Sn w ad) (hV : RdV w a vs) (hC : RdC w b cs) (hn : vs.length ≤ 1048576) (hm : cs.length ≤ 1048576) (hsv : ∀ v ∈ vs, SmV v) (hsc : ∀ c ∈ cs, SmC c) :
    Calls Tryz.prog 25 #[.agg #[.slice a vs.length ca, .slice b cs.length cb, .int .i64 nr, .int .i64 er], .int .i64 vars, .int .i64 m] w fun e w' => e = .returned (.bool (stateB vs cs nr er vars m)) ∧ Below w.heap.size w w' := by
  obtain ⟨R, hR⟩ : ∃ R, R = stateB vs cs nr er vars m := ⟨_, rfl⟩
  have HR : Hid (R = (decide ((vs.length : Int) = vars) && (vs.all okVl && (decide (cs.length ≤ 40) && (cellsB m cs && (decide (0 ≤ nr ∧ nr ≤ 1000000) && decide (0 ≤ er ∧ er ≤ 7))))))) := hR
  rw [← hR]
  have bn : (vs.length : Int) ≤ 1048576 := by omega
  have bm : (cs.length : Int) ≤ 1048576 := by omega
  have hb0 : ∀ o, Below w.heap.size w (w.alloc o) := fun o => (Below.refl _ w).alloc (Nat.le_refl _) o
  have HB0 : Hid (∀ o, Below w.heap.size w (w.alloc o)) := hb0
  obtain ⟨oS, hoS⟩ : ∃ oS, oS = Obj.cells #[.slice a vs.length ca, .slice b cs.length cb, .int .i64 nr, .int .i64 er] 43 := ⟨_, rfl⟩
  have CA : Hid _ := iAllOk (cap := ca) (hS.below (hb0 oS)) (hV.below (hb0 oS)) hn hsv
  have CC : Hid (∀ w', Below w.heap.size w w' → Calls Tryz.prog 47 #[.slice b cs.length cb, .int .i64 m] w' fun e w'' => e = .returned (.bool (decide (cs.length ≤ 40) && cellsB m cs)) ∧ Below w'.heap.size w' w'') := fun w' h => iCellsOk (cap := cb) (hS.below h) (hC.below h) hm hsc
  have KS : Hid (Blk 43 (w.alloc oS) w.heap.size [.slice a vs.length ca, .slice b cs.length cb, .int .i64 nr, .int .i64 er]) := by rw [hoS]; exact Blk.new _ _ _
  subst hoS
  clear hS hV hC hn hm hsv hsc hb0 hR
  by_cases g1 : nr < 0
  · have H : Hid (R = false) := by show R = false; rw [HR.out, decide_eq_false (show ¬ (0 ≤ nr ∧ nr ≤ 1000000) by omega)]; simp
    clear HR CA CC KS
    go_enter Tryz.func25, Tryz.ntmps25
    go_wp2_with fail
    go_ret
    exact ⟨by rw [H.out]; rfl, HB0.out _⟩
  by_cases g2 : 1000000 < nr
  · have H : Hid (R = false) := by show R = false; rw [HR.out, decide_eq_false (show ¬ (0 ≤ nr ∧ nr ≤ 1000000) by omega)]; simp
    clear HR CA CC KS
    go_enter Tryz.func25, Tryz.ntmps25
    go_wp2_with fail
    go_ret
    exact ⟨by rw [H.out]; rfl, HB0.out _⟩
  by_cases g3 : er < 0
  · have H : Hid (R = false) := by show R = false; rw [HR.out, decide_eq_false (show ¬ (0 ≤ er ∧ er ≤ 7) by omega)]; simp
    clear HR CA CC KS
    go_enter Tryz.func25, Tryz.ntmps25
    go_wp2_with fail
    go_ret
    exact ⟨by rw [H.out]; rfl, HB0.out _⟩
  by_cases g4 : 7 < er
  · have H : Hid (R = false) := by show R = false; rw [HR.out, decide_eq_false (show ¬ (0 ≤ er ∧ er ≤ 7) by omega)]; simp
    clear HR CA CC KS
    go_enter Tryz.func25, Tryz.ntmps25
    go_wp2_with fail
    go_ret
    exact ⟨by rw [H.out]; rfl, HB0.out _⟩
  have hS : R = (decide ((vs.length : Int) = vars) && (vs.all okVl && (decide (cs.length ≤ 40) && cellsB m cs))) := by
    rw [HR.out, decide_eq_true (show 0 ≤ nr ∧ nr ≤ 1000000 by omega), decide_eq_true (show 0 ≤ er ∧ er ≤ 7 by omega)]
    simp
  obtain ⟨V, hVv⟩ : ∃ V, V = vs.all okVl := ⟨_, rfl⟩
  obtain ⟨D, hD⟩ : ∃ D, D = (decide (cs.length ≤ 40) && cellsB m cs) := ⟨_, rfl⟩
  have CC' : Hid (∀ w', Below w.heap.size w w' → Calls Tryz.prog 47 #[.slice b cs.length cb, .int .i64 m] w' fun e w'' => e = .returned (.bool D) ∧ Below w'.heap.size w' w'') := by rw [hD]; exact CC.out
  have CA' : Hid (Calls Tryz.prog 45 #[.slice a vs.length ca, .func (.func 46) #[] #[]] (w.alloc (.cells #[.slice a vs.length ca, .slice b cs.length cb, .int .i64 nr, .int .i64 er] 43)) fun e w' => e = .returned (.bool V) ∧ Below (w.alloc (.cells #[.slice a vs.length ca, .slice b cs.length cb, .int .i64 nr, .int .i64 er] 43)).heap.size (w.alloc (.cells #[.slice a vs.length ca, .slice b cs.length cb, .int .i64 nr, .int .i64 er] 43)) w') := by rw [hVv]; exact CA.out
  rw [← hVv, ← hD] at hS
  have HS : Hid (R = (decide ((vs.length : Int) = vars) && (V && D))) := hS
  clear HR CA CC hS hVv hD
  by_cases h1 : (vs.length : Int) = vars
  · have d1 : ((vs.length : Int) == vars) = true := by simpa using h1
    cases V with
    | false =>
      have H : Hid (R = false) := by show R = false; rw [HS.out]; simp
      clear HS h1 CC'
      go_enter Tryz.func25, Tryz.ntmps25
      go_wp2_with (go_at_call 45; refine Calls.mono CA'.out ?_; rintro e w2 ⟨rfl, hb2⟩)
      go_ret
      exact ⟨by rw [H.out]; rfl, (HB0.out _).trans (hb2.mono (HB0.out _).size)⟩
    | true =>
      have H : Hid (R = D) := by show R = D; rw [HS.out, decide_eq_true h1]; simp
      clear HS h1
      go_enter Tryz.func25, Tryz.ntmps25
      go_wp2_with (first
        | (go_at_call 45; refine Calls.mono CA'.out ?_; rintro e w2 ⟨rfl, hb2⟩; have B2 := (HB0.out _).trans (hb2.mono (HB0.out _).size); have x1 := (KS.out.below hb2).cell 1 rfl)
        | (go_at_call 47; refine Calls.mono (CC'.out _ B2) ?_; rintro e w3 ⟨rfl, hb3⟩))
      go_ret
      exact ⟨by rw [H.out]; rfl, B2.trans (hb3.mono B2.size)⟩
  · have d1 : ((vs.length : Int) == vars) = false := by simpa using h1
    have H : Hid (R = false) := by show R = false; rw [HS.out, decide_eq_false h1]; simp
    clear HS h1 CA' CC' KS
    go_enter Tryz.func25, Tryz.ntmps25
    go_wp2_with fail
    go_ret
    exact ⟨by rw [H.out]; rfl, HB0.out _⟩

end St
end Go.Proofs.YtaakeecliehjgaaGreatDoor
namespace Go.Proofs.YtaakeecliehjgaaGreatDoor
open Go.RowKit
namespace Fam
/-- The worlds grown out of W. -/
theorem family (W : World) : ∃ (I : Type) (F : I → World), Nonempty I ∧ (∀ i, Below W.heap.size W (F i)) ∧ (∀ w', Below W.heap.size W w' → ∃ i, w' = F i) :=
  ⟨{w' : World // Below W.heap.size W w'}, Subtype.val, ⟨⟨W, Below.refl _ W⟩⟩, fun i => i.2, fun w' h => ⟨⟨w', h⟩, rfl⟩⟩
/-- The worlds of any kind of one's own. -/
theorem familyOf (S : World → Prop) {W : World} (h : S W) : ∃ (I : Type) (F : I → World), Nonempty I ∧ (∀ i, S (F i)) ∧ (∀ w', S w' → ∃ i, w' = F i) :=
  ⟨{w' : World // S w'}, Subtype.val, ⟨⟨W, h⟩⟩, fun i => i.2, fun w' h => ⟨⟨w', h⟩, rfl⟩⟩
theorem wp_region_fam {P : Program} {I : Type} {F : I → World} {id : Nat} {Q : Exit → Act → World → Prop} {a : Act} {w : World} {l : List Oper} (hm : P.follows .mixedOrders = true) (hB : Region.lexB .any l.toArray = true)
    (hC : ∃ i, w.drew = F i) (h : wpQuiet P l.toArray (fun w' => ∃ i, w' = F i) (fun a' => ∀ w', (∃ i, w' = F i) → Q .normal a' w') l a) : (Code.region id l.toArray true).wp P Q a w :=
  wp_region_quiet (C := fun w' => ∃ i, w' = F i) hm hB hC h
end Fam
end Go.Proofs.YtaakeecliehjgaaGreatDoor
namespace Go.Proofs.YtaakeecliehjgaaGreatDoor
open Go.RowKit
namespace Oc
open St (Vl RdV)

def ParseS (P : ByteArray → Bool) : Prop := ∀ (s : ByteArray) (w : World), Told 77 (P s) s w

theorem sIn (x lo hi : Int) (w : World) : Calls Tryz.prog 16 #[.int .i64 x, .int .i64 lo, .int .i64 hi] w fun e w' => e = .returned (.bool (decide (lo ≤ x ∧ x ≤ hi))) ∧ w' = w := by
  by_cases h1 : lo ≤ x
  · by_cases h2 : x ≤ hi
    · rw [decide_eq_true ⟨h1, h2⟩]
      go_enter Tryz.func16, Tryz.ntmps16
      go_wp2_with fail
      go_ret
      exact ⟨rfl, rfl⟩
    · rw [decide_eq_false fun h => h2 h.2]
      go_enter Tryz.func16, Tryz.ntmps16
      go_wp2_with fail
      go_ret
      exact ⟨rfl, rfl⟩
  · rw [decide_eq_false fun h => h1 h.1]
    have e : decide (lo ≤ x) = false := decide_eq_false h1
    go_enter Tryz.func16, Tryz.ntmps16
    go_wp2_with fail
    go_ret
    exact ⟨rfl, rfl⟩

theorem empty_is (l : List UInt8) : decide ((⟨l.toArray⟩ : ByteArray).size = 0) = decide (l = []) := by
  cases l <;> simp [ByteArray.size]

set_option maxHeartbeats 4000000 in
set_option maxRecDepth 100000 in
theorem sOp29 {P : ByteArray → Bool} (n vars cells : Int) {p : Int} (l : List UInt8) (w : World) :
    Calls Tryz.prog 55 #[.agg #[.int .i64 29, .int .i64 n, .string ⟨l.toArray⟩], .int .i64 p, .int .i64 vars, .int .i64 cells] w fun e w' => e = .returned (.bool (opB P vars cells p (29, n, ⟨l.toArray⟩))) ∧ Below w.heap.size w w' := by
  have hb0 : ∀ o, Below w.heap.size w (w.alloc o) := fun o => (Below.refl _ w).alloc (Nat.le_refl _) o
  have kO : Hid (Blk 80 (w.alloc (.cells #[.int .i64 29, .int .i64 n, .string ⟨l.toArray⟩] 80)) w.heap.size [.int .i64 29, .int .i64 n, .string ⟨l.toArray⟩]) := Blk.new _ _ _
  obtain ⟨R, hR⟩ : ∃ R, R = opB P vars cells p (29, n, ⟨l.toArray⟩) := ⟨_, rfl⟩
  rw [← hR]
  have H : Hid (R = (decide (1 ≤ n ∧ n ≤ 3) && Ty.callB l)) := hR
  have ci := fun w => sIn n 1 3 w
  generalize decide (1 ≤ n ∧ n ≤ 3) = D at *
  clear hR
  cases D
  · replace H : Hid (R = false) := H.out
    obtain ⟨I, F, hI, hF1, hF2⟩ := Fam.family (w.alloc (.cells #[.int .i64 29, .int .i64 n, .string ⟨l.toArray⟩] 80))
    have HF : Hid (∀ i, Below (w.alloc (.cells #[.int .i64 29, .int .i64 n, .string ⟨l.toArray⟩] 80)).heap.size (w.alloc (.cells #[.int .i64 29, .int .i64 n, .string ⟨l.toArray⟩] 80)) (F i)) := hF1
    have HF2 : Hid (∀ w', Below (w.alloc (.cells #[.int .i64 29, .int .i64 n, .string ⟨l.toArray⟩] 80)).heap.size (w.alloc (.cells #[.int .i64 29, .int .i64 n, .string ⟨l.toArray⟩] 80)) w' → ∃ i, w' = F i) := hF2
    have y1 := fun i => ((kO.out).below (hF1 i)).cell 1 rfl
    have y2 := fun i => ((kO.out).below (hF1 i)).cell 2 rfl
    clear hF1 hF2
    go_enter Tryz.func55, Tryz.ntmps55
    go_wp2_with fail
    refine Fam.wp_region_fam (F := F) (by kernel_rfl) (by kernel_rfl) (HF2.out _ (Below.drew (Below.refl _ _))) ?_
    repeat (go_big_quiet_step ((go_at_call 16; refine Calls.mono (ci _) ?_; rintro e w3 ⟨rfl, rfl⟩; exact ⟨rfl, _, rfl⟩)))
    refine wpQuiet_nil ?_
    rintro _ ⟨iq, rfl⟩
    go_wp2_with fail
    go_ret
    exact ⟨by rw [H.out]; rfl, (hb0 _).trans ((HF.out iq).mono (hb0 _).size)⟩
  · replace H : Hid (R = Ty.callB l) := H.out.trans (Bool.true_and _)
    have hW : Below w.heap.size w ((w.alloc (.cells #[.int .i64 29, .int .i64 n, .string ⟨l.toArray⟩] 80)).drew) := (hb0 _).drew
    have kD := kO.out.below (Below.drew (Below.refl _ _))
    have cC : Calls Tryz.prog 76 #[] (w.alloc (.cells #[.int .i64 29, .int .i64 n, .string ⟨l.toArray⟩] 80)).drew fun e w' => e = .returned (.slice (some ⟨w.heap.size + 1, 0, none⟩) 6 6) ∧ w'.cell? ⟨w.heap.size, 2, none⟩ = some (.string ⟨l.toArray⟩) ∧ Calls Tryz.prog 34 #[.slice (some ⟨w.heap.size + 1, 0, none⟩) 6 6, .string ⟨l.toArray⟩] w' (fun e w'' => e = .returned (.bool (Ty.callB l)) ∧ Below w.heap.size w w'') := by
      refine (sCalls _).mono ?_
      rintro e w' ⟨rfl, hr, hb'⟩
      have hz : ((w.alloc (.cells #[.int .i64 29, .int .i64 n, .string ⟨l.toArray⟩] 80)).drew).heap.size = w.heap.size + 1 := by show (w.alloc _).heap.size = _; simp
      rw [hz] at hr ⊢
      refine ⟨rfl, (kD.below hb').cell 2 rfl, (sWithin (L := Ty.callL) (by decide) l _ 6 w' hr).mono ?_⟩
      rintro e w'' ⟨rfl, rfl⟩
      exact ⟨rfl, hW.trans (hb'.mono hW.size)⟩
    generalize Ty.callB l = D2 at *
    clear kD hW
    go_enter Tryz.func55, Tryz.ntmps55
    go_wp2_with fail
    go_region_with (first
      | (go_at_call 16; refine (ci _).mono ?_; rintro e w2 ⟨rfl, hw⟩; have hw := hw.symm; subst hw)
      | (go_at_call 76; with_reducible refine cC.mono ?_; rintro e w3 ⟨rfl, y2, cW⟩)
      | (go_at_call 34; with_reducible refine cW.mono ?_; rintro e w4 ⟨rfl, hbc⟩))
    all_goals go_wp2_with fail
    all_goals go_ret
    all_goals exact ⟨by rw [H.out]; rfl, hbc⟩

end Oc
end Go.Proofs.YtaakeecliehjgaaGreatDoor
