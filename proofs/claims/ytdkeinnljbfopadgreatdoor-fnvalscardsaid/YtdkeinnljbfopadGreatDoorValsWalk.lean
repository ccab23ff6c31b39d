/-
  The walk of FnVals: whatever the bytes, it returns true; what was there stays.
-/
import Derived.Test.YtdkeinnljbfopadGreatDoorValCmpS
import Derived.Test.YtdkeinnljbfopadGreatDoorValTruthW
import Derived.Test.YtdkeinnljbfopadGreatDoorValFacts
import Derived.Test.YtdkeinnljbfopadGreatDoorDrawRd
import Derived.Deep.RegionHeld3
namespace Go.Proofs.YtdkeinnljbfopadGreatDoor
open Go.RowKit Go.Extern.Stop Go.Stop Go.Extern
set_option linter.unusedVariables false

theorem Bytes.mono {B B' : Nat} {w : World} {sa : Option Addr} {len : Nat} (h : Bytes B w sa len) (hB : B ≤ B') : Bytes B' w sa len := fun k hk => by
  obtain ⟨blk, off, b, e, hl, hc, h0, h1⟩ := h k hk
  exact ⟨blk, off, b, e, Nat.lt_of_lt_of_le hl hB, hc, h0, h1⟩
/-- a box that holds a value -/
def VB (b : Nat) (w : World) (k n : Int) (s : ByteArray) : Prop := b < w.heap.size ∧ w.cell? ⟨b, 0, none⟩ = some (.int .i64 k) ∧ w.cell? ⟨b, 1, none⟩ = some (.int .i64 n) ∧ w.cell? ⟨b, 2, none⟩ = some (.string s)
theorem VB.on {b : Nat} {w w' : World} {k n : Int} {s : ByteArray} (h : VB b w k n s) (hb : Below w.heap.size w w') : VB b w' k n s :=
  ⟨Nat.lt_of_lt_of_le h.1 hb.size, (hb.cell (p := ⟨b, 0, none⟩) h.1).trans h.2.1, (hb.cell (p := ⟨b, 1, none⟩) h.1).trans h.2.2.1, (hb.cell (p := ⟨b, 2, none⟩) h.1).trans h.2.2.2⟩
theorem VB.new (w : World) (k n : Int) (s : ByteArray) (t : TypeId) : VB w.heap.size (w.alloc (.cells #[.int .i64 k, .int .i64 n, .string s] t)) k n s :=
  ⟨by simp, by simp, by simp, by simp⟩
theorem alloc_on (w : World) (o : Obj) : Below w.heap.size w (w.alloc o) := (Below.refl _ w).alloc (Nat.le_refl _) o
theorem on_on {W w w' : World} (h : Below W.heap.size W w) (h' : Below w.heap.size w w') : Below W.heap.size W w' := h.trans (h'.mono h.size)

theorem vals_big (sa : Option Addr) (len cap : Nat) (w : World) (hl : (1048576 : Int) < (len : Int)) :
    Calls Tryz.prog 5 #[.slice sa len cap] w fun e w' => e = .returned (.bool true) ∧ Below w.heap.size w w' := by
  go_enter Tryz.func5, Tryz.ntmps5
  go_wp2
  go_ret
  exact ⟨rfl, Below.refl _ _⟩

set_option maxHeartbeats 4000000 in
set_option maxRecDepth 100000 in
theorem vals_small (sa : Option Addr) (len cap : Nat) (a : Addr) (W : World) (hc : W.cell? ⟨1, 0, none⟩ = some (.iface 252 (.pointer (some a)))) (hT : Lib.TabIs Tryz.prog W "internal/strconv.uint64pow10" .u64 Lib.pow10Tab) (hl : len ≤ 1048576) (hlI : (len : Int) ≤ 1048576) (hy : Bytes W.heap.size W sa len) :
    Calls Tryz.prog 5 #[.slice sa len cap] W fun e w' => e = .returned (.bool true) ∧ Below W.heap.size W w' := by
  have dC := fun (w : World) (h : Below W.heap.size W w) => vDrawCompare sa len cap w.heap.size w (Nat.le_refl _) hl ((hy.below h).mono h.size)
  have dV := fun (w : World) (h : Below W.heap.size W w) => vDrawValOk sa len cap w.heap.size w (Nat.le_refl _) hl ((hy.below h).mono h.size)
  have dN := fun (w : World) (h : Below W.heap.size W w) => vDrawToNum sa len cap w.heap.size w (Nat.le_refl _) hl ((hy.below h).mono h.size)
  have dT := fun (w : World) (h : Below W.heap.size W w) => vDrawToText sa len cap w.heap.size w (Nat.le_refl _) hl ((hy.below h).mono h.size)
  have dH := fun (w : World) (h : Below W.heap.size W w) => vDrawTruth sa len cap w.heap.size w (Nat.le_refl _) hl ((hy.below h).mono h.size)
  have dR := fun (w : World) (h : Below W.heap.size W w) => vDrawRead sa len cap w.heap.size w (Nat.le_refl _) hl ((hy.below h).mono h.size)
  have dX := fun (w : World) (h : Below W.heap.size W w) => DrawDecText sa len cap w.heap.size w (Nat.le_refl _) hl ((hy.below h).mono h.size)
  clear hy
  go_enter Tryz.func5, Tryz.ntmps5
  go_upto_region 4 with (first | (go_at_call 6; go_in) | (go_at_call 24; refine (dC _ (Below.refl _ _)).mono ?_; rintro e w1 ⟨k, n, s, k1, n1, s1, rfl, hs, hs1, hb1⟩))
  obtain ⟨wA, hwA⟩ : ∃ x, x = (w1.alloc (.cells #[.int .i64 k, .int .i64 n, .string s] 45)).alloc (.cells #[.int .i64 k1, .int .i64 n1, .string s1] 45) := ⟨_, rfl⟩
  obtain ⟨pb, hpb⟩ : ∃ x, x = w1.heap.size + 1 := ⟨_, rfl⟩
  have Va : VB w1.heap.size wA k n s := by rw [hwA]; exact (VB.new _ _ _ _ _).on (alloc_on _ _)
  have Vb : VB pb wA k1 n1 s1 := by rw [hwA, hpb]; have h := VB.new (w1.alloc (.cells #[.int .i64 k, .int .i64 n, .string s] 45)) k1 n1 s1 45; simpa using h
  have hbA : Below W.heap.size W wA := by rw [hwA]; exact on_on (on_on hb1 (alloc_on _ _)) (alloc_on _ _)
  rw [← hwA, ← hpb]
  generalize w1.heap.size = pa at *
  clear hwA hpb hb1 dC
  have cA := iCompare k n s k1 n1 s1 a wA (sent_later hc hbA) (tab_later hT hbA) (by omega) (by omega)
  obtain ⟨_, a0, a1, a2⟩ := id Va
  obtain ⟨_, b0, b1, b2⟩ := id Vb
  go_upto_region 5 with (go_at_call 25; refine cA.mono ?_; rintro e wB ⟨rfl, hB⟩)
  clear a0 a1 a2 b0 b1 b2 cA
  have Va := Va.on hB
  have Vb := Vb.on hB
  have hbB := on_on hbA hB
  clear hB hbA
  have cV := dV wB hbB
  go_upto_region 6 with (go_at_call 26; refine cV.mono ?_; rintro e wC ⟨k2, n2, s2, rfl, hs2, hC⟩)
  clear cV dV
  obtain ⟨wD, hwD⟩ : ∃ x, x = wC.alloc (.cells #[.int .i64 k2, .int .i64 n2, .string s2] 45) := ⟨_, rfl⟩
  have Vv : VB wC.heap.size wD k2 n2 s2 := by rw [hwD]; exact VB.new _ _ _ _ _
  have hD : Below wB.heap.size wB wD := by rw [hwD]; exact on_on hC (alloc_on _ _)
  have Va := Va.on hD
  have Vb := Vb.on hD
  have hbD := on_on hbB hD
  rw [← hwD]
  generalize wC.heap.size = pv at *
  clear hwD hC hD hbB
  have cN := dN wD hbD
  go_upto_region 7 with (first | (go_at_call 27; refine cN.mono ?_; rintro e wE ⟨k3, n3, s3, rfl, hs3, hE⟩; have hbE := on_on hbD hE; have cT := dT wE hbE) | (go_at_call 28; refine cT.mono ?_; rintro e wF ⟨k4, n4, s4, rfl, hs4, hF⟩; have hbF := on_on hbE hF; have cH := dH wF hbF) | (go_at_call 29; refine cH.mono ?_; rintro e wG ⟨k5, n5, s5, rfl, hs5, hG⟩))
  clear cN cT cH dN dT dH
  obtain ⟨wH, hwH⟩ : ∃ x, x = ((wG.alloc (.cells #[.int .i64 k3, .int .i64 n3, .string s3] 45)).alloc (.cells #[.int .i64 k4, .int .i64 n4, .string s4] 45)).alloc (.cells #[.int .i64 k5, .int .i64 n5, .string s5] 45) := ⟨_, rfl⟩
  obtain ⟨pt, hpt⟩ : ∃ x, x = wG.heap.size + 1 := ⟨_, rfl⟩
  obtain ⟨ph, hph⟩ : ∃ x, x = wG.heap.size + 1 + 1 := ⟨_, rfl⟩
  have Vn : VB wG.heap.size wH k3 n3 s3 := by rw [hwH]; exact ((VB.new _ _ _ _ _).on (alloc_on _ _)).on (alloc_on _ _)
  have Vt : VB pt wH k4 n4 s4 := by rw [hwH, hpt]; have h := (VB.new (wG.alloc (.cells #[.int .i64 k3, .int .i64 n3, .string s3] 45)) k4 n4 s4 45).on (alloc_on _ (.cells #[.int .i64 k5, .int .i64 n5, .string s5] 45)); simpa using h
  have Vh : VB ph wH k5 n5 s5 := by rw [hwH, hph]; have h := VB.new ((wG.alloc (.cells #[.int .i64 k3, .int .i64 n3, .string s3] 45)).alloc (.cells #[.int .i64 k4, .int .i64 n4, .string s4] 45)) k5 n5 s5 45; simpa using h
  have hH : Below wD.heap.size wD wH := by rw [hwH]; exact on_on (on_on (on_on (on_on (on_on hE hF) hG) (alloc_on _ _)) (alloc_on _ _)) (alloc_on _ _)
  have Va := Va.on hH
  have Vb := Vb.on hH
  have Vv := Vv.on hH
  have hbH := on_on hbD hH
  rw [← hwH, ← hph, ← hpt]
  generalize wG.heap.size = pn at *
  clear hwH hpt hph hE hF hG hH hbD hbE hbF
  have c1 : ∀ wx : World, Below wH.heap.size wH wx → Calls Tryz.prog 30 #[.agg #[.int .i64 k, .int .i64 n, .string s], .agg #[.int .i64 k1, .int .i64 n1, .string s1]] wx fun e w' => e = .returned (.int .i64 (Vl.cmpV k n s k1 n1 s1)) ∧ Below wH.heap.size wH w' := fun wx h => ((sCompare k n s k1 n1 s1 wx (by omega) (by omega)).mono fun e w' ⟨he, hb⟩ => ⟨he, on_on h hb⟩)
  have c2 : ∀ wx : World, Below wH.heap.size wH wx → Calls Tryz.prog 31 #[.agg #[.int .i64 k2, .int .i64 n2, .string s2]] wx fun e w' => e = .returned (.bool (Vl.okV k2 n2 s2)) ∧ Below wH.heap.size wH w' := fun wx h => ((iValOk k2 n2 s2 a wx (sent_later hc (on_on hbH h)) (by omega)).mono fun e w' ⟨he, hb⟩ => ⟨he, on_on h hb⟩)
  have c3 : ∀ wx : World, Below wH.heap.size wH wx → Calls Tryz.prog 32 #[.agg #[.int .i64 k2, .int .i64 n2, .string s2]] wx fun e w' => e = .returned (.bool (Vl.okV k2 n2 s2)) ∧ Below wH.heap.size wH w' := fun wx h => ((sValOk k2 n2 s2 wx (by omega)).mono fun e w' ⟨he, hb⟩ => ⟨he, on_on h hb⟩)
  have c4 : ∀ wx : World, Below wH.heap.size wH wx → Calls Tryz.prog 33 #[.agg #[.int .i64 k3, .int .i64 n3, .string s3]] wx fun e w' => e = .returned (.int .i64 (Vl.numV k3 n3 s3)) ∧ Below wH.heap.size wH w' := fun wx h => ((iToNum k3 n3 s3 a wx (sent_later hc (on_on hbH h)) (by omega)).mono fun e w' ⟨he, hb⟩ => ⟨he, on_on h hb⟩)
  have c5 : ∀ wx : World, Below wH.heap.size wH wx → Calls Tryz.prog 34 #[.agg #[.int .i64 k3, .int .i64 n3, .string s3]] wx fun e w' => e = .returned (.int .i64 (Vl.numV k3 n3 s3)) ∧ Below wH.heap.size wH w' := fun wx h => ((sToNum k3 n3 s3 wx (by omega)).mono fun e w' ⟨he, hb⟩ => ⟨he, on_on h hb⟩)
  have c6 : ∀ wx : World, Below wH.heap.size wH wx → Calls Tryz.prog 35 #[.agg #[.int .i64 k4, .int .i64 n4, .string s4]] wx fun e w' => e = .returned (.string (Vl.textV k4 n4 s4)) ∧ Below wH.heap.size wH w' := fun wx h => ((iToText k4 n4 s4 a wx (sent_later hc (on_on hbH h)) (tab_later hT (on_on hbH h)) (by omega)).mono fun e w' ⟨he, hb⟩ => ⟨he, on_on h hb⟩)
  have c7 : ∀ wx : World, Below wH.heap.size wH wx → Calls Tryz.prog 36 #[.agg #[.int .i64 k4, .int .i64 n4, .string s4]] wx fun e w' => e = .returned (.string (Vl.textV k4 n4 s4)) ∧ Below wH.heap.size wH w' := fun wx h => ((sToText k4 n4 s4 wx (by omega)).mono fun e w' ⟨he, hb⟩ => ⟨he, on_on h hb⟩)
  have c8 : ∀ wx : World, Below wH.heap.size wH wx → Calls Tryz.prog 37 #[.agg #[.int .i64 k5, .int .i64 n5, .string s5]] wx fun e w' => e = .returned (.bool (Vl.truthB k5 n5 s5)) ∧ Below wH.heap.size wH w' := fun wx h => ((iTruth k5 n5 s5 wx).mono fun e w' ⟨he, hb⟩ => ⟨he, on_on h hb⟩)
  have c9 : ∀ wx : World, Below wH.heap.size wH wx → Calls Tryz.prog 38 #[.agg #[.int .i64 k5, .int .i64 n5, .string s5]] wx fun e w' => e = .returned (.bool (Vl.truthB k5 n5 s5)) ∧ Below wH.heap.size wH w' := fun wx h => ((sTruth k5 n5 s5 wx).mono fun e w' ⟨he, hb⟩ => ⟨he, on_on h hb⟩)
  have hS : ∀ w' : World, Below wH.heap.size wH w' → (Below wH.heap.size wH w' ∧ w'.cell? ⟨pa, 0, none⟩ = some (.int .i64 k) ∧ w'.cell? ⟨pa, 1, none⟩ = some (.int .i64 n) ∧ w'.cell? ⟨pa, 2, none⟩ = some (.string s) ∧ w'.cell? ⟨pb, 0, none⟩ = some (.int .i64 k1) ∧ w'.cell? ⟨pb, 1, none⟩ = some (.int .i64 n1) ∧ w'.cell? ⟨pb, 2, none⟩ = some (.string s1) ∧ w'.cell? ⟨pv, 0, none⟩ = some (.int .i64 k2) ∧ w'.cell? ⟨pv, 1, none⟩ = some (.int .i64 n2) ∧ w'.cell? ⟨pv, 2, none⟩ = some (.string s2) ∧ w'.cell? ⟨pn, 0, none⟩ = some (.int .i64 k3) ∧ w'.cell? ⟨pn, 1, none⟩ = some (.int .i64 n3) ∧ w'.cell? ⟨pn, 2, none⟩ = some (.string s3) ∧ w'.cell? ⟨pt, 0, none⟩ = some (.int .i64 k4) ∧ w'.cell? ⟨pt, 1, none⟩ = some (.int .i64 n4) ∧ w'.cell? ⟨pt, 2, none⟩ = some (.string s4) ∧ w'.cell? ⟨ph, 0, none⟩ = some (.int .i64 k5) ∧ w'.cell? ⟨ph, 1, none⟩ = some (.int .i64 n5) ∧ w'.cell? ⟨ph, 2, none⟩ = some (.string s5)) := fun w' h => ⟨h, (Va.on h).2.1, (Va.on h).2.2.1, (Va.on h).2.2.2, (Vb.on h).2.1, (Vb.on h).2.2.1, (Vb.on h).2.2.2, (Vv.on h).2.1, (Vv.on h).2.2.1, (Vv.on h).2.2.2, (Vn.on h).2.1, (Vn.on h).2.2.1, (Vn.on h).2.2.2, (Vt.on h).2.1, (Vt.on h).2.2.1, (Vt.on h).2.2.2, (Vh.on h).2.1, (Vh.on h).2.2.1, (Vh.on h).2.2.2⟩
  go_region_held3 (fun w' => Below wH.heap.size wH w' ∧ w'.cell? ⟨pa, 0, none⟩ = some (.int .i64 k) ∧ w'.cell? ⟨pa, 1, none⟩ = some (.int .i64 n) ∧ w'.cell? ⟨pa, 2, none⟩ = some (.string s) ∧ w'.cell? ⟨pb, 0, none⟩ = some (.int .i64 k1) ∧ w'.cell? ⟨pb, 1, none⟩ = some (.int .i64 n1) ∧ w'.cell? ⟨pb, 2, none⟩ = some (.string s1) ∧ w'.cell? ⟨pv, 0, none⟩ = some (.int .i64 k2) ∧ w'.cell? ⟨pv, 1, none⟩ = some (.int .i64 n2) ∧ w'.cell? ⟨pv, 2, none⟩ = some (.string s2) ∧ w'.cell? ⟨pn, 0, none⟩ = some (.int .i64 k3) ∧ w'.cell? ⟨pn, 1, none⟩ = some (.int .i64 n3) ∧ w'.cell? ⟨pn, 2, none⟩ = some (.string s3) ∧ w'.cell? ⟨pt, 0, none⟩ = some (.int .i64 k4) ∧ w'.cell? ⟨pt, 1, none⟩ = some (.int .i64 n4) ∧ w'.cell? ⟨pt, 2, none⟩ = some (.string s4) ∧ w'.cell? ⟨ph, 0, none⟩ = some (.int .i64 k5) ∧ w'.cell? ⟨ph, 1, none⟩ = some (.int .i64 n5) ∧ w'.cell? ⟨ph, 2, none⟩ = some (.string s5)) (first | exact hS _ (by assumption) | exact hS _ (below_drew1 (by first | assumption | exact Below.refl _ _))) (first | (go_at_call 30; with_reducible refine (c1 _ ?_).mono ?_; (first | assumption | exact And.left (by assumption)); rintro e w2 ⟨rfl, hb2⟩) | (go_at_call 31; with_reducible refine (c2 _ ?_).mono ?_; (first | assumption | exact And.left (by assumption)); rintro e w2 ⟨rfl, hb2⟩) | (go_at_call 32; with_reducible refine (c3 _ ?_).mono ?_; (first | assumption | exact And.left (by assumption)); rintro e w2 ⟨rfl, hb2⟩) | (go_at_call 33; with_reducible refine (c4 _ ?_).mono ?_; (first | assumption | exact And.left (by assumption)); rintro e w2 ⟨rfl, hb2⟩) | (go_at_call 34; with_reducible refine (c5 _ ?_).mono ?_; (first | assumption | exact And.left (by assumption)); rintro e w2 ⟨rfl, hb2⟩) | (go_at_call 35; with_reducible refine (c6 _ ?_).mono ?_; (first | assumption | exact And.left (by assumption)); rintro e w2 ⟨rfl, hb2⟩) | (go_at_call 36; with_reducible refine (c7 _ ?_).mono ?_; (first | assumption | exact And.left (by assumption)); rintro e w2 ⟨rfl, hb2⟩) | (go_at_call 37; with_reducible refine (c8 _ ?_).mono ?_; (first | assumption | exact And.left (by assumption)); rintro e w2 ⟨rfl, hb2⟩) | (go_at_call 38; with_reducible refine (c9 _ ?_).mono ?_; (first | assumption | exact And.left (by assumption)); rintro e w2 ⟨rfl, hb2⟩))
  have Va := Va.on hb2
  have Vb := Vb.on hb2
  have hbI := on_on hbH hb2
  clear c1 c2 c3 c4 c5 c6 c7 c8 c9 hS Vv Vn Vt Vh
  have cR := dR _ hbI
  go_upto_region 10 with (go_at_call 39; refine cR.mono ?_; rintro e wJ ⟨t, rfl, ht, hJ⟩)
  have hbJ := on_on hbI hJ
  have Va := Va.on hJ
  have Vb := Vb.on hJ
  have cI := iRead t a wJ (sent_later hc hbJ) (by omega)
  go_upto_region 11 with (go_at_call 40; refine cI.mono ?_; rintro e wK ⟨rfl, hK⟩)
  obtain ⟨wL, hwL⟩ : ∃ x, x = wK.alloc (.cells #[.int .i64 (Vl.rdK t), .int .i64 (Vl.rdN t), .string (Vl.cutV t)] 45) := ⟨_, rfl⟩
  have Vr : VB wK.heap.size wL (Vl.rdK t) (Vl.rdN t) (Vl.cutV t) := by rw [hwL]; exact VB.new _ _ _ _ _
  have hL : Below wJ.heap.size wJ wL := by rw [hwL]; exact on_on hK (alloc_on _ _)
  have Va := Va.on hL
  have Vb := Vb.on hL
  have hbL := on_on hbJ hL
  rw [← hwL]
  generalize wK.heap.size = pr at *
  clear hwL hK hL hbJ hbI hJ cR cI dR
  have hcz := Vl.cut_size t
  have e1 : ∀ wx : World, Below wL.heap.size wL wx → Calls Tryz.prog 41 #[.string t] wx fun e w' => e = .returned (.agg #[.int .i64 (Vl.rdK t), .int .i64 (Vl.rdN t), .string (Vl.cutV t)]) ∧ Below wL.heap.size wL w' := fun wx h => ((sRead t wx (by omega)).mono fun e w' ⟨he, hb⟩ => ⟨he, on_on h hb⟩)
  have e2 : ∀ wx : World, Below wL.heap.size wL wx → Calls Tryz.prog 31 #[.agg #[.int .i64 (Vl.rdK t), .int .i64 (Vl.rdN t), .string (Vl.cutV t)]] wx fun e w' => e = .returned (.bool (Vl.okV (Vl.rdK t) (Vl.rdN t) (Vl.cutV t))) ∧ Below wL.heap.size wL w' := fun wx h => ((iValOk (Vl.rdK t) (Vl.rdN t) (Vl.cutV t) a wx (sent_later hc (on_on hbL h)) (by omega)).mono fun e w' ⟨he, hb⟩ => ⟨he, on_on h hb⟩)
  have e3 : ∀ wx : World, Below wL.heap.size wL wx → Calls Tryz.prog 25 #[.agg #[.int .i64 k, .int .i64 n, .string s], .agg #[.int .i64 k, .int .i64 n, .string s]] wx fun e w' => e = .returned (.int .i64 (Vl.cmpV k n s k n s)) ∧ Below wL.heap.size wL w' := fun wx h => ((iCompare k n s k n s a wx (sent_later hc (on_on hbL h)) (tab_later hT (on_on hbL h)) (by omega) (by omega)).mono fun e w' ⟨he, hb⟩ => ⟨he, on_on h hb⟩)
  have e4 : ∀ wx : World, Below wL.heap.size wL wx → Calls Tryz.prog 25 #[.agg #[.int .i64 k1, .int .i64 n1, .string s1], .agg #[.int .i64 k, .int .i64 n, .string s]] wx fun e w' => e = .returned (.int .i64 (Vl.cmpV k1 n1 s1 k n s)) ∧ Below wL.heap.size wL w' := fun wx h => ((iCompare k1 n1 s1 k n s a wx (sent_later hc (on_on hbL h)) (tab_later hT (on_on hbL h)) (by omega) (by omega)).mono fun e w' ⟨he, hb⟩ => ⟨he, on_on h hb⟩)
  rw [Vl.read_ok] at e2
  rw [Vl.cmp_self] at e3
  rw [Vl.cmp_turn k n s k1 n1 s1] at e4
  have hcb := Vl.cmp_bd k n s k1 n1 s1
  clear hcz
  obtain ⟨kr, hkr⟩ : ∃ x, x = Vl.rdK t := ⟨_, rfl⟩
  obtain ⟨nr, hnr⟩ : ∃ x, x = Vl.rdN t := ⟨_, rfl⟩
  obtain ⟨sr, hsr⟩ : ∃ x, x = Vl.cutV t := ⟨_, rfl⟩
  obtain ⟨cc, hcc⟩ : ∃ x, x = Vl.cmpV k n s k1 n1 s1 := ⟨_, rfl⟩
  rw [← hkr, ← hnr, ← hsr] at Vr e1 e2
  rw [← hcc] at e4 hcb
  rw [← hkr, ← hnr, ← hsr, ← hcc]
  clear hkr hnr hsr hcc
  obtain ⟨hcb0, hcb1⟩ := hcb
  have hwr : IntKind.i64.wrap (-cc) = -cc := by rw [IntKind.wrap_i64]; omega
  have hwr' : IntKind.i64.wrap (0 - cc) = 0 - cc := by rw [IntKind.wrap_i64]; omega
  have hS : ∀ w' : World, Below wL.heap.size wL w' → (Below wL.heap.size wL w' ∧ w'.cell? ⟨pa, 0, none⟩ = some (.int .i64 k) ∧ w'.cell? ⟨pa, 1, none⟩ = some (.int .i64 n) ∧ w'.cell? ⟨pa, 2, none⟩ = some (.string s) ∧ w'.cell? ⟨pb, 0, none⟩ = some (.int .i64 k1) ∧ w'.cell? ⟨pb, 1, none⟩ = some (.int .i64 n1) ∧ w'.cell? ⟨pb, 2, none⟩ = some (.string s1) ∧ w'.cell? ⟨pr, 0, none⟩ = some (.int .i64 kr) ∧ w'.cell? ⟨pr, 1, none⟩ = some (.int .i64 nr) ∧ w'.cell? ⟨pr, 2, none⟩ = some (.string sr)) := fun w' h => ⟨h, (Va.on h).2.1, (Va.on h).2.2.1, (Va.on h).2.2.2, (Vb.on h).2.1, (Vb.on h).2.2.1, (Vb.on h).2.2.2, (Vr.on h).2.1, (Vr.on h).2.2.1, (Vr.on h).2.2.2⟩
  go_region_held3 (fun w' => Below wL.heap.size wL w' ∧ w'.cell? ⟨pa, 0, none⟩ = some (.int .i64 k) ∧ w'.cell? ⟨pa, 1, none⟩ = some (.int .i64 n) ∧ w'.cell? ⟨pa, 2, none⟩ = some (.string s) ∧ w'.cell? ⟨pb, 0, none⟩ = some (.int .i64 k1) ∧ w'.cell? ⟨pb, 1, none⟩ = some (.int .i64 n1) ∧ w'.cell? ⟨pb, 2, none⟩ = some (.string s1) ∧ w'.cell? ⟨pr, 0, none⟩ = some (.int .i64 kr) ∧ w'.cell? ⟨pr, 1, none⟩ = some (.int .i64 nr) ∧ w'.cell? ⟨pr, 2, none⟩ = some (.string sr)) (first | exact hS _ (by assumption) | exact hS _ (below_drew1 (by first | assumption | exact Below.refl _ _))) (first | (go_at_call 41; with_reducible refine (e1 _ ?_).mono ?_; (first | assumption | exact And.left (by assumption)); rintro e w2 ⟨rfl, hb2⟩) | (go_at_call 31; with_reducible refine (e2 _ ?_).mono ?_; (first | assumption | exact And.left (by assumption)); rintro e w2 ⟨rfl, hb2⟩) | (go_at_call 25; with_reducible refine (e3 _ ?_).mono ?_; (first | assumption | exact And.left (by assumption)); rintro e w2 ⟨rfl, hb2⟩) | (go_at_call 25; with_reducible refine (e4 _ ?_).mono ?_; (first | assumption | exact And.left (by assumption)); rintro e w2 ⟨rfl, hb2⟩))
  have hbM := on_on hbL hb2
  clear e1 e2 e3 e4 hS Va Vb Vr hb2 hbL hbH
  have cX := dX _ hbM
  clear dX
  go_upto_region 14 with (go_at_call 14; refine cX.mono ?_; rintro e wN ⟨x, rfl, hx, hN⟩)
  have hbN := on_on hbM hN
  have hss := Vl.shown_size x
  have hcz := Vl.cut_size (Vl.shown x)
  have f1 : ∀ wx : World, Below W.heap.size W wx → Calls Tryz.prog 18 #[.int .i64 x] wx fun e w' => e = .returned (.bool (Dec.okB x)) ∧ Below W.heap.size W w' := fun wx h => lDecOk x a W wx hc h
  have f2 : ∀ wx : World, Below W.heap.size W wx → Calls Tryz.prog 15 #[.int .i64 x] wx fun e w' => e = .returned (.string (Vl.shown x)) ∧ Below W.heap.size W w' := fun wx h => ((iDecText x a wx (sent_later hc h) (tab_later hT h)).mono fun e w' ⟨he, hb⟩ => ⟨he, on_on h hb⟩)
  have f3 : ∀ wx : World, Below W.heap.size W wx → Calls Tryz.prog 40 #[.string (Vl.shown x)] wx fun e w' => e = .returned (.agg #[.int .i64 (Vl.rdK (Vl.shown x)), .int .i64 (Vl.rdN (Vl.shown x)), .string (Vl.cutV (Vl.shown x))]) ∧ Below W.heap.size W w' := fun wx h => ((iRead (Vl.shown x) a wx (sent_later hc h) (by omega)).mono fun e w' ⟨he, hb⟩ => ⟨he, on_on h hb⟩)
  have f4 : ∀ wx : World, Below W.heap.size W wx → Calls Tryz.prog 33 #[.agg #[.int .i64 (Vl.rdK (Vl.shown x)), .int .i64 (Vl.rdN (Vl.shown x)), .string (Vl.cutV (Vl.shown x))]] wx fun e w' => e = .returned (.int .i64 (Vl.numV (Vl.rdK (Vl.shown x)) (Vl.rdN (Vl.shown x)) (Vl.cutV (Vl.shown x)))) ∧ Below W.heap.size W w' := fun wx h => ((iToNum (Vl.rdK (Vl.shown x)) (Vl.rdN (Vl.shown x)) (Vl.cutV (Vl.shown x)) a wx (sent_later hc h) (by omega)).mono fun e w' ⟨he, hb⟩ => ⟨he, on_on h hb⟩)
  clear cX hN hbM hss hcz hc hT
  cases hok : Dec.okB x with
  | false =>
    rw [hok] at f1
    clear f2 f3 f4
    go_wp2_with (first | (go_at_call 18; with_reducible refine (f1 _ ?_).mono ?_; assumption; rintro e w2 ⟨rfl, hb2⟩))
    go_ret
    exact ⟨rfl, by assumption⟩
  | true =>
    rw [hok] at f1
    rw [Vl.read_shown hok] at f4
    generalize Vl.rdK (Vl.shown x) = kk at *
    generalize Vl.rdN (Vl.shown x) = nn at *
    generalize Vl.cutV (Vl.shown x) = ss at *
    generalize Vl.shown x = sx at *
    clear hok
    go_wp2_with (first | (go_at_call 18; with_reducible refine (f1 _ ?_).mono ?_; assumption; rintro e w2 ⟨rfl, hb2⟩) | (go_at_call 15; with_reducible refine (f2 _ ?_).mono ?_; assumption; rintro e w2 ⟨rfl, hb2⟩) | (go_at_call 40; with_reducible refine (f3 _ ?_).mono ?_; assumption; rintro e w2 ⟨rfl, hb2⟩) | (go_at_call 33; with_reducible refine (f4 _ ?_).mono ?_; assumption; rintro e w2 ⟨rfl, hb2⟩))
    go_ret
    exact ⟨rfl, by assumption⟩

theorem lawVals (sa : Option Addr) (len cap : Nat) (a : Addr) (w : World) (hc : w.cell? ⟨1, 0, none⟩ = some (.iface 252 (.pointer (some a)))) (hT : Lib.TabIs Tryz.prog w "internal/strconv.uint64pow10" .u64 Lib.pow10Tab) (hy : Bytes w.heap.size w sa len) :
    Calls Tryz.prog 5 #[.slice sa len cap] w fun e w' => e = .returned (.bool true) ∧ Below w.heap.size w w' := by
  by_cases h : len ≤ 1048576
  · exact vals_small sa len cap a w hc hT h (by omega) hy
  · exact vals_big sa len cap w (by omega)
end Go.Proofs.YtdkeinnljbfopadGreatDoor
