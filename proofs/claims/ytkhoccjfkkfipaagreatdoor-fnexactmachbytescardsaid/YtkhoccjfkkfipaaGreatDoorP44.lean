/-
  StateOk, the specification's.
-/
import Derived.Test.YtkhoccjfkkfipaaGreatDoorP26
import Derived.Deep.RegionWith
import Derived.Deep.DrawnRows
import Derived.Deep.QuietTactic
import Derived.BigQuiet
namespace Go.Proofs.YtkhoccjfkkfipaaGreatDoor
open Go.RowKit
namespace St
open Nd
attribute [local go_sem ↓] Go.wp_at_zero Go.wp_at_succ

/-- The cells' loop, one round: what is kept while it goes. -/
structure Kp (w : World) (B : Nat) (a b : Option Addr) (lv ca lc cb : Nat) (nr er : Int) (wr : World) : Prop where
  below : Below w.heap.size w wr
  blk : Blk 44 wr B [.slice a lv ca, .slice b lc cb, .int .i64 nr, .int .i64 er]
theorem Kp.later {w wr wr' : World} {B lv ca lc cb : Nat} {a b : Option Addr} {nr er : Int} (h : Kp w B a b lv ca lc cb nr er wr) (hb : Below wr.heap.size wr wr') : Kp w B a b lv ca lc cb nr er wr' := ⟨h.below.trans (hb.mono h.below.size), h.blk.below hb⟩

theorem all_take' {α : Type} {p : α → Bool} {ks : List α} {k : Nat} {t : α} (h : ks[k]? = some t) : (ks.take (k + 1)).all p = ((ks.take k).all p && p t) := by
  rw [List.take_add_one, h, List.all_append]
  simp
theorem all_no' {α : Type} {p : α → Bool} {ks : List α} {t : α} (h : t ∈ ks) (hp : p t = false) : ks.all p = false := by
  rcases hb : ks.all p with _ | _
  · rfl
  · rw [List.all_eq_true.1 hb t h] at hp; cases hp

/-- Worlds grown out of one, as a family: a region whose callees make memory alone is walked once, in the order of the text. -/
theorem family (W : World) : ∃ (I : Type) (F : I → World), Nonempty I ∧ Hid (∀ i, Below W.heap.size W (F i)) ∧ Hid (∀ w', Below W.heap.size W w' → ∃ i, w' = F i) :=
  ⟨{w' : World // Below W.heap.size W w'}, Subtype.val, ⟨⟨W, Below.refl _ W⟩⟩, fun i => i.2, fun w' h => ⟨⟨w', h⟩, rfl⟩⟩
theorem wp_region_fam {P : Program} {I : Type} {F : I → World} {id : Nat} {Q : Exit → Act → World → Prop} {a : Act} {w : World} {l : List Oper} (hm : P.follows .mixedOrders = true) (hB : Region.lexB .any l.toArray = true)
    (hC : ∃ i, w.drew = F i) (h : wpQuiet P l.toArray (fun w' => ∃ i, w' = F i) (fun a' => ∀ w', (∃ i, w' = F i) → Q .normal a' w') l a) : (Code.region id l.toArray true).wp P Q a w :=
  wp_region_quiet (C := fun w' => ∃ i, w' = F i) hm hB hC h

theorem sIn (x lo hi : Int) (w : World) : Calls Tryz.prog 45 #[.int .i64 x, .int .i64 lo, .int .i64 hi] w fun e w' => e = .returned (.bool (decide (lo ≤ x ∧ x ≤ hi))) ∧ w' = w := by
  by_cases h1 : lo ≤ x
  · by_cases h2 : x ≤ hi
    · rw [decide_eq_true ⟨h1, h2⟩]
      go_enter Tryz.func45, Tryz.ntmps45
      go_wp2_with fail
      go_ret
      exact ⟨rfl, rfl⟩
    · rw [decide_eq_false fun h => h2 h.2]
      go_enter Tryz.func45, Tryz.ntmps45
      go_wp2_with fail
      go_ret
      exact ⟨rfl, rfl⟩
  · rw [decide_eq_false fun h => h1 h.1]
    go_enter Tryz.func45, Tryz.ntmps45
    go_wp2_with fail
    go_ret
    exact ⟨rfl, rfl⟩

set_option maxHeartbeats 8000000 in
set_option maxRecDepth 100000 in
theorem sStateOk {a b : Option Addr} {ca cb : Nat} {vs : List St.Vl} {cs : List Cl} {nr er vars m : Int} {w : World} (hV : RdV w a vs) (hC : RdC w b cs) (hn : vs.length ≤ 1048576) (hm : cs.length ≤ 1048576) (hsv : ∀ v ∈ vs, SmV v) (hsc : ∀ c ∈ cs, SmC c) :
    Calls Tryz.prog 47 #[.agg #[.slice a vs.length ca, .slice b cs.length cb, .int .i64 nr, .int .i64 er], .int .i64 vars, .int .i64 m] w fun e w' => e = .returned (.bool (stateB vs cs nr er vars m)) ∧ Below w.heap.size w w' := by
  obtain ⟨R, hR⟩ : ∃ R, R = stateB vs cs nr er vars m := ⟨_, rfl⟩
  have HR : Hid (R = stateB vs cs nr er vars m) := hR
  rw [← hR]
  have bn : (vs.length : Int) ≤ 1048576 := by omega
  have bm : (cs.length : Int) ≤ 1048576 := by omega
  have HV : Hid (RdV w a vs) := hV
  have HC : Hid (RdC w b cs) := hC
  have HSV : Hid (∀ v ∈ vs, SmV v) := hsv
  have HSC : Hid (∀ c ∈ cs, SmC c) := hsc
  obtain ⟨W0, hW0⟩ : ∃ W0, W0 = w.alloc (.cells #[.slice a vs.length ca, .slice b cs.length cb, .int .i64 nr, .int .i64 er] 44) := ⟨_, rfl⟩
  have hk0 : Kp w w.heap.size a b vs.length ca cs.length cb nr er W0 := by rw [hW0]; exact ⟨(Below.refl _ w).alloc (Nat.le_refl _) _, Blk.new _ _ _⟩
  have HK0 : Hid (Kp w w.heap.size a b vs.length ca cs.length cb nr er W0) := hk0
  clear hR hV hC hsv hsc hn hm hk0
  go_enter Tryz.func47, Tryz.ntmps47
  go_wp2_with fail
  rw [← hW0]
  clear hW0
  go_loopw [7] (fun i wr => ∃ k : Nat, k ≤ vs.length ∧ i = .int .i64 k ∧ Hid ((vs.take k).all okVl = true) ∧ Hid (Kp w w.heap.size a b vs.length ca cs.length cb nr er wr)) (fun i _ => vs.length - (intOf i).toNat)
  case atStart => exact ⟨0, Nat.zero_le _, rfl, (show (vs.take 0).all okVl = true from rfl), HK0⟩
  case round =>
    clear HK0
    obtain ⟨k, hkn, rfl, HA, HK⟩ := hrel
    have q0 := HK.out.blk.cell 0 rfl
    have q1 := HK.out.blk.cell 1 rfl
    by_cases hkl : k < vs.length
    · have hki : vs[k]? = some vs[k] := List.getElem?_eq_getElem hkl
      obtain ⟨b', o, e, hbl, _, c0, c1, c2⟩ := HV.out.below HK.out.below k _ hki
      have bk : (k : Int) < vs.length := by omega
      have hT := all_take' (p := okVl) hki
      rw [HA.out, Bool.true_and] at hT
      have hsk : (vs[k].2.2.size : Int) ≤ 1048576 := by have := HSV.out _ (List.getElem_mem hkl); unfold SmV at this; omega
      have call := sValOk vs[k].1 vs[k].2.1 vs[k].2.2 wr hsk
      have HN : Hid (okVl vs[k] = false → R = false) := fun h => by rw [HR.out]; unfold stateB; rw [all_no' (List.getElem_mem hkl) h]; simp
      have HT : Hid ((vs.take (k + 1)).all okVl = okVl vs[k]) := hT
      have CALL : Hid (Calls Tryz.prog 69 #[.agg #[.int .i64 vs[k].1, .int .i64 vs[k].2.1, .string vs[k].2.2]] wr fun e w' => e = .returned (.bool (okVl vs[k])) ∧ Below wr.heap.size wr w') := call
      subst e
      generalize okVl vs[k] = B at *
      generalize vs[k] = v at *
      clear hki hT hsk HA call
      cases B
      · replace HN : Hid (R = false) := HN.out rfl
        go_wp2_with (go_at_call 69; refine Calls.mono CALL.out ?_; rintro e w2 ⟨rfl, hb2⟩)
        go_ret
        exact ⟨by rw [HN.out]; rfl, (HK.out.later hb2).below⟩
      · go_wp2_with (go_at_call 69; refine Calls.mono CALL.out ?_; rintro e w2 ⟨rfl, hb2⟩)
        go_roundw
        case rel => exact ⟨k + 1, hkl, by go_num, HT.out, HK.out.later hb2⟩
        case measure => simp [intOf]; omega
    · obtain rfl : k = vs.length := by omega
      have hall : Hid (vs.all okVl = true) := by have := HA.out; rw [List.take_length] at this; exact this
      clear HA
      go_wp2_with fail
      clear q0 q1
      go_loopw [8] (fun i wr2 => ∃ j : Nat, j ≤ cs.length ∧ i = .int .i64 j ∧ Hid (∀ i, i < j → okAt m cs i = true) ∧ Hid (Kp w w.heap.size a b vs.length ca cs.length cb nr er wr2)) (fun i _ => cs.length - (intOf i).toNat)
      case atStart => exact ⟨0, Nat.zero_le _, rfl, (show ∀ i, i < 0 → okAt m cs i = true by omega), HK⟩
      case round =>
        clear HK
        obtain ⟨j, hj, rfl, HJ, HK⟩ := hrel
        have q1 := HK.out.blk.cell 1 rfl
        by_cases hjl : j < cs.length
        · have hcj : cs[j]? = some cs[j] := List.getElem?_eq_getElem hjl
          obtain ⟨b', o, e, hbl, _, _, p0, p1, p2, p3, p4⟩ := HC.out.below HK.out.below j _ hcj
          have bj : (j : Int) < cs.length := by omega
          have hat := ok_at (m := m) hcj
          have hsk := HSC.out _ (List.getElem_mem hjl)
          have HNo : Hid (okAt m cs j = false → R = false) := fun h => by rw [HR.out]; unfold stateB; rw [cells_false hjl h]; simp
          have HYes : Hid (okAt m cs j = true → ∀ i, i < j + 1 → okAt m cs i = true) := fun h i hi => by
            by_cases e : i = j
            · rw [e]; exact h
            · exact HJ.out i (by omega)
          obtain ⟨oC, hoC⟩ : ∃ oC, oC = Obj.cells #[.int .i64 cs[j].1, .string cs[j].2.1, .int .i64 cs[j].2.2.1, .int .i64 cs[j].2.2.2.1, .string cs[j].2.2.2.2] 71 := ⟨_, rfl⟩
          have HK1 : Hid (Kp w w.heap.size a b vs.length ca cs.length cb nr er (wr.alloc oC).drew) := HK.out.later (((Below.refl _ wr).alloc (Nat.le_refl _) _).drew)
          have kC : Blk 71 (wr.alloc oC).drew wr.heap.size [.int .i64 cs[j].1, .string cs[j].2.1, .int .i64 cs[j].2.2.1, .int .i64 cs[j].2.2.2.1, .string cs[j].2.2.2.2] := by rw [hoC]; exact Blk.new _ _ _
          have x0 := kC.cell 0 rfl
          have x1 := kC.cell 1 rfl
          have x2 := kC.cell 2 rfl
          have x3 := kC.cell 3 rfl
          have x4 := kC.cell 4 rfl
          have x5 := HK1.out.blk.cell 1 rfl
          have CALL : Hid (∀ w1, Calls Tryz.prog 69 #[.agg #[.int .i64 cs[j].2.2.1, .int .i64 cs[j].2.2.2.1, .string cs[j].2.2.2.2]] w1 fun e w' => e = .returned (.bool (okVl cs[j].2.2)) ∧ Below w1.heap.size w1 w') := fun w1 => sValOk cs[j].2.2.1 cs[j].2.2.2.1 cs[j].2.2.2.2 w1 (by have := hsk.2; omega)
          obtain ⟨I, F, hI, HF, HF2⟩ := family (wr.alloc oC).drew
          have HF3 : Hid (∀ i w', Below (F i).heap.size (F i) w' → ∃ i', w' = F i') := fun i w' h => HF2.out _ ((HF.out i).trans (h.mono (HF.out i).size))
          have facts : Hid (∀ w3, Below (wr.alloc oC).drew.heap.size (wr.alloc oC).drew w3 → Kp w w.heap.size a b vs.length ca cs.length cb nr er w3 ∧ w3.cell? ⟨wr.heap.size, 0, none⟩ = some (.int .i64 cs[j].1) ∧ w3.cell? ⟨wr.heap.size, 1, none⟩ = some (.string cs[j].2.1) ∧ w3.cell? ⟨wr.heap.size, 2, none⟩ = some (.int .i64 cs[j].2.2.1) ∧ w3.cell? ⟨wr.heap.size, 3, none⟩ = some (.int .i64 cs[j].2.2.2.1) ∧ w3.cell? ⟨wr.heap.size, 4, none⟩ = some (.string cs[j].2.2.2.2) ∧ w3.cell? ⟨w.heap.size, 1, none⟩ = some (.slice b cs.length cb)) := fun w3 h3 => by
            have k3 := kC.below h3
            exact ⟨HK1.out.later h3, k3.cell 0 rfl, k3.cell 1 rfl, k3.cell 2 rfl, k3.cell 3 rfl, k3.cell 4 rfl, (HK1.out.later h3).blk.cell 1 rfl⟩
          have hcb : cellB m cs[j] = (decide (0 ≤ cs[j].1) && (decide (cs[j].1 < m) && (decide ((cs[j].2.1.size : Int) ≤ 300) && okVl cs[j].2.2))) := rfl
          have hszc : (cs[j].2.1.size : Int) ≤ 1048576 := by have := hsk.1; omega
          subst hoC e
          clear kC
          by_cases h1 : cs[j].1 < 0
          · rw [hcb, decide_eq_false (show ¬ 0 ≤ cs[j].1 by omega), Bool.false_and, Bool.false_and] at hat
            have H : Hid (R = false) := HNo.out hat
            have d1 : decide (cs[j].1 < 0) = true := decide_eq_true h1
            generalize cs[j] = c at *
            clear hcb facts CALL HF HF2 HF3 hI F
            clear hat HNo HYes HV HSV HSC HC HJ hall hsk hcj
            go_wp2_with fail
            clear p0 p1 p2 p3 p4
            go_quiet (fail)
            go_wp2_with fail
            go_ret
            exact ⟨by rw [H.out]; rfl, HK1.out.below.os, HK1.out.below.tape, HK1.out.below.output, HK1.out.below.size, HK1.out.below.block⟩
          have e1 : decide (cs[j].1 < 0) = false := decide_eq_false h1
          by_cases h2 : m ≤ cs[j].1
          · rw [hcb, decide_eq_false (show ¬ cs[j].1 < m by omega), Bool.false_and, Bool.and_false, Bool.false_and] at hat
            have H : Hid (R = false) := HNo.out hat
            have d2 : decide (m ≤ cs[j].1) = true := decide_eq_true h2
            generalize cs[j] = c at *
            clear hcb facts CALL HF HF2 HF3 hI F
            clear hat HNo HYes HV HSV HSC HC HJ hall hsk hcj
            go_wp2_with fail
            clear p0 p1 p2 p3 p4
            go_quiet (fail)
            go_wp2_with fail
            go_ret
            exact ⟨by rw [H.out]; rfl, HK1.out.below.os, HK1.out.below.tape, HK1.out.below.output, HK1.out.below.size, HK1.out.below.block⟩
          have e2 : decide (m ≤ cs[j].1) = false := decide_eq_false h2
          by_cases h3 : (300 : Int) < cs[j].2.1.size
          · rw [hcb, decide_eq_false (show ¬ (cs[j].2.1.size : Int) ≤ 300 by omega), Bool.false_and, Bool.and_false, Bool.and_false, Bool.false_and] at hat
            have H : Hid (R = false) := HNo.out hat
            have d3 : decide ((300 : Int) < cs[j].2.1.size) = true := decide_eq_true h3
            generalize cs[j] = c at *
            clear hcb facts CALL HF HF2 HF3 hI F
            clear hat HNo HYes HV HSV HSC HC HJ hall hsk hcj
            go_wp2_with fail
            clear p0 p1 p2 p3 p4
            go_quiet (fail)
            go_wp2_with fail
            go_ret
            exact ⟨by rw [H.out]; rfl, HK1.out.below.os, HK1.out.below.tape, HK1.out.below.output, HK1.out.below.size, HK1.out.below.block⟩
          have e3 : decide ((300 : Int) < cs[j].2.1.size) = false := decide_eq_false h3
          rw [hcb, decide_eq_true (show 0 ≤ cs[j].1 by omega), decide_eq_true (show cs[j].1 < m by omega), decide_eq_true (show (cs[j].2.1.size : Int) ≤ 300 by omega), Bool.true_and, Bool.true_and, Bool.true_and] at hat
          have y0 := fun i => (facts.out _ (HF.out i)).2.1
          have y1 := fun i => (facts.out _ (HF.out i)).2.2.1
          have y2 := fun i => (facts.out _ (HF.out i)).2.2.2.1
          have y3 := fun i => (facts.out _ (HF.out i)).2.2.2.2.1
          have y4 := fun i => (facts.out _ (HF.out i)).2.2.2.2.2.1
          have y5 := fun i => (facts.out _ (HF.out i)).2.2.2.2.2.2
          cases hB : okVl cs[j].2.2 with
          | false =>
            rw [hB, Bool.false_and] at hat
            rw [show okVl cs[j].2.2 = false from hB] at CALL
            have H : Hid (R = false) := HNo.out hat
            generalize cs[j] = c at *
            clear hcb
            clear hat HNo HYes HV HSV HSC HC HJ hall hsk hcj
            go_wp2_with fail
            clear p0 p1 p2 p3 p4
            refine wp_region_fam (F := F) (by kernel_rfl) (by kernel_rfl) (HF2.out _ (Below.refl _ _)) ?_
            repeat (go_big_quiet_step ((go_at_call 69; refine Calls.mono (CALL.out _) ?_; rintro e w3 ⟨rfl, hb3⟩; exact ⟨rfl, HF3.out _ _ hb3⟩)))
            refine wpQuiet_nil ?_
            rintro _ ⟨iq, rfl⟩
            have K3 := (facts.out _ (HF.out iq)).1
            all_goals
              go_wp2_with fail
              go_ret
              exact ⟨by rw [H.out]; rfl, K3.below⟩
          | true =>
            rw [hB, Bool.true_and] at hat
            rw [show okVl cs[j].2.2 = true from hB] at CALL
            by_cases hj0 : j = 0
            · subst hj0
              simp only [Nat.zero_mul, Nat.add_zero] at p0 p1 p2 p3 p4
              have HY : Hid (∀ i, i < 0 + 1 → okAt m cs i = true) := HYes.out (by rw [hat]; simp)
              generalize cs[0] = c at *
              clear hcb
              clear hat HNo HYes HV HSV HSC HC HJ hall hsk hcj
              go_wp2_with fail
              clear p0 p1 p2 p3 p4
              refine wp_region_fam (F := F) (by kernel_rfl) (by kernel_rfl) (HF2.out _ (Below.refl _ _)) ?_
              repeat (go_big_quiet_step ((go_at_call 69; refine Calls.mono (CALL.out _) ?_; rintro e w3 ⟨rfl, hb3⟩; exact ⟨rfl, HF3.out _ _ hb3⟩)))
              refine wpQuiet_nil ?_
              rintro _ ⟨iq, rfl⟩
              have K3 := (facts.out _ (HF.out iq)).1
              all_goals
                go_wp2_with fail
                go_roundw
              all_goals first
                | exact ⟨0 + 1, hjl, by go_num, HY, K3⟩
                | (simp [intOf]; omega)
            · obtain ⟨j', hj'⟩ : ∃ j', j = j' + 1 := ⟨j - 1, by omega⟩
              have hp : cs[j']? = some cs[j'] := List.getElem?_eq_getElem (by omega)
              have hjj : j - 1 = j' := by omega
              rw [decide_eq_false hj0, Bool.false_or, prev_at (by rw [hjj]; exact hp)] at hat
              have hat' : okAt m cs j = lessB cs[j'] cs[j] := hat
              have hq0 : lessB cs[j'] cs[j] = decide (cmpC cs[j'].1 cs[j'].2.1 cs[j].1 cs[j].2.1 < 0) := rfl
              have CMP : Hid (∀ w', Calls Tryz.prog 70 #[.agg #[.int .i64 cs[j'].1, .string cs[j'].2.1, .int .i64 cs[j'].2.2.1, .int .i64 cs[j'].2.2.2.1, .string cs[j'].2.2.2.2], .int .i64 cs[j].1, .string cs[j].2.1] w' fun e w'' => e = .returned (.bool (lessB cs[j'] cs[j])) ∧ Below w'.heap.size w' w'') := fun w' => sLess cs[j'] cs[j].1 cs[j].2.1 w'
              have facts2 : Hid (∀ w3, Kp w w.heap.size a (some ⟨b', o, none⟩) vs.length ca cs.length cb nr er w3 → w3.cell? ⟨b', o + j' * 5, none⟩ = some (.int .i64 cs[j'].1) ∧ w3.cell? ⟨b', o + j' * 5 + 1, none⟩ = some (.string cs[j'].2.1) ∧ w3.cell? ⟨b', o + j' * 5 + 2, none⟩ = some (.int .i64 cs[j'].2.2.1) ∧ w3.cell? ⟨b', o + j' * 5 + 3, none⟩ = some (.int .i64 cs[j'].2.2.2.1) ∧ w3.cell? ⟨b', o + j' * 5 + 4, none⟩ = some (.string cs[j'].2.2.2.2)) := fun w3 h3 => by
                obtain ⟨b2, o2, e, _, _, _, z0, z1, z2, z3, z4⟩ := HC.out.below h3.below j' _ hp
                simp at e
                obtain ⟨rfl, rfl⟩ := e
                exact ⟨z0, z1, z2, z3, z4⟩
              have z0 := fun i => (facts2.out _ (facts.out _ (HF.out i)).1).1
              have z1 := fun i => (facts2.out _ (facts.out _ (HF.out i)).1).2.1
              have z2 := fun i => (facts2.out _ (facts.out _ (HF.out i)).1).2.2.1
              have z3 := fun i => (facts2.out _ (facts.out _ (HF.out i)).1).2.2.2.1
              have z4 := fun i => (facts2.out _ (facts.out _ (HF.out i)).1).2.2.2.2
              have hsub : (j : Int) - 1 = (j' : Int) := by omega
              have bj' : (j' : Int) < cs.length := by omega
              have hwr : IntKind.i64.wrap (j' : Int) = (j' : Int) := by rw [IntKind.wrap_i64]; omega
              have hpos : (0 : Int) < j := by omega
              have hposd : decide ((0 : Int) < j) = true := decide_eq_true hpos
              have hposn : 0 < j := by omega
              have hposm : decide (0 < j) = true := decide_eq_true hposn
              cases hL : lessB cs[j'] cs[j] with
              | true =>
                have HY : Hid (∀ i, i < j + 1 → okAt m cs i = true) := HYes.out (by rw [hat', hL])
                rw [show lessB cs[j'] cs[j] = true from hL] at CMP
                generalize cs[j'] = d at *
                generalize cs[j] = c at *
                clear hcb hat' hp hq0 hj0 hj' hjj hB hL
                clear hat HNo HYes HV HSV HSC HC HJ hall hsk hcj
                go_wp2_with fail
                clear p0 p1 p2 p3 p4
                refine wp_region_fam (F := F) (by kernel_rfl) (by kernel_rfl) (HF2.out _ (Below.refl _ _)) ?_
                repeat (go_big_quiet_step (first | (go_at_call 69; refine Calls.mono (CALL.out _) ?_; rintro e w3 ⟨rfl, hb3⟩; exact ⟨rfl, HF3.out _ _ hb3⟩) | (go_at_call 70; refine Calls.mono (CMP.out _) ?_; rintro e w3 ⟨rfl, hb3⟩; exact ⟨rfl, HF3.out _ _ hb3⟩)))
                refine wpQuiet_nil ?_
                rintro _ ⟨iq, rfl⟩
                have K3 := (facts.out _ (HF.out iq)).1
                all_goals
                  go_wp2_with fail
                  go_roundw
                all_goals first
                  | exact ⟨j + 1, hjl, by go_num, HY, K3⟩
                  | (simp [intOf]; omega)
              | false =>
                have H : Hid (R = false) := HNo.out (by rw [hat', hL])
                rw [show lessB cs[j'] cs[j] = false from hL] at CMP
                generalize cs[j'] = d at *
                generalize cs[j] = c at *
                clear hcb hat' hp hq0 hj0 hj' hjj hB hL
                clear hat HNo HYes HV HSV HSC HC HJ hall hsk hcj
                go_wp2_with fail
                clear p0 p1 p2 p3 p4
                refine wp_region_fam (F := F) (by kernel_rfl) (by kernel_rfl) (HF2.out _ (Below.refl _ _)) ?_
                repeat (go_big_quiet_step (first | (go_at_call 69; refine Calls.mono (CALL.out _) ?_; rintro e w3 ⟨rfl, hb3⟩; exact ⟨rfl, HF3.out _ _ hb3⟩) | (go_at_call 70; refine Calls.mono (CMP.out _) ?_; rintro e w3 ⟨rfl, hb3⟩; exact ⟨rfl, HF3.out _ _ hb3⟩)))
                refine wpQuiet_nil ?_
                rintro _ ⟨iq, rfl⟩
                have K3 := (facts.out _ (HF.out iq)).1
                all_goals
                  go_wp2_with fail
                  go_ret
                  exact ⟨by rw [H.out]; rfl, K3.below⟩
        · obtain rfl : j = cs.length := by omega
          have hcl := cells_true HJ.out
          have q0 := HK.out.blk.cell 0 rfl
          have q2 := HK.out.blk.cell 2 rfl
          have q3 := HK.out.blk.cell 3 rfl
          have HB : Hid (Below w.heap.size w wr) := HK.out.below
          have hS : R = (decide ((vs.length : Int) = vars) && (decide (cs.length ≤ 40) && (decide (0 ≤ nr ∧ nr ≤ 1000000) && decide (0 ≤ er ∧ er ≤ 7)))) := by
            rw [HR.out]; unfold stateB; rw [hall.out, hcl]; simp
          have c1 := fun w => sIn nr 0 1000000 w
          have c2 := fun w => sIn er 0 7 w
          generalize decide (0 ≤ nr ∧ nr ≤ 1000000) = D1 at *
          generalize decide (0 ≤ er ∧ er ≤ 7) = D2 at *
          have HS : Hid (R = (decide ((vs.length : Int) = vars) && (decide (cs.length ≤ 40) && (D1 && D2)))) := hS
          clear hS hcl HK HJ hall HV HC HSV HSC HR
          by_cases h1 : (vs.length : Int) = vars
          · have d1 : ((vs.length : Int) == vars) = true := by simpa using h1
            by_cases h2 : cs.length ≤ 40
            · have d2 : decide ((cs.length : Int) ≤ 40) = true := decide_eq_true (by omega)
              cases D1 with
              | false =>
                have H : Hid (R = false) := by show R = false; rw [HS.out]; simp
                clear HS h1
                go_wp2_with (go_at_call 45; refine (c1 _).mono ?_; rintro e w2 ⟨rfl, rfl⟩)
                go_ret
                exact ⟨by rw [H.out]; rfl, HB.out⟩
              | true =>
                have H : Hid (R = D2) := by show R = D2; rw [HS.out, decide_eq_true h1, decide_eq_true h2]; simp
                clear HS h1
                go_wp2_with (go_at_call 45; first | (with_reducible refine (c1 _).mono ?_; rintro e w2 ⟨rfl, rfl⟩) | (with_reducible refine (c2 _).mono ?_; rintro e w2 ⟨rfl, rfl⟩))
                go_ret
                exact ⟨by rw [H.out]; rfl, HB.out⟩
            · have d2 : decide ((cs.length : Int) ≤ 40) = false := decide_eq_false (by omega)
              have H : Hid (R = false) := by show R = false; rw [HS.out, decide_eq_false h2]; simp
              clear HS h1 c1 c2
              go_wp2_with fail
              go_ret
              exact ⟨by rw [H.out]; rfl, HB.out⟩
          · have d1 : ((vs.length : Int) == vars) = false := by simpa using h1
            have H : Hid (R = false) := by show R = false; rw [HS.out, decide_eq_false h1]; simp
            clear HS h1 c1 c2
            go_wp2_with fail
            go_ret
            exact ⟨by rw [H.out]; rfl, HB.out⟩

end St
end Go.Proofs.YtkhoccjfkkfipaaGreatDoor
