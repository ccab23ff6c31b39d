/-
  The form of a code is found by halves.
  The six calls, of both sides.
  errors.Is by two contracts (the sentinel itself: true; nil: false), and the small functions of chapter 1 by theirs; the world is as it was.
-/
import Derived.Test.YtaakeecliehjgaaGreatDoorP13
import Derived.Test.YtaakeecliehjgaaGreatDoorP01
import Derived.Test.YtaakeecliehjgaaGreatDoorP08
import Derived.Test.YtaakeecliehjgaaGreatDoorProg
import Derived.WalkKit
import Derived.LaidEql
import Derived.RowKitTokens
namespace Go.Proofs.YtaakeecliehjgaaGreatDoor
open Go.RowKit
namespace Oc
open St (Vl)

theorem iCmpT (f : Fm) (c : Int) (W : World) : Calls Tryz.prog 86 #[.agg #[.int .i64 f.1, .int .i64 f.2.1, .int .i64 f.2.2.1, .string ⟨f.2.2.2.toArray⟩], .int .i64 c] W fun e w' => e = .returned (.int .i64 (Lib.compareInt f.1 c)) ∧ Below W.heap.size W w' := by
  have hcon := fun W' => AnyG.cmp_Compare_int Tryz.cmpInt f.1 c W'
  change ∀ W', Calls Tryz.prog 84 _ _ _ at hcon
  generalize Lib.compareInt f.1 c = r at hcon ⊢
  go_enter Tryz.func86, Tryz.ntmps86
  go_wp2_with (go_at_call 84; refine (hcon _).mono ?_; rintro e w' ⟨rfl, rfl⟩)
  go_ret
  exact ⟨rfl, (Below.refl _ W).alloc (Nat.le_refl _) _⟩

theorem cmp_lt (x y : Int) : (Lib.compareInt x y < 0 ↔ x < y) ∧ (Lib.compareInt x y = 0 ↔ x = y) := by
  unfold Lib.compareInt
  by_cases h1 : x < y
  · simp [h1]; omega
  · by_cases h2 : y < x
    · simp [h1, h2]; omega
    · simp [h1, h2]; omega

theorem eCmpT (args : Array Value) (w : World) : (callFunc 86 args).run Tryz.prog w = .ok (.enter 86 args) w := enters_of Tryz.func86 (by kernel_rfl) rfl args w

set_option maxHeartbeats 1000000 in
set_option maxRecDepth 100000 in
theorem iSearch {g cap : Nat} {w : World} (h : RdF w g) (c : Int) :
    Calls Tryz.prog 85 #[.slice (some ⟨g, 0, none⟩) 36 cap, .int .i64 c, .func (.func 86) #[] #[]] w fun e w' => ∃ i : Nat, e = .returned (.tuple #[.int .i64 i, .bool (codeB c)]) ∧ (codeB c = true → i = (c - 1).toNat) ∧ Below w.heap.size w w' := by
  have eg := eCmpT
  go_enter Tryz.func85, Tryz.ntmps85
  go_wp2_with fail
  go_loopw [9, 10] (fun i j wr => ∃ lo hi : Nat, i = .int .i64 lo ∧ j = .int .i64 hi ∧ lo ≤ hi ∧ hi ≤ 36 ∧ Hid ((lo = 0 ∨ (lo : Int) < c) ∧ (hi = 36 ∨ c ≤ (hi : Int) + 1)) ∧ Below w.heap.size w wr) (fun i j _ => (intOf j).toNat - (intOf i).toNat)
  case atStart => exact ⟨0, 36, rfl, rfl, by omega, by omega, (⟨.inl rfl, .inl rfl⟩ : ((0 : Nat) = 0 ∨ ((0 : Nat) : Int) < c) ∧ ((36 : Nat) = 36 ∨ c ≤ ((36 : Nat) : Int) + 1)), Below.refl _ _⟩
  case round =>
    obtain ⟨lo, hi, rfl, rfl, hlh, hin, I, hb⟩ := hrel
    by_cases hlt : lo < hi
    · obtain ⟨f, hf⟩ : ∃ f, tbl[(lo + hi) / 2]? = some f := ⟨_, List.getElem?_eq_getElem (by rw [tbl_len]; omega)⟩
      obtain ⟨c0, c1, c2, c3⟩ := (h.below hb).2 _ f hf
      have hfc := tbl_code hf
      have hc := iCmpT f c wr
      have hr := cmp_lt f.1 c
      generalize Lib.compareInt f.1 c = r at hc hr
      have HF : Hid (f.1 = (((lo + hi) / 2 : Nat) : Int) + 1) := hfc
      have HR : Hid ((r < 0 ↔ f.1 < c) ∧ (r = 0 ↔ f.1 = c)) := hr
      clear hfc hr hf h
      by_cases hr0 : r < 0
      · go_wp2_with (go_at_call 86; refine hc.mono ?_; rintro e w2 ⟨rfl, hb2⟩)
        go_roundw
        case rel =>
          have h1 := HR.out.1.1 hr0
          have h2 := HF.out
          have I2 : Hid (((lo + hi) / 2 + 1 = 0 ∨ (((lo + hi) / 2 + 1 : Nat) : Int) < c) ∧ (hi = 36 ∨ c ≤ (hi : Int) + 1)) := ⟨.inr (by omega), I.out.2⟩
          exact ⟨(lo + hi) / 2 + 1, hi, by rw [show ((lo : Int) + (hi : Int)) / 2 + 1 = (((lo + hi) / 2 + 1 : Nat) : Int) by omega], rfl, by omega, hin, I2, hb.trans (hb2.mono hb.size)⟩
        case measure => simp [intOf]; omega
      · go_wp2_with (go_at_call 86; refine hc.mono ?_; rintro e w2 ⟨rfl, hb2⟩)
        go_roundw
        case rel =>
          have h1 : ¬ f.1 < c := fun h => by have := HR.out.1.2 h; omega
          have h2 := HF.out
          have I2 : Hid ((lo = 0 ∨ (lo : Int) < c) ∧ ((lo + hi) / 2 = 36 ∨ c ≤ (((lo + hi) / 2 : Nat) : Int) + 1)) := ⟨I.out.1, .inr (by omega)⟩
          exact ⟨lo, (lo + hi) / 2, rfl, by rw [show ((lo : Int) + (hi : Int)) / 2 = (((lo + hi) / 2 : Nat) : Int) by omega], by omega, by omega, I2, hb.trans (hb2.mono hb.size)⟩
        case measure => simp [intOf]; omega
    · obtain rfl : lo = hi := by omega
      by_cases hn : lo < 36
      · obtain ⟨f, hf⟩ : ∃ f, tbl[lo]? = some f := ⟨_, List.getElem?_eq_getElem (by rw [tbl_len]; omega)⟩
        obtain ⟨c0, c1, c2, c3⟩ := (h.below hb).2 _ f hf
        have hfc := tbl_code hf
        have hc := iCmpT f c wr
        have hr := cmp_lt f.1 c
        generalize Lib.compareInt f.1 c = r at hc hr
        have HF : Hid (f.1 = (lo : Int) + 1 ∧ ((r < 0 ↔ f.1 < c) ∧ (r = 0 ↔ f.1 = c))) := ⟨hfc, hr⟩
        clear hfc hr hf h
        by_cases hr0 : r = 0
        · have HC : Hid (codeB c = true) := by
            obtain ⟨h1, h2, h3⟩ := HF.out
            have := h3.1 hr0
            show codeB c = true
            unfold codeB
            simp only [decide_eq_true_eq]
            omega
          go_wp2_with (go_at_call 86; refine hc.mono ?_; rintro e w2 ⟨rfl, hb2⟩)
          go_ret2
          refine ⟨lo, by rw [HC.out]; simp, fun _ => ?_, hb.trans (hb2.mono hb.size)⟩
          obtain ⟨h1, h2, h3⟩ := HF.out
          have := h3.1 hr0
          omega
        · have HC : Hid (codeB c = false) := by
            obtain ⟨h1, h2, h3⟩ := HF.out
            have h4 : f.1 ≠ c := fun h => hr0 (h3.2 h)
            obtain ⟨h5, h6⟩ := I.out
            show codeB c = false
            unfold codeB
            simp only [decide_eq_false_iff_not]
            omega
          go_wp2_with (go_at_call 86; refine hc.mono ?_; rintro e w2 ⟨rfl, hb2⟩)
          go_ret2
          exact ⟨lo, by rw [HC.out]; simp [hr0], (fun h => by rw [HC.out] at h; cases h), hb.trans (hb2.mono hb.size)⟩
      · obtain rfl : lo = 36 := by omega
        have HC : Hid (codeB c = false) := by
          obtain ⟨h5, h6⟩ := I.out
          show codeB c = false
          unfold codeB
          simp only [decide_eq_false_iff_not]
          omega
        clear h
        go_wp2_with fail
        go_ret2
        exact ⟨36, by rw [HC.out]; rfl, (fun h => by rw [HC.out] at h; cases h), hb⟩

theorem ret_form {fn : Func} {K J : Nat} {R : Ending → World → Prop} {a : Act} {W : World} {B : Nat} {v0 v1 v2 v3 b : Value} (hf : fn.results = #[.cell K 114, .tmp J]) (ht : a.tmps[K]? = some (.pointer (some ⟨B, 0, none⟩))) (hj : a.tmps[J]? = some b) (hd : a.defers = [])
    (hV : Blk 114 W B [v0, v1, v2, v3]) (hR : R (.returned (.tuple #[.agg #[v0, v1, v2, v3], b])) W) : bodyPost Tryz.prog fn R .ret a W := by
  have x0 := hV.cell 0 rfl
  have x1 := hV.cell 1 rfl
  have x2 := hV.cell 2 rfl
  have x3 := hV.cell 3 rfl
  refine bodyPost_ret ?_ hd hR
  simp [results, hf, ht, hj, go_sem, x0, x1, x2, x3]

set_option maxHeartbeats 1000000 in
theorem iFormOf {g cap : Nat} {w : World} (h : RdF w g) (c : Int) :
    Calls Tryz.prog 67 #[.slice (some ⟨g, 0, none⟩) 36 cap, .int .i64 c] w fun e w' => e = .returned (.tuple #[.agg #[.int .i64 (formAt c).1, .int .i64 (formAt c).2.1, .int .i64 (formAt c).2.2.1, .string ⟨(formAt c).2.2.2.toArray⟩], .bool (codeB c)]) ∧ Below w.heap.size w w' := by
  have hb0 : ∀ o, Below w.heap.size w (w.alloc o) := fun o => (Below.refl _ w).alloc (Nat.le_refl _) o
  have cs := fun o => iSearch (cap := cap) (h.below (hb0 o)) c
  have kB := Blk.new 114 w [.int .i64 0, .int .i64 0, .int .i64 0, .string ⟨#[]⟩]
  cases hc : codeB c
  · rw [hc] at cs
    have e : formAt c = zeroF := by unfold formAt; rw [hc]; rfl
    rw [e]
    go_enter Tryz.func67, Tryz.ntmps67
    go_wp2_with (go_at_call 85; refine (cs _).mono ?_; rintro e w2 ⟨i, rfl, -, hb2⟩; have kB2 := kB.below hb2; have q0 := kB2.cell 0 rfl; have q1 := kB2.cell 1 rfl; have q2 := kB2.cell 2 rfl; have q3 := kB2.cell 3 rfl; have fz := kB2.frozen)
    refine ret_form Tryz.results67 rfl rfl rfl ((((kB2.set 0 _).set 1 _).set 2 _).set 3 _) ⟨rfl, ?_⟩
    have B2 := (hb0 _).trans (hb2.mono (hb0 _).size)
    exact (((B2.setCell (Nat.le_refl _) _).setCell (Nat.le_refl _) _).setCell (Nat.le_refl _) _).setCell (Nat.le_refl _) _
  · rw [hc] at cs
    obtain ⟨-, -, hf⟩ := form_kinds hc
    have hi0 : (c - 1).toNat < 36 := by have := (List.getElem?_eq_some_iff.1 hf).1; rwa [tbl_len] at this
    obtain ⟨I, hI⟩ : ∃ I, I = (c - 1).toNat := ⟨_, rfl⟩
    rw [← hI] at cs hf hi0
    have R2 := fun w2 (hw : Below w.heap.size w w2) => (h.below hw).2 I (formAt c) hf
    generalize formAt c = F at *
    clear hI hf h
    go_enter Tryz.func67, Tryz.ntmps67
    go_wp2_with (go_at_call 85; refine (cs _).mono ?_; rintro e w2 ⟨i, rfl, hi, hb2⟩; have hi := hi rfl; subst hi; have kB2 := kB.below hb2; have q0 := kB2.cell 0 rfl; have q1 := kB2.cell 1 rfl; have q2 := kB2.cell 2 rfl; have q3 := kB2.cell 3 rfl; have fz := kB2.frozen; have B2 := (hb0 _).trans (hb2.mono (hb0 _).size); obtain ⟨r0, r1, r2, r3⟩ := R2 _ B2)
    refine ret_form Tryz.results67 rfl rfl rfl ((((kB2.set 0 _).set 1 _).set 2 _).set 3 _) ⟨rfl, ?_⟩
    exact (((B2.setCell (Nat.le_refl _) _).setCell (Nat.le_refl _) _).setCell (Nat.le_refl _) _).setCell (Nat.le_refl _) _

end Oc
end Go.Proofs.YtaakeecliehjgaaGreatDoor
namespace Go.Proofs.YtaakeecliehjgaaGreatDoor
open Go.RowKit
namespace Oc
open Ty (callL callB)

theorem iHasCall (s : List UInt8) (w : World) : Calls Tryz.prog 89 #[.string ⟨s.toArray⟩] w fun e w' => e = .returned (.bool (callB s)) ∧ w' = w := by
  by_cases h : s ∈ callL
  · have H : callB s = true := by simp [callB, h]
    rw [H]
    unfold callL at h
    simp only [List.mem_cons, List.not_mem_nil, or_false] at h
    rcases h with rfl | rfl | rfl | rfl | rfl | rfl
    all_goals
      go_enter Tryz.func89, Tryz.ntmps89
      go_wp2_with fail
      go_ret
      exact ⟨rfl, rfl⟩
  · have H : callB s = false := by simp [callB, h]
    rw [H]
    unfold callL at h
    simp only [List.mem_cons, List.not_mem_nil, or_false, not_or] at h
    obtain ⟨h1, h2, h3, h4, h5, h6⟩ := h
    replace h1 := beq_eq_false_iff_ne.2 h1
    replace h2 := beq_eq_false_iff_ne.2 h2
    replace h3 := beq_eq_false_iff_ne.2 h3
    replace h4 := beq_eq_false_iff_ne.2 h4
    replace h5 := beq_eq_false_iff_ne.2 h5
    replace h6 := beq_eq_false_iff_ne.2 h6
    go_enter Tryz.func89, Tryz.ntmps89
    go_wp2_with fail
    go_ret
    exact ⟨rfl, rfl⟩

def strV (s : List UInt8) : Value := .string ⟨s.toArray⟩
def StrRow (w : World) (g : Nat) (L : List (List UInt8)) : Prop := ∀ j s, L[j]? = some s → w.cell? ⟨g, j, none⟩ = some (.string ⟨s.toArray⟩)

set_option maxRecDepth 100000 in
theorem sWithin {L : List (List UInt8)} (hL : L.length ≤ 100) (s : List UInt8) (g cap : Nat) (w : World) (hw : StrRow w g L) :
    Calls Tryz.prog 34 #[.slice (some ⟨g, 0, none⟩) L.length cap, .string ⟨s.toArray⟩] w fun e w' => e = .returned (.bool (decide (s ∈ L))) ∧ w' = w := by
  have bn : (L.length : Int) ≤ 100 := by omega
  clear hL
  go_enter Tryz.func34, Tryz.ntmps34
  go_wp2_with fail
  go_loopw [5] (fun i wr => ∃ k : Nat, k ≤ L.length ∧ i = .int .i64 k ∧ wr = w ∧ s ∉ L.take k) (fun i _ => L.length - (intOf i).toNat)
  case atStart => exact ⟨0, by omega, rfl, rfl, by simp⟩
  case round =>
    obtain ⟨k, hk, rfl, rfl, hno⟩ := hrel
    by_cases hkl : k < L.length
    · have hki : L[k]? = some L[k] := List.getElem?_eq_getElem hkl
      have hc := hw k _ hki
      have bk : (k : Int) < L.length := by omega
      have hT : L.take (k + 1) = L.take k ++ [L[k]] := by rw [List.take_add_one, hki]; rfl
      by_cases hs : L[k] = s
      · have H : Hid (decide (s ∈ L) = true) := by show _ = _; simp; rw [← hs]; exact List.getElem_mem hkl
        rw [hs] at hc
        clear hki hT
        go_wp2_with fail
        go_ret
        exact ⟨by rw [H.out]; rfl, rfl⟩
      · have H : Hid (s ∉ L.take (k + 1)) := by show ¬ s ∈ _; rw [hT, List.mem_append]; rintro (h | h); exact hno h; exact hs (List.mem_singleton.1 h).symm
        have e1 : (L[k] == s) = false := beq_eq_false_iff_ne.2 hs
        clear hki hT hs hno
        go_wp2_with fail
        go_roundw
        case rel => exact ⟨k + 1, by omega, by go_num, by trivial, H.out⟩
        case measure => simp [intOf]; omega
    · obtain rfl : k = L.length := by omega
      rw [List.take_length] at hno
      have H : Hid (decide (s ∈ L) = false) := decide_eq_false hno
      go_wp2_with fail
      go_ret
      exact ⟨by rw [H.out]; rfl, rfl⟩

theorem strRow_new (w : World) (L : List (List UInt8)) (o : Obj) (ho : o = .cells (L.map strV).toArray 9) : StrRow (w.alloc o) w.heap.size L := fun j s h => by
  have := heap_alloc_new w o
  subst ho
  exact (cell_of_row _ _ j _ _ _ this).trans (by simp [h, strV])

theorem sCalls (w : World) : Calls Tryz.prog 76 #[] w fun e w' => e = .returned (.slice (some ⟨w.heap.size, 0, none⟩) 6 6) ∧ StrRow w' w.heap.size callL ∧ Below w.heap.size w w' := by
  obtain ⟨o, ho⟩ : ∃ o, o = Obj.cells (callL.map strV).toArray 9 := ⟨_, rfl⟩
  have h1 : Hid (StrRow (w.alloc o) w.heap.size callL) := strRow_new w callL o ho
  have h2 : Hid (Below w.heap.size w (w.alloc o)) := (Below.refl _ w).alloc (Nat.le_refl _) _
  subst ho
  go_enter Tryz.func76, Tryz.ntmps76
  go_wp2_with fail
  go_ret
  exact ⟨rfl, h1.out, h2.out⟩


theorem iHasCallB (s : ByteArray) (w : World) : Calls Tryz.prog 89 #[.string s] w fun e w' => e = .returned (.bool (callB s.data.toList)) ∧ w' = w := by
  obtain ⟨⟨l⟩⟩ := s
  exact iHasCall l w

end Oc
end Go.Proofs.YtaakeecliehjgaaGreatDoor
namespace Go.Proofs.YtaakeecliehjgaaGreatDoor
open Go.RowKit Go.Extern.Stop Go.Stop Go.Extern

theorem isTypeOf (v : Value) (w : World) : (Extern.ReflectliteType.typeOf #[.iface 254 v]).run Tryz.prog w = .ok (.iface 206 (.agg #[.pointer (some ⟨3, 254, none⟩)])) w := by kernel_rfl
/-- The entry behind (rtype).Comparable, under a name of its own, so that the walk does not open it. -/
def cmpEntry : Array Value → Sem Value := Extern.ReflectliteType.method fun t => do Rtype.noPackHeld "Comparable" t; pure (.bool (← typeInfo t).comparable)
theorem isComparable (w : World) : (cmpEntry #[.agg #[.pointer (some ⟨3, 254, none⟩)]]).run Tryz.prog w = .ok (.bool true) w := by kernel_rfl
theorem isMethodComparable (v : Value) (w : World) : (Go.method 387 206 v "Comparable").run Tryz.prog w = .ok (200, v) w := by kernel_rfl
theorem isComp : (Tryz.prog.info? 254).map (·.comparable) = some true := by kernel_rfl
theorem isSize : (Tryz.prog.info? 276).map (·.size) = some 1 := by kernel_rfl

theorem is_same (a : Addr) (w : World) :
    Calls Tryz.prog 107 #[.iface 254 (.pointer (some a)), .iface 254 (.pointer (some a))] w fun e w' => e = .returned (.bool true) ∧ w' = w := by
  obtain ⟨i, hi, hcmp⟩ := Option.map_eq_some_iff.1 isComp
  obtain ⟨j, hj, hjs⟩ := Option.map_eq_some_iff.1 isSize
  have h8 := @run_callFunc_extern Tryz.prog 128 _ Extern.ReflectliteType.typeOf Tryz.func128 (by kernel_rfl) (by kernel_rfl) (by kernel_rfl) (by kernel_rfl)
  have h32 := @run_callFunc_extern Tryz.prog 200 _ cmpEntry Tryz.func200 (by kernel_rfl) (by kernel_rfl) (by kernel_rfl) (by kernel_rfl)
  have tT := isTypeOf
  have cT := isComparable
  have mR := isMethodComparable
  have heq := run_eql_iface_ptr_same (P := Tryz.prog) w a Tryz.underlying144 Tryz.underlying254 hi hcmp hj
  go_enter Tryz.func107, Tryz.ntmps107
  go_wp2
  refine wp_loop_rounds 1 ?_
  rw [rounds_succ]
  go_wp2
  go_ret
  exact ⟨rfl, rfl⟩

theorem is_nil (b : Addr) (w : World) :
    Calls Tryz.prog 107 #[.nilIface, .iface 254 (.pointer (some b))] w fun e w' => e = .returned (.bool false) ∧ w' = w := by
  have hn := run_eql_iface_nil_left (P := Tryz.prog) w 254 (.pointer (some b)) Tryz.underlying144
  go_enter Tryz.func107, Tryz.ntmps107
  go_wp2
  go_ret
  exact ⟨rfl, rfl⟩

theorem told_ok (d : Int) (a : Addr) (w : World) (hc : w.cell? ⟨1, 0, none⟩ = some (.iface 254 (.pointer (some a)))) :
    Calls Tryz.prog 90 #[.int .i64 d, .nilIface] w fun e w' => e = .returned (.tuple #[.int .i64 d, .bool true]) ∧ w' = w := by
  go_enter Tryz.func90, Tryz.ntmps90
  go_wp2_with (go_at_call 107; refine (is_nil a _).mono ?_; rintro e w' ⟨rfl, rfl⟩)
  go_ret2
  exact ⟨rfl, rfl⟩

theorem told_bad (d : Int) (a : Addr) (w : World) (hc : w.cell? ⟨1, 0, none⟩ = some (.iface 254 (.pointer (some a)))) :
    Calls Tryz.prog 90 #[.int .i64 d, .iface 254 (.pointer (some a))] w fun e w' => e = .returned (.tuple #[.int .i64 0, .bool false]) ∧ w' = w := by
  go_enter Tryz.func90, Tryz.ntmps90
  go_wp2_with (go_at_call 107; refine (is_same a _).mono ?_; rintro e w' ⟨rfl, rfl⟩)
  go_ret2
  exact ⟨rfl, rfl⟩

end Go.Proofs.YtaakeecliehjgaaGreatDoor
