/-
  Words of tidy trees, the program's: names, texts, patterns.
  errors.Is by two contracts (the sentinel itself: true; nil: false), and the small functions of chapter 1 by theirs; the world is as it was.
-/
import Derived.Test.YtjdohfdkkppnpaaGreatDoorP27
import Derived.Laws.IdiomStrings
import Derived.Test.YtjdohfdkkppnpaaGreatDoorProg
import Derived.WalkKit
import Derived.LaidEql
import Derived.RowKitTokens
namespace Go.Proofs.YtjdohfdkkppnpaaGreatDoor
open Go.RowKit
namespace Ty

theorem nl_index (l : List UInt8) : decide (0 ≤ Lib.indexByte l 10) = !lineB l := by
  rw [← Lib.contains_iff_indexByte]
  induction l with
  | nil => rfl
  | cons c r ih =>
    rw [List.contains_cons, ih, line_cons]
    have : ((10 : UInt8) == c) = !decide (c.toNat ≠ 10) := by
      rw [Bool.eq_iff_iff]
      simp only [beq_iff_eq, Bool.not_eq_true', decide_eq_false_iff_not, ne_eq, Decidable.not_not]
      constructor
      · rintro rfl; rfl
      · intro h; exact UInt8.toNat.inj h.symm
    rw [this]
    cases decide (c.toNat ≠ 10) <;> simp

/-- A text as bytes of its own. -/
def ByteRow (w : World) (g : Nat) (s : ByteArray) : Prop := ∀ k (h : k < s.size), w.cell? ⟨g, k, none⟩ = some (.int .u8 s[k].toNat)
theorem bytes_cell (w : World) (s : ByteArray) (cap n m : Nat) (T : TypeId) : ByteRow (w.alloc (.cells (bytesRow s cap) T (n, m))).drew w.heap.size s := fun k h => by
  have h0 : (w.alloc (.cells (bytesRow s cap) T (n, m))).drew.heap[w.heap.size]? = some (.cells (bytesRow s cap) T (n, m)) := heap_alloc_new w _
  refine (cell_of_row _ _ k _ _ _ h0).trans ?_
  unfold bytesRow
  rw [Array.getElem?_append_left (by simpa using h), Array.getElem?_map, Array.getElem?_eq_getElem (by simpa using h)]
  rfl

theorem iTextOf (s : ByteArray) (w : World) :
    Calls Tryz.prog 130 #[.string s] w fun e w' => e = .returned (.bool (lineB s.data.toList)) ∧ w' = w := by
  have call := Tryz.strings_Contains_one s 10 w
  rw [nl_index] at call
  go_enter Tryz.func130, Tryz.ntmps130
  go_wp2_with (go_at_call 147; refine call.mono ?_; rintro e w2 ⟨rfl, hw⟩; have hw := hw.symm; subst hw)
  go_ret
  exact ⟨by simp, rfl⟩

set_option maxRecDepth 100000 in
theorem iRexOf (s : ByteArray) (hs : (s.size : Int) ≤ 1048576) (w : World) :
    Calls Tryz.prog 131 #[.string s] w fun e w' => e = .returned (.bool (rexB s.data.toList)) ∧ w' = w := by
  have HR : Hid (rexB s.data.toList = (escB s.data.toList && lineB s.data.toList)) := rfl
  generalize rexB s.data.toList = R at *
  go_enter Tryz.func131, Tryz.ntmps131
  go_wp2_with fail
  go_loopw [3] (fun i wr => ∃ k : Nat, k ≤ s.size ∧ i = .int .i64 k ∧ wr = w ∧ R = (escB (s.data.toList.drop k) && lineB (s.data.toList.drop k))) (fun i _ => s.size - (intOf i).toNat)
  case atStart => exact ⟨0, by omega, rfl, rfl, HR.out⟩
  case round =>
    clear HR
    obtain ⟨k, hk, rfl, rfl, hno⟩ := hrel
    by_cases hkl : k < s.size
    · rw [drop_at hkl, line_cons] at hno
      by_cases hb : s[k].toNat = 92
      · have e1 : (s[k].toNat : Int) = 92 := by omega
        have e2 : ((s[k].toNat : Int) == 92) = true := by rw [e1]; rfl
        by_cases hk1 : k + 1 < s.size
        · rw [drop_at hk1, esc_two hb, line_cons] at hno
          obtain ⟨k1, hk1e⟩ : ∃ k1, k1 = k + 1 := ⟨_, rfl⟩
          have t1 : (k : Int) + 1 = (k1 : Int) := by omega
          have hk2 : k1 < s.size := by omega
          have n1 : ¬ (k1 : Int) = s.size := by omega
          have n2 : ((k1 : Int) == (s.size : Int)) = false := beq_eq_false_iff_ne.2 n1
          have n3 : (k1 == s.size) = false := beq_eq_false_iff_ne.2 (by omega)
          have n4 : ¬ k1 = s.size := by omega
          have hno2 : R = ((decide (s[k1].toNat ≠ 47) && escB (s.data.toList.drop (k1 + 1))) && (decide (s[k].toNat ≠ 10) && (decide (s[k1].toNat ≠ 10) && lineB (s.data.toList.drop (k1 + 1))))) := by subst hk1e; exact hno
          have K1 : Hid (k1 = k + 1) := hk1e
          clear hno hk1e
          by_cases h47 : s[k1].toNat = 47
          · have H : Hid (R = false) := by show _ = _; rw [hno2, h47]; simp
            have f1 : (s[k1].toNat : Int) = 47 := by omega
            have f2 : ((s[k1].toNat : Int) == 47) = true := by rw [f1]; rfl
            clear hno2
            go_wp2_with fail
            go_ret
            exact ⟨by rw [H.out]; rfl, rfl⟩
          · have f1 : ¬ (s[k1].toNat : Int) = 47 := by omega
            have f2 : ((s[k1].toNat : Int) == 47) = false := beq_eq_false_iff_ne.2 f1
            by_cases h10 : s[k1].toNat = 10
            · have H : Hid (R = false) := by show _ = _; rw [hno2, h10]; simp
              have g1 : (s[k1].toNat : Int) = 10 := by omega
              have g2 : ((s[k1].toNat : Int) == 10) = true := by rw [g1]; rfl
              clear hno2
              go_wp2_with fail
              go_ret
              exact ⟨by rw [H.out]; rfl, rfl⟩
            · have H : Hid (R = (escB (s.data.toList.drop (k1 + 1)) && lineB (s.data.toList.drop (k1 + 1)))) := by show _ = _; rw [hno2, hb]; simp [h47, h10]
              have g1 : ¬ (s[k1].toNat : Int) = 10 := by omega
              have g2 : ((s[k1].toNat : Int) == 10) = false := beq_eq_false_iff_ne.2 g1
              clear hno2
              go_wp2_with fail
              go_roundw
              case rel => exact ⟨k1 + 1, by omega, by go_num, by trivial, H.out⟩
              case measure => have := K1.out; simp [intOf]; omega
        · rw [drop_end (by omega), esc_end hb] at hno
          have H : Hid (R = false) := by show _ = _; rw [hno]; simp
          have n1 : (k : Int) + 1 = s.size := by omega
          clear hno
          go_wp2_with fail
          go_ret
          exact ⟨by rw [H.out]; rfl, rfl⟩
      · rw [esc_one hb] at hno
        have e1 : ¬ (s[k].toNat : Int) = 92 := by omega
        have e2 : ((s[k].toNat : Int) == 92) = false := beq_eq_false_iff_ne.2 e1
        by_cases h10 : s[k].toNat = 10
        · have H : Hid (R = false) := by show _ = _; rw [hno, h10]; simp
          have g1 : (s[k].toNat : Int) = 10 := by omega
          have g2 : ((s[k].toNat : Int) == 10) = true := by rw [g1]; rfl
          clear hno
          go_wp2_with fail
          go_ret
          exact ⟨by rw [H.out]; rfl, rfl⟩
        · have H : Hid (R = (escB (s.data.toList.drop (k + 1)) && lineB (s.data.toList.drop (k + 1)))) := by show _ = _; rw [hno]; simp [h10]
          have g1 : ¬ (s[k].toNat : Int) = 10 := by omega
          have g2 : ((s[k].toNat : Int) == 10) = false := beq_eq_false_iff_ne.2 g1
          clear hno
          go_wp2_with fail
          go_roundw
          case rel => exact ⟨k + 1, by omega, by go_num, by trivial, H.out⟩
          case measure => simp [intOf]; omega
    · obtain rfl : k = s.size := by omega
      have H : Hid (R = true) := by show _ = _; rw [hno, drop_end (Nat.le_refl _)]; simp [escB, lineB]
      clear hno
      go_wp2_with fail
      go_ret
      exact ⟨by rw [H.out]; rfl, rfl⟩

set_option maxRecDepth 100000 in
theorem iTidyName (s : List UInt8) (hs : s.length ≤ 1048576) (w : World) :
    Calls Tryz.prog 132 #[.string ⟨s.toArray⟩] w fun e w' => e = .returned (.bool (nameB s)) ∧ Below w.heap.size w w' := by
  have HN : Hid (nameB s = (lettersB s && (decide (0 < s.length) && decide (s.length ≤ 8) && freeB s))) := rfl
  have ck := iIsFree s
  obtain ⟨b, hb⟩ : ∃ b : ByteArray, b = ⟨s.toArray⟩ := ⟨_, rfl⟩
  have hl : s = b.data.toList := by subst hb; rfl
  have hsz : b.size = s.length := by subst hb; rfl
  rw [← hb] at ck ⊢
  have hsI : (b.size : Int) ≤ 1048576 := by omega
  have HZ : Hid (b.size = s.length) := hsz
  have HL : Hid (s = b.data.toList) := hl
  generalize hNB : nameB s = N at *
  generalize hKB : freeB s = K at *
  clear hb hl hsz hs hNB hKB
  have hcv := fun w => run_bytes_of_string (P := Tryz.prog) w 9 44 5 b Tryz.underlying9 Tryz.underlying44 Tryz.underlying5
  have hrow := fun cap n m => bytes_cell w b cap n m 5
  have hbel : ∀ o, Below w.heap.size w (w.alloc o).drew := fun o => Below.drew ((Below.refl _ w).alloc (Nat.le_refl _) _)
  go_enter Tryz.func132, Tryz.ntmps132
  go_wp2_with fail
  have hrow := hrow (grownCap w b.size 0 5) (bytesRow b (grownCap w b.size 0 5)).size ((bytesRow b (grownCap w b.size 0 5)).size + 1)
  have hbel := hbel (.cells (bytesRow b (grownCap w b.size 0 5)) 5 ((bytesRow b (grownCap w b.size 0 5)).size, (bytesRow b (grownCap w b.size 0 5)).size + 1))
  generalize (w.alloc (.cells (bytesRow b (grownCap w b.size 0 5)) 5 ((bytesRow b (grownCap w b.size 0 5)).size, (bytesRow b (grownCap w b.size 0 5)).size + 1))).drew = w1 at *
  generalize grownCap w b.size 0 5 = cap at *
  go_loopw [8] (fun i wr => ∃ k : Nat, k ≤ b.size ∧ i = .int .i64 k ∧ wr = w1 ∧ lettersB b.data.toList = lettersB (b.data.toList.drop k)) (fun i _ => b.size - (intOf i).toNat)
  case atStart => exact ⟨0, by omega, rfl, rfl, rfl⟩
  case round =>
    obtain ⟨k, hk, rfl, rfl, hno⟩ := hrel
    by_cases hkl : k < b.size
    · rw [drop_at hkl, ltr_cons] at hno
      have hc := hrow k hkl
      have bk : (k : Int) < b.size := by omega
      have call := iIsLetter b[k].toNat wr
      rcases hl : letB b[k].toNat with _ | _
      · rw [hl] at hno call
        have H : Hid (N = false) := by show _ = _; rw [HN.out, HL.out, hno]; simp
        clear hno HN HL
        go_wp2_with (go_at_call 148; refine call.mono ?_; rintro e w2 ⟨rfl, hw⟩; have hw := hw.symm; subst hw)
        go_ret
        exact ⟨by rw [H.out]; rfl, hbel⟩
      · rw [hl] at hno call
        have H : Hid (lettersB b.data.toList = lettersB (b.data.toList.drop (k + 1))) := by show _ = _; rw [hno]; simp
        clear hno
        go_wp2_with (go_at_call 148; refine call.mono ?_; rintro e w2 ⟨rfl, hw⟩; have hw := hw.symm; subst hw)
        go_roundw
        case rel => exact ⟨k + 1, by omega, by go_num, by trivial, H.out⟩
        case measure => simp [intOf]; omega
    · obtain rfl : k = b.size := by omega
      rw [drop_end (Nat.le_refl _)] at hno
      have H : Hid (N = (decide (0 < b.size) && decide (b.size ≤ 8) && K)) := by
        show _ = _
        rw [HN.out, HL.out, hno, ← HL.out, ← HZ.out]
        simp [lettersB]
      clear hno HN HL
      by_cases h1 : 0 < b.size <;> by_cases h2 : b.size ≤ 8
      all_goals
        have i1 : (decide ((0 : Int) < b.size)) = decide (0 < b.size) := by rw [decide_eq_decide]; omega
        have i2 : (decide ((b.size : Int) ≤ 8)) = decide (b.size ≤ 8) := by rw [decide_eq_decide]; omega
        simp only [h1, h2, decide_true, decide_false] at i1 i2 H
        simp only [decide_eq_true_eq, decide_eq_false_iff_not] at i1 i2
        first
          | omega
          | (go_wp2_with (go_at_call 149; refine (ck _).mono ?_; rintro e w3 ⟨rfl, hw⟩; have hw := hw.symm; subst hw)
             go_ret
             exact ⟨by rw [H.out]; simp, hbel⟩)

end Ty
end Go.Proofs.YtjdohfdkkppnpaaGreatDoor

namespace Go.Proofs.YtjdohfdkkppnpaaGreatDoor
open Go.RowKit Go.Extern.Stop Go.Stop Go.Extern

theorem isTypeOf (v : Value) (w : World) : (Extern.ReflectliteType.typeOf #[.iface 226 v]).run Tryz.prog w = .ok (.iface 127 (.agg #[.pointer (some ⟨10, 226, none⟩)])) w := by kernel_rfl
/-- The entry behind (rtype).Comparable, under a name of its own, so that the walk does not open it. -/
def cmpEntry : Array Value → Sem Value := Extern.ReflectliteType.method fun t => do Rtype.noPackHeld "Comparable" t; pure (.bool (← typeInfo t).comparable)
theorem isComparable (w : World) : (cmpEntry #[.agg #[.pointer (some ⟨10, 226, none⟩)]]).run Tryz.prog w = .ok (.bool true) w := by kernel_rfl
theorem isMethodComparable (v : Value) (w : World) : (Go.method 357 127 v "Comparable").run Tryz.prog w = .ok (210, v) w := by kernel_rfl
theorem isComp : (Tryz.prog.info? 226).map (·.comparable) = some true := by kernel_rfl
theorem isSize : (Tryz.prog.info? 245).map (·.size) = some 1 := by kernel_rfl

theorem is_same (a : Addr) (w : World) :
    Calls Tryz.prog 137 #[.iface 226 (.pointer (some a)), .iface 226 (.pointer (some a))] w fun e w' => e = .returned (.bool true) ∧ w' = w := by
  obtain ⟨i, hi, hcmp⟩ := Option.map_eq_some_iff.1 isComp
  obtain ⟨j, hj, hjs⟩ := Option.map_eq_some_iff.1 isSize
  have h8 := @run_callFunc_extern Tryz.prog 98 _ Extern.ReflectliteType.typeOf Tryz.func98 (by kernel_rfl) (by kernel_rfl) (by kernel_rfl) (by kernel_rfl)
  have h32 := @run_callFunc_extern Tryz.prog 210 _ cmpEntry Tryz.func210 (by kernel_rfl) (by kernel_rfl) (by kernel_rfl) (by kernel_rfl)
  have tT := isTypeOf
  have cT := isComparable
  have mR := isMethodComparable
  have heq := run_eql_iface_ptr_same (P := Tryz.prog) w a Tryz.underlying59 Tryz.underlying226 hi hcmp hj
  go_enter Tryz.func137, Tryz.ntmps137
  go_wp2
  refine wp_loop_rounds 1 ?_
  rw [rounds_succ]
  go_wp2
  go_ret
  exact ⟨rfl, rfl⟩

theorem is_nil (b : Addr) (w : World) :
    Calls Tryz.prog 137 #[.nilIface, .iface 226 (.pointer (some b))] w fun e w' => e = .returned (.bool false) ∧ w' = w := by
  have hn := run_eql_iface_nil_left (P := Tryz.prog) w 226 (.pointer (some b)) Tryz.underlying59
  go_enter Tryz.func137, Tryz.ntmps137
  go_wp2
  go_ret
  exact ⟨rfl, rfl⟩

theorem told_ok (d : Int) (a : Addr) (w : World) (hc : w.cell? ⟨3, 0, none⟩ = some (.iface 226 (.pointer (some a)))) :
    Calls Tryz.prog 121 #[.int .i64 d, .nilIface] w fun e w' => e = .returned (.tuple #[.int .i64 d, .bool true]) ∧ w' = w := by
  go_enter Tryz.func121, Tryz.ntmps121
  go_wp2_with (go_at_call 137; refine (is_nil a _).mono ?_; rintro e w' ⟨rfl, rfl⟩)
  go_ret2
  exact ⟨rfl, rfl⟩

theorem told_bad (d : Int) (a : Addr) (w : World) (hc : w.cell? ⟨3, 0, none⟩ = some (.iface 226 (.pointer (some a)))) :
    Calls Tryz.prog 121 #[.int .i64 d, .iface 226 (.pointer (some a))] w fun e w' => e = .returned (.tuple #[.int .i64 0, .bool false]) ∧ w' = w := by
  go_enter Tryz.func121, Tryz.ntmps121
  go_wp2_with (go_at_call 137; refine (is_same a _).mono ?_; rintro e w' ⟨rfl, rfl⟩)
  go_ret2
  exact ⟨rfl, rfl⟩

end Go.Proofs.YtjdohfdkkppnpaaGreatDoor

