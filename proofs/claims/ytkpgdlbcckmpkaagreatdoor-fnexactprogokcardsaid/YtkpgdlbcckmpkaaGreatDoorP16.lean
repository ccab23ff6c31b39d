/-
  The form of a code is found by halves.
-/
import Derived.Test.YtkpgdlbcckmpkaaGreatDoorP15
namespace Go.Proofs.YtkpgdlbcckmpkaaGreatDoor
open Go.RowKit
namespace Oc
open St (Vl)

theorem iCmpT (f : Fm) (c : Int) (W : World) : Calls Tryz.prog 47 #[.agg #[.int .i64 f.1, .int .i64 f.2.1, .int .i64 f.2.2.1, .string ⟨f.2.2.2.toArray⟩], .int .i64 c] W fun e w' => e = .returned (.int .i64 (Lib.compareInt f.1 c)) ∧ Below W.heap.size W w' := by
  have hcon := fun W' => AnyG.cmp_Compare_int Tryz.cmpInt f.1 c W'
  change ∀ W', Calls Tryz.prog 45 _ _ _ at hcon
  generalize Lib.compareInt f.1 c = r at hcon ⊢
  go_enter Tryz.func47, Tryz.ntmps47
  go_wp2_with (go_at_call 45; refine (hcon _).mono ?_; rintro e w' ⟨rfl, rfl⟩)
  go_ret
  exact ⟨rfl, (Below.refl _ W).alloc (Nat.le_refl _) _⟩

theorem cmp_lt (x y : Int) : (Lib.compareInt x y < 0 ↔ x < y) ∧ (Lib.compareInt x y = 0 ↔ x = y) := by
  unfold Lib.compareInt
  by_cases h1 : x < y
  · simp [h1]; omega
  · by_cases h2 : y < x
    · simp [h1, h2]; omega
    · simp [h1, h2]; omega

theorem eCmpT (args : Array Value) (w : World) : (callFunc 47 args).run Tryz.prog w = .ok (.enter 47 args) w := enters_of Tryz.func47 (by kernel_rfl) rfl args w

set_option maxHeartbeats 1000000 in
set_option maxRecDepth 100000 in
theorem iSearch {g cap : Nat} {w : World} (h : RdF w g) (c : Int) :
    Calls Tryz.prog 46 #[.slice (some ⟨g, 0, none⟩) 36 cap, .int .i64 c, .func (.func 47) #[] #[]] w fun e w' => ∃ i : Nat, e = .returned (.tuple #[.int .i64 i, .bool (codeB c)]) ∧ (codeB c = true → i = (c - 1).toNat) ∧ Below w.heap.size w w' := by
  have eg := eCmpT
  go_enter Tryz.func46, Tryz.ntmps46
  go_wp2_with fail
  go_loopw [9, 10] (fun i j wr => ∃ lo hi : Nat, i = .int .i64 lo ∧ j = .int .i64 hi ∧ lo ≤ hi ∧ hi ≤ 36 ∧ Hid ((lo = 0 ∨ (lo : Int) < c) ∧ (hi = 36 ∨ c ≤ (hi : Int) + 1)) ∧ Below w.heap.size w wr) (fun i j _ => (intOf j).toNat - (intOf i).toNat)
  case atStart => exact ⟨0, 36, rfl, rfl, by omega, by omega, (⟨.inl rfl, .inl rfl⟩ : ((0 : Nat) = 0 ∨ ((0 : Nat) : Int) < c) ∧ ((36 : Nat) = 36 ∨ c ≤ ((36 : Nat) : Int) + 1)), Below.refl _ _⟩
  case round =>
    obtain ⟨lo, hi, rfl, rfl, hlh, hin, I, hb⟩ := hrel
    by_cases hlt : lo < hi
    · obtain ⟨f, hf⟩ : ∃ f, tbl[(lo + hi) / 2]? = some f := ⟨_, List.getElem?_eq_getElem (by rw [tbl_len]; omega)⟩
      obtain ⟨c0, c1, c2, c3⟩ := (h.below hb).2 _ f hf
      have hfc := tbl_code hf
      have hc := iCmpT f c wr
      have hr := cmp_lt f.1 c
      generalize Lib.compareInt f.1 c = r at hc hr
      have HF : Hid (f.1 = (((lo + hi) / 2 : Nat) : Int) + 1) := hfc
      have HR : Hid ((r < 0 ↔ f.1 < c) ∧ (r = 0 ↔ f.1 = c)) := hr
      clear hfc hr hf h
      by_cases hr0 : r < 0
      · go_wp2_with (go_at_call 47; refine hc.mono ?_; rintro e w2 ⟨rfl, hb2⟩)
        go_roundw
        case rel =>
          have h1 := HR.out.1.1 hr0
          have h2 := HF.out
          have I2 : Hid (((lo + hi) / 2 + 1 = 0 ∨ (((lo + hi) / 2 + 1 : Nat) : Int) < c) ∧ (hi = 36 ∨ c ≤ (hi : Int) + 1)) := ⟨.inr (by omega), I.out.2⟩
          exact ⟨(lo + hi) / 2 + 1, hi, by rw [show ((lo : Int) + (hi : Int)) / 2 + 1 = (((lo + hi) / 2 + 1 : Nat) : Int) by omega], rfl, by omega, hin, I2, hb.trans (hb2.mono hb.size)⟩
        case measure => simp [intOf]; omega
      · go_wp2_with (go_at_call 47; refine hc.mono ?_; rintro e w2 ⟨rfl, hb2⟩)
        go_roundw
        case rel =>
          have h1 : ¬ f.1 < c := fun h => by have := HR.out.1.2 h; omega
          have h2 := HF.out
          have I2 : Hid ((lo = 0 ∨ (lo : Int) < c) ∧ ((lo + hi) / 2 = 36 ∨ c ≤ (((lo + hi) / 2 : Nat) : Int) + 1)) := ⟨I.out.1, .inr (by omega)⟩
          exact ⟨lo, (lo + hi) / 2, rfl, by rw [show ((lo : Int) + (hi : Int)) / 2 = (((lo + hi) / 2 : Nat) : Int) by omega], by omega, by omega, I2, hb.trans (hb2.mono hb.size)⟩
        case measure => simp [intOf]; omega
    · obtain rfl : lo = hi := by omega
      by_cases hn : lo < 36
      · obtain ⟨f, hf⟩ : ∃ f, tbl[lo]? = some f := ⟨_, List.getElem?_eq_getElem (by rw [tbl_len]; omega)⟩
        obtain ⟨c0, c1, c2, c3⟩ := (h.below hb).2 _ f hf
        have hfc := tbl_code hf
        have hc := iCmpT f c wr
        have hr := cmp_lt f.1 c
        generalize Lib.compareInt f.1 c = r at hc hr
        have HF : Hid (f.1 = (lo : Int) + 1 ∧ ((r < 0 ↔ f.1 < c) ∧ (r = 0 ↔ f.1 = c))) := ⟨hfc, hr⟩
        clear hfc hr hf h
        by_cases hr0 : r = 0
        · have HC : Hid (codeB c = true) := by
            obtain ⟨h1, h2, h3⟩ := HF.out
            have := h3.1 hr0
            show codeB c = true
            unfold codeB
            simp only [decide_eq_true_eq]
            omega
          go_wp2_with (go_at_call 47; refine hc.mono ?_; rintro e w2 ⟨rfl, hb2⟩)
          go_ret2
          refine ⟨lo, by rw [HC.out]; simp, fun _ => ?_, hb.trans (hb2.mono hb.size)⟩
          obtain ⟨h1, h2, h3⟩ := HF.out
          have := h3.1 hr0
          omega
        · have HC : Hid (codeB c = false) := by
            obtain ⟨h1, h2, h3⟩ := HF.out
            have h4 : f.1 ≠ c := fun h => hr0 (h3.2 h)
            obtain ⟨h5, h6⟩ := I.out
            show codeB c = false
            unfold codeB
            simp only [decide_eq_false_iff_not]
            omega
          go_wp2_with (go_at_call 47; refine hc.mono ?_; rintro e w2 ⟨rfl, hb2⟩)
          go_ret2
          exact ⟨lo, by rw [HC.out]; simp [hr0], (fun h => by rw [HC.out] at h; cases h), hb.trans (hb2.mono hb.size)⟩
      · obtain rfl : lo = 36 := by omega
        have HC : Hid (codeB c = false) := by
          obtain ⟨h5, h6⟩ := I.out
          show codeB c = false
          unfold codeB
          simp only [decide_eq_false_iff_not]
          omega
        clear h
        go_wp2_with fail
        go_ret2
        exact ⟨36, by rw [HC.out]; rfl, (fun h => by rw [HC.out] at h; cases h), hb⟩

theorem ret_form {fn : Func} {K J : Nat} {R : Ending → World → Prop} {a : Act} {W : World} {B : Nat} {v0 v1 v2 v3 b : Value} (hf : fn.results = #[.cell K 63, .tmp J]) (ht : a.tmps[K]? = some (.pointer (some ⟨B, 0, none⟩))) (hj : a.tmps[J]? = some b) (hd : a.defers = [])
    (hV : Blk 63 W B [v0, v1, v2, v3]) (hR : R (.returned (.tuple #[.agg #[v0, v1, v2, v3], b])) W) : bodyPost Tryz.prog fn R .ret a W := by
  have x0 := hV.cell 0 rfl
  have x1 := hV.cell 1 rfl
  have x2 := hV.cell 2 rfl
  have x3 := hV.cell 3 rfl
  refine bodyPost_ret ?_ hd hR
  simp [results, hf, ht, hj, go_sem, x0, x1, x2, x3]

set_option maxHeartbeats 1000000 in
theorem iFormOf {g cap : Nat} {w : World} (h : RdF w g) (c : Int) :
    Calls Tryz.prog 33 #[.slice (some ⟨g, 0, none⟩) 36 cap, .int .i64 c] w fun e w' => e = .returned (.tuple #[.agg #[.int .i64 (formAt c).1, .int .i64 (formAt c).2.1, .int .i64 (formAt c).2.2.1, .string ⟨(formAt c).2.2.2.toArray⟩], .bool (codeB c)]) ∧ Below w.heap.size w w' := by
  have hb0 : ∀ o, Below w.heap.size w (w.alloc o) := fun o => (Below.refl _ w).alloc (Nat.le_refl _) o
  have cs := fun o => iSearch (cap := cap) (h.below (hb0 o)) c
  have kB := Blk.new 63 w [.int .i64 0, .int .i64 0, .int .i64 0, .string ⟨#[]⟩]
  cases hc : codeB c
  · rw [hc] at cs
    have e : formAt c = zeroF := by unfold formAt; rw [hc]; rfl
    rw [e]
    go_enter Tryz.func33, Tryz.ntmps33
    go_wp2_with (go_at_call 46; refine (cs _).mono ?_; rintro e w2 ⟨i, rfl, -, hb2⟩; have kB2 := kB.below hb2; have q0 := kB2.cell 0 rfl; have q1 := kB2.cell 1 rfl; have q2 := kB2.cell 2 rfl; have q3 := kB2.cell 3 rfl; have fz := kB2.frozen)
    refine ret_form Tryz.results33 rfl rfl rfl ((((kB2.set 0 _).set 1 _).set 2 _).set 3 _) ⟨rfl, ?_⟩
    have B2 := (hb0 _).trans (hb2.mono (hb0 _).size)
    exact (((B2.setCell (Nat.le_refl _) _).setCell (Nat.le_refl _) _).setCell (Nat.le_refl _) _).setCell (Nat.le_refl _) _
  · rw [hc] at cs
    obtain ⟨-, -, hf⟩ := form_kinds hc
    have hi0 : (c - 1).toNat < 36 := by have := (List.getElem?_eq_some_iff.1 hf).1; rwa [tbl_len] at this
    obtain ⟨I, hI⟩ : ∃ I, I = (c - 1).toNat := ⟨_, rfl⟩
    rw [← hI] at cs hf hi0
    have R2 := fun w2 (hw : Below w.heap.size w w2) => (h.below hw).2 I (formAt c) hf
    generalize formAt c = F at *
    clear hI hf h
    go_enter Tryz.func33, Tryz.ntmps33
    go_wp2_with (go_at_call 46; refine (cs _).mono ?_; rintro e w2 ⟨i, rfl, hi, hb2⟩; have hi := hi rfl; subst hi; have kB2 := kB.below hb2; have q0 := kB2.cell 0 rfl; have q1 := kB2.cell 1 rfl; have q2 := kB2.cell 2 rfl; have q3 := kB2.cell 3 rfl; have fz := kB2.frozen; have B2 := (hb0 _).trans (hb2.mono (hb0 _).size); obtain ⟨r0, r1, r2, r3⟩ := R2 _ B2)
    refine ret_form Tryz.results33 rfl rfl rfl ((((kB2.set 0 _).set 1 _).set 2 _).set 3 _) ⟨rfl, ?_⟩
    exact (((B2.setCell (Nat.le_refl _) _).setCell (Nat.le_refl _) _).setCell (Nat.le_refl _) _).setCell (Nat.le_refl _) _

end Oc
end Go.Proofs.YtkpgdlbcckmpkaaGreatDoor

