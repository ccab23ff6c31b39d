/-
  Numbers of either sign and texts that are read behind a place, the program's: takeInt, takeText; what begins at a place: GetNum, GetInt, GetText.
-/
import Derived.Test.YtmhmoopijfhhbaaBtGet
namespace Go.Proofs.Ytmhmoopijfhhbaa
open Go.RowKit
namespace Bt
set_option linter.unusedSimpArgs false
set_option linter.unusedVariables false

def iOf (o : Option (Int × Nat)) : Int := (o.map (·.1)).getD 0
def sOf (o : Option (List UInt8 × Nat)) : ByteArray := ⟨((o.map (·.1)).getD []).toArray⟩

set_option maxHeartbeats 1000000 in
set_option maxRecDepth 100000 in
theorem iTakeInt {g p c : Nat} {i : Int} {b : List UInt8} {w : World} (hR : Rd w (some ⟨g, 0, none⟩) b) (hp : At p i w) (hne : g ≠ p) (hl : b.length ≤ 1048576) :
    Calls Try.prog 30 #[.slice (some ⟨g, 0, none⟩) b.length c, .pointer (some ⟨p, 0, none⟩)] w fun e w' => e = .returned (.int .i64 (iOf (getI b i))) ∧ At p (jOf (getI b i)) w' ∧ Only p w w' := by
  have call := iTakeNum (c := c) hR hp hne hl
  rcases hg : getV b i with _ | ⟨n, j⟩
  · have HI : Hid (getI b i = none) := by show _ = _; unfold getI; rw [hg]; rfl
    rw [hg] at call
    have e0 : nOf none = 0 := rfl
    rw [e0] at call
    clear hg hR hp
    go_enter Try.func30, Try.ntmps30
    go_wp2_with (go_at_call 28; refine call.mono ?_; rintro e w2 ⟨rfl, hA2, hO2⟩)
    go_ret
    rw [HI.out]
    exact ⟨rfl, hA2, hO2⟩
  · have hf := (getV_facts hg).1
    have HI : Hid (getI b i = if unz n < -2305843009213693951 then none else some (unz n, j)) := by show _ = _; unfold getI; rw [hg]; rfl
    rw [hg] at call
    have e0 : nOf (some (n, j)) = (n : Int) := rfl
    rw [e0] at call
    have nb : (n : Int) ≤ 4611686018427387903 := by omega
    clear hg hR hp
    by_cases h2 : n % 2 = 0
    · have h2i : (n : Int) % 2 = 0 := by omega
      have HU : Hid (getI b i = some ((n : Int) / 2, j)) := by
        show _ = _
        rw [HI.out]
        have hu : unz n = (n : Int) / 2 := by unfold unz; rw [if_neg (by omega)]; omega
        rw [hu, if_neg (by omega)]
      clear HI h2
      go_enter Try.func30, Try.ntmps30
      go_wp2_with (go_at_call 28; refine call.mono ?_; rintro e w2 ⟨rfl, hA2, hO2⟩)
      go_ret
      rw [HU.out]
      exact ⟨rfl, hA2, hO2⟩
    · have h2i : (n : Int) % 2 = 1 := by omega
      have hu : unz n = -1 - (n : Int) / 2 := by unfold unz; rw [if_pos (by omega)]; omega
      obtain ⟨m, hmm⟩ : ∃ m, m = (n : Int) / 2 := ⟨_, rfl⟩
      have hm : (n : Int) / 2 = m := hmm.symm
      by_cases hbig : 2305843009213693951 < m + 1
      · have HU : Hid (getI b i = none) := by
          show _ = _
          rw [HI.out, hu, if_pos (by omega)]
        have mb : m ≤ 2305843009213693951 := by omega
        clear HI h2 hu hmm
        go_enter Try.func30, Try.ntmps30
        go_wp2_with (go_at_call 28; refine call.mono ?_; rintro e w2 ⟨rfl, hA2, hO2⟩; have c2 := hA2.cell; have f2 := hA2.frozen; have p2 := hA2.lt)
        go_ret
        rw [HU.out]
        exact ⟨rfl, hA2.put (-1), hO2.trans (Only.set p _ _)⟩
      · have HU : Hid (getI b i = some (-(m + 1), j)) := by
          show _ = _
          rw [HI.out, hu, if_neg (by omega), hm]
          congr 2
          omega
        have mb : m ≤ 2305843009213693951 := by omega
        have m0 : 0 ≤ m := by omega
        clear HI h2 hu hmm
        go_enter Try.func30, Try.ntmps30
        go_wp2_with (go_at_call 28; refine call.mono ?_; rintro e w2 ⟨rfl, hA2, hO2⟩)
        go_ret
        rw [HU.out]
        exact ⟨by simp [iOf] <;> omega, hA2, hO2⟩

/-- A piece of what is read, as a text. -/
theorem cut_conv {g c : Nat} {b : List UInt8} (hc : b.length ≤ c) (i n : Nat) (hin : i + n ≤ b.length) : ∃ SV : Value,
    (∀ w : World, (Instr.sliceAt 22 (.slice (some ⟨g, 0, none⟩) b.length c) (some (.int .i64 (i : Int))) (some (.int .i64 ((i + n : Nat) : Int))) none).run Try.prog w = .ok SV w) ∧
    ∀ w : World, Rd w (some ⟨g, 0, none⟩) b → (convert 22 9 SV).run Try.prog w = .ok (.string ⟨((b.drop i).take n).toArray⟩) w := by
  refine ⟨.slice (if c = i then some ⟨g, 0, none⟩ else some ⟨g, i, none⟩) n (c - i), fun w => ?_, fun w hR => ?_⟩
  · rw [run_sliceAt_slice (P := Try.prog) (h := Try.underlying22), run_slice_lh (P := Try.prog) (ht := Try.underlying22) (h0 := by omega) (h1 := by omega) (h2 := by omega)]
    simp [go_sem, sliced]
    omega
  · by_cases hci : c = i
    · have hn : n = 0 := by omega
      subst hn
      rw [if_pos hci]
      exact run_convert_bytes_back (P := Try.prog) w 22 9 5 ⟨g, 0, none⟩ (c - i) [] Try.underlying22 Try.underlying5 Try.underlying9 (fun j hj => by simp at hj)
    · rw [if_neg hci]
      have hl : ((b.drop i).take n).length = n := by simp; omega
      have := run_convert_bytes_back (P := Try.prog) w 22 9 5 ⟨g, i, none⟩ (c - i) ((b.drop i).take n) Try.underlying22 Try.underlying5 Try.underlying9 (fun j hj => by
        obtain ⟨g', o', e', _, q⟩ := hR (i + j) (((b.drop i).take n)[j]) (by
          rw [← List.getElem?_drop]
          have h1 : ((b.drop i).take n)[j]? = some ((b.drop i).take n)[j] := List.getElem?_eq_getElem hj
          rw [List.getElem?_take_of_lt (by omega)] at h1
          exact h1)
        simp only [Option.some.injEq, Addr.mk.injEq] at e'
        obtain ⟨rfl, rfl, _⟩ := e'
        have ha : (⟨g, i, none⟩ : Addr).add j = ⟨g, i + j, none⟩ := by unfold Addr.add; split <;> simp_all
        rw [ha]
        rw [Nat.zero_add] at q
        exact q)
      rw [hl] at this
      exact this

set_option maxHeartbeats 1000000 in
set_option maxRecDepth 100000 in
theorem iTakeText {g p c : Nat} {i : Int} {b : List UInt8} {w : World} (hR : Rd w (some ⟨g, 0, none⟩) b) (hp : At p i w) (hne : g ≠ p) (hl : b.length ≤ 1048576) (hc : b.length ≤ c) :
    Calls Try.prog 33 #[.slice (some ⟨g, 0, none⟩) b.length c, .pointer (some ⟨p, 0, none⟩)] w fun e w' => e = .returned (.string (sOf (getT b i))) ∧ At p (jOf (getT b i)) w' ∧ Only p w w' := by
  have call := iTakeNum (c := c) hR hp hne hl
  have bl : (b.length : Int) ≤ 1048576 := by omega
  rcases hg : getV b i with _ | ⟨n, j⟩
  · have HI : Hid (getT b i = none) := by show _ = _; unfold getT; rw [hg]; rfl
    rw [hg] at call
    have e0 : nOf none = 0 := rfl
    have e1 : jOf (none : Option (Nat × Nat)) = -1 := rfl
    rw [e0, e1] at call
    clear hg hR hp
    go_enter Try.func33, Try.ntmps33
    go_wp2_with (go_at_call 28; refine call.mono ?_; rintro e w2 ⟨rfl, hA2, hO2⟩; have c2 := hA2.cell; have f2 := hA2.frozen; have p2 := hA2.lt)
    go_ret
    rw [HI.out]
    exact ⟨rfl, hA2.put (-1), hO2.trans (Only.set p _ _)⟩
  · obtain ⟨hf, _, _, hjl⟩ := getV_facts hg
    have HI : Hid (getT b i = if b.length < j + n then none else some ((b.drop j).take n, j + n)) := by show _ = _; unfold getT; rw [hg]; rfl
    rw [hg] at call
    have e0 : nOf (some (n, j)) = (n : Int) := rfl
    have e1 : jOf (some (n, j)) = (j : Int) := rfl
    rw [e0, e1] at call
    have nb : (n : Int) ≤ 4611686018427387903 := by omega
    have j0 : (j : Int) ≤ b.length := by omega
    have j1 : ((j : Int) == -1) = false := beq_eq_false_iff_ne.2 (by omega)
    by_cases hb : b.length < j + n
    · have hb2 : (b.length : Int) - j < n := by omega
      have HU : Hid (getT b i = none) := by show _ = _; rw [HI.out, if_pos hb]
      clear HI hg hR hp hf hb
      go_enter Try.func33, Try.ntmps33
      go_wp2_with (go_at_call 28; refine call.mono ?_; rintro e w2 ⟨rfl, hA2, hO2⟩; have c2 := hA2.cell; have f2 := hA2.frozen; have p2 := hA2.lt)
      go_ret
      rw [HU.out]
      exact ⟨rfl, hA2.put (-1), hO2.trans (Only.set p _ _)⟩
    · have hb2 : ¬ (b.length : Int) - j < n := by omega
      have HU : Hid (getT b i = some ((b.drop j).take n, j + n)) := by show _ = _; rw [HI.out, if_neg hb]
      obtain ⟨SV, s1, s2⟩ := cut_conv (g := g) (c := c) hc j n (by omega)
      obtain ⟨m, hm⟩ : ∃ m, m = j + n := ⟨_, rfl⟩
      have hjm : (j : Int) + n = m := by omega
      rw [← hm] at s1
      have mb : (m : Int) ≤ b.length := by omega
      have mj : (j : Int) ≤ m := by omega
      have HM : Hid (m = j + n) := hm
      have HRR : Hid (Rd w (some ⟨g, 0, none⟩) b) := hR
      have HS2 : Hid (∀ w : World, Rd w (some ⟨g, 0, none⟩) b → (convert 22 9 SV).run Try.prog w = .ok (.string ⟨((b.drop j).take n).toArray⟩) w) := s2
      clear HI hg hR hp hf hb hm hb2
      generalize ((b.drop j).take n) = M at HS2 HU
      have hb3 : ¬ (b.length : Int) - j < n := by omega
      go_enter Try.func33, Try.ntmps33
      go_wp2_with (go_at_call 28; refine call.mono ?_; rintro e w2 ⟨rfl, hA2, hO2⟩; have c2 := hA2.cell; have f2 := hA2.frozen; have p2 := hA2.lt; have hA3 := hA2.put (m : Int); have c3 := hA3.cell; have s3 := HS2.out (w2.setCell ⟨p, 0, none⟩ (.int .i64 (m : Int))) (HRR.out.only (hO2.trans (Only.set p _ _)) hne); have HO : Hid (Only p w (w2.setCell ⟨p, 0, none⟩ (.int .i64 (m : Int)))) := hO2.trans (Only.set p _ _))
      go_ret
      rw [HU.out, ← HM.out]
      exact ⟨rfl, hA3, HO.out⟩

/-- What is answered of what begins at a place. -/
def three {α : Type} (v : Value) (o : Option (α × Nat)) : Value := .tuple #[v, .int .i64 ((o.map (·.2)).getD 0 : Nat), .bool o.isSome]

theorem at_new (w : World) (i : Int) : At w.heap.size i (w.alloc (.cells #[.int .i64 i] 3)) := heap_alloc_new w _
theorem jOf_some {α : Type} (x : α) (j : Nat) : jOf (some (x, j)) = (j : Int) := rfl


set_option maxHeartbeats 1000000 in
set_option maxRecDepth 100000 in
theorem iReadNum {g c : Nat} {i : Int} {b : List UInt8} {w : World} (hR : Rd w (some ⟨g, 0, none⟩) b) (hgl : g < w.heap.size) (hl : b.length ≤ 1048576) :
    Calls Try.prog 27 #[.slice (some ⟨g, 0, none⟩) b.length c, .int .i64 i, .func (.func 28) #[] #[]] w fun e w' => e = .returned (three (.int .i64 (nOf (getV b i))) (getV b i)) ∧ Below w.heap.size w w' := by
  have hw1 : Below w.heap.size w (w.alloc (.cells #[.int .i64 i] 3)) := (Below.refl _ w).alloc (Nat.le_refl _) _
  have call := iTakeNum (c := c) (hR.below hw1 (Nat.le_refl _)) (at_new w i) (by omega) hl
  have HB := hw1
  clear hw1 hR
  rcases hg : getV b i with _ | ⟨n, j⟩
  · rw [hg] at call
    clear hg
    go_enter Try.func27, Try.ntmps27
    go_wp2_with (go_at_call 28; refine call.mono ?_; rintro e w2 ⟨rfl, hA2, hO2⟩; have c2 : w2.cell? ⟨w.heap.size, 0, none⟩ = some (.int .i64 (-1)) := hA2.cell; have f2 := hA2.frozen; have p2 := hA2.lt; have h2 := HB.trans (hO2.below (Nat.le_refl _) (by simp)); clear hA2 hO2)
    go_ret3
    exact ⟨rfl, h2⟩
  · rw [hg] at call
    have jn : ((j : Int) == -1) = false := beq_eq_false_iff_ne.2 (by omega)
    clear hg
    go_enter Try.func27, Try.ntmps27
    go_wp2_with (go_at_call 28; refine call.mono ?_; rintro e w2 ⟨rfl, hA2, hO2⟩; have c2 : w2.cell? ⟨w.heap.size, 0, none⟩ = some (.int .i64 (j : Int)) := hA2.cell; have f2 := hA2.frozen; have p2 := hA2.lt; have h2 := HB.trans (hO2.below (Nat.le_refl _) (by simp)); clear hA2 hO2)
    go_quiet (fail)
    go_wp2_with fail
    go_ret3
    exact ⟨rfl, h2.os, h2.tape, h2.output, h2.size, h2.block⟩

theorem iGetNum {g c : Nat} {i : Int} {b : List UInt8} {w : World} (hR : Rd w (some ⟨g, 0, none⟩) b) (hgl : g < w.heap.size) (hl : b.length ≤ 1048576) :
    Calls Try.prog 16 #[.slice (some ⟨g, 0, none⟩) b.length c, .int .i64 i] w fun e w' => e = .returned (three (.int .i64 (nOf (getV b i))) (getV b i)) ∧ Below w.heap.size w w' := by
  have call := iReadNum (c := c) (i := i) hR hgl hl
  unfold three at *
  clear hR hgl hl
  go_enter Try.func16, Try.ntmps16
  go_wp2_with (go_at_call 27; refine call.mono ?_; rintro e w2 ⟨rfl, h2⟩)
  go_ret3
  exact ⟨rfl, h2⟩

set_option maxHeartbeats 1000000 in
set_option maxRecDepth 100000 in
theorem iReadInt {g c : Nat} {i : Int} {b : List UInt8} {w : World} (hR : Rd w (some ⟨g, 0, none⟩) b) (hgl : g < w.heap.size) (hl : b.length ≤ 1048576) :
    Calls Try.prog 27 #[.slice (some ⟨g, 0, none⟩) b.length c, .int .i64 i, .func (.func 30) #[] #[]] w fun e w' => e = .returned (three (.int .i64 (iOf (getI b i))) (getI b i)) ∧ Below w.heap.size w w' := by
  have hw1 : Below w.heap.size w (w.alloc (.cells #[.int .i64 i] 3)) := (Below.refl _ w).alloc (Nat.le_refl _) _
  have call := iTakeInt (c := c) (hR.below hw1 (Nat.le_refl _)) (at_new w i) (by omega) hl
  have HB := hw1
  clear hw1 hR
  rcases hg : getI b i with _ | ⟨n, j⟩
  · rw [hg] at call
    clear hg
    go_enter Try.func27, Try.ntmps27
    go_wp2_with (go_at_call 30; refine call.mono ?_; rintro e w2 ⟨rfl, hA2, hO2⟩; have c2 : w2.cell? ⟨w.heap.size, 0, none⟩ = some (.int .i64 (-1)) := hA2.cell; have f2 := hA2.frozen; have p2 := hA2.lt; have h2 := HB.trans (hO2.below (Nat.le_refl _) (by simp)); clear hA2 hO2)
    go_ret3
    exact ⟨rfl, h2⟩
  · rw [hg] at call
    have jn : ((j : Int) == -1) = false := beq_eq_false_iff_ne.2 (by omega)
    clear hg
    go_enter Try.func27, Try.ntmps27
    go_wp2_with (go_at_call 30; refine call.mono ?_; rintro e w2 ⟨rfl, hA2, hO2⟩; have c2 : w2.cell? ⟨w.heap.size, 0, none⟩ = some (.int .i64 (j : Int)) := hA2.cell; have f2 := hA2.frozen; have p2 := hA2.lt; have h2 := HB.trans (hO2.below (Nat.le_refl _) (by simp)); clear hA2 hO2)
    go_quiet (fail)
    go_wp2_with fail
    go_ret3
    exact ⟨rfl, h2.os, h2.tape, h2.output, h2.size, h2.block⟩

theorem iGetInt {g c : Nat} {i : Int} {b : List UInt8} {w : World} (hR : Rd w (some ⟨g, 0, none⟩) b) (hgl : g < w.heap.size) (hl : b.length ≤ 1048576) :
    Calls Try.prog 20 #[.slice (some ⟨g, 0, none⟩) b.length c, .int .i64 i] w fun e w' => e = .returned (three (.int .i64 (iOf (getI b i))) (getI b i)) ∧ Below w.heap.size w w' := by
  have call := iReadInt (c := c) (i := i) hR hgl hl
  unfold three at *
  clear hR hgl hl
  go_enter Try.func20, Try.ntmps20
  go_wp2_with (go_at_call 27; refine call.mono ?_; rintro e w2 ⟨rfl, h2⟩)
  go_ret3
  exact ⟨rfl, h2⟩

set_option maxHeartbeats 1000000 in
set_option maxRecDepth 100000 in
theorem iReadText {g c : Nat} {i : Int} {b : List UInt8} {w : World} (hR : Rd w (some ⟨g, 0, none⟩) b) (hgl : g < w.heap.size) (hl : b.length ≤ 1048576) (hc : b.length ≤ c) :
    Calls Try.prog 32 #[.slice (some ⟨g, 0, none⟩) b.length c, .int .i64 i, .func (.func 33) #[] #[]] w fun e w' => e = .returned (three (.string (sOf (getT b i))) (getT b i)) ∧ Below w.heap.size w w' := by
  have hw1 : Below w.heap.size w (w.alloc (.cells #[.int .i64 i] 3)) := (Below.refl _ w).alloc (Nat.le_refl _) _
  have call := iTakeText (c := c) (hR.below hw1 (Nat.le_refl _)) (at_new w i) (by omega) hl hc
  have HB := hw1
  clear hw1 hR
  rcases hg : getT b i with _ | ⟨n, j⟩
  · rw [hg] at call
    clear hg
    go_enter Try.func32, Try.ntmps32
    go_wp2_with (go_at_call 33; refine call.mono ?_; rintro e w2 ⟨rfl, hA2, hO2⟩; have c2 : w2.cell? ⟨w.heap.size, 0, none⟩ = some (.int .i64 (-1)) := hA2.cell; have f2 := hA2.frozen; have p2 := hA2.lt; have h2 := HB.trans (hO2.below (Nat.le_refl _) (by simp)); clear hA2 hO2)
    go_ret3
    exact ⟨rfl, h2⟩
  · rw [hg] at call
    have jn : ((j : Int) == -1) = false := beq_eq_false_iff_ne.2 (by omega)
    clear hg
    go_enter Try.func32, Try.ntmps32
    go_wp2_with (go_at_call 33; refine call.mono ?_; rintro e w2 ⟨rfl, hA2, hO2⟩; have c2 : w2.cell? ⟨w.heap.size, 0, none⟩ = some (.int .i64 (j : Int)) := hA2.cell; have f2 := hA2.frozen; have p2 := hA2.lt; have h2 := HB.trans (hO2.below (Nat.le_refl _) (by simp)); clear hA2 hO2)
    go_quiet (fail)
    go_wp2_with fail
    go_ret3
    exact ⟨rfl, h2.os, h2.tape, h2.output, h2.size, h2.block⟩

theorem iGetText {g c : Nat} {i : Int} {b : List UInt8} {w : World} (hR : Rd w (some ⟨g, 0, none⟩) b) (hgl : g < w.heap.size) (hl : b.length ≤ 1048576) (hc : b.length ≤ c) :
    Calls Try.prog 24 #[.slice (some ⟨g, 0, none⟩) b.length c, .int .i64 i] w fun e w' => e = .returned (three (.string (sOf (getT b i))) (getT b i)) ∧ Below w.heap.size w w' := by
  have call := iReadText (c := c) (i := i) hR hgl hl hc
  unfold three at *
  clear hR hgl hl
  go_enter Try.func24, Try.ntmps24
  go_wp2_with (go_at_call 32; refine call.mono ?_; rintro e w2 ⟨rfl, h2⟩)
  go_ret3
  exact ⟨rfl, h2⟩

end Bt
end Go.Proofs.Ytmhmoopijfhhbaa
