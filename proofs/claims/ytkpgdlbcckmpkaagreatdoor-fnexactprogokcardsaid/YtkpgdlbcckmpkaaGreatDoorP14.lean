/-
  The forms as a map, gone through in any order, sorted by their codes.
-/
import Derived.Test.YtkpgdlbcckmpkaaGreatDoorP08
import Derived.Test.YtkpgdlbcckmpkaaGreatDoorP02
import Derived.Test.YtkpgdlbcckmpkaaGreatDoorP13
import Derived.Maps.Own
import Derived.Maps.RangeWalk
import Derived.Maps.AppendAt
import Derived.Sort.OwnSorted
import Derived.Sort.KeysCollected
import Derived.Carry
namespace Go.Proofs.YtkpgdlbcckmpkaaGreatDoor
open Go.RowKit
namespace Oc
open St (Vl)

theorem keyS : Maps.Keyed Tryz.prog 9 := Maps.string_keyed Tryz.underlying9
/-- The map in block B holds the first i forms. -/
def Mp (w : World) (B i : Nat) : Prop := w.ownsMap Tryz.prog 9 Rf B i (dR (tbl.take i).reverse)
theorem Mp.all {w : World} {B : Nat} (h : Mp w B 36) : w.ownsMap Tryz.prog 9 Rf B 36 (dR tbl.reverse) := by
  unfold Mp at h
  rwa [List.take_of_length_le (by rw [tbl_len]; exact Nat.le_refl _)] at h

theorem mp_put {w : World} {B i : Nat} (hM : Mp w B i) {c n s : Int} {nm : List UInt8} (hf : tbl[i]? = some (c, n, s, nm)) :
    ∃ w', (Instr.mapUpdate 78 (.map (some B)) (.string ⟨nm.toArray⟩) (.agg #[.int .i64 c, .int .i64 n, .int .i64 s, .string ⟨#[]⟩])).run Tryz.prog w = .ok () w' ∧ Mp w' B (i + 1) ∧ w.grownBy w' (some B) := by
  have hi : i < 36 := by have := (List.getElem?_eq_some_iff.1 hf).1; rwa [tbl_len] at this
  have hl : nm.length ≤ 100 := by
    have h : ∀ f ∈ tbl, f.2.2.2.length ≤ 100 := by decide
    exact h _ (List.mem_of_getElem? hf)
  have hkey : keyOf Tryz.prog 9 (.string ⟨nm.toArray⟩) = some (.string nm) := by
    have := WideMaps.keyOf_string_mk (s := ⟨nm.toArray⟩) Tryz.underlying9 (by unfold maxLen; simp [ByteArray.size]; omega)
    simpa using this
  obtain ⟨w', hrun, r1, r2⟩ := World.ownsMap.update hM keyS Tryz.underlying78 (by unfold maxLen; omega) hkey (Rf_mk (c, n, s))
  refine ⟨w', hrun, ?_, r2⟩
  have e : (tbl.take (i + 1)).reverse = (c, n, s, nm) :: (tbl.take i).reverse := by rw [List.take_add_one, hf]; simp
  unfold Mp
  rw [e]
  exact r1

set_option maxHeartbeats 4000000 in
set_option maxRecDepth 100000 in
theorem iForms (w : World) : Calls Tryz.prog 42 #[] w fun e w' => e = .returned (.map (some w.heap.size)) ∧ Mp w' w.heap.size 36 ∧ Below w.heap.size w w' ∧ w.heap.size < w'.heap.size := by
  have hmm := @run_makeMap Tryz.prog
  have hM0 : Mp (w.alloc (.map #[] 0)) w.heap.size 0 := World.ownsMap_made _ _ _ _
  have hB0 : Below (w.heap.size) w (w.alloc (.map #[] 0)) ∧ w.heap.size < (w.alloc (.map #[] 0)).heap.size := ⟨(Below.refl _ w).alloc (Nat.le_refl _) _, by simp⟩
  have hst : ∀ {w1 w2 : World}, Below w.heap.size w w1 ∧ w.heap.size < w1.heap.size → w1.grownBy w2 (some w.heap.size) → Below w.heap.size w w2 ∧ w.heap.size < w2.heap.size := fun h hg => ⟨h.1.grown hg h.1.size (fun b hb => by cases hb; exact Nat.le_refl _), Nat.lt_of_lt_of_le h.2 hg.size⟩
  obtain ⟨w1, r1, hM1, g1⟩ := mp_put hM0 (i := 0) rfl
  have hB1 := hst hB0 g1
  clear hM0 hB0 g1
  obtain ⟨w2, r2, hM2, g2⟩ := mp_put hM1 (i := 1) rfl
  have hB2 := hst hB1 g2
  clear hM1 hB1 g2
  obtain ⟨w3, r3, hM3, g3⟩ := mp_put hM2 (i := 2) rfl
  have hB3 := hst hB2 g3
  clear hM2 hB2 g3
  obtain ⟨w4, r4, hM4, g4⟩ := mp_put hM3 (i := 3) rfl
  have hB4 := hst hB3 g4
  clear hM3 hB3 g4
  obtain ⟨w5, r5, hM5, g5⟩ := mp_put hM4 (i := 4) rfl
  have hB5 := hst hB4 g5
  clear hM4 hB4 g5
  obtain ⟨w6, r6, hM6, g6⟩ := mp_put hM5 (i := 5) rfl
  have hB6 := hst hB5 g6
  clear hM5 hB5 g6
  obtain ⟨w7, r7, hM7, g7⟩ := mp_put hM6 (i := 6) rfl
  have hB7 := hst hB6 g7
  clear hM6 hB6 g7
  obtain ⟨w8, r8, hM8, g8⟩ := mp_put hM7 (i := 7) rfl
  have hB8 := hst hB7 g8
  clear hM7 hB7 g8
  obtain ⟨w9, r9, hM9, g9⟩ := mp_put hM8 (i := 8) rfl
  have hB9 := hst hB8 g9
  clear hM8 hB8 g9
  obtain ⟨w10, r10, hM10, g10⟩ := mp_put hM9 (i := 9) rfl
  have hB10 := hst hB9 g10
  clear hM9 hB9 g10
  obtain ⟨w11, r11, hM11, g11⟩ := mp_put hM10 (i := 10) rfl
  have hB11 := hst hB10 g11
  clear hM10 hB10 g11
  obtain ⟨w12, r12, hM12, g12⟩ := mp_put hM11 (i := 11) rfl
  have hB12 := hst hB11 g12
  clear hM11 hB11 g12
  obtain ⟨w13, r13, hM13, g13⟩ := mp_put hM12 (i := 12) rfl
  have hB13 := hst hB12 g13
  clear hM12 hB12 g13
  obtain ⟨w14, r14, hM14, g14⟩ := mp_put hM13 (i := 13) rfl
  have hB14 := hst hB13 g14
  clear hM13 hB13 g14
  obtain ⟨w15, r15, hM15, g15⟩ := mp_put hM14 (i := 14) rfl
  have hB15 := hst hB14 g15
  clear hM14 hB14 g15
  obtain ⟨w16, r16, hM16, g16⟩ := mp_put hM15 (i := 15) rfl
  have hB16 := hst hB15 g16
  clear hM15 hB15 g16
  obtain ⟨w17, r17, hM17, g17⟩ := mp_put hM16 (i := 16) rfl
  have hB17 := hst hB16 g17
  clear hM16 hB16 g17
  obtain ⟨w18, r18, hM18, g18⟩ := mp_put hM17 (i := 17) rfl
  have hB18 := hst hB17 g18
  clear hM17 hB17 g18
  obtain ⟨w19, r19, hM19, g19⟩ := mp_put hM18 (i := 18) rfl
  have hB19 := hst hB18 g19
  clear hM18 hB18 g19
  obtain ⟨w20, r20, hM20, g20⟩ := mp_put hM19 (i := 19) rfl
  have hB20 := hst hB19 g20
  clear hM19 hB19 g20
  obtain ⟨w21, r21, hM21, g21⟩ := mp_put hM20 (i := 20) rfl
  have hB21 := hst hB20 g21
  clear hM20 hB20 g21
  obtain ⟨w22, r22, hM22, g22⟩ := mp_put hM21 (i := 21) rfl
  have hB22 := hst hB21 g22
  clear hM21 hB21 g22
  obtain ⟨w23, r23, hM23, g23⟩ := mp_put hM22 (i := 22) rfl
  have hB23 := hst hB22 g23
  clear hM22 hB22 g23
  obtain ⟨w24, r24, hM24, g24⟩ := mp_put hM23 (i := 23) rfl
  have hB24 := hst hB23 g24
  clear hM23 hB23 g24
  obtain ⟨w25, r25, hM25, g25⟩ := mp_put hM24 (i := 24) rfl
  have hB25 := hst hB24 g25
  clear hM24 hB24 g25
  obtain ⟨w26, r26, hM26, g26⟩ := mp_put hM25 (i := 25) rfl
  have hB26 := hst hB25 g26
  clear hM25 hB25 g26
  obtain ⟨w27, r27, hM27, g27⟩ := mp_put hM26 (i := 26) rfl
  have hB27 := hst hB26 g27
  clear hM26 hB26 g27
  obtain ⟨w28, r28, hM28, g28⟩ := mp_put hM27 (i := 27) rfl
  have hB28 := hst hB27 g28
  clear hM27 hB27 g28
  obtain ⟨w29, r29, hM29, g29⟩ := mp_put hM28 (i := 28) rfl
  have hB29 := hst hB28 g29
  clear hM28 hB28 g29
  obtain ⟨w30, r30, hM30, g30⟩ := mp_put hM29 (i := 29) rfl
  have hB30 := hst hB29 g30
  clear hM29 hB29 g30
  obtain ⟨w31, r31, hM31, g31⟩ := mp_put hM30 (i := 30) rfl
  have hB31 := hst hB30 g31
  clear hM30 hB30 g31
  obtain ⟨w32, r32, hM32, g32⟩ := mp_put hM31 (i := 31) rfl
  have hB32 := hst hB31 g32
  clear hM31 hB31 g32
  obtain ⟨w33, r33, hM33, g33⟩ := mp_put hM32 (i := 32) rfl
  have hB33 := hst hB32 g33
  clear hM32 hB32 g33
  obtain ⟨w34, r34, hM34, g34⟩ := mp_put hM33 (i := 33) rfl
  have hB34 := hst hB33 g34
  clear hM33 hB33 g34
  obtain ⟨w35, r35, hM35, g35⟩ := mp_put hM34 (i := 34) rfl
  have hB35 := hst hB34 g35
  clear hM34 hB34 g35
  obtain ⟨w36, r36, hM36, g36⟩ := mp_put hM35 (i := 35) rfl
  have hB36 := hst hB35 g36
  clear hM35 hB35 g36
  have HM : Hid (Mp w36 w.heap.size 36 ∧ Below w.heap.size w w36 ∧ w.heap.size < w36.heap.size) := ⟨hM36, hB36⟩
  clear hst hM36 hB36
  go_enter Tryz.func42, Tryz.ntmps42
  go_wp2_with fail
  go_ret
  exact ⟨rfl, HM.out⟩

/-- The forms in a row, by their codes. -/
def RdF (w : World) (g : Nat) : Prop := g < w.heap.size ∧ ∀ i f, tbl[i]? = some f → w.cell? ⟨g, i * 4, none⟩ = some (.int .i64 f.1) ∧ w.cell? ⟨g, i * 4 + 1, none⟩ = some (.int .i64 f.2.1) ∧ w.cell? ⟨g, i * 4 + 2, none⟩ = some (.int .i64 f.2.2.1) ∧ w.cell? ⟨g, i * 4 + 3, none⟩ = some (.string ⟨f.2.2.2.toArray⟩)
theorem RdF.below {w w' : World} {g : Nat} (h : RdF w g) (hb : Below w.heap.size w w') : RdF w' g := by
  refine ⟨Nat.lt_of_lt_of_le h.1 hb.size, fun i f hi => ?_⟩
  obtain ⟨c0, c1, c2, c3⟩ := h.2 i f hi
  have hc : ∀ k, w'.cell? ⟨g, k, none⟩ = w.cell? ⟨g, k, none⟩ := fun k => hb.cell (p := ⟨g, k, none⟩) h.1
  exact ⟨(hc _).trans c0, (hc _).trans c1, (hc _).trans c2, (hc _).trans c3⟩

/-! The library's sort at forms. -/
theorem iCmp (x y : Fm) (W : World) : Calls Tryz.prog 44 #[.agg #[.int .i64 x.1, .int .i64 x.2.1, .int .i64 x.2.2.1, .string ⟨x.2.2.2.toArray⟩], .agg #[.int .i64 y.1, .int .i64 y.2.1, .int .i64 y.2.2.1, .string ⟨y.2.2.2.toArray⟩]] W fun e w' => e = .returned (.int .i64 (Lib.compareInt x.1 y.1)) ∧ ∃ q os', w' = Sort.grow (W.drewN q) os' := by
  have hcon := fun W' => AnyG.cmp_Compare_int Tryz.cmpInt x.1 y.1 W'
  change ∀ W', Calls Tryz.prog 45 _ _ _ at hcon
  generalize Lib.compareInt x.1 y.1 = r at hcon ⊢
  go_enter Tryz.func44, Tryz.ntmps44
  go_wp2_with (go_at_call 45; refine (hcon _).mono ?_; rintro e w' ⟨rfl, rfl⟩)
  go_ret
  exact ⟨rfl, 0, _, by rw [Sort.alloc_eq_grow, Sort.alloc_eq_grow, Sort.grow_grow]; rfl⟩

theorem ltCode (x y : Fm) : ltOf (fun x y : Fm => Lib.compareInt x.1 y.1) x y = decide (x.1 < y.1) := by
  unfold ltOf Lib.compareInt
  by_cases h1 : x.1 < y.1
  · simp [h1]
  · by_cases h2 : y.1 < x.1 <;> simp [h1, h2]
theorem swoCode : Sort.SWO (ltOf fun x y : Fm => Lib.compareInt x.1 y.1) where
  irrefl x := by rw [ltCode]; simp
  trans x y z h1 h2 := by rw [ltCode] at *; simp at *; omega
  ntrans x y z h1 h2 := by rw [ltCode] at *; simp at *; omega

end Oc
end Go.Proofs.YtkpgdlbcckmpkaaGreatDoor

