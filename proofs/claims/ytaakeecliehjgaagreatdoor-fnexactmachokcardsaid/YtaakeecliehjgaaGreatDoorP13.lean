/-
  The forms as a map, gone through in any order, sorted by their codes.
  The forms, sorted by their codes, in a row of their own.
-/
import Derived.Test.YtaakeecliehjgaaGreatDoorP09
import Derived.Test.YtaakeecliehjgaaGreatDoorP01
import Derived.Test.YtaakeecliehjgaaGreatDoorP12
import Derived.Maps.Own
import Derived.Maps.RangeWalk
import Derived.Maps.AppendAt
import Derived.Sort.OwnSorted
import Derived.Sort.KeysCollected
import Derived.Carry
namespace Go.Proofs.YtaakeecliehjgaaGreatDoor
open Go.RowKit
namespace Oc
open St (Vl)

theorem keyS : Maps.Keyed Tryz.prog 9 := Maps.string_keyed Tryz.underlying9
/-- The map in block B holds the first i forms. -/
def Mp (w : World) (B i : Nat) : Prop := w.ownsMap Tryz.prog 9 Rf B i (dR (tbl.take i).reverse)
theorem Mp.all {w : World} {B : Nat} (h : Mp w B 36) : w.ownsMap Tryz.prog 9 Rf B 36 (dR tbl.reverse) := by
  unfold Mp at h
  rwa [List.take_of_length_le (by rw [tbl_len]; exact Nat.le_refl _)] at h

theorem mp_put {w : World} {B i : Nat} (hM : Mp w B i) {c n s : Int} {nm : List UInt8} (hf : tbl[i]? = some (c, n, s, nm)) :
    ∃ w', (Instr.mapUpdate 134 (.map (some B)) (.string ⟨nm.toArray⟩) (.agg #[.int .i64 c, .int .i64 n, .int .i64 s, .string ⟨#[]⟩])).run Tryz.prog w = .ok () w' ∧ Mp w' B (i + 1) ∧ w.grownBy w' (some B) := by
  have hi : i < 36 := by have := (List.getElem?_eq_some_iff.1 hf).1; rwa [tbl_len] at this
  have hl : nm.length ≤ 100 := by
    have h : ∀ f ∈ tbl, f.2.2.2.length ≤ 100 := by decide
    exact h _ (List.mem_of_getElem? hf)
  have hkey : keyOf Tryz.prog 9 (.string ⟨nm.toArray⟩) = some (.string nm) := by
    have := WideMaps.keyOf_string_mk (s := ⟨nm.toArray⟩) Tryz.underlying9 (by unfold maxLen; simp [ByteArray.size]; omega)
    simpa using this
  obtain ⟨w', hrun, r1, r2⟩ := World.ownsMap.update hM keyS Tryz.underlying134 (by unfold maxLen; omega) hkey (Rf_mk (c, n, s))
  refine ⟨w', hrun, ?_, r2⟩
  have e : (tbl.take (i + 1)).reverse = (c, n, s, nm) :: (tbl.take i).reverse := by rw [List.take_add_one, hf]; simp
  unfold Mp
  rw [e]
  exact r1

set_option maxHeartbeats 4000000 in
set_option maxRecDepth 100000 in
theorem iForms (w : World) : Calls Tryz.prog 81 #[] w fun e w' => e = .returned (.map (some w.heap.size)) ∧ Mp w' w.heap.size 36 ∧ Below w.heap.size w w' ∧ w.heap.size < w'.heap.size := by
  have hmm := @run_makeMap Tryz.prog
  have hM0 : Mp (w.alloc (.map #[] 0)) w.heap.size 0 := World.ownsMap_made _ _ _ _
  have hB0 : Below (w.heap.size) w (w.alloc (.map #[] 0)) ∧ w.heap.size < (w.alloc (.map #[] 0)).heap.size := ⟨(Below.refl _ w).alloc (Nat.le_refl _) _, by simp⟩
  have hst : ∀ {w1 w2 : World}, Below w.heap.size w w1 ∧ w.heap.size < w1.heap.size → w1.grownBy w2 (some w.heap.size) → Below w.heap.size w w2 ∧ w.heap.size < w2.heap.size := fun h hg => ⟨h.1.grown hg h.1.size (fun b hb => by cases hb; exact Nat.le_refl _), Nat.lt_of_lt_of_le h.2 hg.size⟩
  obtain ⟨w1, r1, hM1, g1⟩ := mp_put hM0 (i := 0) rfl
  have hB1 := hst hB0 g1
  clear hM0 hB0 g1
  obtain ⟨w2, r2, hM2, g2⟩ := mp_put hM1 (i := 1) rfl
  have hB2 := hst hB1 g2
  clear hM1 hB1 g2
  obtain ⟨w3, r3, hM3, g3⟩ := mp_put hM2 (i := 2) rfl
  have hB3 := hst hB2 g3
  clear hM2 hB2 g3
  obtain ⟨w4, r4, hM4, g4⟩ := mp_put hM3 (i := 3) rfl
  have hB4 := hst hB3 g4
  clear hM3 hB3 g4
  obtain ⟨w5, r5, hM5, g5⟩ := mp_put hM4 (i := 4) rfl
  have hB5 := hst hB4 g5
  clear hM4 hB4 g5
  obtain ⟨w6, r6, hM6, g6⟩ := mp_put hM5 (i := 5) rfl
  have hB6 := hst hB5 g6
  clear hM5 hB5 g6
  obtain ⟨w7, r7, hM7, g7⟩ := mp_put hM6 (i := 6) rfl
  have hB7 := hst hB6 g7
  clear hM6 hB6 g7
  obtain ⟨w8, r8, hM8, g8⟩ := mp_put hM7 (i := 7) rfl
  have hB8 := hst hB7 g8
  clear hM7 hB7 g8
  obtain ⟨w9, r9, hM9, g9⟩ := mp_put hM8 (i := 8) rfl
  have hB9 := hst hB8 g9
  clear hM8 hB8 g9
  obtain ⟨w10, r10, hM10, g10⟩ := mp_put hM9 (i := 9) rfl
  have hB10 := hst hB9 g10
  clear hM9 hB9 g10
  obtain ⟨w11, r11, hM11, g11⟩ := mp_put hM10 (i := 10) rfl
  have hB11 := hst hB10 g11
  clear hM10 hB10 g11
  obtain ⟨w12, r12, hM12, g12⟩ := mp_put hM11 (i := 11) rfl
  have hB12 := hst hB11 g12
  clear hM11 hB11 g12
  obtain ⟨w13, r13, hM13, g13⟩ := mp_put hM12 (i := 12) rfl
  have hB13 := hst hB12 g13
  clear hM12 hB12 g13
  obtain ⟨w14, r14, hM14, g14⟩ := mp_put hM13 (i := 13) rfl
  have hB14 := hst hB13 g14
  clear hM13 hB13 g14
  obtain ⟨w15, r15, hM15, g15⟩ := mp_put hM14 (i := 14) rfl
  have hB15 := hst hB14 g15
  clear hM14 hB14 g15
  obtain ⟨w16, r16, hM16, g16⟩ := mp_put hM15 (i := 15) rfl
  have hB16 := hst hB15 g16
  clear hM15 hB15 g16
  obtain ⟨w17, r17, hM17, g17⟩ := mp_put hM16 (i := 16) rfl
  have hB17 := hst hB16 g17
  clear hM16 hB16 g17
  obtain ⟨w18, r18, hM18, g18⟩ := mp_put hM17 (i := 17) rfl
  have hB18 := hst hB17 g18
  clear hM17 hB17 g18
  obtain ⟨w19, r19, hM19, g19⟩ := mp_put hM18 (i := 18) rfl
  have hB19 := hst hB18 g19
  clear hM18 hB18 g19
  obtain ⟨w20, r20, hM20, g20⟩ := mp_put hM19 (i := 19) rfl
  have hB20 := hst hB19 g20
  clear hM19 hB19 g20
  obtain ⟨w21, r21, hM21, g21⟩ := mp_put hM20 (i := 20) rfl
  have hB21 := hst hB20 g21
  clear hM20 hB20 g21
  obtain ⟨w22, r22, hM22, g22⟩ := mp_put hM21 (i := 21) rfl
  have hB22 := hst hB21 g22
  clear hM21 hB21 g22
  obtain ⟨w23, r23, hM23, g23⟩ := mp_put hM22 (i := 22) rfl
  have hB23 := hst hB22 g23
  clear hM22 hB22 g23
  obtain ⟨w24, r24, hM24, g24⟩ := mp_put hM23 (i := 23) rfl
  have hB24 := hst hB23 g24
  clear hM23 hB23 g24
  obtain ⟨w25, r25, hM25, g25⟩ := mp_put hM24 (i := 24) rfl
  have hB25 := hst hB24 g25
  clear hM24 hB24 g25
  obtain ⟨w26, r26, hM26, g26⟩ := mp_put hM25 (i := 25) rfl
  have hB26 := hst hB25 g26
  clear hM25 hB25 g26
  obtain ⟨w27, r27, hM27, g27⟩ := mp_put hM26 (i := 26) rfl
  have hB27 := hst hB26 g27
  clear hM26 hB26 g27
  obtain ⟨w28, r28, hM28, g28⟩ := mp_put hM27 (i := 27) rfl
  have hB28 := hst hB27 g28
  clear hM27 hB27 g28
  obtain ⟨w29, r29, hM29, g29⟩ := mp_put hM28 (i := 28) rfl
  have hB29 := hst hB28 g29
  clear hM28 hB28 g29
  obtain ⟨w30, r30, hM30, g30⟩ := mp_put hM29 (i := 29) rfl
  have hB30 := hst hB29 g30
  clear hM29 hB29 g30
  obtain ⟨w31, r31, hM31, g31⟩ := mp_put hM30 (i := 30) rfl
  have hB31 := hst hB30 g31
  clear hM30 hB30 g31
  obtain ⟨w32, r32, hM32, g32⟩ := mp_put hM31 (i := 31) rfl
  have hB32 := hst hB31 g32
  clear hM31 hB31 g32
  obtain ⟨w33, r33, hM33, g33⟩ := mp_put hM32 (i := 32) rfl
  have hB33 := hst hB32 g33
  clear hM32 hB32 g33
  obtain ⟨w34, r34, hM34, g34⟩ := mp_put hM33 (i := 33) rfl
  have hB34 := hst hB33 g34
  clear hM33 hB33 g34
  obtain ⟨w35, r35, hM35, g35⟩ := mp_put hM34 (i := 34) rfl
  have hB35 := hst hB34 g35
  clear hM34 hB34 g35
  obtain ⟨w36, r36, hM36, g36⟩ := mp_put hM35 (i := 35) rfl
  have hB36 := hst hB35 g36
  clear hM35 hB35 g36
  have HM : Hid (Mp w36 w.heap.size 36 ∧ Below w.heap.size w w36 ∧ w.heap.size < w36.heap.size) := ⟨hM36, hB36⟩
  clear hst hM36 hB36
  go_enter Tryz.func81, Tryz.ntmps81
  go_wp2_with fail
  go_ret
  exact ⟨rfl, HM.out⟩

/-- The forms in a row, by their codes. -/
def RdF (w : World) (g : Nat) : Prop := g < w.heap.size ∧ ∀ i f, tbl[i]? = some f → w.cell? ⟨g, i * 4, none⟩ = some (.int .i64 f.1) ∧ w.cell? ⟨g, i * 4 + 1, none⟩ = some (.int .i64 f.2.1) ∧ w.cell? ⟨g, i * 4 + 2, none⟩ = some (.int .i64 f.2.2.1) ∧ w.cell? ⟨g, i * 4 + 3, none⟩ = some (.string ⟨f.2.2.2.toArray⟩)
theorem RdF.below {w w' : World} {g : Nat} (h : RdF w g) (hb : Below w.heap.size w w') : RdF w' g := by
  refine ⟨Nat.lt_of_lt_of_le h.1 hb.size, fun i f hi => ?_⟩
  obtain ⟨c0, c1, c2, c3⟩ := h.2 i f hi
  have hc : ∀ k, w'.cell? ⟨g, k, none⟩ = w.cell? ⟨g, k, none⟩ := fun k => hb.cell (p := ⟨g, k, none⟩) h.1
  exact ⟨(hc _).trans c0, (hc _).trans c1, (hc _).trans c2, (hc _).trans c3⟩

/-! The library's sort at forms. -/
theorem iCmp (x y : Fm) (W : World) : Calls Tryz.prog 83 #[.agg #[.int .i64 x.1, .int .i64 x.2.1, .int .i64 x.2.2.1, .string ⟨x.2.2.2.toArray⟩], .agg #[.int .i64 y.1, .int .i64 y.2.1, .int .i64 y.2.2.1, .string ⟨y.2.2.2.toArray⟩]] W fun e w' => e = .returned (.int .i64 (Lib.compareInt x.1 y.1)) ∧ ∃ q os', w' = Sort.grow (W.drewN q) os' := by
  have hcon := fun W' => AnyG.cmp_Compare_int Tryz.cmpInt x.1 y.1 W'
  change ∀ W', Calls Tryz.prog 84 _ _ _ at hcon
  generalize Lib.compareInt x.1 y.1 = r at hcon ⊢
  go_enter Tryz.func83, Tryz.ntmps83
  go_wp2_with (go_at_call 84; refine (hcon _).mono ?_; rintro e w' ⟨rfl, rfl⟩)
  go_ret
  exact ⟨rfl, 0, _, by rw [Sort.alloc_eq_grow, Sort.alloc_eq_grow, Sort.grow_grow]; rfl⟩

theorem ltCode (x y : Fm) : ltOf (fun x y : Fm => Lib.compareInt x.1 y.1) x y = decide (x.1 < y.1) := by
  unfold ltOf Lib.compareInt
  by_cases h1 : x.1 < y.1
  · simp [h1]
  · by_cases h2 : y.1 < x.1 <;> simp [h1, h2]
theorem swoCode : Sort.SWO (ltOf fun x y : Fm => Lib.compareInt x.1 y.1) where
  irrefl x := by rw [ltCode]; simp
  trans x y z h1 h2 := by rw [ltCode] at *; simp at *; omega
  ntrans x y z h1 h2 := by rw [ltCode] at *; simp at *; omega

end Oc
end Go.Proofs.YtaakeecliehjgaaGreatDoor
namespace Go.Proofs.YtaakeecliehjgaaGreatDoor
open Go.RowKit
namespace Oc
open St (Vl)

theorem iSortF (g cap : Nat) (L : List Fm) (w : World) (hH : Sort.HoldsK encF 4 w g 0 L.toArray) (hg : g < w.heap.size) (hsz : L.length ≤ 36) :
    Calls Tryz.prog 82 #[.slice (some ⟨g, 0, none⟩) L.length cap, .func (.func 83) #[] #[]] w fun e w' => e = .returned (.tuple #[]) ∧
      ∃ d' n os, Sort.PermIn 0 L.length L.toArray d' ∧ Sort.SortedIn (ltOf fun x y : Fm => Lib.compareInt x.1 y.1) 0 L.length d' ∧ w' = sortWorldK encF 4 w g 0 n d' os := by
  have eg : ∀ args w, (callFunc 83 args).run Tryz.prog w = .ok (.enter 83 args) w := enters_of Tryz.func83 (by kernel_rfl) rfl
  have hl : CmpLays Tryz.prog 83 #[] encF 4 (fun x y : Fm => Lib.compareInt x.1 y.1) g 0 L.toArray.size w := fun _ _ _ _ x y => iCmp x y _
  have hcon := AnyQ.slices_SortFunc Tryz.sortForm 4 Tryz.isAgg114 Tryz.sizeOf114 encF (fun _ => rfl) (fun x v hv => by simp [encF] at hv; rcases hv with rfl | rfl | rfl | rfl <;> rfl) (fun x y : Fm => Lib.compareInt x.1 y.1) swoCode 83 #[] g 0 cap L.toArray w eg hl hH hg (by simp; omega)
  change Calls Tryz.prog 82 _ _ _ at hcon
  simp only [List.size_toArray] at hcon
  exact hcon

theorem perm_of {L : List Fm} {d : Array Fm} (hp : Sort.PermIn 0 L.length L.toArray d) (hs : Sort.SortedIn (ltOf fun x y : Fm => Lib.compareInt x.1 y.1) 0 L.length d) (hL : L.Perm tbl) : d.toList = tbl := by
  obtain ⟨h1, _, h3⟩ := hp
  simp only [List.size_toArray] at h1
  have e1 : d.extract 0 L.length = d := by rw [← h1]; simp
  have e2 : L.toArray.extract 0 L.length = L.toArray := by simp
  rw [e1, e2] at h3
  refine sorted_is (h3.trans hL) (List.pairwise_iff_getElem.2 fun i j hi hj hij => ?_)
  have := hs i j (Nat.zero_le _) hij (by simpa [h1] using hj)
  rw [ltCode] at this
  simp only [Array.length_toList] at hi hj
  rw [getElem!_pos d i hi, getElem!_pos d j hj] at this
  simpa using this

theorem rdF_sorted {w : World} {g n : Nat} {os : Array Obj} {L : List Fm} {d : Array Fm} (hH : Sort.HoldsK encF 4 w g 0 L.toArray) (hg : g < w.heap.size) (hl : d.size = L.length) (hd : d.toList = tbl) : RdF (sortWorldK encF 4 w g 0 n d os) g := by
  have hds : d.size = 36 := by rw [← Array.length_toList, hd, tbl_len]
  unfold Sort.HoldsK at hH
  have hg' : g < (Sort.putRowK encF 4 (Sort.ahead w n) g 0 d).heap.size := by simpa [Sort.putRowK, Sort.putRow, Sort.mapBlock, Sort.ahead] using hg
  have key : ∀ t, t < 144 → (sortWorldK encF 4 w g 0 n d os).cell? ⟨g, t, none⟩ = some ((encF d[t / 4]!)[t % 4]!) := by
    intro t ht
    have h1 : (sortWorldK encF 4 w g 0 n d os).heap[g]? = (Sort.putRowK encF 4 (Sort.ahead w n) g 0 d).heap[g]? := Sort.heap_grow_old _ _ hg'
    have h2 : (Sort.putRow id (Sort.ahead w n) g 0 (Sort.flatK encF 4 d)).cell? ⟨g, 0 + t, none⟩ = some (id (Sort.flatK encF 4 d)[t]!) := Sort.cell?_putRow id (Sort.ahead w n) g 0 (Sort.flatK encF 4 L.toArray) (Sort.flatK encF 4 d) hH (by simp [hl]) t (by simp [hds]; omega)
    rw [Nat.zero_add, Sort.get_flatK _ _ _ _ (by rw [hds]; omega)] at h2
    have h3 : (sortWorldK encF 4 w g 0 n d os).cell? ⟨g, t, none⟩ = (Sort.putRow id (Sort.ahead w n) g 0 (Sort.flatK encF 4 d)).cell? ⟨g, t, none⟩ := by
      simp only [World.cell?]
      rw [h1]
      rfl
    rw [h3, h2]
    rfl
  refine ⟨by simp only [sortWorldK, Sort.grow, Array.size_append]; omega, fun i f hi => ?_⟩
  have hil : i < 36 := by have := (List.getElem?_eq_some_iff.1 hi).1; rwa [tbl_len] at this
  have hdi : d[i]! = f := by
    rw [getElem!_pos d i (by omega)]
    rw [← hd] at hi
    simp only [Array.getElem?_toList] at hi
    exact (Array.getElem?_eq_some_iff.1 hi).2
  have k : ∀ j, j < 4 → (sortWorldK encF 4 w g 0 n d os).cell? ⟨g, i * 4 + j, none⟩ = some ((encF f)[j]!) := fun j hj => by
    have := key (i * 4 + j) (by omega)
    rwa [show (i * 4 + j) / 4 = i by omega, show (i * 4 + j) % 4 = j by omega, hdi] at this
  exact ⟨k 0 (by omega), k 1 (by omega), k 2 (by omega), k 3 (by omega)⟩

theorem grown_sorted {w : World} {g n : Nat} {os : Array Obj} (d : Array Fm) : w.grownBy (sortWorldK encF 4 w g 0 n d os) (some g) := by
  refine ⟨rfl, rfl, rfl, by simp [sortWorldK, Sort.grow, Sort.putRowK, Sort.putRow, Sort.mapBlock, Sort.ahead], fun k hk hne => ?_⟩
  unfold sortWorldK
  rw [Sort.heap_grow_old _ _ (by simpa [Sort.putRowK, Sort.putRow, Sort.mapBlock, Sort.ahead] using hk)]
  have : g ≠ k := fun e => hne (by rw [e])
  simp [Sort.putRowK, Sort.putRow, Sort.mapBlock, Sort.ahead, Array.getElem?_modify, this]

theorem holds_of {w : World} {g : Nat} {cur : Array Value} {e : TypeId} {L : List Fm} (hb : w.heap[g]? = some (.cells cur e (0, 0))) (ht : cur.toList.take (L.length * 4) = L.flatMap encF) : Sort.HoldsK encF 4 w g 0 L.toArray := by
  intro j hj
  have hj' : j < L.length * 4 := by simpa using hj
  refine ⟨?_, by simp [World.frozen?, hb]⟩
  have h1 : (cur.toList.take (L.length * 4))[j]? = (L.flatMap encF)[j]? := by rw [ht]
  have hd : j / 4 < L.length := by omega
  rw [List.getElem?_take_of_lt hj', St.fm_get (m := 4) (by omega) encF_len, List.getElem?_eq_getElem hd, Option.bind_some] at h1
  have hm : j % 4 < (encF L[j / 4]).length := by rw [encF_len]; omega
  rw [List.getElem?_eq_getElem hm] at h1
  rw [Sort.get_flatK _ _ _ _ (by simpa using hj')]
  simp only [World.cell?, hb, Nat.zero_add]
  rw [getElem!_pos L.toArray (j / 4) (by simpa using hd)]
  simp only [List.getElem_toArray, id]
  rw [getElem!_pos (encF L[j / 4]) (j % 4) hm]
  simpa using h1

theorem infoForm : (Tryz.prog.info? 114).map (fun i => (i.zero, i.size, i.bytes)) = some (some (.agg #[.int .i64 0, .int .i64 0, .int .i64 0, .string ⟨#[]⟩]), 4, 40) := by kernel_rfl
theorem cells_new (W : World) (xs : List Value) (T : TypeId) : ∀ j u, xs[j]? = some u → (W.alloc (.cells xs.toArray T)).cell? ((⟨W.heap.size, 0, none⟩ : Addr).add j) = some u := by
  intro j u hj
  have h := heap_new W (.cells xs.toArray T)
  have hadd : (⟨W.heap.size, 0, none⟩ : Addr).add j = ⟨W.heap.size, j, none⟩ := by unfold Addr.add; split <;> simp_all
  rw [hadd]
  simp only [World.cell?, h]
  simpa using hj

set_option maxHeartbeats 1000000 in
set_option maxRecDepth 100000 in
theorem iSorted (w : World) : Calls Tryz.prog 64 #[] w fun e w' => ∃ g cap, e = .returned (.slice (some ⟨g, 0, none⟩) 36 cap) ∧ RdF w' g ∧ Below w.heap.size w w' := by
  obtain ⟨i0, hi0, hz0, hz1, hz2⟩ := info_parts infoForm
  have cF := fun w => iForms w
  go_enter Tryz.func64, Tryz.ntmps64
  go_wp2_with (first
    | (go_at_call 81; refine (cF _).mono ?_; rintro e w1 ⟨rfl, hM1, hB1, hs1⟩; have hM := hM1.all; clear hM1)
    | (at_range; refine wpList_range_own _ rfl _ 134 rfl 9 114 keyS Tryz.underlying134 Rf w.heap.size 36 _ rfl hM ?_; intro w0 hrg0 hg0 hs0))
  go_frame
  clear cF hM
  have hB0 := hB1.grown hg0 hB1.size (fun j hj => by cases hj)
  go_loopw [1] (fun v wr => ∃ (left : Lit → Bool) (cnt : Nat) (L : List Fm), wr.ranges Tryz.prog 9 Rf w.heap.size w1.heap.size 36 (dR tbl.reverse) left cnt ∧ wr.ownsRow w1.heap.size 114 4 v L.length (L.flatMap encF) ∧ Came left L ∧ Below w.heap.size w wr ∧ w1.heap.size ≤ wr.heap.size)
    (fun _ wr => wr.rangeLeft w.heap.size w1.heap.size)
  case atStart => exact ⟨_, _, [], hrg0, World.ownsRow_nil _ _ _ _, Came.start, hB0, by omega⟩
  case round =>
    clear hrg0 hg0 hs0 hB0
    obtain ⟨left, cnt, L, hrg, hrow, hC, hnx, hsz⟩ := hrel
    go_wp2_with (at_next; refine wpList_next_ranges _ rfl _ rfl 9 keyS Rf encStr mkV (fun key kl hk => by obtain ⟨x, hx, _⟩ := Maps.keyOf_str Tryz.underlying9 hk; exact ⟨x, hx⟩) Rf_inv w.heap.size w1.heap.size 36 _ _ _ rfl hrg ?_ ?_)
    · intro _ hl0
      have hp := hC.perm hl0
      have hL : L.length = 36 := by rw [hp.length_eq, tbl_len]
      rcases hrow.2 with ⟨_, hn⟩ | ⟨g, cap, cur, rfl, hbase, hb, h1, h2, h3, h4⟩
      · omega
      have hH := holds_of hb h4
      have hgl : g < wr.heap.size := (Array.getElem?_eq_some_iff.1 hb).1
      have hc := iSortF g cap L wr hH hgl hC.len
      have HL : Hid (L.length = 36) := hL
      clear hL hb h1 h2 h3 h4 hrow hrg
      go_wp2_with (go_at_call 82; refine hc.mono ?_; rintro e w2 ⟨rfl, d', n, os, hpm, hsd, rfl⟩)
      go_ret
      have hd := perm_of hpm hsd hp
      refine ⟨g, cap, by first | rfl | (rw [HL.out]; rfl), rdF_sorted hH hgl (by simpa using hpm.1) hd, hnx.grown (grown_sorted d') hnx.size (fun j hj => by cases hj; omega)⟩
    · intro x c0 c1 c2 kl yd yp w2 cnt2 hkey hlk hv hat hrg2 hlt hg2 hs2 hen
      obtain ⟨x', ex, rfl, _⟩ := Maps.keyOf_str Tryz.underlying9 hkey
      obtain rfl : x = x' := encStr_inj ex
      rw [Rf_mk] at hv
      cases hv
      have hrow2 := hrow.kept hg2 (Or.inr (row_ne_iter hrow hrg).symm)
      have hC2 := hC.step hlk hat
      have hln := hC.len
      have hnx2 := hnx.grown hg2 hnx.size (fun j hj => by cases hj; omega)
      have hsz2 := Nat.le_trans hsz hg2.size
      simp only [mkV, encStr] at hen
      clear hs2 hg2 hC hkey ex hat hlk
      go_wp2_with (at_builtin; refine hold ?_)
      have hr3 := (hrow2.alloc (.cells (encF (c0, c1, c2, x)).toArray 114)).alloc (.cells (encF (c0, c1, c2, x)).toArray 114)
      have hq3 := (hrg2.alloc (.cells (encF (c0, c1, c2, x)).toArray 114)).alloc (.cells (encF (c0, c1, c2, x)).toArray 114)
      have hnew := cells_new (w2.alloc (.cells (encF (c0, c1, c2, x)).toArray 114)) (encF (c0, c1, c2, x)) 114
      rw [World.size_alloc] at hnew
      have hsz3 : w1.heap.size ≤ ((w2.alloc (.cells (encF (c0, c1, c2, x)).toArray 114)).alloc (.cells (encF (c0, c1, c2, x)).toArray 114)).heap.size := by simp; omega
      have hb3 : Below w.heap.size w ((w2.alloc (.cells (encF (c0, c1, c2, x)).toArray 114)).alloc (.cells (encF (c0, c1, c2, x)).toArray 114)) := (hnx2.alloc hnx2.size _).alloc (by have := hnx2.size; simp; omega) _
      refine wpList_append_own _ rfl _ _ 108 rfl w1.heap.size 114 i0 _ 4 40 Tryz.underlying108 hi0 hz0 hz1 hz2 rfl (by decide) u1 L.length (L.flatMap encF) rfl hr3 ⟨w2.heap.size + 1, 0, none⟩ 1 1 (encF (c0, c1, c2, x)) rfl rfl hnew (by simp [encF, Value.oneCell']) (by unfold maxLen; omega) (by omega) hsz3 ?_
      intro v' w3 hown' hg3 _
      have hrg3 := hq3.kept hg3 (row_ne_low hr3 hs1) (row_ne_iter hr3 hq3)
      have hb4 := hb3.grown hg3 hb3.size (fun j hj => by have := (hr3.lt j hj).1; omega)
      have hsz4 := Nat.le_trans hsz3 hg3.size
      have HN : Hid (w3.ranges Tryz.prog 9 Rf w.heap.size w1.heap.size 36 (dR tbl.reverse) (fun z => left z && !z.sameKey (.string x)) cnt2 ∧ w3.ownsRow w1.heap.size 114 4 v' (L ++ [(c0, c1, c2, x)]).length ((L ++ [(c0, c1, c2, x)]).flatMap encF) ∧ Came (fun z => left z && !z.sameKey (.string x)) (L ++ [(c0, c1, c2, x)]) ∧ Below w.heap.size w w3 ∧ w1.heap.size ≤ w3.heap.size) :=
        ⟨hrg3, by simpa using hown', hC2, hb4, hsz4⟩
      have HR : Hid (w3.rangeLeft w.heap.size w1.heap.size < wr.rangeLeft w.heap.size w1.heap.size) := by show _ < _; rw [hrg3.left_eq, hrg.left_eq]; exact hlt
      clear hr3 hq3 hnew hsz3 hb3 hown' hg3 hrg3 hb4 hsz4 hC2 hrow hrow2 hrg hrg2 hnx2 hsz2 hnx hlt
      go_wp2_with fail
      go_roundw
      case rel => exact ⟨_, cnt2, _, HN.out⟩
      case measure => exact HR.out

end Oc
end Go.Proofs.YtaakeecliehjgaaGreatDoor
