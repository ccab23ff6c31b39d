/-
  The program's MatchTree at right patterns.
  RexOk and MatchTree, the program's and the specification's, at any drawn tree, any text and any place: one plain answer for both.
-/
import Derived.Test.YtgdnlmaacnnfiaaGreatDoorQ31
import Derived.Test.YtgdnlmaacnnfiaaGreatDoorQ10
import Derived.Test.YtgdnlmaacnnfiaaGreatDoorQ08
import Derived.Test.YtgdnlmaacnnfiaaGreatDoorQ22
import Derived.Test.YtgdnlmaacnnfiaaGreatDoorQ23
import Derived.Test.YtgdnlmaacnnfiaaGreatDoorQ19
namespace Go.Proofs.YtgdnlmaacnnfiaaGreatDoor
open Go.RowKit Go.Maps
namespace Mt
open Rx Clo

theorem iPlaceOfText (s : ByteArray) (hs : s.size ≤ 1000) (x : Int) (w : World) : Calls Tryz.prog 20 #[.string s, .int .i64 x] w fun e w' => e = .returned (.bool (inB (s.size + 1) x)) ∧ w' = w := by
  obtain ⟨N1, hN1⟩ : ∃ N1 : Nat, N1 = s.size + 1 := ⟨_, rfl⟩
  have t1 : (s.size : Int) + 1 = (N1 : Int) := by omega
  have bs : (s.size : Int) ≤ 1000 := by omega
  have call := fun w => iIsPlace x N1 w
  rw [← hN1]
  clear hN1
  go_enter Tryz.func20, Tryz.ntmps20
  go_wp2_with fail
  refine (call _).mono ?_
  rintro e w' ⟨rfl, hw⟩
  have hw := hw.symm
  subst hw
  go_wp2_with fail
  go_ret
  exact ⟨rfl, rfl⟩

set_option maxHeartbeats 2000000 in
set_option maxRecDepth 100000 in
theorem iMatchTree {t : Data} (hR : RightD 12 t) (hc : cnt t ≤ 1000) (s : ByteArray) (hs : s.size ≤ 1000) (at' : Nat) (hat : at' ≤ s.size) (w : World) (a b c d u : Value) (S : Nat → Prop) (hX : RexIs w t S [a, b, c, d, u])
    (hOk : ∀ wx, Below w.heap.size w wx → Calls Tryz.prog 11 #[.agg #[a, b, c, d, u]] wx fun e w' => e = .returned (.bool true) ∧ Below wx.heap.size wx w')
    (hPat : ∀ wx, Below w.heap.size w wx → Calls Tryz.prog 22 #[.agg #[a, b, c, d, u], .int .i64 12] wx fun e w' => PatRet t wx e w') :
    Calls Tryz.prog 7 #[.agg #[a, b, c, d, u], .string s, .int .i64 at'] w fun e w' => ∃ v R, e = .returned v ∧ Rd w' v R ∧ Up s.size R ∧ (∀ x, x ∈ R ↔ Fit (gOf s) s.size t at' x) ∧ Below w.heap.size w w' := by
  obtain ⟨op, cc, ss, no, ao, n, cap, rfl, rfl, rfl, rfl, rfl⟩ := rex_cells hX
  obtain ⟨zs, hzs⟩ : ∃ zs : ByteArray, zs = ⟨ss.toArray⟩ := ⟨_, rfl⟩
  rw [← hzs] at hOk hPat ⊢
  clear hzs hX
  obtain ⟨o1, ho1⟩ : ∃ o1, o1 = Obj.cells #[.int .i64 op, .int .i64 cc, .string zs, .bool no, .slice ao n cap] 26 := ⟨_, rfl⟩
  have hb1 : Below w.heap.size w (w.alloc o1) := (Below.refl _ w).alloc (Nat.le_refl _) _
  have hB1 : (w.alloc o1).heap[w.heap.size]? = some (.cells #[.int .i64 op, .int .i64 cc, .string zs, .bool no, .slice ao n cap] 26 (0, 0)) := by rw [ho1]; exact heap_alloc_last _ _
  have boxed : ∀ wx : World, wx.heap[w.heap.size]? = some (.cells #[.int .i64 op, .int .i64 cc, .string zs, .bool no, .slice ao n cap] 26 (0, 0)) → wx.cell? ⟨w.heap.size, 0, none⟩ = some (.int .i64 op) ∧ wx.cell? ⟨w.heap.size, 1, none⟩ = some (.int .i64 cc) ∧ wx.cell? ⟨w.heap.size, 2, none⟩ = some (.string zs) ∧ wx.cell? ⟨w.heap.size, 3, none⟩ = some (.bool no) ∧ wx.cell? ⟨w.heap.size, 4, none⟩ = some (.slice ao n cap) := by
    intro wx h
    refine ⟨?_, ?_, ?_, ?_, ?_⟩ <;> (rw [cell_of_row _ _ _ _ _ _ h]; rfl)
  obtain ⟨r0, r1, r2, r3, r4⟩ := boxed _ hB1
  have HO1 : Hid (o1 = Obj.cells #[.int .i64 op, .int .i64 cc, .string zs, .bool no, .slice ao n cap] 26) := ho1
  have hin : inB (s.size + 1) (at' : Int) = true := inB_iff.2 ⟨by omega, by omega⟩
  clear ho1
  go_enter Tryz.func7, Tryz.ntmps7
  go_upto_region 1 with fail
  rw [← HO1.out]
  go_wp2_with fail
  refine (hOk _ hb1).mono ?_
  rintro e w2 ⟨rfl, hb2⟩
  have hz2 := hb2.size
  rw [World.size_alloc] at hz2
  have hB2 := (hb2.block w.heap.size (by simp)).trans hB1
  obtain ⟨r0', r1', r2', r3', r4'⟩ := boxed _ hB2
  have hbw2 : Below w.heap.size w w2 := hb1.trans (hb2.mono (by simp))
  have hpl := fun w => iPlaceOfText s hs at' w
  rw [hin] at hpl
  clear r0 r1 r2 r3 r4
  go_upto_region 3 with (first | (go_at_call 20; refine (hpl _).mono ?_; rintro e wz ⟨rfl, hwz⟩; have hwz := hwz.symm; subst hwz))
  go_wp2_with fail
  refine (hPat w2 hbw2).mono ?_
  rintro e w3 ⟨pv, rfl, hpv, hb3⟩
  have hz3 := hb3.size
  have hmade := madeOk (s := s) 12 t hR hc w3 _ pv hpv (fun k hk => hk.2)
  obtain ⟨T, y, rfl⟩ := pat_iface hpv
  go_wp2_with fail
  refine hmade.mono ?_
  rintro e w4 ⟨f, fcap, S', rfl, hS', hb4, hfin⟩
  have hz4 := hb4.size
  obtain ⟨w5, hw5⟩ : ∃ w5, w5 = w4.alloc (.cells #[.int .i64 at'] 3) := ⟨_, rfl⟩
  have hb5 : Below w4.heap.size w4 w5 := by rw [hw5]; exact (Below.refl _ w4).alloc (Nat.le_refl _) _
  obtain ⟨hF, hM⟩ := hfin w5 (fun k _ h2 => hb5.block k h2)
  have hrd : Rd w5 (.slice (some ⟨w4.heap.size, 0, none⟩) 1 1) [at'] := .inr ⟨w4.heap.size, 1, rfl, by simp, fun k x hk => by
    cases k with
    | zero => simp at hk; subst hk; rw [hw5, World.cell?_alloc_at _ _ _ _ rfl]; rfl
    | succ k => simp at hk⟩
  obtain ⟨f', fcap', he, hent, hcall⟩ := finderOk hs 12 t hc w5 _ S' (fun _ => False) [at'] _ hF hM hrd ⟨by simp, by simpa using hat⟩
  cases he
  have HW5 : Hid (w5 = w4.alloc (.cells #[.int .i64 at'] 3)) := hw5
  clear hw5
  go_wp2_with (refine wpList_call_fn rfl 19 21 29 rfl f fcap rfl hent _ rfl ?_; rw [← HW5.out]; refine hcall.mono ?_; rintro e w6 ⟨rv, R, rfl, hR6, hU6, -, h1, h2, -, -, hFr⟩; refine ⟨_, rfl, ?_⟩)
  go_ret
  have hz5 := hb5.size
  have hbl : Below w.heap.size w w5 := ((hbw2.trans (hb3.mono (by omega))).trans (hb4.mono (by omega))).trans (hb5.mono (by omega))
  refine ⟨rv, R, rfl, hR6, hU6, fun x => ?_, ⟨hFr.os.trans hbl.os, hFr.tape.trans hbl.tape, hFr.output.trans hbl.output, Nat.le_trans hbl.size hFr.size, fun k hk => (hFr.block k (by have := hbl.size; omega) (fun hs' => by have := (hS' k hs').1; omega)).trans (hbl.block k hk)⟩⟩
  constructor
  · intro hx
    obtain ⟨q, hq, hf⟩ := h1 x hx
    simp at hq
    subst hq
    exact hf
  · intro hx
    rcases h2 x ⟨at', .inr (by simp), hx⟩ with h | h
    · exact h
    · exact (img_none h).elim

end Mt
end Go.Proofs.YtgdnlmaacnnfiaaGreatDoor

namespace Go.Proofs.YtgdnlmaacnnfiaaGreatDoor
open Go.RowKit
namespace Un
set_option linter.unusedVariables false
open Rx Clo Mt

/-- Is it what some text tells? -/
noncomputable def okB (t : Data) : Bool := @decide (RightD 12 t) (Classical.propDecidable _)
theorem okB_iff {t : Data} : okB t = true ↔ RightD 12 t := by
  unfold okB
  exact @decide_eq_true_iff _ (Classical.propDecidable _)
theorem okB_not {t : Data} (h : ¬ RightD 12 t) : okB t = false := by
  cases e : okB t with
  | false => rfl
  | true => exact absurd (okB_iff.1 e) h

/-- Where the pieces end. -/
noncomputable def ends (t : Data) (s : ByteArray) (k : Int) : List Int := if okB t = true ∧ 0 ≤ k ∧ k ≤ s.size then Clo.nums (endsB (gOf s) s.size t k.toNat) (s.size + 1) else []
theorem ends_in {t : Data} {s : ByteArray} {k : Int} (h : RightD 12 t) (h0 : 0 ≤ k) (h1 : k ≤ s.size) : ends t s k = Clo.nums (endsB (gOf s) s.size t k.toNat) (s.size + 1) := by
  unfold ends
  rw [if_pos ⟨okB_iff.2 h, h0, h1⟩]
theorem ends_out {t : Data} {s : ByteArray} {k : Int} (h : okB t = false ∨ k < 0 ∨ (s.size : Int) < k) : ends t s k = [] := by
  unfold ends
  rw [if_neg]
  rintro ⟨h1, h2, h3⟩
  rcases h with h | h | h
  · rw [h1] at h
    exact absurd h (by simp)
  · omega
  · omega
theorem ends_len (t : Data) (s : ByteArray) (k : Int) : (ends t s k).length ≤ s.size + 1 := by
  unfold ends
  split
  · exact Clo.nums_len _ _
  · simp
theorem ends_mem {t : Data} {s : ByteArray} {k : Int} (h : RightD 12 t) (h0 : 0 ≤ k) (h1 : k ≤ s.size) (i : Nat) (hi : i ≤ s.size) : (ends t s k).contains (i : Int) = true ↔ Fit (gOf s) s.size t k.toNat i := by
  rw [ends_in h h0 h1, List.contains_iff_mem]
  unfold Clo.nums listV
  rw [List.mem_map]
  constructor
  · rintro ⟨x, hx, e⟩
    obtain rfl : x = i := by omega
    exact endsB_iff.1 (List.mem_filter.1 hx).2
  · intro hf
    exact ⟨i, List.mem_filter.2 ⟨List.mem_range.2 (by omega), endsB_iff.2 hf⟩, rfl⟩

/-- Two ascending rows with the same members are one. -/
theorem up_ext : ∀ (L L' : List Nat), L.Pairwise (· < ·) → L'.Pairwise (· < ·) → (∀ x, x ∈ L ↔ x ∈ L') → L = L'
  | [], [], _, _, _ => rfl
  | [], y :: L', _, _, h => by have := (h y).2 (by simp); simp at this
  | x :: L, [], _, _, h => by have := (h x).1 (by simp); simp at this
  | x :: L, y :: L', h1, h2, h => by
    rw [List.pairwise_cons] at h1 h2
    have e : x = y := by
      have hx := (h x).1 (by simp)
      have hy := (h y).2 (by simp)
      rcases List.mem_cons.1 hx with e | hx
      · exact e
      · rcases List.mem_cons.1 hy with e | hy
        · exact e.symm
        · have := h2.1 x hx
          have := h1.1 y hy
          omega
    subst e
    congr 1
    refine up_ext L L' h1.2 h2.2 fun z => ⟨fun hz => ?_, fun hz => ?_⟩
    · rcases List.mem_cons.1 ((h z).1 (by simp [hz])) with e | h'
      · have := h1.1 z hz
        omega
      · exact h'
    · rcases List.mem_cons.1 ((h z).2 (by simp [hz])) with e | h'
      · have := h2.1 z hz
        omega
      · exact h'

theorem ends_up {t : Data} {s : ByteArray} {k : Int} (h : RightD 12 t) (h0 : 0 ≤ k) (h1 : k ≤ s.size) {R : List Nat} (hU : Up s.size R) (hm : ∀ x, x ∈ R ↔ Fit (gOf s) s.size t k.toNat x) : ends t s k = R.map fun (x : Nat) => (x : Int) := by
  rw [ends_in h h0 h1]
  unfold Clo.nums
  congr 1
  refine up_ext _ _ ?_ hU.1 fun x => ?_
  · unfold listV
    exact List.Pairwise.filter _ List.pairwise_lt_range
  · rw [hm]
    unfold listV
    rw [List.mem_filter, List.mem_range, endsB_iff]
    exact ⟨fun h => h.2, fun hf => ⟨by have := hU.2 x ((hm x).2 hf); omega, hf⟩⟩

/-! RexOk -/
theorem setZ_len {s : List UInt8} {no : Bool} (h : SetZ s no) : s.length ≤ 1000 := by
  rcases h with ⟨M, _, rfl⟩ | rfl | rfl
  · have := bytes_len M
    omega
  · simp
  · simp
theorem smalls_of : ∀ {ks : List Data}, (∀ k ∈ ks, Small k) → Smalls ks
  | [], _ => by simp [Smalls]
  | t :: ts, h => by
    simp only [Smalls]
    exact ⟨h t (by simp), smalls_of fun x hx => h x (by simp [hx])⟩
theorem small_rz {w : World} : ∀ (n : Nat) (t : Data) (S : Nat → Prop) (cs : List Value), dep t ≤ n → RexZ w t S cs → SetsZ t → Small t := by
  intro n
  induction n with
  | zero =>
    intro t S cs hd h _
    obtain ⟨op, c, s, no, ks, rfl⟩ := rexZ_node h
    rw [dep_any] at hd
    omega
  | succ n ih =>
    intro t S cs hd h hz
    obtain ⟨op, c, s, no, ks, rfl⟩ := rexZ_node h
    rw [dep_any] at hd
    obtain ⟨hzk, hzs⟩ := setsZ_nd hz
    rw [rexZ_nd] at h
    obtain ⟨v, xs, _, _, _, hx⟩ := h
    have hk : ∀ k ∈ ks, Small k := fun k hm => by
      obtain ⟨i, hi, rfl⟩ := List.mem_iff_getElem.1 hm
      obtain ⟨S1, a, b, c, d, u, _, _, _, _, _, hr, _⟩ := rexZs_at hx (List.getElem?_eq_getElem hi)
      exact ih _ _ _ (by have := deps_mem' hm; omega) hr (setsZs_mem hzk hm)
    unfold ndZ
    rw [Small]
    exact ⟨smalls_of hk, setZ_len hzs⟩

theorem iRexOkAny {W : World} {ad : Addr} (hSet : SetOk W) (he : ErrAt ad W) {t : Data} (hZ : SetsZ t) (hc : cnt t ≤ 1000) (w : World) (hW : Below W.heap.size W w) (S : Nat → Prop) (a b c d u : Value) (h : RexZ w t S [a, b, c, d, u]) (hS : ∀ k, S k → k < w.heap.size) :
    Calls Tryz.prog 11 #[.agg #[a, b, c, d, u]] w fun e w' => e = .returned (.bool (okB t)) ∧ Below w.heap.size w w' := by
  by_cases hR : RightD 12 t
  · rw [okB_iff.2 hR]
    exact iRexOk hSet hR hc w hW S a b c d u (rex_ofZ 12 t hR S _ h) hS
  · rw [okB_not hR]
    exact iRexOkNot hSet he hR hZ hc w hW S a b c d u h hS

theorem sRexOkAny {t : Data} (hZ : SetsZ t) (hc : cnt t ≤ 1000) (w : World) (S : Nat → Prop) (a b c d u : Value) (h : RexZ w t S [a, b, c, d, u]) (hS : ∀ k, S k → k < w.heap.size) :
    Calls Tryz.prog 23 #[.agg #[a, b, c, d, u]] w fun e w' => e = .returned (.bool (okB t)) ∧ Below w.heap.size w w' := by
  have e : (decide (dep t ≤ 12) && rightZ t) = okB t := by
    rw [Bool.eq_iff_iff, right_iff hZ, okB_iff]
  have h1 := sRexOkZ (t := t) (by omega) (small_rz _ t S _ (Nat.le_refl _) h hZ) w S a b c d u h hS
  rw [e] at h1
  exact h1

/-! MatchTree -/
/-- A row of numbers comes back. -/
def Tells (l : List Int) (w : World) (e : Ending) (w' : World) : Prop := ∃ a cap, e = .returned (.slice a l.length cap) ∧ Nums w' a l ∧ Below w.heap.size w w'
theorem nums_nil (w : World) (a : Option Addr) : Nums w a [] := fun i x h => by simp at h

theorem frameS {w wx : World} {t : Data} {S : Nat → Prop} {cs : List Value} (h : RexZ w t S cs) (hS : ∀ k, S k → k < w.heap.size) (hb : Below w.heap.size w wx) : RexZ wx t S cs ∧ ∀ k, S k → k < wx.heap.size :=
  ⟨rexZ_frame _ _ _ (fun k hk => hb.block k (hS k hk)) h, fun k hk => Nat.lt_of_lt_of_le (hS k hk) hb.size⟩

theorem iMatchAny {W : World} {ad : Addr} (hSet : SetOk W) (he : ErrAt ad W) {t : Data} (hZ : SetsZ t) (hc : cnt t ≤ 1000) (s : ByteArray) (hs : s.size ≤ 1000) (k : Int) (w : World) (hW : Below W.heap.size W w) (S : Nat → Prop) (a b c d u : Value) (h : RexZ w t S [a, b, c, d, u]) (hS : ∀ k, S k → k < w.heap.size) :
    Calls Tryz.prog 7 #[.agg #[a, b, c, d, u], .string s, .int .i64 k] w fun e w' => Tells (ends t s k) w e w' := by
  have hOk : ∀ wx, Below w.heap.size w wx → Calls Tryz.prog 11 #[.agg #[a, b, c, d, u]] wx fun e w' => e = .returned (.bool (okB t)) ∧ Below wx.heap.size wx w' := fun wx hb =>
    iRexOkAny hSet he hZ hc wx (hW.trans (hb.mono hW.size)) S a b c d u (frameS h hS hb).1 (frameS h hS hb).2
  by_cases hin : RightD 12 t ∧ 0 ≤ k ∧ k ≤ s.size
  · obtain ⟨hR, h0, h1⟩ := hin
    have hX := rex_ofZ 12 t hR S _ h
    rw [okB_iff.2 hR] at hOk
    have hPat : ∀ wx, Below w.heap.size w wx → Calls Tryz.prog 22 #[.agg #[a, b, c, d, u], .int .i64 12] wx fun e w' => PatRet t wx e w' := fun wx hb =>
      iPatternOf hSet 12 t hR (by omega) (by omega) wx S a b c d u (hW.trans (hb.mono hW.size)) (rex_frame _ _ _ (fun k hk => hb.block k (hS k hk)) hX) (frameS h hS hb).2
    have hm := iMatchTree hR hc s hs k.toNat (by omega) w a b c d u S hX hOk hPat
    rw [Int.toNat_of_nonneg h0] at hm
    refine hm.mono ?_
    rintro e w' ⟨v, R, rfl, hRd, hU, hmem, hb⟩
    obtain ⟨ao, cap, rfl, _, hcell⟩ := rd_form hRd
    have he' := ends_up hR h0 h1 hU hmem
    refine ⟨ao, cap, by rw [he', List.length_map], ?_, hb⟩
    rw [he']
    intro i x hi
    rw [List.getElem?_map] at hi
    obtain ⟨y, hy, rfl⟩ := Option.map_eq_some_iff.1 hi
    obtain ⟨g, rfl, hg⟩ := hcell i y hy
    exact ⟨g, 0, rfl, World.block_lt_of_cell? w' _ hg, by rw [Nat.zero_add]; exact hg⟩
  · have hno : okB t = false ∨ k < 0 ∨ (s.size : Int) < k := by
      by_cases hR : RightD 12 t
      · right
        by_cases h0 : 0 ≤ k
        · right
          by_cases h1 : k ≤ s.size
          · exact absurd ⟨hR, h0, h1⟩ hin
          · omega
        · omega
      · exact .inl (okB_not hR)
    obtain ⟨op, cc, ss, no, ao, n, cap, rfl, rfl, rfl, rfl, rfl⟩ := rexZ_cells h
    refine (iMatchNone op cc _ no ao n cap s (by omega) k (okB t) hno w hOk).mono ?_
    rintro e w' ⟨rfl, hb⟩
    rw [ends_out hno]
    exact ⟨none, 0, rfl, nums_nil _ _, hb⟩

theorem sMatchAny {t : Data} (hZ : SetsZ t) (hc : cnt t ≤ 1000) (s : ByteArray) (hs : s.size ≤ 1000) (k : Int) (w : World) (S : Nat → Prop) (a b c d u : Value) (h : RexZ w t S [a, b, c, d, u]) (hS : ∀ k, S k → k < w.heap.size) :
    Calls Tryz.prog 9 #[.agg #[a, b, c, d, u], .string s, .int .i64 k] w fun e w' => Tells (ends t s k) w e w' := by
  have hOk : ∀ wx, Below w.heap.size w wx → Calls Tryz.prog 23 #[.agg #[a, b, c, d, u]] wx fun e w' => e = .returned (.bool (okB t)) ∧ Below wx.heap.size wx w' := fun wx hb =>
    sRexOkAny hZ hc wx S a b c d u (frameS h hS hb).1 (frameS h hS hb).2
  by_cases hin : RightD 12 t ∧ 0 ≤ k ∧ k ≤ s.size
  · obtain ⟨hR, h0, h1⟩ := hin
    have hX := rex_ofZ 12 t hR S _ h
    rw [okB_iff.2 hR] at hOk
    have hm := sMatchTree hR (by omega) s hs k.toNat (by omega) w S a b c d u hX hS hOk
    rw [Int.toNat_of_nonneg h0] at hm
    refine hm.mono ?_
    rintro e w' ⟨v, rfl, hO, hb⟩
    rw [ends_in hR h0 h1]
    generalize Clo.nums (endsB (gOf s) s.size t k.toNat) (s.size + 1) = l at hO
    unfold OwnInts at hO
    rcases hO.2 with ⟨h0, h1⟩ | ⟨g, cap, cur, rfl, hg, hh, h1, _⟩
    · obtain rfl := List.eq_nil_of_length_eq_zero h1
      subst h0
      exact ⟨none, 0, rfl, nums_nil _ _, hb⟩
    · refine ⟨some ⟨g, 0, none⟩, cap, rfl, fun i x hi => ?_, hb⟩
      have hg := owns_cell hO hi
      exact ⟨g, 0, rfl, World.block_lt_of_cell? w' _ hg, by rw [Nat.zero_add]; exact hg⟩
  · have hno : okB t = false ∨ k < 0 ∨ (s.size : Int) < k := by
      by_cases hR : RightD 12 t
      · right
        by_cases h0 : 0 ≤ k
        · right
          by_cases h1 : k ≤ s.size
          · exact absurd ⟨hR, h0, h1⟩ hin
          · omega
        · omega
      · exact .inl (okB_not hR)
    obtain ⟨op, cc, ss, no, ao, n, cap, rfl, rfl, rfl, rfl, rfl⟩ := rexZ_cells h
    refine (sMatchNone op cc _ no ao n cap s (by omega) k (okB t) hno w hOk).mono ?_
    rintro e w' ⟨⟨a, rfl⟩, hb⟩
    rw [ends_out hno]
    exact ⟨a, 0, rfl, nums_nil _ _, hb⟩

/-! What the law says of both together, of as often as it goes, of at least once -/
def orOf (a b : Data) : Data := ndZ 7 0 [] false [a, b]
def starOf (a : Data) : Data := ndZ 8 0 [] false [a]
def plusOf (a : Data) : Data := ndZ 9 0 [] false [a]
theorem right_up : ∀ (d : Nat) (t : Data), RightD d t → RightD (d + 1) t := by
  intro d
  induction d with
  | zero => intro t h; exact h.elim
  | succ d ih =>
    intro t h
    rw [RightD] at h
    rw [RightD]
    rcases h with h | h | h | ⟨op, k, ho, e, hk⟩ | ⟨op, ks, ho, e, hl, hk⟩
    · exact .inl h
    · exact .inr (.inl h)
    · exact .inr (.inr (.inl h))
    · exact .inr (.inr (.inr (.inl ⟨op, k, ho, e, ih k hk⟩)))
    · exact .inr (.inr (.inr (.inr ⟨op, ks, ho, e, hl, fun k hm => ih k (hk k hm)⟩)))
theorem right_or {a b : Data} (h : RightD 12 (orOf a b)) : RightD 12 a ∧ RightD 12 b := by
  have h2 := (right_back 12 _ h).1
  have h3 := (right_back 12 _ h).2
  have hz := setsZ_right 12 _ h
  unfold orOf at h2 h3 hz
  rw [dep_any] at h3
  rw [rightZ_nd, Bool.and_eq_true] at h2
  obtain ⟨hzk, _⟩ := setsZ_nd hz
  have d1 := deps_mem' (ts := [a, b]) (t := a) (by simp)
  have d2 := deps_mem' (ts := [a, b]) (t := b) (by simp)
  exact ⟨right_of 12 a (setsZs_mem hzk (by simp)) (by omega) (rightZs_mem h2.1 (by simp)), right_of 12 b (setsZs_mem hzk (by simp)) (by omega) (rightZs_mem h2.1 (by simp))⟩
theorem or_nd (a b : Data) : orOf a b = nd 7 0 [] false [a, b] := rfl
theorem star_one (a : Data) : starOf a = Rx.one 8 a := rfl
theorem plus_one (a : Data) : plusOf a = Rx.one 9 a := rfl
theorem right_plus {a : Data} (h : RightD 12 (starOf a)) : RightD 12 (plusOf a) := by
  have h2 := right_back 12 _ h
  have hz := setsZ_right 12 _ h
  unfold starOf at h2 hz
  rw [rightZ_nd, dep_any, Bool.and_eq_true] at h2
  obtain ⟨hzk, hzs⟩ := setsZ_nd hz
  refine right_of 12 _ (setsZ_mk hzk hzs) ?_ ?_
  · unfold plusOf
    rw [dep_any]
    exact h2.2
  · unfold plusOf
    rw [rightZ_nd, Bool.and_eq_true]
    refine ⟨h2.1.1, ?_⟩
    simp [okLab]
theorem setsZ_or {a b : Data} (ha : SetsZ a) (hb : SetsZ b) : SetsZ (orOf a b) := setsZ_mk (setsZs_of (by simp [ha, hb])) (.inr (.inl rfl))
theorem setsZ_star {a : Data} (ha : SetsZ a) : SetsZ (starOf a) := setsZ_mk (setsZs_of (by simp [ha])) (.inr (.inl rfl))
theorem setsZ_plus {a : Data} (ha : SetsZ a) : SetsZ (plusOf a) := setsZ_mk (setsZs_of (by simp [ha])) (.inr (.inl rfl))

theorem law_or {a b : Data} {s : ByteArray} {k : Int} (h : RightD 12 (orOf a b)) (h0 : 0 ≤ k) (h1 : k ≤ s.size) (i : Nat) (hi : i ≤ s.size) : (ends (orOf a b) s k).contains (i : Int) = ((ends a s k).contains (i : Int) || (ends b s k).contains (i : Int)) := by
  obtain ⟨ha, hb⟩ := right_or h
  rw [Bool.eq_iff_iff, Bool.or_eq_true, ends_mem h h0 h1 i hi, ends_mem ha h0 h1 i hi, ends_mem hb h0 h1 i hi, or_nd, fit_or]
  simp [FitOr]
theorem law_star {a : Data} {s : ByteArray} {k : Int} (h : RightD 12 (starOf a)) (h0 : 0 ≤ k) (h1 : k ≤ s.size) (i : Nat) (hi : i ≤ s.size) : (ends (starOf a) s k).contains (i : Int) = ((ends (plusOf a) s k).contains (i : Int) || decide ((i : Int) = k)) := by
  have hp := right_plus h
  rw [Bool.eq_iff_iff, Bool.or_eq_true, ends_mem h h0 h1 i hi, ends_mem hp h0 h1 i hi, star_one, plus_one, fit_star, fit_plus, decide_eq_true_iff]
  constructor
  · intro hs
    rcases star_cases hs with e | h'
    · right
      omega
    · exact .inl h'
  · rintro (⟨m, h1, h2⟩ | e)
    · exact star_head h1 h2
    · obtain rfl : k.toNat = i := by omega
      exact star_refl _ _
theorem law_once {a : Data} {s : ByteArray} {k : Int} (ha : RightD 12 a) (h : RightD 12 (starOf a)) (h0 : 0 ≤ k) (h1 : k ≤ s.size) (i : Nat) (hi : i ≤ s.size) (hx : (ends a s k).contains (i : Int) = true) : (ends (plusOf a) s k).contains (i : Int) = true := by
  rw [ends_mem ha h0 h1 i hi] at hx
  rw [ends_mem (right_plus h) h0 h1 i hi, plus_one, fit_plus]
  exact ⟨i, hx, star_refl _ _⟩

/-! Memory -/
theorem rexZ_two {w : World} {t1 t2 : Data} {S1 S2 : Nat → Prop} {a b c d u a' b' c' d' u' : Value} (op : Int) (h1 : RexZ w t1 S1 [a, b, c, d, u]) (h2 : RexZ w t2 S2 [a', b', c', d', u']) (hS1 : ∀ k, S1 k → k < w.heap.size ∧ ¬ S2 k) (hS2 : ∀ k, S2 k → k < w.heap.size) :
    RexZ (w.alloc (.cells #[a, b, c, d, u, a', b', c', d', u'] 26)) (ndZ op 0 [] false [t1, t2]) (fun k => S1 k ∨ S2 k ∨ k = w.heap.size) [.int .i64 op, .int .i64 0, .string ⟨#[]⟩, .bool false, .slice (some ⟨w.heap.size, 0, none⟩) 2 2] := by
  rw [rexZ_nd]
  refine ⟨_, [a, b, c, d, u, a', b', c', d', u'], rfl, ⟨by simp, .inr ⟨w.heap.size, 2, #[a, b, c, d, u, a', b', c', d', u'], rfl, Nat.zero_le _, heap_alloc_last _ _, Nat.le_refl _, by unfold maxLen; omega, by simp, by simp⟩⟩, ?_, ?_⟩
  · intro g hg
    simp [Value.ownBlock] at hg
    exact .inr (.inr hg.symm)
  · simp only [RexZs]
    refine ⟨S1, S2, [a, b, c, d, u], [a', b', c', d', u'], by simp, rexZ_frame _ _ _ (fun k hk => Below.heap_alloc _ _ _ (hS1 k hk).1) h1, ⟨S2, fun _ => False, [a', b', c', d', u'], [], by simp, rexZ_frame _ _ _ (fun k hk => Below.heap_alloc _ _ _ (hS2 k hk)) h2, rfl, fun k hk => ⟨hk, fun h => h⟩, fun _ h => h.elim⟩, fun k hk => ⟨⟨.inl hk, ?_⟩, (hS1 k hk).2⟩, fun k hk => ⟨.inr (.inl hk), ?_⟩⟩
    · have := (hS1 k hk).1
      simp [Value.ownBlock]
      omega
    · have := hS2 k hk
      simp [Value.ownBlock]
      omega

end Un
end Go.Proofs.YtgdnlmaacnnfiaaGreatDoor

