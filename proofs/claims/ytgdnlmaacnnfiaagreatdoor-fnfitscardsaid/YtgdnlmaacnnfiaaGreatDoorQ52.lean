/-
  The program's MatchAt at the places of a pattern: the longest piece is the longest that the pattern fits.
  FnFits at all bytes.
-/
import Derived.Test.YtgdnlmaacnnfiaaGreatDoorQ51
import Derived.Test.YtgdnlmaacnnfiaaGreatDoorQ32
import Derived.Test.YtgdnlmaacnnfiaaGreatDoorQ38
namespace Go.Proofs.YtgdnlmaacnnfiaaGreatDoor
open Go.RowKit
namespace Nf
set_option linter.unusedVariables false
open Rx Clo

/-- A walk that has not begun. -/
def wk0 (lv : Value) (txt : ByteArray) : Array Value := #[lv, .string txt] ++ bools (fun _ => false) 400 ++ #[.slice none 0 0]
theorem wk0_is (ao : Option Addr) (n cap : Nat) (txt : ByteArray) : wk0 (.slice ao n cap) txt = (Tryz.zeroCells77.setIfInBounds 0 (.slice ao n cap)).setIfInBounds 1 (.string txt) := by
  kernel_rfl
theorem wk0_size (lv : Value) (txt : ByteArray) : (wk0 lv txt).size = 403 := by simp [wk0, bools_size]
theorem wk0_held (lv : Value) (txt : ByteArray) {k : Nat} (hk : k < 400) : (wk0 lv txt)[2 + k]? = some (.bool false) := by
  unfold wk0
  rw [Array.getElem?_append_left (by simp [bools_size]; omega), Array.getElem?_append_right (by simp)]
  simp only [List.size_toArray, List.length_cons, List.length_nil]
  rw [show 2 + k - (0 + 1 + 1) = k by omega]
  exact bools_get _ hk
theorem wk0_402 (lv : Value) (txt : ByteArray) : (wk0 lv txt)[402]? = some (.slice none 0 0) := by
  unfold wk0
  rw [Array.getElem?_append_right (by simp [bools_size])]
  simp [bools_size]
theorem wk0_0 (lv : Value) (txt : ByteArray) : (wk0 lv txt)[0]? = some lv := by
  unfold wk0
  rw [Array.getElem?_append_left (by simp; omega), Array.getElem?_append_left (by simp)]
  rfl
theorem wk0_1 (lv : Value) (txt : ByteArray) : (wk0 lv txt)[1]? = some (.string txt) := by
  unfold wk0
  rw [Array.getElem?_append_left (by simp; omega), Array.getElem?_append_left (by simp)]
  rfl

theorem walk_new {g n cap : Nat} {P : Nat → Pl} {txt : ByteArray} (fr : Int) {w : World} (hp : Pr g n P w) : Sw w.heap.size g n cap P txt fr (fun _ => false) [] (w.alloc (.cells (wk0 (.slice (some ⟨g, 0, none⟩) n cap) txt) 77)) ∧ Fq w.heap.size (w.alloc (.cells (wk0 (.slice (some ⟨g, 0, none⟩) n cap) txt) 77)) (w.alloc (.cells (wk0 (.slice (some ⟨g, 0, none⟩) n cap) txt) 77)) := by
  have hrow := heap_alloc_last w (.cells (wk0 (.slice (some ⟨g, 0, none⟩) n cap) txt) 77 (0, 0))
  have hc := fun j => cell_of_row _ _ j _ _ (0, 0) hrow
  have hg := hp.1
  refine ⟨⟨by omega, (hc 0).trans (wk0_0 _ _), (hc 1).trans (wk0_1 _ _), fun k hk => (hc _).trans (wk0_held _ _ hk), ⟨_, (hc 402).trans (wk0_402 _ _), World.ownsRow_nil _ _ _ _, fun k hk => by simp [Value.ownBlock] at hk⟩, fun j => ?_, hp.below ((Below.refl _ _).alloc (Nat.le_refl _) _), fun x hx => by simp, fun x hx => by simp at hx, ?_⟩, ⟨rfl, rfl, rfl, Nat.le_refl _, fun b hb => ⟨rfl, fun hr => ?_⟩⟩⟩
  · exact World.frozen?_alloc_at _ _ _ _ rfl
  · rw [List.length_nil, Nat.zero_add]
    exact open_none 400
  · have := (rowAt4_is ((hc 402).trans (wk0_402 _ _))).1 hr
    simp [Value.ownBlock] at this

set_option maxHeartbeats 2000000 in
set_option maxRecDepth 100000 in
theorem iMatchAt {g M cap : Nat} {P : Nat → Pl} {txt : ByteArray} (hM : M + 1 ≤ 400) (hcap : M + 1 ≤ cap) (hG : ∀ k, k < M → Good M (P k)) (hD : P M = doneP) (ht : txt.size ≤ 1000) (k : Int) (w : World) (hp : Pr g (M + 1) P w)
    (hle : ∀ i p j, Run P (gOf txt) txt.size 0 i p j → p ≤ M) :
    Calls Tryz.prog 13 #[.slice (some ⟨g, 0, none⟩) (M + 1) cap, .string txt, .int .i64 k] w fun r w' => ∃ tt : Int, r = .returned (.int .i64 tt) ∧ ((¬ (0 ≤ k ∧ k ≤ txt.size) ∧ tt = -1) ∨ ∃ i : Nat, k = i ∧ i ≤ txt.size ∧ To P (gOf txt) txt.size i M (txt.size + 1) tt) ∧ Below w.heap.size w w' := by
  have call1 := iNfaOkC hM hcap hG hD w hp
  have htI : (txt.size : Int) ≤ 1000 := by omega
  by_cases hk : 0 ≤ k ∧ k ≤ (txt.size : Int)
  · obtain ⟨i, rfl⟩ : ∃ i : Nat, k = i := ⟨k.toNat, by omega⟩
    have hi : i ≤ txt.size := by omega
    have d1 : decide ((0 : Int) ≤ i) = true := decide_eq_true (by omega)
    have d2 : decide ((i : Int) < (txt.size : Int) + 1) = true := decide_eq_true (by omega)
    have hiI : (i : Int) < (txt.size : Int) + 1 := by omega
    have HM : Hid (M + 1 - 1 = M) := Nat.add_sub_cancel _ _
    have call2 := fun w1 (hb : Below w.heap.size w w1) => iLong (q := w1.heap.size) (g := g) (n := M + 1) (cap := cap) (P := P) (txt := txt) hM (by omega) hcap (fun k hk => by rw [HM.out]; exact hG k (by omega)) (by rw [HM.out]; exact hD) ht i hi (w1.alloc (.cells (wk0 (.slice (some ⟨g, 0, none⟩) (M + 1) cap) txt) 77)) (by have := hb.size; have := hp.1; omega) (fun p j hr => by have := hle i p j hr; omega) (walk_new (i : Int) (hp.below hb)).1 (walk_new (i : Int) (hp.below hb)).2
    rw [HM.out] at call2
    obtain ⟨n1, hn1⟩ : ∃ n1, n1 = M + 1 := ⟨_, rfl⟩
    rw [← hn1] at call1 call2 ⊢
    clear hn1 HM
    go_enter Tryz.func13, Tryz.ntmps13
    go_upto_region 3 with (first | (go_at_call 12; refine call1.mono ?_; rintro r w1 ⟨rfl, hb1⟩) | (go_at_call 20; go_in) | (go_at_call 41; go_in))
    have call3 := call2 w1 hb1
    rw [wk0_is] at call3
    go_wp2_with (first | (go_at_call 34; refine call3.mono ?_; rintro r w2 ⟨tt, rfl, hTo, hF2⟩))
    go_ret
    have hz := hF2.size
    simp at hz
    refine ⟨tt, rfl, .inr ⟨i, rfl, hi, hTo⟩, hb1.trans ⟨hF2.os, hF2.tape, hF2.output, by omega, fun b hb => ?_⟩⟩
    have hs := hb1.size
    rw [(hF2.low b (by omega)).1]
    exact Below.heap_alloc _ _ _ (by omega)
  · by_cases h0 : 0 ≤ k
    · have d1 : decide (0 ≤ k) = true := decide_eq_true h0
      have d2 : decide (k < (txt.size : Int) + 1) = false := decide_eq_false (by omega)
      go_enter Tryz.func13, Tryz.ntmps13
      go_wp2_with (first | (go_at_call 12; refine call1.mono ?_; rintro r w1 ⟨rfl, hb1⟩) | (go_at_call 20; go_in) | (go_at_call 41; go_in))
      go_ret
      exact ⟨-1, rfl, .inl ⟨hk, rfl⟩, hb1⟩
    · have d1 : decide (0 ≤ k) = false := decide_eq_false h0
      go_enter Tryz.func13, Tryz.ntmps13
      go_wp2_with (first | (go_at_call 12; refine call1.mono ?_; rintro r w1 ⟨rfl, hb1⟩) | (go_at_call 20; go_in) | (go_at_call 41; go_in))
      go_ret
      exact ⟨-1, rfl, .inl ⟨hk, rfl⟩, hb1⟩

end Nf
end Go.Proofs.YtgdnlmaacnnfiaaGreatDoor

namespace Go.Proofs.YtgdnlmaacnnfiaaGreatDoor
open Go.RowKit Go.Extern
namespace Ft
set_option linter.unusedVariables false
open Rx Clo Mt Un Nf

theorem fit_big (sa : Option Addr) (len cap : Nat) (w : World) (h : (1048576 : Int) < len) :
    Calls Tryz.prog 3 #[.slice sa len cap] w fun e w' => e = .returned (.bool true) ∧ Below w.heap.size w w' := by
  have e1 : decide ((1048576 : Int) < len) = true := decide_eq_true h
  have e2 : decide (1048576 < len) = true := decide_eq_true (by omega)
  go_enter Tryz.func3, Tryz.ntmps3
  go_wp2_with (first | (go_at_call 5; go_in))
  all_goals first | (go_ret; exact ⟨rfl, Below.refl _ _⟩) | exact ⟨rfl, Below.refl _ _⟩

/-- NfaOf of what is not right. -/
theorem iNfaNot (op cc : Int) (ss : ByteArray) (no : Bool) (ao : Option Addr) (n cap : Nat) (w : World)
    (hOk : RexOkTells w 11 (.agg #[.int .i64 op, .int .i64 cc, .string ss, .bool no, .slice ao n cap]) false) :
    Calls Tryz.prog 10 #[.agg #[.int .i64 op, .int .i64 cc, .string ss, .bool no, .slice ao n cap]] w fun e w' => e = .returned (.slice none 0 0) ∧ Below w.heap.size w w' := by
  have call := fun o => hOk (w.alloc o) ((Below.refl _ w).alloc (Nat.le_refl _) o)
  have hb : ∀ o, Below w.heap.size w (w.alloc o) := fun o => (Below.refl _ w).alloc (Nat.le_refl _) o
  clear hOk
  go_enter Tryz.func10, Tryz.ntmps10
  go_wp2_with (go_at_call 11; refine (call _).mono ?_; rintro e w2 ⟨rfl, hb2⟩)
  go_ret
  exact ⟨rfl, (hb _).trans (hb2.mono (by simp))⟩

/-- NfaOk of too many places. -/
theorem iNfaMany (ao : Option Addr) (n cap : Nat) (h : 400 < n) (hn : n ≤ 100000) (w : World) : Calls Tryz.prog 12 #[.slice ao n cap] w fun e w' => e = .returned (.bool false) ∧ w' = w := by
  have d1 : decide ((400 : Int) < (n : Int)) = true := decide_eq_true (by omega)
  have d3 : (400 : Int) < n := by omega
  have d2 : ((n : Int) == 0) = false := by simp; omega
  go_enter Tryz.func12, Tryz.ntmps12
  go_wp2_with fail
  go_ret
  exact ⟨rfl, rfl⟩

theorem nums_far {M : Nat → Bool} {j : Nat} : ∀ d, (∀ j', j < j' → j' < j + 1 + d → M j' = false) → Clo.nums M (j + 1 + d) = Clo.nums M (j + 1)
  | 0, _ => rfl
  | d + 1, h => by
    rw [← Nat.add_assoc, Clo.nums_out (h _ (by omega) (by omega))]
    exact nums_far d fun j' a b => h j' a (by omega)
theorem nums_none {M : Nat → Bool} : ∀ d, (∀ j', j' < d → M j' = false) → Clo.nums M d = []
  | 0, _ => rfl
  | d + 1, h => by
    rw [Clo.nums_out (h _ (by omega))]
    exact nums_none d fun j' a => h j' (by omega)

/-- The longest piece of the places is the last end of the pattern. -/
theorem ends_to {t : Data} {txt : ByteArray} {k : Int} {P : Nat → Pl} {tt : Int} (hR : RightD 12 t) (hA : At P 12 t 0) (hD : P (nl t) = doneP)
    (h : (¬ (0 ≤ k ∧ k ≤ txt.size) ∧ tt = -1) ∨ ∃ i : Nat, k = i ∧ i ≤ txt.size ∧ To P (gOf txt) txt.size i (nl t) (txt.size + 1) tt) : (tt = -1 ∧ ends t txt k = []) ∨ ∃ l, ends t txt k = l ++ [tt] := by
  rcases h with ⟨h, rfl⟩ | ⟨i, rfl, hi, hT⟩
  · refine .inl ⟨rfl, ends_out ?_⟩
    right
    omega
  · rw [ends_in hR (by omega) (by omega), Int.toNat_natCast]
    have hM : ∀ j, endsB (gOf txt) txt.size t i j = true ↔ Run P (gOf txt) txt.size 0 i (nl t) j := fun j => by rw [endsB_iff, run_iff hA hD]
    have hF : ∀ j, ¬ Run P (gOf txt) txt.size 0 i (nl t) j → endsB (gOf txt) txt.size t i j = false := fun j hn => by
      cases e : endsB (gOf txt) txt.size t i j with
      | false => rfl
      | true => exact absurd ((hM j).1 e) hn
    rcases hT with ⟨rfl, h⟩ | ⟨j, rfl, hj, hr, h⟩
    · exact .inl ⟨rfl, nums_none _ fun j' a => hF j' (h j' a)⟩
    · refine .inr ⟨Clo.nums (endsB (gOf txt) txt.size t i) j, ?_⟩
      have := nums_far (M := endsB (gOf txt) txt.size t i) (j := j) (txt.size - j) fun j' a b => hF j' (h j' a (by omega))
      rw [show j + 1 + (txt.size - j) = txt.size + 1 by omega] at this
      rw [this, Clo.nums_in ((hM j).2 hr)]

set_option maxHeartbeats 4000000 in
set_option maxRecDepth 100000 in
theorem lawFit (hP : Dr.ParseOk) (sa : Option Addr) (len cap : Nat) (ad : Addr) (w : World) (hl : len ≤ 1048576) (hSet : SetOk w) (he : ErrAt ad w) (hy : Bytes w.heap.size w sa len) :
    Calls Tryz.prog 3 #[.slice sa len cap] w fun e w' => e = .returned (.bool true) ∧ Below w.heap.size w w' := by
  have call1 := Dr.vDrawMatchTree hP sa len cap w.heap.size w (Nat.le_refl _) hl hy
  have e1 : decide ((1048576 : Int) < len) = false := decide_eq_false (by omega)
  have e2 : decide (1048576 < len) = false := decide_eq_false (by omega)
  go_enter Tryz.func3, Tryz.ntmps3
  go_upto_region 4 with (first | (go_at_call 5; go_in) | (go_at_call 6; refine call1.mono ?_; rintro e w1 ⟨op, c, s, no, ao, n, cp, txt, k, rfl, htx, hk0, hk1, ta, hza, hca, hxa, hb1⟩))
  clear call1 e1 e2 hP hy hl
  obtain ⟨ba, hba⟩ : ∃ ba, ba = w1.heap.size := ⟨_, rfl⟩
  obtain ⟨wa, hwa⟩ : ∃ wa, wa = w1.alloc (.cells #[.int .i64 op, .int .i64 c, .string s, .bool no, .slice ao n cp] 26) := ⟨_, rfl⟩
  have hVa : Var wa ba (.int .i64 op) (.int .i64 c) (.string s) (.bool no) (.slice ao n cp) := by rw [hwa, hba]; exact heap_alloc_last _ _
  have hb1a : Below w1.heap.size w1 wa := by rw [hwa]; exact (Below.refl _ _).alloc (Nat.le_refl _) _
  have hwa' : Below w.heap.size w wa := hb1.trans (hb1a.mono hb1.size)
  have hxa := rexZ_frame _ _ _ (fun j hj => hb1a.block j hj.2) hxa
  have hSa : ∀ j, Iv w.heap.size w1.heap.size j → j < wa.heap.size := fun j hj => by have := hj.2; have := hb1a.size; omega
  rw [← hwa, ← hba]
  clear hwa hba hb1 hb1a
  have bt : txt.size ≤ 1000 := by omega
  obtain ⟨X, HX⟩ : ∃ X, Hid (X = ends ta txt k) := ⟨_, rfl⟩
  have hXl : X.length ≤ 25 := by rw [HX.out]; have := ends_len ta txt k; omega
  have up : ∀ wx, Below wa.heap.size wa wx → Below w.heap.size w wx := fun wx hb => hwa'.trans (hb.mono hwa'.size)
  have cA : ∀ wx, Below wa.heap.size wa wx → Calls Tryz.prog 7 #[.agg #[.int .i64 op, .int .i64 c, .string s, .bool no, .slice ao n cp], .string txt, .int .i64 k] wx fun e w' => Un.Tells X wx e w' := fun wx hb => by
    rw [HX.out]
    have hf := frameS hxa hSa hb
    exact iMatchAny hSet he hza (by omega) txt bt k wx (up wx hb) _ _ _ _ _ _ hf.1 hf.2
  have sA : ∀ wx, Below wa.heap.size wa wx → Calls Tryz.prog 9 #[.agg #[.int .i64 op, .int .i64 c, .string s, .bool no, .slice ao n cp], .string txt, .int .i64 k] wx fun e w' => Un.Tells X wx e w' := fun wx hb => by
    rw [HX.out]
    have hf := frameS hxa hSa hb
    exact sMatchAny hza (by omega) txt bt k wx _ _ _ _ _ _ hf.1 hf.2
  have okA : ∀ wx, Below wa.heap.size wa wx → Calls Tryz.prog 11 #[.agg #[.int .i64 op, .int .i64 c, .string s, .bool no, .slice ao n cp]] wx fun e w' => e = .returned (.bool (okB ta)) ∧ Below wx.heap.size wx w' := fun wx hb =>
    iRexOkAny hSet he hza (by omega) wx (up wx hb) _ _ _ _ _ _ (frameS hxa hSa hb).1 (frameS hxa hSa hb).2
  have same : ∀ wx a a' p p', Nums wx a X → Nums wx a' X → Calls Tryz.prog 8 #[.slice a X.length p, .slice a' X.length p'] wx fun e w' => e = .returned (.bool true) ∧ ∃ m, w' = wx.drewN m := fun wx a a' p p' h1 h2 => lSameInts X (by omega) a a' p p' wx h1 h2
  have bA : ∀ wx, Below wa.heap.size wa wx → Var wx ba (.int .i64 op) (.int .i64 c) (.string s) (.bool no) (.slice ao n cp) := fun wx hb => hVa.kept (hb.block ba hVa.lt)
  obtain ⟨a0, a1, a2, a3, a4⟩ := hVa.cell
  have call5 := cA wa (Below.refl _ _)
  go_upto_region 5 with (go_at_call 7; refine call5.mono ?_; rintro e w3 ⟨ax, px, rfl, hNx, hb3⟩)
  clear call5 a0 a1 a2 a3 a4
  obtain ⟨a0, a1, a2, a3, a4⟩ := (bA w3 hb3).cell
  have call6 := sA w3 hb3
  go_upto_region 7 with (first | (go_at_call 9; refine call6.mono ?_; rintro e w4 ⟨ax', px', rfl, hNx', hb4⟩; have call7 := same w4 _ _ px px' (hNx.on hb4) hNx') | (go_at_call 8; refine call7.mono ?_; rintro e w5 ⟨rfl, m5, rfl⟩))
  obtain ⟨w5, hw5⟩ : ∃ w5, w5 = w4.drewN m5 := ⟨_, rfl⟩
  have hb5 : Below wa.heap.size wa w5 := by rw [hw5]; exact Rx.below_drewP (hb3.trans (hb4.mono hb3.size)) _
  have hN5 : Nums w5 ax X := by rw [hw5]; exact (hNx.on hb4).on (Rx.below_drewP (Below.refl _ _) _)
  rw [← hw5]
  clear hw5 hb3 hb4 hNx hNx' call6 call7 same sA cA a0 a1 a2 a3 a4
  obtain ⟨a0, a1, a2, a3, a4⟩ := (bA w5 hb5).cell
  have hlI : (X.length : Int) ≤ 25 := by omega
  by_cases hR : RightD 12 ta
  · have hX5 := rex_ofZ 12 ta hR _ _ (frameS hxa hSa hb5).1
    have call7 := iNfaOfC hSet hR (by omega) w5 (up w5 hb5) _ _ _ _ _ _ hX5 (frameS hxa hSa hb5).2
    have hnl := nl_le ta
    have okT := okA
    rw [okB_iff.2 hR] at okT
    go_upto_region 8 with (go_at_call 10; refine call7.mono ?_; rintro e w6 ⟨la, lc, P, xs, rfl, hown, hxs, hAt, hD, hb6⟩)
    have hb6a : Below wa.heap.size wa w6 := hb5.trans (hb6.mono hb5.size)
    obtain ⟨g, rfl, hpr, hcap, _⟩ := pr_owns hown hxs (by omega)
    clear a0 a1 a2 a3 a4 call7
    obtain ⟨a0, a1, a2, a3, a4⟩ := (bA w6 hb6a).cell
    have call8 := okT w6 hb6a
    obtain ⟨M, HM⟩ : ∃ M, Hid (M = nl ta) := ⟨_, rfl⟩
    rw [← HM.out] at hown hxs hD hpr hcap hnl ⊢
    have HD : Hid (P M = doneP) := hD
    have HA : Hid (At P 12 ta 0) := hAt
    clear hown hxs hD hAt hX5
    have hN6 := hN5.on hb6
    by_cases hbig : M + 1 ≤ 400
    · have hG : ∀ p, p < M → Nf.Good M (P p) := fun p hp => by
        have := at_good 12 ta 0 HA.out p (Nat.zero_le _) (by rw [Nat.zero_add, ← HM.out]; exact hp)
        rwa [Nat.zero_add, ← HM.out] at this
      have hDM : P (nl ta) = doneP := by rw [← HM.out]; exact HD.out
      have call9 := fun w7 (hb7 : Below w6.heap.size w6 w7) => iNfaOkC hbig hcap hG HD.out w7 (hpr.below hb7)
      have call10 := fun w8 (hb8 : Below w6.heap.size w6 w8) => iMatchAt (txt := txt) hbig hcap hG HD.out bt k w8 (hpr.below hb8) (fun i p j hr => by rw [HM.out]; exact run_le HA.out hDM hr)
      have Hend : Hid (∀ tt : Int, ((¬ (0 ≤ k ∧ k ≤ txt.size) ∧ tt = -1) ∨ ∃ i : Nat, k = i ∧ i ≤ txt.size ∧ To P (gOf txt) txt.size i M (txt.size + 1) tt) → (tt = -1 ∧ X = []) ∨ ∃ l, X = l ++ [tt]) := fun tt h => by
        rw [HX.out]
        rw [HM.out] at h
        exact ends_to hR HA.out hDM h
      obtain ⟨n1, Hn1⟩ : ∃ n1, Hid (n1 = M + 1) := ⟨_, rfl⟩
      rw [← Hn1.out] at call9 call10 ⊢
      have call9 := fun w7 hb7 => call9 w7 hb7
      clear hG hDM hpr hcap hbig hnl hR HX
      go_upto_region 10 with (first | (go_at_call 11; refine call8.mono ?_; rintro e w7 ⟨rfl, hb7⟩) | (go_at_call 12; refine (call9 w7 hb7).mono ?_; rintro e w8 ⟨rfl, hb8⟩))
      have hb8' : Below w6.heap.size w6 w8 := hb7.trans (hb8.mono hb7.size)
      have call11 := call10 w8 hb8'
      go_upto_region 11 with (go_at_call 13; refine call11.mono ?_; rintro e w9 ⟨tt, rfl, hTT, hb9⟩)
      have hb9' : Below w6.heap.size w6 w9 := hb8'.trans (hb9.mono hb8'.size)
      have hN9 := hN6.on hb9'
      have hup := up w9 (hb6a.trans (hb9'.mono hb6a.size))
      rcases Hend.out tt hTT with ⟨rfl, rfl⟩ | ⟨l, rfl⟩
      · clear hTT call8 call9 call10 call11 okA okT bA Hend
        go_wp2_with fail
        go_ret
        exact ⟨rfl, hup⟩
      · obtain ⟨b, o, rfl, hbl, hcell⟩ := hN9 l.length tt (by simp)
        have hln : (l ++ [tt]).length = l.length + 1 := by simp
        rw [hln] at hlI ⊢
        have hlI' : (l.length : Int) + 1 ≤ 25 := by omega
        clear hTT call8 call9 call10 call11 okA okT bA Hend hln hXl hlI hN5 hN6 hN9
        go_wp2_with fail
        go_ret
        exact ⟨by first | rfl | simp, hup⟩
    · have hbI : 400 < M + 1 := by omega
      have call9 := fun wx => iNfaMany (some ⟨g, 0, none⟩) (M + 1) lc hbI (by omega) wx
      obtain ⟨n1, Hn1⟩ : ∃ n1, Hid (n1 = M + 1) := ⟨_, rfl⟩
      rw [← Hn1.out] at call9 ⊢
      clear hpr hcap hbig hnl hR HX hbI
      by_cases hX0 : X = []
      · subst hX0
        go_wp2_with (first | (go_at_call 11; with_reducible refine call8.mono ?_; rintro e w7 ⟨rfl, hb7⟩) | (go_at_call 12; refine (call9 w7).mono ?_; rintro e w8 ⟨rfl, hw⟩; have hw := hw.symm; subst hw))
        go_ret
        exact ⟨rfl, up w7 (hb6a.trans (hb7.mono hb6a.size))⟩
      · have hX1 : 0 < X.length := List.length_pos_iff.2 hX0
        have hX2 : ((X.length : Int) == 0) = false := by simp [hX0]
        clear hX0
        have okT' := fun w7 (hb7 : Below w6.heap.size w6 w7) => okT w7 (hb6a.trans (hb7.mono hb6a.size))
        have bA' := fun w7 (hb7 : Below w6.heap.size w6 w7) => bA w7 (hb6a.trans (hb7.mono hb6a.size))
        go_upto_region 9 with (first | (go_at_call 11; with_reducible refine call8.mono ?_; rintro e w7 ⟨rfl, hb7⟩) | (go_at_call 12; refine (call9 w7).mono ?_; rintro e w8 ⟨rfl, hw⟩; have hw := hw.symm; subst hw))
        clear a0 a1 a2 a3 a4 call8
        obtain ⟨a0, a1, a2, a3, a4⟩ := (bA' w7 hb7).cell
        have call12 := okT' w7 hb7
        go_wp2_with (go_at_call 11; refine call12.mono ?_; rintro e w9 ⟨rfl, hb9⟩)
        go_ret
        exact ⟨rfl, up w9 ((hb6a.trans (hb7.mono hb6a.size)).trans (hb9.mono (by have := hb6a.size; have := hb7.size; omega)))⟩
  · have okT := okA
    rw [okB_not hR] at okT
    have hX0 : X = [] := by rw [HX.out]; exact ends_out (.inl (okB_not hR))
    have call7 := iNfaNot op c s no ao n cp w5 (fun wx hb => okT wx (hb5.trans (hb.mono hb5.size)))
    subst hX0
    go_upto_region 8 with (go_at_call 10; refine call7.mono ?_; rintro e w6 ⟨rfl, hb6⟩)
    have hb6a : Below wa.heap.size wa w6 := hb5.trans (hb6.mono hb5.size)
    clear a0 a1 a2 a3 a4
    obtain ⟨a0, a1, a2, a3, a4⟩ := (bA w6 hb6a).cell
    have call8 := okT w6 hb6a
    go_wp2_with (go_at_call 11; refine call8.mono ?_; rintro e w7 ⟨rfl, hb7⟩)
    go_ret
    exact ⟨rfl, up w7 (hb6a.trans (hb7.mono hb6a.size))⟩

theorem lawAll (sa : Option Addr) (len cap : Nat) (a : Addr) (m : Int) (w : World) (hP : Dr.ParseOk) (hc : w.cell? ⟨0, 0, none⟩ = some (.iface 183 (.pointer (some a))))
    (hm : w.cell? ⟨1, 0, none⟩ = some (.int .i64 m)) (hy : Bytes w.heap.size w sa len) :
    Calls Tryz.prog 3 #[.slice sa len cap] w fun e w' => e = .returned (.bool true) ∧ Below w.heap.size w w' := by
  by_cases h : len ≤ 1048576
  · exact lawFit hP sa len cap a w h (setOk hm) hc hy
  · exact fit_big sa len cap w (by omega)

end Ft
end Go.Proofs.YtgdnlmaacnnfiaaGreatDoor

