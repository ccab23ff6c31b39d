/-
  The draws of patterns' texts: l3DrawText, l3Dent, DrawRexParse.
-/
import Derived.Test.YthagicpockpfjaiDoorCur
import Derived.Deep.CutRange
import Derived.Deep.RegionWith
import Derived.Deep.CutBlock
import Derived.Deep.DeepCutAuto
namespace Go.Proofs.YthagicpockpfjaiDoor
open Go.RowKit Go.Extern
namespace Dr

theorem below_drewN {B : Nat} {W w : World} (h : Below B W w) (n : Nat) : Below B W (w.drewN n) := ⟨h.os, h.tape, h.output, h.size, h.block⟩
theorem only_below {p : Nat} {w w' : World} (h : Below w.heap.size w w') : Only p w w' := ⟨h.os, h.tape, h.output, h.size, fun k _ hk => h.block k hk⟩
theorem cur_grown {B p : Nat} {w w' : World} (hC : Cur B p w) (h : Below w.heap.size w w') : Cur B p w' :=
  hC.frame (q := w.heap.size) (only_below h) (by have := hC.lt; omega) (by have := hC.le; have := hC.lt; omega)
theorem cur_drewN {B p : Nat} {w : World} (hC : Cur B p w) (n : Nat) : Cur B p (w.drewN n) := cur_grown hC (below_drewN (Below.refl _ _) n)
theorem alloc_strs (w : World) (xs : List ByteArray) (t : TypeId) (k : Nat) (hk : k < xs.length) : (w.alloc (.cells (xs.map Value.string).toArray t)).cell? ⟨w.heap.size, k, none⟩ = some (.string xs[k]) := by
  rw [World.cell?_alloc_at _ _ _ _ rfl]
  simp [hk]
theorem list_str {p q : Nat} {x : Int} {xs : List ByteArray} {w w' : World} (ho : Only p w w') (hq : q ≠ p) (hql : q < w.heap.size)
    (hx : ∀ k, (hk : k < xs.length) → w.cell? ⟨q, k, none⟩ = some (.string xs[k])) (h0 : 0 ≤ x) (h1 : x < xs.length) : ∃ v, v ∈ xs ∧ w'.cell? ⟨q, x.toNat, none⟩ = some (.string v) :=
  ⟨xs[x.toNat]'(by omega), List.getElem_mem _, by rw [ho.cell (a := ⟨q, x.toNat, none⟩) hq hql]; exact hx _ _⟩

theorem pick_str (B p q cap : Nat) (xs : List ByteArray) (w : World) (hC : Cur B p w) (hq : q ≠ p) (hql : q < w.heap.size) (h0 : 0 < xs.length) (h1 : xs.length ≤ 256)
    (hx : ∀ k, (hk : k < xs.length) → w.cell? ⟨q, k, none⟩ = some (.string xs[k])) :
    Calls Tryd.prog 24 #[.pointer (some ⟨p, 0, none⟩), .slice (some ⟨q, 0, none⟩) xs.length cap] w fun e w' => ∃ x, x ∈ xs ∧ e = .returned (.string x) ∧ Only p w w' ∧ Cur B p w' := by
  have i0 : (0 : Int) < (xs.length : Int) := by omega
  have i1 : (xs.length : Int) ≤ 256 := by omega
  have hl : ∀ w' x, Only p w w' → 0 ≤ x → x < (xs.length : Int) → ∃ v, v ∈ xs ∧ w'.cell? ⟨q, x.toNat, none⟩ = some (.string v) := fun w' x ho => list_str ho hq hql hx
  clear hx
  go_enter Tryd.func24, Tryd.ntmps24
  go_wp2_with (go_at_call 13; refine (below_small B p _ _ ?_ i0 i1).mono ?_; assumption; rintro e w' ⟨x, rfl, hx0, hx1, ho, hC'⟩; obtain ⟨v, hv, hvc⟩ := hl w' x ho hx0 hx1)
  go_ret
  exact ⟨_, hv, rfl, by assumption, by assumption⟩
theorem pick_strsD (B p n cap m : Nat) (xs : List ByteArray) (t : TypeId) (w : World) (hC : Cur B p w) (hn : xs.length = n) (h0 : 0 < n) (h1 : n ≤ 256) (hs : ∀ s ∈ xs, s.size ≤ 24) :
    Calls Tryd.prog 24 #[.pointer (some ⟨p, 0, none⟩), .slice (some ⟨w.heap.size, 0, none⟩) n cap] ((w.alloc (.cells (xs.map Value.string).toArray t)).drewN m) fun e w' => ∃ x : ByteArray, e = .returned (.string x) ∧ (x.size : Int) ≤ 24 ∧ Only p w w' ∧ Cur B p w' := by
  subst hn
  have hlt := hC.lt
  refine (pick_str B p w.heap.size cap xs _ (cur_drewN (hC.alloc _) m) (by omega) (by show w.heap.size < (w.alloc _).heap.size; simp) h0 h1 (fun k hk => alloc_strs w xs t k hk)).mono ?_
  rintro e w' ⟨x, hx, rfl, ho, hC'⟩
  exact ⟨x, rfl, by have := hs x hx; omega, (((Only.refl p w).alloc _).drewN m).trans ho, hC'⟩
def LT : List ByteArray := [⟨#[97]⟩, ⟨#[97, 98, 124, 99]⟩, ⟨#[40, 97, 98, 41, 42]⟩, ⟨#[97, 43, 98, 63]⟩, ⟨#[94, 97]⟩, ⟨#[98, 36]⟩, ⟨#[91, 97, 45, 99, 93, 43]⟩, ⟨#[91, 94, 98, 93]⟩, ⟨#[46, 42, 98]⟩, ⟨#[40, 97, 124, 98, 41, 43, 99]⟩, ⟨#[]⟩, ⟨#[97, 124, 124, 98]⟩, ⟨#[40, 97, 42, 41, 42]⟩, ⟨#[120, 92, 46, 121]⟩, ⟨#[91, 93, 97, 93]⟩, ⟨#[97, 40, 98]⟩, ⟨#[42, 97]⟩, ⟨#[40, 40, 97, 41, 41]⟩, ⟨#[94, 36]⟩, ⟨#[40, 94, 97, 124, 98, 36, 41, 42]⟩, ⟨#[91, 98, 45, 97, 93]⟩, ⟨#[97, 92]⟩]
theorem LT_in : ∀ s ∈ LT, s.size ≤ 24 := by decide +kernel
theorem pick_LT (B p cap : Nat) (t : TypeId) (w : World) (hC : Cur B p w) :
    Calls Tryd.prog 24 #[.pointer (some ⟨p, 0, none⟩), .slice (some ⟨w.heap.size, 0, none⟩) 22 cap] (w.alloc (.cells #[.string ⟨#[97]⟩, .string ⟨#[97, 98, 124, 99]⟩, .string ⟨#[40, 97, 98, 41, 42]⟩, .string ⟨#[97, 43, 98, 63]⟩, .string ⟨#[94, 97]⟩, .string ⟨#[98, 36]⟩, .string ⟨#[91, 97, 45, 99, 93, 43]⟩, .string ⟨#[91, 94, 98, 93]⟩, .string ⟨#[46, 42, 98]⟩, .string ⟨#[40, 97, 124, 98, 41, 43, 99]⟩, .string ⟨#[]⟩, .string ⟨#[97, 124, 124, 98]⟩, .string ⟨#[40, 97, 42, 41, 42]⟩, .string ⟨#[120, 92, 46, 121]⟩, .string ⟨#[91, 93, 97, 93]⟩, .string ⟨#[97, 40, 98]⟩, .string ⟨#[42, 97]⟩, .string ⟨#[40, 40, 97, 41, 41]⟩, .string ⟨#[94, 36]⟩, .string ⟨#[40, 94, 97, 124, 98, 36, 41, 42]⟩, .string ⟨#[91, 98, 45, 97, 93]⟩, .string ⟨#[97, 92]⟩] t)) fun e w' => ∃ x : ByteArray, e = .returned (.string x) ∧ (x.size : Int) ≤ 24 ∧ Only p w w' ∧ Cur B p w' :=
  pick_strsD B p 22 cap 0 LT t w hC rfl (by decide) (by decide) LT_in
def LN : List ByteArray := [⟨#[97]⟩, ⟨#[42]⟩, ⟨#[40]⟩, ⟨#[41]⟩, ⟨#[124]⟩, ⟨#[91]⟩, ⟨#[93]⟩, ⟨#[92]⟩, ⟨#[46]⟩]
theorem LN_in : ∀ s ∈ LN, s.size ≤ 24 := by decide +kernel
theorem pick_LN0 (B p cap : Nat) (t : TypeId) (w : World) (hC : Cur B p w) :
    Calls Tryd.prog 24 #[.pointer (some ⟨p, 0, none⟩), .slice (some ⟨w.heap.size, 0, none⟩) 9 cap] (w.alloc (.cells #[.string ⟨#[97]⟩, .string ⟨#[42]⟩, .string ⟨#[40]⟩, .string ⟨#[41]⟩, .string ⟨#[124]⟩, .string ⟨#[91]⟩, .string ⟨#[93]⟩, .string ⟨#[92]⟩, .string ⟨#[46]⟩] t)) fun e w' => ∃ x : ByteArray, e = .returned (.string x) ∧ (x.size : Int) ≤ 24 ∧ Only p w w' ∧ Cur B p w' :=
  pick_strsD B p 9 cap 0 LN t w hC rfl (by decide) (by decide) LN_in
theorem pick_LN1 (B p cap : Nat) (t : TypeId) (w : World) (hC : Cur B p w) :
    Calls Tryd.prog 24 #[.pointer (some ⟨p, 0, none⟩), .slice (some ⟨w.heap.size, 0, none⟩) 9 cap] (w.alloc (.cells #[.string ⟨#[97]⟩, .string ⟨#[42]⟩, .string ⟨#[40]⟩, .string ⟨#[41]⟩, .string ⟨#[124]⟩, .string ⟨#[91]⟩, .string ⟨#[93]⟩, .string ⟨#[92]⟩, .string ⟨#[46]⟩] t)).drew fun e w' => ∃ x : ByteArray, e = .returned (.string x) ∧ (x.size : Int) ≤ 24 ∧ Only p w w' ∧ Cur B p w' :=
  pick_strsD B p 9 cap 1 LN t w hC rfl (by decide) (by decide) LN_in
theorem pick_LN2 (B p cap : Nat) (t : TypeId) (w : World) (hC : Cur B p w) :
    Calls Tryd.prog 24 #[.pointer (some ⟨p, 0, none⟩), .slice (some ⟨w.heap.size, 0, none⟩) 9 cap] (w.alloc (.cells #[.string ⟨#[97]⟩, .string ⟨#[42]⟩, .string ⟨#[40]⟩, .string ⟨#[41]⟩, .string ⟨#[124]⟩, .string ⟨#[91]⟩, .string ⟨#[93]⟩, .string ⟨#[92]⟩, .string ⟨#[46]⟩] t)).drew.drew fun e w' => ∃ x : ByteArray, e = .returned (.string x) ∧ (x.size : Int) ≤ 24 ∧ Only p w w' ∧ Cur B p w' :=
  pick_strsD B p 9 cap 2 LN t w hC rfl (by decide) (by decide) LN_in

theorem drawText (B p : Nat) (w : World) (hC : Cur B p w) :
    Calls Tryd.prog 11 #[.pointer (some ⟨p, 0, none⟩)] w fun e w' => ∃ s : ByteArray, e = .returned (.string s) ∧ (s.size : Int) ≤ 24 ∧ Only p w w' ∧ Cur B p w' := by
  go_enter Tryd.func11, Tryd.ntmps11
  go_wp2_with (go_at_call 24; with_reducible refine (pick_LT B p _ _ _ ?_).mono ?_; assumption; rintro e w1 ⟨s1, rfl, hs1, ho1, hC1⟩)
  go_ret
  exact ⟨_, rfl, hs1, ho1, hC1⟩

set_option maxRecDepth 100000 in
theorem dent (B p : Nat) (s : ByteArray) (hs : (s.size : Int) ≤ 24) (w : World) (hC : Cur B p w) :
    Calls Tryd.prog 10 #[.pointer (some ⟨p, 0, none⟩), .string s] w fun e w' => ∃ s : ByteArray, e = .returned (.string s) ∧ (s.size : Int) ≤ 48 ∧ Only p w w' ∧ Cur B p w' := by
  go_enter Tryd.func10, Tryd.ntmps10
  go_upto_region 3 with (first | (go_at_call 13; with_reducible refine (below_small B p ((s.size : Int) + 1) _ ?_ ?_ ?_).mono ?_; assumption; omega; omega; rintro e w1 ⟨x, rfl, hx0, hx1, ho1, hC1⟩) | (go_at_call 13; with_reducible refine (below_small B p 4 _ ?_ ?_ ?_).mono ?_; assumption; omega; omega; rintro e w2 ⟨y, rfl, hy0, hy1, ho2, hC2⟩))
  have hO := ho1.trans ho2
  clear ho1 ho2 hC1 hC
  obtain ⟨k, rfl⟩ : ∃ k : Nat, x = k := ⟨x.toNat, by omega⟩
  have hk : k ≤ s.size := by omega
  by_cases hy : y = 0
  · subst hy
    go_wp2_with fail
    go_region_with (go_at_call 24; first | (with_reducible refine (pick_LN1 B p _ _ _ ?_).mono ?_; assumption; rintro e w3 ⟨s3, rfl, hs3, ho3, hC3⟩) | (with_reducible refine (pick_LN2 B p _ _ _ ?_).mono ?_; assumption; rintro e w3 ⟨s3, rfl, hs3, ho3, hC3⟩) | (with_reducible refine (pick_LN0 B p _ _ _ ?_).mono ?_; assumption; rintro e w3 ⟨s3, rfl, hs3, ho3, hC3⟩))
    all_goals
      go_wp2_with fail
      have hsz : (((s.extract 0 k ++ s3 ++ s.extract k s.size).size : Nat) : Int) ≤ 48 := by
        rw [ByteArray.size_append, ByteArray.size_append, ByteArray.size_extract, ByteArray.size_extract]; omega
      refine bodyPost_ret (v := .string (s.extract 0 k ++ s3 ++ s.extract k s.size)) (by simp [results, Tryd.results10, go_sem]) rfl ?_
      first | exact ⟨_, rfl, hsz, hO.trans ho3, hC3⟩ | exact ⟨_, rfl, hsz, (hO.trans ho3).drewN 1, cur_drewN hC3 1⟩ | exact ⟨_, rfl, hsz, (hO.trans ho3).drewN 2, cur_drewN hC3 2⟩
  · have hyb : (y == 0) = false := by simp [hy]
    by_cases hy1' : y = 1
    · subst hy1'
      go_wp2_with (go_at_call 11; refine (drawText B p _ ?_).mono ?_; assumption; rintro e w3 ⟨s3, rfl, hs3, ho3, hC3⟩)
      go_ret
      exact ⟨_, rfl, by rw [ByteArray.size_append]; omega, hO.trans ho3, hC3⟩
    · have hyb1 : (y == 1) = false := by simp [hy1']
      go_wp2_with fail
      go_ret
      exact ⟨_, rfl, by omega, hO, hC2⟩

def strLen : Value → Nat
  | .string s => s.size
  | _ => 0

set_option maxRecDepth 100000 in
theorem drawParse (sa : Option Addr) (len cap B : Nat) (w : World) (hB : B ≤ w.heap.size) (hl : len ≤ 1048576) (hy : Bytes B w sa len) :
    Calls Tryd.prog 5 #[.slice sa len cap] w fun e w' => ∃ s : ByteArray, e = .returned (.string s) ∧ (s.size : Int) ≤ 80 ∧ Below w.heap.size w w' := by
  go_enter Tryd.func5, Tryd.ntmps5
  go_wp2_with fail
  refine (new_any sa len cap B w hB hl hy).mono ?_
  rintro e w1 ⟨rfl, hb1, hC1⟩
  obtain ⟨p, hp⟩ : ∃ p, p = w.heap.size := ⟨_, rfl⟩
  have hpw : w.heap.size ≤ p := by omega
  have hz1 := hb1.size
  rw [← hp] at hC1 ⊢
  have HP : Hid (p = w.heap.size) := hp
  clear hp
  go_wp2_with fail
  refine (drawText B p w1 hC1).mono ?_
  rintro e w2 ⟨s1, rfl, hs1, ho1, hC2⟩
  go_wp2_with fail
  refine (dent B p s1 hs1 w2 hC2).mono ?_
  rintro e w3 ⟨s, rfl, hs, ho2, hC3⟩
  have hO := ho1.trans ho2
  clear ho1 ho2 hC1 hC2
  go_wp2_with fail
  refine (once_small B p 30 w3 hC3 (by omega) (by omega)).mono ?_
  rintro e w4 ⟨b4, rfl, ho4, hC4⟩
  have hO4 := hO.trans ho4
  clear hO ho4 hC3
  go_upto_if 12 with fail
  go_cut [4] (fun v wx => ∃ s : ByteArray, v = .string s ∧ s.size ≤ 61 ∧ Only p w1 wx ∧ Cur B p wx)
  case first =>
    cases b4 with
    | false =>
      go_wp2_with fail
      go_meet
      exact ⟨s, rfl, by omega, hO4, hC4⟩
    | true =>
      go_wp2_with fail
      go_loopw [4] (fun v wr => ∃ s : ByteArray, v = .string s ∧ s.size ≤ 61 ∧ Only p w1 wr ∧ Cur B p wr) (fun v _ => 62 - strLen v)
      case atStart => exact ⟨s, rfl, by omega, hO4, hC4⟩
      case round =>
        obtain ⟨s', rfl, hs', hor, hCr⟩ := hrel
        have hsI : (s'.size : Int) ≤ 61 := by omega
        go_wp2_with fail
        refine (below_small B p 2 wr hCr (by omega) (by omega)).mono ?_
        rintro e w5 ⟨y, rfl, hy0, hy1, ho5, hC5⟩
        by_cases hlt : (s'.size : Int) < 60 + y
        · have e1 : decide ((s'.size : Int) < 60 + y) = true := decide_eq_true hlt
          go_wp2_with fail
          go_roundw
          case rel => exact ⟨_, rfl, by rw [ByteArray.size_append]; show s'.size + 1 ≤ 61; omega, hor.trans ho5, hC5⟩
          case measure => simp only [strLen]; rw [ByteArray.size_append]; show 62 - (s'.size + 1) < 62 - s'.size; omega
        · have e1 : decide ((s'.size : Int) < 60 + y) = false := decide_eq_false hlt
          go_wp2_with fail
          go_meet
          exact ⟨s', rfl, hs', hor.trans ho5, hC5⟩
  case rest =>
    obtain ⟨s', hv, hs', hor, hCr⟩ := hcut
    subst hv
    have hfin : ∀ w', Only p w1 w' → Below w.heap.size w w' := fun w' ho => hb1.trans (ho.below hpw hz1)
    go_wp2_with fail
    refine (once_small B p 30 wc hCr (by omega) (by omega)).mono ?_
    rintro e w6 ⟨b6, rfl, ho6, hC6⟩
    cases b6 with
    | false =>
      go_wp2_with fail
      go_ret
      exact ⟨_, rfl, by omega, hfin _ (hor.trans ho6)⟩
    | true =>
      go_wp2_with fail
      go_ret
      exact ⟨_, rfl, by decide, hfin _ (hor.trans ho6)⟩

end Dr
end Go.Proofs.YthagicpockpfjaiDoor
