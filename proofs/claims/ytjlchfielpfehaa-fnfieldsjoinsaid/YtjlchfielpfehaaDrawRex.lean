/-
  The draws of patterns' texts: l3DrawText, l3Dent, DrawRexParse.
-/
import Derived.Test.YtjlchfielpfehaaCur
import Derived.Deep.CutRange
import Derived.Deep.RegionWith
import Derived.Deep.CutBlock
import Derived.Deep.DeepCutAuto
namespace Go.Proofs.Ytjlchfielpfehaa
open Go.RowKit Go.Extern
namespace Dr

theorem below_drewN {B : Nat} {W w : World} (h : Below B W w) (n : Nat) : Below B W (w.drewN n) := ⟨h.os, h.tape, h.output, h.size, h.block⟩
theorem only_below {p : Nat} {w w' : World} (h : Below w.heap.size w w') : Only p w w' := ⟨h.os, h.tape, h.output, h.size, fun k _ hk => h.block k hk⟩
theorem cur_grown {B p : Nat} {w w' : World} (hC : Cur B p w) (h : Below w.heap.size w w') : Cur B p w' :=
  hC.frame (q := w.heap.size) (only_below h) (by have := hC.lt; omega) (by have := hC.le; have := hC.lt; omega)
theorem cur_drewN {B p : Nat} {w : World} (hC : Cur B p w) (n : Nat) : Cur B p (w.drewN n) := cur_grown hC (below_drewN (Below.refl _ _) n)
theorem alloc_strs (w : World) (xs : List ByteArray) (t : TypeId) (k : Nat) (hk : k < xs.length) : (w.alloc (.cells (xs.map Value.string).toArray t)).cell? ⟨w.heap.size, k, none⟩ = some (.string xs[k]) := by
  rw [World.cell?_alloc_at _ _ _ _ rfl]
  simp [hk]
theorem list_str {p q : Nat} {x : Int} {xs : List ByteArray} {w w' : World} (ho : Only p w w') (hq : q ≠ p) (hql : q < w.heap.size)
    (hx : ∀ k, (hk : k < xs.length) → w.cell? ⟨q, k, none⟩ = some (.string xs[k])) (h0 : 0 ≤ x) (h1 : x < xs.length) : ∃ v, v ∈ xs ∧ w'.cell? ⟨q, x.toNat, none⟩ = some (.string v) :=
  ⟨xs[x.toNat]'(by omega), List.getElem_mem _, by rw [ho.cell (a := ⟨q, x.toNat, none⟩) hq hql]; exact hx _ _⟩

theorem pick_str (B p q cap : Nat) (xs : List ByteArray) (w : World) (hC : Cur B p w) (hq : q ≠ p) (hql : q < w.heap.size) (h0 : 0 < xs.length) (h1 : xs.length ≤ 256)
    (hx : ∀ k, (hk : k < xs.length) → w.cell? ⟨q, k, none⟩ = some (.string xs[k])) :
    Calls Try.prog 48 #[.pointer (some ⟨p, 0, none⟩), .slice (some ⟨q, 0, none⟩) xs.length cap] w fun e w' => ∃ x, x ∈ xs ∧ e = .returned (.string x) ∧ Only p w w' ∧ Cur B p w' := by
  have i0 : (0 : Int) < (xs.length : Int) := by omega
  have i1 : (xs.length : Int) ≤ 256 := by omega
  have hl : ∀ w' x, Only p w w' → 0 ≤ x → x < (xs.length : Int) → ∃ v, v ∈ xs ∧ w'.cell? ⟨q, x.toNat, none⟩ = some (.string v) := fun w' x ho => list_str ho hq hql hx
  clear hx
  go_enter Try.func48, Try.ntmps48
  go_wp2_with (go_at_call 47; refine (below_small B p _ _ ?_ i0 i1).mono ?_; assumption; rintro e w' ⟨x, rfl, hx0, hx1, ho, hC'⟩; obtain ⟨v, hv, hvc⟩ := hl w' x ho hx0 hx1)
  go_ret
  exact ⟨_, hv, rfl, by assumption, by assumption⟩
theorem pick_strsD (B p n cap m : Nat) (xs : List ByteArray) (t : TypeId) (w : World) (hC : Cur B p w) (hn : xs.length = n) (h0 : 0 < n) (h1 : n ≤ 256) (hs : ∀ s ∈ xs, s.size ≤ 24) :
    Calls Try.prog 48 #[.pointer (some ⟨p, 0, none⟩), .slice (some ⟨w.heap.size, 0, none⟩) n cap] ((w.alloc (.cells (xs.map Value.string).toArray t)).drewN m) fun e w' => ∃ x : ByteArray, e = .returned (.string x) ∧ (x.size : Int) ≤ 24 ∧ Only p w w' ∧ Cur B p w' := by
  subst hn
  have hlt := hC.lt
  refine (pick_str B p w.heap.size cap xs _ (cur_drewN (hC.alloc _) m) (by omega) (by show w.heap.size < (w.alloc _).heap.size; simp) h0 h1 (fun k hk => alloc_strs w xs t k hk)).mono ?_
  rintro e w' ⟨x, hx, rfl, ho, hC'⟩
  exact ⟨x, rfl, by have := hs x hx; omega, (((Only.refl p w).alloc _).drewN m).trans ho, hC'⟩
def LT : List ByteArray := [⟨#[97]⟩, ⟨#[97, 98, 124, 99]⟩, ⟨#[40, 97, 98, 41, 42]⟩, ⟨#[97, 43, 98, 63]⟩, ⟨#[94, 97]⟩, ⟨#[98, 36]⟩, ⟨#[91, 97, 45, 99, 93, 43]⟩, ⟨#[91, 94, 98, 93]⟩, ⟨#[46, 42, 98]⟩, ⟨#[40, 97, 124, 98, 41, 43, 99]⟩, ⟨#[]⟩, ⟨#[97, 124, 124, 98]⟩, ⟨#[40, 97, 42, 41, 42]⟩, ⟨#[120, 92, 46, 121]⟩, ⟨#[91, 93, 97, 93]⟩, ⟨#[97, 40, 98]⟩, ⟨#[42, 97]⟩, ⟨#[40, 40, 97, 41, 41]⟩, ⟨#[94, 36]⟩, ⟨#[40, 94, 97, 124, 98, 36, 41, 42]⟩, ⟨#[91, 98, 45, 97, 93]⟩, ⟨#[97, 92]⟩]
theorem LT_in : ∀ s ∈ LT, s.size ≤ 24 := by decide +kernel
theorem pick_LT (B p cap : Nat) (t : TypeId) (w : World) (hC : Cur B p w) :
    Calls Try.prog 48 #[.pointer (some ⟨p, 0, none⟩), .slice (some ⟨w.heap.size, 0, none⟩) 22 cap] (w.alloc (.cells #[.string ⟨#[97]⟩, .string ⟨#[97, 98, 124, 99]⟩, .string ⟨#[40, 97, 98, 41, 42]⟩, .string ⟨#[97, 43, 98, 63]⟩, .string ⟨#[94, 97]⟩, .string ⟨#[98, 36]⟩, .string ⟨#[91, 97, 45, 99, 93, 43]⟩, .string ⟨#[91, 94, 98, 93]⟩, .string ⟨#[46, 42, 98]⟩, .string ⟨#[40, 97, 124, 98, 41, 43, 99]⟩, .string ⟨#[]⟩, .string ⟨#[97, 124, 124, 98]⟩, .string ⟨#[40, 97, 42, 41, 42]⟩, .string ⟨#[120, 92, 46, 121]⟩, .string ⟨#[91, 93, 97, 93]⟩, .string ⟨#[97, 40, 98]⟩, .string ⟨#[42, 97]⟩, .string ⟨#[40, 40, 97, 41, 41]⟩, .string ⟨#[94, 36]⟩, .string ⟨#[40, 94, 97, 124, 98, 36, 41, 42]⟩, .string ⟨#[91, 98, 45, 97, 93]⟩, .string ⟨#[97, 92]⟩] t)) fun e w' => ∃ x : ByteArray, e = .returned (.string x) ∧ (x.size : Int) ≤ 24 ∧ Only p w w' ∧ Cur B p w' :=
  pick_strsD B p 22 cap 0 LT t w hC rfl (by decide) (by decide) LT_in
def LN : List ByteArray := [⟨#[97]⟩, ⟨#[42]⟩, ⟨#[40]⟩, ⟨#[41]⟩, ⟨#[124]⟩, ⟨#[91]⟩, ⟨#[93]⟩, ⟨#[92]⟩, ⟨#[46]⟩]
theorem LN_in : ∀ s ∈ LN, s.size ≤ 24 := by decide +kernel
theorem pick_LN0 (B p cap : Nat) (t : TypeId) (w : World) (hC : Cur B p w) :
    Calls Try.prog 48 #[.pointer (some ⟨p, 0, none⟩), .slice (some ⟨w.heap.size, 0, none⟩) 9 cap] (w.alloc (.cells #[.string ⟨#[97]⟩, .string ⟨#[42]⟩, .string ⟨#[40]⟩, .string ⟨#[41]⟩, .string ⟨#[124]⟩, .string ⟨#[91]⟩, .string ⟨#[93]⟩, .string ⟨#[92]⟩, .string ⟨#[46]⟩] t)) fun e w' => ∃ x : ByteArray, e = .returned (.string x) ∧ (x.size : Int) ≤ 24 ∧ Only p w w' ∧ Cur B p w' :=
  pick_strsD B p 9 cap 0 LN t w hC rfl (by decide) (by decide) LN_in
theorem pick_LN1 (B p cap : Nat) (t : TypeId) (w : World) (hC : Cur B p w) :
    Calls Try.prog 48 #[.pointer (some ⟨p, 0, none⟩), .slice (some ⟨w.heap.size, 0, none⟩) 9 cap] (w.alloc (.cells #[.string ⟨#[97]⟩, .string ⟨#[42]⟩, .string ⟨#[40]⟩, .string ⟨#[41]⟩, .string ⟨#[124]⟩, .string ⟨#[91]⟩, .string ⟨#[93]⟩, .string ⟨#[92]⟩, .string ⟨#[46]⟩] t)).drew fun e w' => ∃ x : ByteArray, e = .returned (.string x) ∧ (x.size : Int) ≤ 24 ∧ Only p w w' ∧ Cur B p w' :=
  pick_strsD B p 9 cap 1 LN t w hC rfl (by decide) (by decide) LN_in
theorem pick_LN2 (B p cap : Nat) (t : TypeId) (w : World) (hC : Cur B p w) :
    Calls Try.prog 48 #[.pointer (some ⟨p, 0, none⟩), .slice (some ⟨w.heap.size, 0, none⟩) 9 cap] (w.alloc (.cells #[.string ⟨#[97]⟩, .string ⟨#[42]⟩, .string ⟨#[40]⟩, .string ⟨#[41]⟩, .string ⟨#[124]⟩, .string ⟨#[91]⟩, .string ⟨#[93]⟩, .string ⟨#[92]⟩, .string ⟨#[46]⟩] t)).drew.drew fun e w' => ∃ x : ByteArray, e = .returned (.string x) ∧ (x.size : Int) ≤ 24 ∧ Only p w w' ∧ Cur B p w' :=
  pick_strsD B p 9 cap 2 LN t w hC rfl (by decide) (by decide) LN_in

def strLen : Value → Nat
  | .string s => s.size
  | _ => 0

end Dr
end Go.Proofs.Ytjlchfielpfehaa
