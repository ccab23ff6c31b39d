/-
  The laws' marks: markText, lists of texts.
-/
import Derived.Test.YtipjgkekjocljaaNdTree
namespace Go.Proofs.Ytipjgkekjocljaa
open Go.RowKit
namespace Mk
open Nd

def dig : Nat → Nat → ByteArray → ByteArray
  | 0, _, out => out
  | f + 1, k, out => if k = 0 then out else dig f (k / 10) ((⟨#[UInt8.ofNat (48 + k % 10)]⟩ : ByteArray) ++ out)
def markT (k : Nat) : ByteArray := (⟨#[109]⟩ : ByteArray) ++ dig (k + 1) k ⟨#[]⟩

theorem dig_step {f k : Nat} (hk : 0 < k) (out : ByteArray) : dig (f + 1) k out = dig f (k / 10) ((⟨#[UInt8.ofNat (48 + k % 10)]⟩ : ByteArray) ++ out) := by
  rw [dig, if_neg (by omega)]
theorem dig_zero (f : Nat) (out : ByteArray) : dig f 0 out = out := by cases f <;> simp [dig]

theorem byte_new (w : World) (c : UInt8) (x : Int) (hx : x = c.toNat) :
    (convert 70 9 (.slice (some ⟨w.heap.size, 0, none⟩) 1 1)).run Try.prog (w.alloc (.cells #[.int .u8 x] 5)) = .ok (.string ⟨#[c]⟩) (w.alloc (.cells #[.int .u8 x] 5)) := by
  subst hx
  have := run_convert_bytes_back (P := Try.prog) (w.alloc (.cells #[.int .u8 (c.toNat : Int)] 5)) 70 9 5 ⟨w.heap.size, 0, none⟩ 1 [c] Try.underlying70 Try.underlying5 Try.underlying9 (by
    intro j hj
    have h0 : j = 0 := by simpa using hj
    subst h0
    simp [Addr.add])
  exact this

set_option maxRecDepth 100000 in
theorem lMarkText (k : Nat) (h1 : 1 ≤ k) (h2 : k ≤ 40000000) (w : World) :
    Calls Try.prog 36 #[.int .i64 k] w fun e w' => e = .returned (.string (markT k)) ∧ Below w.heap.size w w' := by
  obtain ⟨R, hR⟩ : ∃ R, R = dig (k + 1) k ⟨#[]⟩ := ⟨_, rfl⟩
  have HR : Hid (dig (k + 1) k ⟨#[]⟩ = R) := hR.symm
  have hm : markT k = (⟨#[109]⟩ : ByteArray) ++ R := by rw [hR]; rfl
  rw [hm]
  clear hR hm
  have k1 : (1 : Int) ≤ k := by omega
  have k2 : (k : Int) ≤ 40000000 := by omega
  go_enter Try.func36, Try.ntmps36
  go_wp2_with fail
  go_loopw [0, 3] (fun kv ov wr => ∃ (n f : Nat) (out : ByteArray), kv = .int .i64 n ∧ ov = .string out ∧ n < f ∧ n + out.size ≤ 40000000 ∧ dig f n out = R ∧ Below w.heap.size w wr) (fun kv _ _ => (intOf kv).toNat)
  case atStart => exact ⟨k, k + 1, ⟨#[]⟩, rfl, rfl, by omega, by show k + 0 ≤ 40000000; omega, HR.out, Below.refl _ _⟩
  case round =>
    obtain ⟨n, f, out, rfl, rfl, hf, hn, hd, hb⟩ := hrel
    have HF : Hid (n < f ∧ n + out.size ≤ 40000000) := ⟨hf, hn⟩
    have o2 : (out.size : Int) ≤ 40000000 := by omega
    clear k1 k2 h1 h2 HR hn
    by_cases hz : n = 0
    · subst hz
      rw [dig_zero] at hd
      subst hd
      clear hf HF
      go_wp2_with fail
      go_ret
      exact ⟨rfl, hb⟩
    · obtain ⟨f, rfl⟩ : ∃ g, f = g + 1 := ⟨f - 1, by omega⟩
      rw [dig_step (by omega)] at hd
      have HD : Hid (dig f (n / 10) ((⟨#[UInt8.ofNat (48 + n % 10)]⟩ : ByteArray) ++ out) = R) := hd
      have HF := HF
      clear hd hf
      have n1 : (0 : Int) < n := by omega
      have n2 : (n : Int) ≤ 40000000 := by have := HF.out.2; omega
      clear hz
      obtain ⟨c, hc⟩ : ∃ c, c = UInt8.ofNat (48 + n % 10) := ⟨_, rfl⟩
      have hcv := byte_new wr c (48 + (n : Int) % 10) (by rw [hc]; simp; omega)
      rw [← hc] at HD
      clear hc
      go_wp2_with fail
      go_roundw
      case rel =>
        have h1 := HF.out.1
        have h2 := HF.out.2
        refine ⟨n / 10, f, _, by simp, rfl, by omega, ?_, HD.out, hb.alloc hb.size _⟩
        rw [ByteArray.size_append]
        show n / 10 + (1 + out.size) ≤ 40000000
        omega
      case measure => simp [intOf]; omega


theorem frozen_of_row {w : World} {q : Nat} {cs : Array Value} {t : TypeId} (h : w.heap[q]? = some (.cells cs t (0, 0))) (k : Nat) : w.frozen? ⟨q, k, none⟩ = false := by simp [World.frozen?, h]
theorem owns_set {w : World} {B e size n cap g : Nat} {xs : List Value} (h : w.ownsRow B e size (.slice (some ⟨g, 0, none⟩) n cap) n xs) (i : Nat) (x : Value) : (w.setCell ⟨g, i, none⟩ x).ownsRow B e size (.slice (some ⟨g, 0, none⟩) n cap) n (xs.set i x) := by
  refine ⟨by simpa using h.1, .inr ?_⟩
  rcases h.2 with ⟨hv, _⟩ | ⟨g', cap', cur, hv, hB, hg, h1, h2, h3, h4⟩
  · simp at hv
  · simp only [Value.slice.injEq, Option.some.injEq, Addr.mk.injEq] at hv
    obtain ⟨⟨rfl, _, _⟩, _, rfl⟩ := hv
    refine ⟨g, cap, cur.set! i x, rfl, hB, ?_, h1, h2, by simpa using h3, ?_⟩
    · simp [World.setCell, Array.getElem?_modify, hg]
    · rw [← h4]
      simp [Array.set!_eq_setIfInBounds, List.take_set]
theorem row_block {w : World} {B e size n cap g : Nat} {xs : List Value} (h : w.ownsRow B e size (.slice (some ⟨g, 0, none⟩) n cap) n xs) : ∃ cs, w.heap[g]? = some (.cells cs e (0, 0)) := by
  rcases h.2 with ⟨h, _⟩ | ⟨g', cap', cur, h, _, h2, _⟩
  · simp at h
  · simp only [Value.slice.injEq, Option.some.injEq, Addr.mk.injEq] at h
    obtain ⟨⟨rfl, _, _⟩, _⟩ := h
    exact ⟨cur, h2⟩
theorem set_far (w : World) (g : Nat) (x : Value) {i j : Nat} (h : j ≠ i) : (w.setCell ⟨g, i, none⟩ x).cell? ⟨g, j, none⟩ = w.cell? ⟨g, j, none⟩ := World.cell?_setCell_other _ _ _ _ (by simp <;> omega)
theorem set_fz (w : World) (a : Addr) (x : Value) (b : Addr) : (w.setCell a x).frozen? b = w.frozen? b := by simp

/-- Only blocks of S, and the list's own, have turned. -/
structure Turned (S : Nat → Prop) (v : Value) (w w' : World) : Prop where
  os : w'.os = w.os
  tape : w'.tape = w.tape
  output : w'.output = w.output
  size : w.heap.size ≤ w'.heap.size
  block : ∀ j, j < w.heap.size → ¬ S j → v.ownBlock ≠ some j → w'.heap[j]? = w.heap[j]?
theorem Turned.refl (S : Nat → Prop) (v : Value) (w : World) : Turned S v w w := ⟨rfl, rfl, rfl, Nat.le_refl _, fun _ _ _ _ => rfl⟩

end Mk
end Go.Proofs.Ytipjgkekjocljaa
