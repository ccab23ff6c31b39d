/-
  The laws' comparisons and marks: eqIntS, eqPlaceS, markText, markPlaceS, markIntS, heldIntS.
-/
import Derived.Test.YtnbnbohhbflgaalCloCopy
namespace Go.Proofs.Ytnbnbohhbflgaal
open Go.RowKit
namespace Clo

/-- Numbers that can be read, at the head of a block. -/
def Reads (w : World) (ao : Option Addr) (l : List Int) : Prop := ∀ i x, l[i]? = some x → ∃ g, ao = some ⟨g, 0, none⟩ ∧ g < w.heap.size ∧ w.cell? ⟨g, i, none⟩ = some (.int .i64 x)

theorem Is.reads {g : Nat} {l : List Int} {w : World} (h : Is g l w) : Reads w (some ⟨g, 0, none⟩) l := fun _ _ hi => ⟨g, rfl, h.lt, is_cell h hi⟩
theorem own_reads {B : Nat} {w : World} {v : Value} {l : List Int} (h : OwnInts B w v l) : ∃ ao cap, v = .slice ao l.length cap ∧ Reads w ao l := by
  unfold OwnInts at h
  obtain ⟨ao, cap, rfl⟩ := owns_len h
  refine ⟨ao, cap, rfl, fun i x hi => ?_⟩
  have hl : 0 < l.length := by have := (List.getElem?_eq_some_iff.1 hi).1; omega
  obtain ⟨g, cap', he, hg, _⟩ := owns_form h hl
  simp at he
  obtain ⟨rfl, rfl⟩ := he
  exact ⟨g, rfl, (h.lt g rfl).2, owns_cell h hi⟩
theorem Reads.below {w w' : World} {ao : Option Addr} {l : List Int} (h : Reads w ao l) (hb : Below w.heap.size w w') : Reads w' ao l := by
  intro i x hi
  obtain ⟨g, e, hl, hc⟩ := h i x hi
  exact ⟨g, e, Nat.lt_of_lt_of_le hl hb.size, (hb.cell (p := ⟨g, i, none⟩) hl).trans hc⟩

set_option maxRecDepth 100000 in
theorem lEqIntS {a1 a2 : Option Addr} {c1 c2 : Nat} {l : List Int} {w : World} (h1 : Reads w a1 l) (h2 : Reads w a2 l) (hn : l.length ≤ 4000000) :
    Calls Try.prog 13 #[.slice a1 l.length c1, .slice a2 l.length c2] w fun e w' => e = .returned (.bool true) ∧ ∃ n, w' = w.drewN n := by
  have bn : (l.length : Int) ≤ 4000000 := by omega
  go_enter Try.func13, Try.ntmps13
  go_wp2_with fail
  go_loopw [5] (fun i wr => ∃ k m : Nat, i = .int .i64 k ∧ k ≤ l.length ∧ wr = w.drewN m) (fun i _ => l.length - (intOf i).toNat)
  case atStart => exact ⟨0, 0, rfl, Nat.zero_le _, rfl⟩
  case round =>
    obtain ⟨k, m, rfl, hk, rfl⟩ := hrel
    by_cases hkl : k < l.length
    · obtain ⟨g1, rfl, _, q1⟩ := h1 k l[k] (List.getElem?_eq_getElem hkl)
      obtain ⟨g2, rfl, _, q2⟩ := h2 k l[k] (List.getElem?_eq_getElem hkl)
      generalize l[k] = x at q1 q2
      go_wp2_with fail
      go_quiet (fail)
      go_wp2_with fail
      go_roundw
      case rel => exact ⟨k + 1, _, by go_num, hkl, rfl⟩
      case measure => simp [intOf]; omega
    · obtain rfl : k = l.length := by omega
      go_wp2_with fail
      go_ret
      exact ⟨rfl, m, rfl⟩

theorem lEqPlace (p : Pl) (w : World) :
    Calls Try.prog 22 #[.agg #[.int .i64 p.op, .int .i64 p.c, .string p.set, .bool p.no, .int .i64 p.a, .int .i64 p.b], .agg #[.int .i64 p.op, .int .i64 p.c, .string p.set, .bool p.no, .int .i64 p.a, .int .i64 p.b]] w fun e w' => e = .returned (.bool true) ∧ Below w.heap.size w w' := by
  go_enter Try.func22, Try.ntmps22
  go_wp2_with fail
  go_ret
  exact ⟨rfl, ((Below.refl _ w).alloc (Nat.le_refl _) _).alloc (by simp) _⟩

set_option maxRecDepth 100000 in
theorem lEqPlaceS {g1 g2 n : Nat} {P : Nat → Pl} {w : World} (h1 : Ps g1 n P w) (h2 : Ps g2 n P w) (hn : n ≤ 1048576) :
    Calls Try.prog 9 #[.slice (some ⟨g1, 0, none⟩) n n, .slice (some ⟨g2, 0, none⟩) n n] w fun e w' => e = .returned (.bool true) ∧ Below w.heap.size w w' := by
  have bn : (n : Int) ≤ 1048576 := by omega
  have l1 := h1.lt
  have l2 := h2.lt
  go_enter Try.func9, Try.ntmps9
  go_wp2_with fail
  go_loopw [5] (fun i wr => ∃ k : Nat, i = .int .i64 k ∧ k ≤ n ∧ Below w.heap.size w wr) (fun i _ => n - (intOf i).toNat)
  case atStart => exact ⟨0, rfl, Nat.zero_le _, Below.refl _ _⟩
  case round =>
    obtain ⟨k, rfl, hk, hb⟩ := hrel
    by_cases hkl : k < n
    · have hP1 := h1.kept (hb.block _ l1)
      have hP2 := h2.kept (hb.block _ l2)
      have p0 := ps_at hP1 hkl 0 (by omega)
      have p1 := ps_at hP1 hkl 1 (by omega)
      have p2 := ps_at hP1 hkl 2 (by omega)
      have p3 := ps_at hP1 hkl 3 (by omega)
      have p4 := ps_at hP1 hkl 4 (by omega)
      have p5 := ps_at hP1 hkl 5 (by omega)
      have q0 := ps_at hP2 hkl 0 (by omega)
      have q1 := ps_at hP2 hkl 1 (by omega)
      have q2 := ps_at hP2 hkl 2 (by omega)
      have q3 := ps_at hP2 hkl 3 (by omega)
      have q4 := ps_at hP2 hkl 4 (by omega)
      have q5 := ps_at hP2 hkl 5 (by omega)
      simp only [cellP, Nat.add_zero] at p0 p1 p2 p3 p4 p5 q0 q1 q2 q3 q4 q5
      have call := lEqPlace (P k) wr.drew
      go_wp2_with fail
      go_region_with (first | (go_at_call 22; refine call.mono ?_; rintro e w2 ⟨rfl, hb2⟩))
      all_goals go_wp2_with fail
      all_goals go_roundw
      all_goals try (simp only [intOf]; omega)
      all_goals exact ⟨k + 1, by go_num, hkl, hb.trans (Below.mono (w := wr) (B := wr.heap.size) ⟨hb2.os, hb2.tape, hb2.output, hb2.size, hb2.block⟩ hb.size)⟩
    · obtain rfl : k = n := by omega
      go_wp2_with fail
      go_ret
      exact ⟨rfl, hb⟩

theorem grown_of_below {w w' : World} (h : Below w.heap.size w w') (row : Option Nat) : w.grownBy w' row := ⟨h.os, h.tape, h.output, h.size, fun k hk _ => h.block k hk⟩

theorem byte_new (w : World) (c : UInt8) (x : Int) (hx : x = c.toNat) :
    (convert 51 9 (.slice (some ⟨w.heap.size, 0, none⟩) 1 1)).run Try.prog (w.alloc (.cells #[.int .u8 x] 5)) = .ok (.string ⟨#[c]⟩) (w.alloc (.cells #[.int .u8 x] 5)) := by
  subst hx
  have := run_convert_bytes_back (P := Try.prog) (w.alloc (.cells #[.int .u8 (c.toNat : Int)] 5)) 51 9 5 ⟨w.heap.size, 0, none⟩ 1 [c] Try.underlying51 Try.underlying5 Try.underlying9 (by
    intro j hj
    have h0 : j = 0 := by simpa using hj
    subst h0
    simp [Addr.add])
  exact this

set_option maxRecDepth 100000 in
theorem lMarkText (k : Nat) (h1 : 1 ≤ k) (h2 : k ≤ 10000000) (w : World) :
    Calls Try.prog 28 #[.int .i64 k] w fun e w' => (∃ s, e = .returned (.string s)) ∧ Below w.heap.size w w' := by
  have k1 : (1 : Int) ≤ k := by omega
  have k2 : (k : Int) ≤ 10000000 := by omega
  go_enter Try.func28, Try.ntmps28
  go_wp2_with fail
  go_loopw [0, 3] (fun kv ov wr => ∃ (n : Nat) (out : ByteArray), kv = .int .i64 n ∧ ov = .string out ∧ n + out.size ≤ 20000000 ∧ Below w.heap.size w wr) (fun kv _ _ => (intOf kv).toNat)
  case atStart => exact ⟨k, ⟨#[]⟩, rfl, rfl, by show k + 0 ≤ 20000000; omega, Below.refl _ _⟩
  case round =>
    obtain ⟨n, out, rfl, rfl, hn, hb⟩ := hrel
    have HF : Hid (n + out.size ≤ 20000000) := hn
    have o2 : (out.size : Int) ≤ 20000000 := by omega
    have n2 : (n : Int) ≤ 20000000 := by omega
    clear k1 k2 h1 h2 hn
    by_cases hz : n = 0
    · subst hz
      clear HF
      go_wp2_with fail
      go_ret
      exact ⟨⟨_, rfl⟩, hb⟩
    · have HF := HF
      have n1 : (0 : Int) < n := by omega
      clear hz
      obtain ⟨c, hc⟩ : ∃ c, c = UInt8.ofNat (48 + n % 10) := ⟨_, rfl⟩
      have hcv := byte_new wr c (48 + (n : Int) % 10) (by rw [hc]; simp; omega)
      clear hc
      go_wp2_with fail
      go_roundw
      case rel =>
        have h2 := HF.out
        refine ⟨n / 10, _, by simp, rfl, ?_, hb.alloc hb.size _⟩
        rw [ByteArray.size_append]
        show n / 10 + (1 + out.size) ≤ 20000000
        omega
      case measure => simp [intOf]; omega

/-- A list of numbers k, k + 1, .. in the place of what was there, up to i. -/
def numsFrom (k n : Nat) : List Int := (List.range n).map fun (i : Nat) => ((k + i : Nat) : Int)
theorem numsFrom_len (k n : Nat) : (numsFrom k n).length = n := by simp [numsFrom]
theorem numsFrom_get (k : Nat) {n i : Nat} (h : i < n) : (numsFrom k n)[i]? = some ((k + i : Nat) : Int) := by simp [numsFrom, h]

theorem owns_put {w : World} {B g n cap : Nat} {xs : List Value} (h : w.ownsRow B 3 1 (.slice (some ⟨g, 0, none⟩) n cap) n xs) (k : Nat) (x : Int) : (w.setCell ⟨g, k, none⟩ (.int .i64 x)).ownsRow B 3 1 (.slice (some ⟨g, 0, none⟩) n cap) n (xs.set k (.int .i64 x)) := (h.stored k _).1

theorem is_owns {g : Nat} {l : List Int} {w : World} (h : Is g l w) (hn : l.length ≤ 4000000) : w.ownsRow g 3 1 (.slice (some ⟨g, 0, none⟩) l.length l.length) l.length (ints l) :=
  ⟨by rw [ints_len]; omega, .inr ⟨g, l.length, (ints l).toArray, rfl, Nat.le_refl _, h, Nat.le_refl _, by unfold maxLen; omega, by simp [ints], by rw [Nat.mul_one]; exact List.take_of_length_le (by simp [ints])⟩⟩

def mix (k i : Nat) (l : List Int) : List Int := numsFrom k i ++ l.drop i
theorem mix_zero (k : Nat) (l : List Int) : mix k 0 l = l := by simp [mix, numsFrom]
theorem mix_all (k : Nat) (l : List Int) : mix k l.length l = numsFrom k l.length := by simp [mix]
theorem mix_len (k : Nat) {i : Nat} {l : List Int} (h : i ≤ l.length) : (mix k i l).length = l.length := by simp [mix, numsFrom_len]; omega
theorem mix_next (k : Nat) {i : Nat} {l : List Int} (h : i < l.length) : (mix k i l).set i ((k + i : Nat) : Int) = mix k (i + 1) l := by
  apply List.ext_getElem?
  intro j
  rw [List.getElem?_set, mix_len k (by omega)]
  unfold mix
  by_cases e : i = j
  · subst e
    rw [if_pos rfl, if_pos h, List.getElem?_append_left (by rw [numsFrom_len]; omega), numsFrom_get k (by omega)]
  · rw [if_neg e]
    by_cases h2 : j < i
    · rw [List.getElem?_append_left (by rw [numsFrom_len]; omega), List.getElem?_append_left (by rw [numsFrom_len]; omega), numsFrom_get k h2, numsFrom_get k (by omega)]
    · rw [List.getElem?_append_right (by rw [numsFrom_len]; omega), List.getElem?_append_right (by rw [numsFrom_len]; omega), numsFrom_len, numsFrom_len, List.getElem?_drop, List.getElem?_drop]
      congr 1
      omega

set_option maxRecDepth 100000 in
theorem lMarkIntS {B k : Nat} {v : Value} {l : List Int} {w : World} (h : w.ownsRow B 3 1 v l.length (ints l)) (hn : l.length ≤ 4000000) (hk : k ≤ 8000000) :
    Calls Try.prog 15 #[v, .int .i64 k] w fun e w' => e = .returned (.int .i64 ((k + l.length : Nat) : Int)) ∧ w'.ownsRow B 3 1 v l.length (ints (numsFrom k l.length)) ∧ w.grownBy w' v.ownBlock := by
  have bn : (l.length : Int) ≤ 4000000 := by omega
  have bk : (k : Int) ≤ 8000000 := by omega
  obtain ⟨ao, cap, rfl⟩ := owns_len h
  go_enter Try.func15, Try.ntmps15
  go_wp2_with fail
  go_loopw [1, 5] (fun kv iv wr => ∃ i : Nat, iv = .int .i64 i ∧ kv = .int .i64 ((k + i : Nat) : Int) ∧ i ≤ l.length ∧ wr.ownsRow B 3 1 (.slice ao l.length cap) l.length (ints (mix k i l)) ∧ w.grownBy wr (Value.ownBlock (.slice ao l.length cap))) (fun _ iv _ => l.length - (intOf iv).toNat)
  case atStart => exact ⟨0, rfl, rfl, Nat.zero_le _, by rw [mix_zero]; exact h, World.grownBy.refl _ _⟩
  case round =>
    obtain ⟨i, rfl, rfl, hi, ho, hg⟩ := hrel
    by_cases hil : i < l.length
    · obtain ⟨g, cap', he, hgB, _⟩ := owns_form ho (by omega)
      simp at he
      obtain ⟨rfl, rfl⟩ := he
      obtain ⟨y, hy⟩ : ∃ y, (mix k i l)[i]? = some y := ⟨_, List.getElem?_eq_getElem (by rw [mix_len k hi]; exact hil)⟩
      have q0 := owns_cell ho hy
      have fz := ho.frozenAt i
      have hS := ho.stored i (.int .i64 ((k + i : Nat) : Int))
      have HM : Hid ((ints (mix k i l)).set i (.int .i64 ((k + i : Nat) : Int)) = ints (mix k (i + 1) l)) := by
        show _ = _
        rw [← mix_next k hil]
        simp [ints, List.map_set]
      have HS : Hid ((wr.setCell ⟨g, i, none⟩ (.int .i64 ((k + i : Nat) : Int))).ownsRow B 3 1 (.slice (some ⟨g, 0, none⟩) l.length cap) l.length (ints (mix k (i + 1) l)) ∧ wr.grownBy (wr.setCell ⟨g, i, none⟩ (.int .i64 ((k + i : Nat) : Int))) (some g)) := by rw [← HM.out]; exact hS
      obtain ⟨ki, hki⟩ : ∃ ki, ki = k + i := ⟨_, rfl⟩
      have HK : Hid (ki = k + i) := hki
      have bki : (ki : Int) ≤ 12000000 := by omega
      rw [← hki] at HS ⊢
      clear hS HM hki
      go_wp2_with fail
      go_roundw
      case rel => exact ⟨i + 1, by go_num, by have := HK.out; congr 1; omega, hil, HS.out.1, hg.trans HS.out.2⟩
      case measure => simp [intOf]; omega
    · obtain rfl : i = l.length := by omega
      rw [mix_all] at ho
      go_wp2_with fail
      go_ret
      exact ⟨rfl, ho, hg⟩

set_option maxRecDepth 100000 in
theorem lHeldIntS {k n cap : Nat} {ao : Option Addr} {w : World} (h : Reads w ao (numsFrom k n)) (hn : n ≤ 4000000) (hk : k ≤ 8000000) :
    Calls Try.prog 16 #[.slice ao n cap, .int .i64 k] w fun e w' => e = .returned (.int .i64 ((k + n : Nat) : Int)) ∧ w' = w := by
  have bn : (n : Int) ≤ 4000000 := by omega
  have bk : (k : Int) ≤ 8000000 := by omega
  go_enter Try.func16, Try.ntmps16
  go_wp2_with fail
  go_loopw [1, 5] (fun kv iv wr => ∃ i : Nat, iv = .int .i64 i ∧ kv = .int .i64 ((k + i : Nat) : Int) ∧ i ≤ n ∧ wr = w) (fun _ iv _ => n - (intOf iv).toNat)
  case atStart => exact ⟨0, rfl, rfl, Nat.zero_le _, rfl⟩
  case round =>
    obtain ⟨i, rfl, rfl, hi, hw⟩ := hrel
    have hw := hw.symm
    subst hw
    by_cases hil : i < n
    · obtain ⟨g, rfl, hgl, q0⟩ := h i _ (numsFrom_get k hil)
      obtain ⟨ki, hki⟩ : ∃ ki, ki = k + i := ⟨_, rfl⟩
      have HK : Hid (ki = k + i) := hki
      have bki : (ki : Int) ≤ 12000000 := by omega
      rw [← hki] at q0 ⊢
      clear hki
      go_wp2_with fail
      go_roundw
      case rel => exact ⟨i + 1, by go_num, by have := HK.out; congr 1; omega, hil, trivial⟩
      case measure => simp [intOf]; omega
    · obtain rfl : i = n := by omega
      go_wp2_with fail
      go_ret
      exact ⟨rfl, rfl⟩

/-- A block with cells for n places, whatever they hold. -/
def Row6 (g n : Nat) (w : World) : Prop := ∃ arr : Array Value, w.heap[g]? = some (.cells arr 40 (0, 0)) ∧ arr.size = n * 6

theorem Ps.row6 {g n : Nat} {P : Nat → Pl} {w : World} (h : Ps g n P w) : Row6 g n w := ⟨_, h, flat_size P n⟩
theorem row6_cell {g n : Nat} {w : World} (h : Row6 g n w) {i : Nat} (hi : i < n * 6) : ∃ v, w.cell? ⟨g, i, none⟩ = some v := by
  obtain ⟨arr, h1, h2⟩ := h
  rw [cell_of_row w g i _ _ _ h1]
  exact ⟨_, Array.getElem?_eq_getElem (by omega)⟩
theorem row6_frozen {g n : Nat} {w : World} (h : Row6 g n w) (i : Nat) : w.frozen? ⟨g, i, none⟩ = false := by
  obtain ⟨arr, h1, h2⟩ := h
  simp [World.frozen?, h1]
theorem row6_lt {g n : Nat} {w : World} (h : Row6 g n w) : g < w.heap.size := by
  obtain ⟨arr, h1, h2⟩ := h
  rcases Nat.lt_or_ge g w.heap.size with h' | h'
  · exact h'
  · rw [Array.getElem?_eq_none h'] at h1; simp at h1
theorem row6_set {g n : Nat} {w : World} (h : Row6 g n w) (i : Nat) (v : Value) : Row6 g n (w.setCell ⟨g, i, none⟩ v) := by
  obtain ⟨arr, h1, h2⟩ := h
  exact ⟨arr.set! i v, by simp [World.setCell, Array.getElem?_modify, h1], by simp [h2]⟩
theorem row6_kept {g n : Nat} {w w' : World} (h : Row6 g n w) (hw : w'.heap[g]? = w.heap[g]?) : Row6 g n w' := by
  obtain ⟨arr, h1, h2⟩ := h
  exact ⟨arr, hw.trans h1, h2⟩

set_option maxHeartbeats 4000000 in
set_option maxRecDepth 100000 in
theorem lMarkPlaceS {g n : Nat} {w : World} (h : Row6 g n w) (hn : n ≤ 1048576) :
    Calls Try.prog 14 #[.slice (some ⟨g, 0, none⟩) n n, .int .i64 1] w fun e w' => e = .returned (.int .i64 ((1 + 6 * n : Nat) : Int)) ∧ w.grownBy w' (some g) := by
  have bn : (n : Int) ≤ 1048576 := by omega
  go_enter Try.func14, Try.ntmps14
  go_wp2_with fail
  go_loopw [1, 5] (fun kv iv wr => ∃ i : Nat, iv = .int .i64 i ∧ kv = .int .i64 ((1 + 6 * i : Nat) : Int) ∧ i ≤ n ∧ Row6 g n wr ∧ w.grownBy wr (some g)) (fun _ iv _ => n - (intOf iv).toNat)
  case atStart => exact ⟨0, rfl, rfl, Nat.zero_le _, h, World.grownBy.refl _ _⟩
  case round =>
    obtain ⟨i, rfl, rfl, hi, hr, hg⟩ := hrel
    by_cases hil : i < n
    · obtain ⟨v0, p0⟩ := row6_cell hr (i := i * 6) (by omega)
      obtain ⟨v1, p1⟩ := row6_cell hr (i := i * 6 + 1) (by omega)
      obtain ⟨v2, p2⟩ := row6_cell hr (i := i * 6 + 2) (by omega)
      obtain ⟨v3, p3⟩ := row6_cell hr (i := i * 6 + 3) (by omega)
      obtain ⟨v4, p4⟩ := row6_cell hr (i := i * 6 + 4) (by omega)
      obtain ⟨v5, p5⟩ := row6_cell hr (i := i * 6 + 5) (by omega)
      have fz := row6_frozen hr
      have hgl := row6_lt hr
      obtain ⟨k0, hk0⟩ : ∃ k0, k0 = 1 + 6 * i := ⟨_, rfl⟩
      have HK : Hid (k0 = 1 + 6 * i) := hk0
      have bk0 : (k0 : Int) ≤ 6291457 := by omega
      obtain ⟨k2, hk2⟩ : ∃ k2, k2 = k0 + 2 := ⟨_, rfl⟩
      have t2 : (k0 : Int) + 1 + 1 = (k2 : Int) := by omega
      have c1 : 1 ≤ k2 := by omega
      have c2 : k2 ≤ 10000000 := by omega
      have bk2 : (k2 : Int) ≤ 10000000 := by omega
      rw [← hk0]
      clear hk0
      have HK2 : Hid (k2 = k0 + 2) := hk2
      clear hk2
      go_wp2_with fail
      refine (lMarkText k2 c1 c2 _).mono ?_
      rintro e w2 ⟨⟨s, rfl⟩, hb2⟩
      have hr2 : Row6 g n w2 := row6_kept (row6_set (row6_set hr (i * 6) (.int .i64 k0)) (i * 6 + 1) (.int .i64 ((k0 : Int) + 1))) (hb2.block _ (by simpa using hgl))
      obtain ⟨u2, r2⟩ := row6_cell hr2 (i := i * 6 + 2) (by omega)
      obtain ⟨u3, r3⟩ := row6_cell hr2 (i := i * 6 + 3) (by omega)
      obtain ⟨u4, r4⟩ := row6_cell hr2 (i := i * 6 + 4) (by omega)
      obtain ⟨u5, r5⟩ := row6_cell hr2 (i := i * 6 + 5) (by omega)
      have fz2 := row6_frozen hr2
      have hg2 : w.grownBy w2 (some g) := (hg.trans ((grown_set wr ⟨g, i * 6, none⟩ (.int .i64 k0)).trans (grown_set _ ⟨g, i * 6 + 1, none⟩ (.int .i64 ((k0 : Int) + 1))))).trans (grown_of_below hb2 _)
      go_wp2_with fail
      go_roundw
      case rel =>
        have e1 := HK.out
        have e2 := HK2.out
        refine ⟨i + 1, by go_num, by congr 1; omega, hil, row6_set (row6_set (row6_set (row6_set hr2 _ _) _ _) _ _) _ _, ?_⟩
        exact ((((hg2.trans (grown_set _ ⟨g, i * 6 + 2, none⟩ _)).trans (grown_set _ ⟨g, i * 6 + 3, none⟩ _)).trans (grown_set _ ⟨g, i * 6 + 4, none⟩ _)).trans (grown_set _ ⟨g, i * 6 + 5, none⟩ _))
      case measure => simp [intOf]; omega
    · obtain rfl : i = n := by omega
      go_wp2_with fail
      go_ret
      exact ⟨rfl, hg⟩

end Clo
end Go.Proofs.Ytnbnbohhbflgaal
