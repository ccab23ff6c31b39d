/-
  Numbers that are read behind a place that a pointer holds, the program's: takeNum.
-/
import Derived.Test.YtmhmoopijfhhbaaBtPut
namespace Go.Proofs.Ytmhmoopijfhhbaa
open Go.RowKit
namespace Bt
set_option linter.unusedSimpArgs false
set_option linter.unusedVariables false

/-- Of all blocks that are there, none but block p has turned. -/
structure Only (p : Nat) (w w' : World) : Prop where
  os : w'.os = w.os
  tape : w'.tape = w.tape
  output : w'.output = w.output
  size : w.heap.size ≤ w'.heap.size
  block : ∀ k, k ≠ p → k < w.heap.size → w'.heap[k]? = w.heap[k]?

theorem Only.refl (p : Nat) (w : World) : Only p w w := ⟨rfl, rfl, rfl, Nat.le_refl _, fun _ _ _ => rfl⟩
theorem Only.trans {p : Nat} {a b c : World} (h : Only p a b) (k : Only p b c) : Only p a c :=
  ⟨k.os.trans h.os, k.tape.trans h.tape, k.output.trans h.output, Nat.le_trans h.size k.size, fun j hj hl => (k.block j hj (Nat.lt_of_lt_of_le hl h.size)).trans (h.block j hj hl)⟩
theorem Only.set (p : Nat) (w : World) (u : Value) : Only p w (w.setCell ⟨p, 0, none⟩ u) := by
  have hb : Below p w (w.setCell ⟨p, 0, none⟩ u) := (Below.refl p w).setCell (Nat.le_refl _) u
  exact ⟨hb.os, hb.tape, hb.output, hb.size, fun k hk _ => Below.heap_setCell w ⟨p, 0, none⟩ u k hk⟩
theorem Only.below {p B : Nat} {w w' : World} (h : Only p w w') (hp : B ≤ p) (hB : B ≤ w.heap.size) : Below B w w' :=
  ⟨h.os, h.tape, h.output, h.size, fun k hk => h.block k (by omega) (by omega)⟩
theorem Rd.only {p g : Nat} {w w' : World} {L : List UInt8} (h : Rd w (some ⟨g, 0, none⟩) L) (ho : Only p w w') (hne : g ≠ p) : Rd w' (some ⟨g, 0, none⟩) L :=
  h.same ho.size fun a e hl => ho.block _ (by simp only [Option.some.injEq] at e; subst e; exact hne) hl

/-- A variable that holds an int. -/
def At (p : Nat) (i : Int) (w : World) : Prop := w.heap[p]? = some (.cells #[.int .i64 i] 3 (0, 0))
theorem At.cell {p : Nat} {i : Int} {w : World} (h : At p i w) : w.cell? ⟨p, 0, none⟩ = some (.int .i64 i) := (cell_of_row w p 0 _ _ _ h).trans rfl
theorem At.frozen {p : Nat} {i : Int} {w : World} (h : At p i w) : w.frozen? ⟨p, 0, none⟩ = false := by unfold At at h; simp [World.frozen?, h]
theorem At.put {p : Nat} {i : Int} {w : World} (h : At p i w) (j : Int) : At p j (w.setCell ⟨p, 0, none⟩ (.int .i64 j)) := by
  unfold At at *
  simp [World.setCell, Array.getElem?_modify, h]
theorem At.lt {p : Nat} {i : Int} {w : World} (h : At p i w) : p < w.heap.size := by
  unfold At at h
  rcases Nat.lt_or_ge p w.heap.size with h' | h'
  · exact h'
  · rw [Array.getElem?_eq_none h'] at h; simp at h

/-- The number that is read, the place behind it; 0 and nowhere. -/
def nOf (o : Option (Nat × Nat)) : Int := ((o.map (·.1)).getD 0 : Nat)
def jOf {α : Type} : Option (α × Nat) → Int
  | some x => x.2
  | none => -1

theorem pow7 {k : Nat} (h : k ≤ 8) : 2 ^ (7 * k) ≤ 72057594037927936 := by
  have : 2 ^ (7 * k) ≤ 2 ^ 56 := Nat.pow_le_pow_right (by decide) (by omega)
  simpa using this
theorem wrap_shl {m s k : Nat} (hs : s = 7 * k) (hk : k ≤ 8) (hm : m < 128) : IntKind.i64.wrap ((m : Int) * 2 ^ s) = ((m * 2 ^ (7 * k) : Nat) : Int) := by
  subst hs
  have h1 := pow7 hk
  have h2 : m * 2 ^ (7 * k) ≤ 127 * 72057594037927936 := Nat.mul_le_mul (by omega) h1
  have e : ((m : Int) * 2 ^ (7 * k)) = ((m * 2 ^ (7 * k) : Nat) : Int) := by push_cast; rfl
  rw [e]
  exact Lib.wrap_i64_small _ (by omega)
theorem shl_at {m s k : Nat} (hs : s = 7 * k) (hk : k ≤ 8) (hm : m < 128) : Op.shift .shl .i64 (m : Int) .i64 (s : Int) = pure (.int .i64 ((m * 2 ^ (7 * k) : Nat) : Int)) := by
  rw [shift_shl .i64 .i64 (m : Int) (s : Int) (by omega) (by show (s : Int) ≤ 64; omega), ← wrap_shl hs hk hm]
  simp

set_option maxHeartbeats 4000000 in
set_option maxRecDepth 100000 in
theorem iTakeNum {g p c : Nat} {i : Int} {b : List UInt8} {w : World} (hR : Rd w (some ⟨g, 0, none⟩) b) (hp : At p i w) (hne : g ≠ p) (hl : b.length ≤ 1048576) :
    Calls Try.prog 28 #[.slice (some ⟨g, 0, none⟩) b.length c, .pointer (some ⟨p, 0, none⟩)] w fun e w' => e = .returned (.int .i64 (nOf (getV b i))) ∧ At p (jOf (getV b i)) w' ∧ Only p w w' := by
  have bl : (b.length : Int) ≤ 1048576 := by omega
  by_cases hi : 0 ≤ i
  · obtain ⟨q, rfl⟩ : ∃ q : Nat, i = (q : Int) := ⟨i.toNat, by omega⟩
    obtain ⟨R, hRR⟩ : ∃ R, R = getL 0 0 (b.drop q) := ⟨_, rfl⟩
    have HG : Hid (getV b (q : Int) = R.map fun x => (x.1, q + x.2)) := by
      show _ = _
      unfold getV
      rw [if_pos hi, hRR]
      simp
    go_enter Try.func28, Try.ntmps28
    go_wp2_with fail
    go_loopw [5, 6] (fun nv sv wr => ∃ k n : Nat, nv = .int .i64 n ∧ sv = .int .i64 ((7 * k : Nat) : Int) ∧ k ≤ 9 ∧ n < 2 ^ (7 * k) ∧ getL k n (b.drop (q + k)) = R ∧ At p ((q + k : Nat) : Int) wr ∧ Only p w wr) (fun _ sv _ => 63 - (intOf sv).toNat)
    case atStart => exact ⟨0, 0, rfl, rfl, by omega, by simp, hRR.symm, hp, Only.refl _ _⟩
    case round =>
      clear hRR hp
      obtain ⟨k, n, rfl, rfl, hk, hn, hg, hA, hO⟩ := hrel
      obtain ⟨s, hs⟩ : ∃ s, s = 7 * k := ⟨_, rfl⟩
      obtain ⟨j, hj⟩ : ∃ j, j = q + k := ⟨_, rfl⟩
      rw [← hs]
      rw [← hj] at hA hg
      have c0 := hA.cell
      have f0 := hA.frozen
      have hpl := hA.lt
      have am := iAm (j : Int) (b.length : Int)
      have j0 : (0 : Int) ≤ j := by omega
      by_cases hk9 : k < 9
      · have s63 : (s : Int) < 63 := by omega
        by_cases hjl : j < b.length
        · have jl : (j : Int) < b.length := by omega
          rw [decide_eq_true ⟨j0, jl⟩] at am
          obtain ⟨x, hx⟩ : ∃ x, b[j]? = some x := ⟨_, List.getElem?_eq_getElem hjl⟩
          obtain ⟨g', o', e', hgl, q0⟩ := (hR.only hO hne) j x hx
          simp only [Option.some.injEq, Addr.mk.injEq] at e'
          obtain ⟨rfl, rfl, _⟩ := e'
          rw [Nat.zero_add] at q0
          have hdr : b.drop j = x :: b.drop (j + 1) := by
            rw [List.drop_eq_getElem_cons hjl]
            congr 1
            have := (List.getElem?_eq_some_iff.1 hx).2
            exact this
          rw [hdr, getL, if_neg (by omega)] at hg
          obtain ⟨d, hd⟩ : ∃ d, d = x.toNat := ⟨_, rfl⟩
          have hd256 : d < 256 := by rw [hd]; exact x.toNat_lt
          rw [← hd] at hg q0
          clear hd hx hdr
          have cA := hA.put ((j : Int) + 1)
          have cO := hO.trans (Only.set p wr (.int .i64 ((j : Int) + 1)))
          have HA : Hid (At p ((j : Int) + 1) (wr.setCell ⟨p, 0, none⟩ (.int .i64 ((j : Int) + 1))) ∧ Only p w (wr.setCell ⟨p, 0, none⟩ (.int .i64 ((j : Int) + 1)))) := ⟨cA, cO⟩
          have c1 := cA.cell
          have f1 := cA.frozen
          clear cA cO
          have hneb : ¬ g = p := hne
          have hp7 := pow7 (show k ≤ 8 by omega)
          have HK : Hid (j = q + k ∧ s = 7 * k ∧ k < 9) := ⟨hj, hs, hk9⟩
          have HN : Hid (n < 2 ^ (7 * k)) := hn
          by_cases h128 : d < 128
          · have hm : (d : Int) % 128 = d := by omega
            have sh1 := shl_at hs (show k ≤ 8 by omega) h128
            have sh2 := wrap_shl hs (show k ≤ 8 by omega) h128
            obtain ⟨V, hV⟩ : ∃ V, V = d * 2 ^ (7 * k) := ⟨_, rfl⟩
            have hV2 : V ≤ 127 * 72057594037927936 := by rw [hV]; exact Nat.mul_le_mul (by omega) hp7
            rw [← hV] at sh1 sh2
            rw [if_pos h128, ← hV] at hg
            obtain ⟨N, hN⟩ : ∃ N, N = n + V := ⟨_, rfl⟩
            have hN2 : (n : Int) + V = (N : Int) := by omega
            have nb : (n : Int) ≤ 72057594037927936 := by omega
            have Vb : (V : Int) ≤ 9151314442816847872 := by omega
            have Nb : (N : Int) ≤ 9223372036854775807 := by omega
            have db : (d : Int) < 128 := by omega
            rw [← hN] at hg
            by_cases hz : 0 < k ∧ d = 0
            · rw [if_pos (.inl hz)] at hg
              have HR : Hid (R = none) := hg.symm
              have sp : (0 : Int) < s := by omega
              obtain ⟨_, rfl⟩ := hz
              clear hg hn hV hN hj hs hk
              go_wp2_with (go_at_call 34; refine (am _).mono ?_; rintro e w2 ⟨rfl, hw⟩; have hw := hw.symm; subst hw)
              go_ret
              rw [HG.out, HR.out]
              exact ⟨rfl, (HA.out.1).put (-1), HA.out.2.trans (Only.set p _ _)⟩
            · by_cases hbig : 4611686018427387903 < N
              · rw [if_pos (.inr hbig)] at hg
                have HR : Hid (R = none) := hg.symm
                have bb : (4611686018427387903 : Int) < N := by omega
                by_cases hd0 : d = 0
                · subst hd0
                  have hk0 : k = 0 := by omega
                  subst hk0
                  simp at hV
                  omega
                · have d0 : ((d : Int) == 0) = false := beq_eq_false_iff_ne.2 (by omega)
                  clear hg hn hV hN hj hs hk hz
                  go_wp2_with (go_at_call 34; refine (am _).mono ?_; rintro e w2 ⟨rfl, hw⟩; have hw := hw.symm; subst hw)
                  go_ret
                  rw [HG.out, HR.out]
                  exact ⟨rfl, (HA.out.1).put (-1), HA.out.2.trans (Only.set p _ _)⟩
              · rw [if_neg (by omega)] at hg
                have HR : Hid (R = some (N, k + 1)) := hg.symm
                have bb : ¬ (4611686018427387903 : Int) < N := by omega
                by_cases hd0 : d = 0
                · have hk0 : k = 0 := by omega
                  subst hd0
                  have s0 : s = 0 := by omega
                  subst s0
                  have HNn : Hid (n = N) := by show _ = _; rw [hN, hV]; simp
                  clear hg hn hV hN hj hs hk hz
                  go_wp2_with (go_at_call 34; refine (am _).mono ?_; rintro e w2 ⟨rfl, hw⟩; have hw := hw.symm; subst hw)
                  go_ret
                  rw [HG.out, HR.out]
                  have e : ((j : Int) + 1) = jOf (some ((N, k + 1).1, q + (N, k + 1).2)) := by have := HK.out; show (j : Int) + 1 = ((q + (k + 1) : Nat) : Int); omega
                  exact ⟨by rw [HNn.out]; rfl, e ▸ HA.out.1, HA.out.2⟩
                · have d0 : ((d : Int) == 0) = false := beq_eq_false_iff_ne.2 (by omega)
                  clear hg hn hV hN hj hs hk hz
                  go_wp2_with (go_at_call 34; refine (am _).mono ?_; rintro e w2 ⟨rfl, hw⟩; have hw := hw.symm; subst hw)
                  go_ret
                  rw [HG.out, HR.out]
                  have e : ((j : Int) + 1) = jOf (some ((N, k + 1).1, q + (N, k + 1).2)) := by have := HK.out; show (j : Int) + 1 = ((q + (k + 1) : Nat) : Int); omega
                  exact ⟨rfl, e ▸ HA.out.1, HA.out.2⟩
          · rw [if_neg h128] at hg
            obtain ⟨m, hmm⟩ : ∃ m, m = d - 128 := ⟨_, rfl⟩
            have m128 : m < 128 := by omega
            have hm : (d : Int) % 128 = m := by omega
            have sh1 := shl_at hs (show k ≤ 8 by omega) m128
            have sh2 := wrap_shl hs (show k ≤ 8 by omega) m128
            obtain ⟨V, hV⟩ : ∃ V, V = m * 2 ^ (7 * k) := ⟨_, rfl⟩
            have hV2 : V ≤ 127 * 72057594037927936 := by rw [hV]; exact Nat.mul_le_mul (by omega) hp7
            have hV3 : V ≤ 127 * 2 ^ (7 * k) := by rw [hV]; exact Nat.mul_le_mul_right _ (by omega)
            rw [← hmm, ← hV] at hg
            rw [← hV] at sh1 sh2
            obtain ⟨N, hN⟩ : ∃ N, N = n + V := ⟨_, rfl⟩
            have hN2 : (n : Int) + V = (N : Int) := by omega
            have nb : (n : Int) ≤ 72057594037927936 := by omega
            have Vb : (V : Int) ≤ 9151314442816847872 := by omega
            have Nb : (N : Int) ≤ 9223372036854775807 := by omega
            have db : ¬ (d : Int) < 128 := by omega
            rw [← hN] at hg
            have HNN : Hid (N < 2 ^ (7 * (k + 1))) := by
              show _ < _
              rw [Nat.mul_add, Nat.pow_add]
              omega
            have Hg : Hid (getL (k + 1) N (b.drop (j + 1)) = R) := hg
            clear hg hn hV hN hj hs hk hV3 hV2 hmm
            go_wp2_with (go_at_call 34; refine (am _).mono ?_; rintro e w2 ⟨rfl, hw⟩; have hw := hw.symm; subst hw)
            go_roundw
            case rel =>
              have h1 := HK.out
              exact ⟨k + 1, N, rfl, by congr 1; omega, by omega, HNN.out, by rw [← Hg.out]; congr 2; omega, by have := HA.out.1; rw [show ((q + (k + 1) : Nat) : Int) = (j : Int) + 1 by omega]; exact this, HA.out.2⟩
            case measure => simp [intOf]; have := HK.out; omega
        · have jl : ¬ (j : Int) < b.length := by omega
          rw [decide_eq_false (fun h => jl h.2)] at am
          rw [List.drop_eq_nil_of_le (by omega)] at hg
          have HR : Hid (R = none) := by show _ = _; rw [← hg]; rfl
          have HA : Hid (At p ((j : Nat) : Int) wr ∧ Only p w wr) := ⟨hA, hO⟩
          clear hg hn hj hs hk hA hO
          go_wp2_with (go_at_call 34; refine (am _).mono ?_; rintro e w2 ⟨rfl, hw⟩; have hw := hw.symm; subst hw)
          go_ret
          rw [HG.out, HR.out]
          exact ⟨rfl, (HA.out.1).put (-1), HA.out.2.trans (Only.set p _ _)⟩
      · have HR : Hid (R = none) := by show _ = _; rw [← hg]; exact getL_nine (by omega) _
        have s63 : ¬ (s : Int) < 63 := by omega
        have HA : Hid (At p ((j : Nat) : Int) wr ∧ Only p w wr) := ⟨hA, hO⟩
        clear hg hn hj hs hk hA hO
        go_wp2_with fail
        go_ret
        rw [HG.out, HR.out]
        exact ⟨rfl, (HA.out.1).put (-1), HA.out.2.trans (Only.set p _ _)⟩
  · have HG : Hid (getV b i = none) := by show _ = _; unfold getV; rw [if_neg hi]
    have am := iAm i (b.length : Int)
    rw [decide_eq_false (fun h => hi h.1)] at am
    have c0 := hp.cell
    have f0 := hp.frozen
    have hpl := hp.lt
    have HA : Hid (At p i w) := hp
    clear hp
    go_enter Try.func28, Try.ntmps28
    go_wp2_with fail
    go_loopw [5, 6] (fun nv sv wr => nv = .int .i64 0 ∧ sv = .int .i64 0 ∧ wr = w) (fun _ sv _ => 63 - (intOf sv).toNat)
    case atStart => exact ⟨rfl, rfl, rfl⟩
    case round =>
      obtain ⟨rfl, rfl, hw⟩ := hrel
      have hw := hw.symm
      subst hw
      go_wp2_with (go_at_call 34; refine (am _).mono ?_; rintro e w2 ⟨rfl, hw⟩; have hw := hw.symm; subst hw)
      go_ret
      rw [HG.out]
      exact ⟨rfl, HA.out.put (-1), Only.set p _ _⟩

end Bt
end Go.Proofs.Ytmhmoopijfhhbaa
