/-
  The program's putOneOf: what stands in the list.
  The program's NfaOf at what is parsed: how many places it tells.
-/
import Derived.Test.YtgdnlmaacnnfiaaGreatDoorQ46
import Derived.Test.YtgdnlmaacnnfiaaGreatDoorQ47
namespace Go.Proofs.YtgdnlmaacnnfiaaGreatDoor
open Go.RowKit
namespace Nf
set_option linter.unusedVariables false
open Rx Clo

theorem PC.grown {B p n : Nat} {P : Nat → Pl} {w w' : World} {ob : Option Nat} (h : PC B p n P w) (hg : w.grownBy w' ob) (h1 : ob ≠ some p) (h2 : ∀ k, ob = some k → ¬ RowAt p w k) : PC B p n P w' := by
  obtain ⟨ao, cap, xs, c1, c2, c3, c4⟩ := h
  have hl := World.block_lt_of_cell? w _ c1
  have hb := hg.block p hl (fun e => h1 e.symm)
  refine ⟨ao, cap, xs, (World.cell?_of_block hb).trans c1, (World.frozen?_of_block hb).trans c2, Rx.owns_same c3 fun g hgg => hg.block g (c3.lt g hgg).2 fun e => h2 g e.symm ((rowAt_is c1).2 hgg), c4⟩

/-- Where kid i of an or begins. -/
def off (ks : List Data) (n i : Nat) : Nat := n + nls (ks.take i) + 2 * i
theorem off_succ {ks : List Data} {n i : Nat} {t : Data} (h : ks[i]? = some t) : off ks n (i + 1) = off ks n i + nl t + 2 := by
  obtain ⟨hi, rfl⟩ := List.getElem?_eq_some_iff.1 h
  unfold off
  rw [nls_take ks hi]
  omega
theorem off_le {ks : List Data} {n : Nat} : ∀ (k i : Nat), off ks n i ≤ off ks n (i + k)
  | 0, i => Nat.le_refl _
  | k + 1, i => by
    refine Nat.le_trans (off_le k i) ?_
    have h : ∀ (j : Nat), off ks n j ≤ off ks n (j + 1) := fun j => by
      by_cases hj : j < ks.length
      · rw [off_succ (List.getElem?_eq_getElem hj)]
        omega
      · unfold off
        rw [List.take_of_length_le (by omega), List.take_of_length_le (by omega)]
        omega
    exact h (i + k)
theorem off_lt {ks : List Data} {n i j : Nat} (h : i ≤ j) : off ks n i ≤ off ks n j := by
  have := off_le (ks := ks) (n := n) (j - i) i
  rwa [show i + (j - i) = j by omega] at this
theorem off_base (ks : List Data) (n i : Nat) : n ≤ off ks n i := by unfold off; omega

/-- The first i kids of an or are there, their jumps not yet led to the end. -/
def Pre (d : Nat) (ks : List Data) (n i E : Nat) (Q : Nat → Pl) : Prop := ∀ j t, j < i → ks[j]? = some t → Q (off ks n j) = forkP (off ks n j + 1) (off ks n j + 2 + nl t) ∧ At Q d t (off ks n j + 1) ∧ Q (off ks n j + 1 + nl t) = jumpP E
def Js (ks : List Data) (n : Nat) (js : List Nat) : Prop := ∀ j x, js[j]? = some x → ∃ t, ks[j]? = some t ∧ x = off ks n j + 1 + nl t
theorem pre_congr {d n i E : Nat} {ks : List Data} {Q Q' : Nat → Pl} (h : Pre d ks n i E Q) (hq : ∀ x, x < off ks n i → Q' x = Q x) : Pre d ks n i E Q' := by
  intro j t hj ht
  obtain ⟨h1, h2, h3⟩ := h j t hj ht
  have e1 := off_succ (n := n) ht
  have e2 := off_lt (ks := ks) (n := n) (show j + 1 ≤ i by omega)
  exact ⟨(hq _ (by omega)).trans h1, at_congr d t _ h2 fun x a b => hq x (by omega), (hq _ (by omega)).trans h3⟩
theorem pre_more {d n i : Nat} {ks : List Data} {t : Data} {Q P3 : Nat → Pl} {A E : Int} (h : Pre d ks n i 0 Q) (ht : ks[i]? = some t) (hA : A = (off ks n i : Int) + 1) (hE : E = (off ks n i : Int) + 2 + nl t) (hM : More d t (off ks n i + 1) (upd Q (off ks n i) ⟨7, 0, ⟨#[]⟩, false, A, 0⟩) P3) :
    (∀ x, x < off ks n i → (upd (upd P3 (off ks n i + 1 + nl t) ⟨6, 0, ⟨#[]⟩, false, 0, 0⟩) (off ks n i) (setB (upd P3 (off ks n i + 1 + nl t) ⟨6, 0, ⟨#[]⟩, false, 0, 0⟩ (off ks n i)) E)) x = Q x) ∧ Pre d ks n (i + 1) 0 (upd (upd P3 (off ks n i + 1 + nl t) ⟨6, 0, ⟨#[]⟩, false, 0, 0⟩) (off ks n i) (setB (upd P3 (off ks n i + 1 + nl t) ⟨6, 0, ⟨#[]⟩, false, 0, 0⟩ (off ks n i)) E)) := by
  have hlow : ∀ x, x < off ks n i → (upd (upd P3 (off ks n i + 1 + nl t) ⟨6, 0, ⟨#[]⟩, false, 0, 0⟩) (off ks n i) (setB (upd P3 (off ks n i + 1 + nl t) ⟨6, 0, ⟨#[]⟩, false, 0, 0⟩ (off ks n i)) E)) x = Q x := fun x hx => by
    rw [upd_other _ _ (by omega), upd_other _ _ (by omega), hM.1 x (by omega), upd_other _ _ (by omega)]
  refine ⟨hlow, fun j t' hj ht' => ?_⟩
  by_cases e : j = i
  · subst e
    rw [ht] at ht'
    cases ht'
    have e3 : P3 (off ks n j) = ⟨7, 0, ⟨#[]⟩, false, A, 0⟩ := by rw [hM.1 _ (by omega), upd_same]
    refine ⟨?_, at_congr d t _ hM.2 fun x a b => ?_, ?_⟩
    · rw [upd_same, upd_other _ _ (by omega), e3]
      simp [forkP, setB]
      omega
    · rw [upd_other _ _ (by omega), upd_other _ _ (by omega)]
    · rw [upd_other _ _ (by omega), upd_same]
      rfl
  · exact pre_congr h hlow j t' (by omega) ht'
theorem js_more {n i : Nat} {ks : List Data} {t : Data} {js : List Nat} (h : Js ks n js) (hl : js.length = i) (ht : ks[i]? = some t) : Js ks n (js ++ [off ks n i + 1 + nl t]) := by
  intro j x hx
  by_cases e : j < js.length
  · rw [List.getElem?_append_left e] at hx
    exact h j x hx
  · rw [List.getElem?_append_right (by omega)] at hx
    obtain rfl : j = i := by
      by_cases e2 : j = i
      · exact e2
      · rw [List.getElem?_eq_none (by simp; omega)] at hx
        simp at hx
    rw [hl, Nat.sub_self] at hx
    simp at hx
    exact ⟨t, ht, hx.symm⟩

/-- From the places one by one to the whole or. -/
theorem orAt_of {P : Nat → Pl} {F : Data → Nat → Prop} {E : Nat} : ∀ (ks : List Data) (o : Nat), 0 < ks.length → E = o + (nls ks + 2 * (ks.length - 1)) →
    (∀ j t, j + 1 < ks.length → ks[j]? = some t → P (off ks o j) = forkP (off ks o j + 1) (off ks o j + 2 + nl t) ∧ F t (off ks o j + 1) ∧ P (off ks o j + 1 + nl t) = jumpP E) →
    (∀ j t, j + 1 = ks.length → ks[j]? = some t → F t (off ks o j)) → OrAt P F ks o E
  | [], o, h, _, _, _ => by simp at h
  | t :: ts, o, _, hE, h1, h2 => by
    rw [nls, List.length_cons] at hE
    by_cases hts : ts = []
    · subst hts
      have := h2 0 t rfl rfl
      exact .inl ⟨rfl, by simpa [off, nls] using this, by simp [nls] at hE; omega⟩
    · have hl : 0 < ts.length := List.length_pos_iff.2 hts
      obtain ⟨a1, a2, a3⟩ := h1 0 t (by simp; omega) rfl
      have e0 : off (t :: ts) o 0 = o := by simp [off, nls]
      rw [e0] at a1 a2 a3
      have eo : ∀ j, off ts (o + 2 + nl t) j = off (t :: ts) o (j + 1) := fun j => by
        unfold off
        rw [List.take_succ_cons, nls]
        omega
      refine .inr ⟨hts, a1, a2, a3, orAt_of ts _ hl (by omega) (fun j t' hj ht' => ?_) (fun j t' hj ht' => ?_)⟩
      · rw [eo]
        exact h1 (j + 1) t' (by simp; omega) (by simpa using ht')
      · rw [eo]
        exact h2 (j + 1) t' (by simp; omega) (by simpa using ht')

theorem more_or {d n m : Nat} {ks : List Data} {js : List Nat} {P Q P3 Pf : Nat → Pl} {t : Data} (hm : ks.length = m + 1) (ht : ks[m]? = some t) (hjl : js.length = m) (hJ : Js ks n js) (hs : ∀ j, j < n → Q j = P j) (hpre : Pre d ks n m 0 Q) (hM : More d t (off ks n m) Q P3)
    (hf : ∀ x, Pf x = if x ∈ js then setA (P3 x) ((n + nls ks + 2 * (ks.length - 1) : Nat) : Int) else P3 x) : MoreOr d ks n P Pf := by
  have hin : ∀ x, x ∈ js → ∃ j t, j < m ∧ ks[j]? = some t ∧ x = off ks n j + 1 + nl t := fun x hx => by
    obtain ⟨j, hj, rfl⟩ := List.mem_iff_getElem.1 hx
    obtain ⟨t, h1, h2⟩ := hJ j js[j] (List.getElem?_eq_getElem hj)
    exact ⟨j, t, by omega, h1, h2⟩
  have hpre3 : Pre d ks n m 0 P3 := pre_congr hpre hM.1
  have hlast : ∀ x, off ks n m ≤ x → Pf x = P3 x := fun x hx => by
    rw [hf, if_neg]
    intro hm
    obtain ⟨j, t, hj, h1, h2⟩ := hin x hm
    have := off_succ (n := n) h1
    have := off_lt (ks := ks) (n := n) (show j + 1 ≤ m by omega)
    omega
  have hmid : ∀ j t, j < m → ks[j]? = some t → ∀ x, off ks n j ≤ x → x < off ks n j + 1 + nl t → Pf x = P3 x := fun j t hj h1 x a b => by
    rw [hf, if_neg]
    intro hm
    obtain ⟨j', t', hj', h1', h2'⟩ := hin x hm
    have e1 := off_succ (n := n) h1'
    have e2 := off_succ (n := n) h1
    rcases Nat.lt_trichotomy j j' with c | c | c
    · have := off_lt (ks := ks) (n := n) (show j + 1 ≤ j' by omega)
      omega
    · subst c
      rw [h1] at h1'
      cases h1'
      omega
    · have := off_lt (ks := ks) (n := n) (show j' + 1 ≤ j by omega)
      omega
  refine ⟨fun i hi => ?_, orAt_of ks n (by omega) rfl (fun j t' hj ht' => ?_) (fun j t' hj ht' => ?_)⟩
  · rw [hf, if_neg, hM.1 i (by have := off_base ks n m; omega), hs i hi]
    intro hm
    obtain ⟨j, t, hj, h1, h2⟩ := hin i hm
    have := off_base ks n j
    omega
  · obtain ⟨a1, a2, a3⟩ := hpre3 j t' (by omega) ht'
    refine ⟨(hmid j t' (by omega) ht' _ (by omega) (by omega)).trans a1, at_congr d t' _ a2 fun x a b => hmid j t' (by omega) ht' x (by omega) (by omega), ?_⟩
    rw [hf, if_pos, a3]
    · simp [setA, jumpP]
      omega
    · obtain ⟨x, hx⟩ : ∃ x, js[j]? = some x := ⟨js[j]'(by omega), List.getElem?_eq_getElem _⟩
      obtain ⟨t2, h1, h2⟩ := hJ j x hx
      rw [ht'] at h1
      cases h1
      rw [← h2]
      exact List.mem_of_getElem? hx
  · obtain rfl : j = m := by omega
    rw [ht] at ht'
    cases ht'
    exact at_congr d t _ hM.2 fun x a b => hlast x a

theorem jumps_more {js : List Nat} {k : Nat} (hk : k < js.length) {P3 Pk : Nat → Pl} {Q : Int} (h : ∀ x, Pk x = if x ∈ js.take k then setA (P3 x) Q else P3 x) : ∀ x, upd Pk js[k] (setA (Pk js[k]) Q) x = if x ∈ js.take (k + 1) then setA (P3 x) Q else P3 x := by
  intro x
  have ht : js.take (k + 1) = js.take k ++ [js[k]] := by rw [List.take_add_one, List.getElem?_eq_getElem hk, Option.toList_some]
  by_cases e : x = js[k]
  · subst e
    rw [upd_same, ht, if_pos (List.mem_append_right _ (List.mem_singleton.2 rfl)), h]
    split <;> rfl
  · rw [upd_other _ _ e, h, ht]
    by_cases hx : x ∈ js.take k
    · rw [if_pos hx, if_pos (List.mem_append_left _ hx)]
    · rw [if_neg hx, if_neg]
      simp only [List.mem_append, List.mem_singleton]
      rintro (h' | h')
      · exact hx h'
      · exact e h'

set_option maxHeartbeats 4000000 in
set_option maxRecDepth 100000 in
theorem iPutOneOfC {p B : Nat} (hp : p < B) (d : Nat) (ks : List Data) (hl : 2 ≤ ks.length) (hk : ∀ t ∈ ks, PutC p B d t) (w : World) (n : Nat) (P : Nat → Pl) (S : Nat → Prop) (u : Value) (xs : List Value) (hPC : PC B p n P w) (hB : B ≤ w.heap.size) (hown : w.ownsRow 0 50 1 u ks.length xs) (hg : ∀ g, u.ownBlock = some g → S g) (hps : PatsIs w ks S xs) (hS : ∀ k, S k → k < B ∧ k ≠ p) (hn : n + nls ks + 2 * (ks.length - 1) ≤ 100000) :
    Calls Tryz.prog 59 #[.pointer (some ⟨p, 0, none⟩), u] w fun e w' => e = .returned (.tuple #[]) ∧ (∃ P', PC B p (n + nls ks + 2 * (ks.length - 1)) P' w' ∧ MoreOr d ks n P P') ∧ Ch p B w w' := by
  obtain ⟨i0, hi0, hi1, hi2, hi3⟩ := info_parts Rx.Tryz.infoIntr
  obtain ⟨ao, cap, rfl⟩ := owns_slice hown
  have hlenI : (ks.length : Int) ≤ 60000 := by omega
  obtain ⟨g, cap', he, hgl, hcap⟩ : ∃ g cap', (Value.slice ao ks.length cap) = .slice (some ⟨g, 0, none⟩) ks.length cap' ∧ g < w.heap.size ∧ ks.length ≤ cap' := by
    rcases hown.2 with ⟨_, h0⟩ | ⟨g, cap', cur, he, _, _, h1, _⟩
    · omega
    · exact ⟨g, cap', he, (hown.lt g (by rw [he]; rfl)).2, h1⟩
  simp at he
  obtain ⟨rfl, rfl⟩ := he
  have hgS := hg g rfl
  obtain ⟨m, hm⟩ : ∃ m, ks.length = m + 1 := ⟨ks.length - 1, by omega⟩
  have hmI : (ks.length : Int) - 1 = (m : Int) := by omega
  have h2I : (2 : Int) ≤ ks.length := by omega
  have hmI2 : (m : Int) ≤ 60000 := by omega
  have hmc : m ≤ cap := by omega
  have Hm : Hid (ks.length = m + 1) := hm
  clear hm
  go_enter Tryz.func59, Tryz.ntmps59
  go_wp2_with fail
  have hpW : p < w.heap.size := by omega
  have hnapp : ∀ (a b : List Data), nls (a ++ b) = nls a + nls b := by
    intro a b
    induction a with
    | nil => simp [nls]
    | cons c a ih => simp [nls, ih]; omega
  have hle : ∀ i, nls (ks.take i) ≤ nls ks := fun i => by
    have h2 := hnapp (ks.take i) (ks.drop i)
    rw [List.take_append_drop] at h2
    omega
  go_loopw [5, 19] (fun jv iv wr => ∃ (i : Nat) (js : List Nat), iv = .int .i64 i ∧ i ≤ m ∧ js.length = i ∧ (∃ Pi, PC B p (n + nls (ks.take i) + 2 * i) Pi wr ∧ (∀ j, j < n → Pi j = P j) ∧ Pre d ks n i 0 Pi) ∧ Js ks n js ∧ Ch p B w wr ∧ Jumps w.heap.size p wr jv js ∧ ∀ j ∈ js, j < n + nls (ks.take i) + 2 * i) (fun _ iv _ => m - (intOf iv).toNat)
  case atStart => exact ⟨0, [], rfl, Nat.zero_le _, rfl, ⟨P, by simpa [nls] using hPC, fun _ _ => rfl, fun j t hj => by omega⟩, fun j x hx => by simp at hx, Ch.refl _ _ _, ⟨World.ownsRow_nil _ _ _ _, fun k hk => by simp [Value.ownBlock] at hk⟩, fun j hj => by simp at hj⟩
  case round =>
    obtain ⟨i, js, rfl, hi, hjl, ⟨Pi, hPi, hsame, hpre⟩, hJs, hCi, hJ, hjs⟩ := hrel
    have HPre : Hid (Pre d ks n i 0 Pi) := hpre
    have HJs : Hid (Js ks n js) := hJs
    have Hsame : Hid (∀ j, j < n → Pi j = P j) := hsame
    clear hpre hJs hsame
    have hz := hCi.size
    have hHm := Hm.out
    by_cases him : i < m
    · have hil : i < ks.length := by omega
      obtain ⟨x, hx1, hx2⟩ := pats_at hps (List.getElem?_eq_getElem hil)
      obtain ⟨Tx, yx, rfl⟩ := pat_iface hx2
      have c1 : wr.cell? ⟨g, i, none⟩ = some (.iface Tx yx) := by
        rw [World.cell?_of_block (w := w) (hCi.block g (hS g hgS).1 (hS g hgS).2), hown.cellAt i (by omega)]
        exact hx1
      have hnt := nls_take ks hil
      have hl1 := hle (i + 1)
      have hm1 : ks[i] ∈ ks := List.getElem_mem hil
      obtain ⟨N, hN⟩ : ∃ N, N = n + nls (ks.take i) + 2 * i := ⟨_, rfl⟩
      have HN0 : Hid (N = off ks n i) := hN
      rw [← hN] at hPi hjs
      have hNb : N + nl ks[i] + 2 ≤ 100000 := by omega
      have HN : Hid (N + nl ks[i] + 2 = n + nls (ks.take (i + 1)) + 2 * (i + 1)) := by show _ = _; omega
      obtain ⟨jo, jc, rfl⟩ := owns_slice hJ.1
      have hjo : ∀ k, Value.ownBlock (.slice jo js.length jc) = some k → w.heap.size ≤ k := fun k hk => (hJ.1.lt k hk).1
      have hk64 : Hid ((js.length + 1) * 8 ≤ 140737488355328) := by show _ ≤ _; omega
      have hkm : Hid (js.length + 1 ≤ maxLen) := by show _ ≤ _; unfold maxLen; omega
      have HJL : Hid (js.length = i) := hjl
      clear hN hnt hl1 hHm hle hnapp hjl
      go_wp2_with fail
      refine (iPutForkC hPi hp (by omega) (by omega)).mono ?_
      rintro e w2 ⟨rfl, hP2, hC2⟩
      have hz2 := hC2.size
      go_wp2_with fail
      refine (hk ks[i] hm1 w2 (N + 1) _ S _ hP2 (by omega) (pat_ch (hCi.trans hC2) hx2 hS) hS (by omega)).mono ?_
      rintro e w3 ⟨rfl, ⟨P3, hP3, hM3⟩, hC3⟩
      have HM3 := (show Hid _ from hM3)
      clear hM3
      have hz3 := hC3.size
      go_wp2_with fail
      refine (iPutC hP3 hp (by omega) (by omega) _ _ _ _ _ _).mono ?_
      rintro e w4 ⟨rfl, hP4, hC4⟩
      have hz4 := hC4.size
      have hJ4 := ((hJ.ch hpW hC2).ch hpW hC3).ch hpW hC4
      obtain ⟨M, hM⟩ : ∃ M, M = N + 1 + nl ks[i] := ⟨_, rfl⟩
      rw [← hM] at hP4 ⊢
      have HM : Hid (M = N + 1 + nl ks[i]) := hM
      clear hM
      go_wp2_with (at_builtin; refine wpList_append_own_at _ rfl _ _ 29 rfl w.heap.size 3 i0 (.int .i64 0) 1 8 Tryz.underlying29 hi0 hi1 hi2 hi3 rfl (by decide) _ _ _ rfl (hJ4.1.alloc _) ⟨w4.heap.size, 0, none⟩ 1 1 [.int .i64 M] rfl rfl (cell_one_new _ _ _) (by simp [Value.oneCell']) hkm.out hk64.out (by simp; omega) ?_; intro v' w5 hown5 hgr5 _ hb5)
      have hrow4 : ∀ k, RowAt p (w4.alloc (.cells #[.int .i64 M] 3)) k ↔ RowAt p w4 k := fun k => rowAt_same (Below.heap_alloc _ _ _ (by omega))
      have hpj : Value.ownBlock (.slice jo js.length jc) ≠ some p := fun e => by have := hjo p e; omega
      have hp5 : w5.heap[p]? = (w4.alloc (.cells #[.int .i64 M] 3)).heap[p]? := hgr5.block p (by simp; omega) (fun e => hpj e.symm)
      have hP5 := (hP4.alloc _).grown hgr5 hpj (fun k hk hr => hJ4.2 k hk ((hrow4 k).1 hr))
      have hC5 : Ch p B w w5 := ((((hCi.trans hC2).trans hC3).trans hC4).trans (ch_alloc hp (by omega) _)).grown hpW hB hgr5 hjo
      have hz5 := hgr5.size
      simp at hz5
      have hJ5 : Jumps w.heap.size p w5 v' (js ++ [M]) := by
        refine ⟨by simpa [Rx.nums] using hown5, fun k hk hr => ?_⟩
        rw [rowAt_same hp5] at hr
        rcases hb5 with e | e
        · rw [e] at hk
          exact hJ4.2 k hk ((hrow4 k).1 hr)
        · rw [e] at hk
          simp at hk
          obtain ⟨ao4, cap4, xs4, q1, q2, q3, _⟩ := hP4.alloc (.cells #[.int .i64 M] 3)
          have := (q3.lt k ((rowAt_is q1).1 hr)).2
          simp at this
          omega
      refine (iForkHereC (f := N) hP5 hp (by have := HM.out; omega) (by have := HM.out; omega)).mono ?_
      rintro e w6 ⟨rfl, hP6, hC6⟩
      have hJ6 := hJ5.ch hpW hC6
      go_wp2_with fail
      go_roundw
      case rel =>
        have e1 := HM.out
        have e2 := HN.out
        refine ⟨i + 1, js ++ [M], by go_num, him, by simp [HJL.out], ?_, ?_, hC5.trans hC6, hJ6, fun j hj => ?_⟩
        · rw [← e2, show N + nl ks[i] + 2 = M + 1 by omega]
          have e0 := HN0.out
          have hpre := HPre.out
          have hM3 := HM3.out
          have hsame := Hsame.out
          refine ⟨_, hP6, ?_⟩
          rw [e1]
          rw [e0] at hM3 ⊢
          obtain ⟨r1, r2⟩ := pre_more (E := ((off ks n i + 1 + nl ks[i] + 1 : Nat) : Int)) hpre (List.getElem?_eq_getElem hil) rfl (by omega) hM3
          exact ⟨fun j hj => (r1 j (by have := off_base ks n i; omega)).trans (hsame j hj), r2⟩
        · rw [e1, HN0.out]
          exact js_more HJs.out HJL.out (List.getElem?_eq_getElem hil)
        · rw [← e2]
          rcases List.mem_append.1 hj with hj | hj
          · have := hjs j hj; omega
          · have : j = M := by simpa using hj
            omega
      case measure => simp [intOf]; omega
    · obtain rfl : i = m := by omega
      have hml : i < ks.length := by omega
      obtain ⟨x, hx1, hx2⟩ := pats_at hps (List.getElem?_eq_getElem hml)
      obtain ⟨Tx, yx, rfl⟩ := pat_iface hx2
      have c1 : wr.cell? ⟨g, i, none⟩ = some (.iface Tx yx) := by
        rw [World.cell?_of_block (w := w) (hCi.block g (hS g hgS).1 (hS g hgS).2), hown.cellAt i (by omega)]
        exact hx1
      have hnt := nls_take ks hml
      have hl1 := hle (i + 1)
      have hm1 : ks[i] ∈ ks := List.getElem_mem hml
      obtain ⟨N, hN⟩ : ∃ N, N = n + nls (ks.take i) + 2 * i := ⟨_, rfl⟩
      have HN0 : Hid (N = off ks n i) := hN
      rw [← hN] at hPi hjs
      have hall : ks.take (i + 1) = ks := by rw [← hHm]; exact List.take_length
      rw [hall] at hnt
      have HN : Hid (N + nl ks[i] = n + nls ks + 2 * (ks.length - 1)) := by show _ = _; omega
      obtain ⟨jo, jc, rfl⟩ := owns_slice hJ.1
      have hjI : (js.length : Int) ≤ 60000 := by omega
      have hNb : N + nl ks[i] ≤ 100000 := by omega
      clear hN hnt hl1 hHm hle hnapp hall
      go_wp2_with fail
      refine (hk ks[i] hm1 wr N _ S _ hPi (by omega) (pat_ch hCi hx2 hS) hS (by omega)).mono ?_
      rintro e w3 ⟨rfl, ⟨P3, hP3, hM3⟩, hC3⟩
      have HM3 := (show Hid _ from hM3)
      clear hM3
      have hJ3 := hJ.ch hpW hC3
      rw [HN.out] at hP3
      obtain ⟨Q, hQ⟩ : ∃ Q, Q = n + nls ks + 2 * (ks.length - 1) := ⟨_, rfl⟩
      have hQN : N ≤ Q := by have := HN.out; omega
      have hQb : Q ≤ 100000 := by have := HN.out; omega
      have hQI : (Q : Int) ≤ 100000 := by omega
      rw [← hQ] at hP3
      have HQ : Hid (Q = n + nls ks + 2 * (ks.length - 1)) := hQ
      clear hQ
      go_wp2_with fail
      go_loopw [46] (fun iv wq => ∃ k : Nat, iv = .int .i64 k ∧ k ≤ js.length ∧ (∃ Pk, PC B p Q Pk wq ∧ ∀ x, Pk x = if x ∈ js.take k then setA (P3 x) (Q : Int) else P3 x) ∧ Ch p B w wq ∧ Jumps w.heap.size p wq (.slice jo js.length jc) js) (fun iv _ => js.length - (intOf iv).toNat)
      case atStart => exact ⟨0, rfl, Nat.zero_le _, ⟨P3, hP3, fun x => by simp⟩, hCi.trans hC3, hJ3⟩
      case round =>
        obtain ⟨k, rfl, hkj, ⟨Pk, hPq, hPk⟩, hCq, hJq⟩ := hrel
        have HPk : Hid (∀ x, Pk x = if x ∈ js.take k then setA (P3 x) (Q : Int) else P3 x) := hPk
        clear hPk
        by_cases hkl : k < js.length
        · have hjm : js[k] ∈ js := List.getElem_mem hkl
          have hjlt := hjs _ hjm
          obtain ⟨aq, cq, xq, h1, h2, h3, h8⟩ := hPq
          obtain ⟨g5, rfl, hg5, hgl5, hcs⟩ := row_cell6 h3 (f := js[k]) (by omega)
          obtain ⟨v5, q5⟩ := hcs 4 (by omega)
          have fz := h3.frozenAt (js[k] * 6 + 4)
          obtain ⟨gj, capj, hej, hgj⟩ : ∃ gj capj, (Value.slice jo js.length jc) = .slice (some ⟨gj, 0, none⟩) js.length capj ∧ gj < wr.heap.size := by
            rcases hJq.1.2 with ⟨_, h0⟩ | ⟨gj, capj, cur, he, _⟩
            · omega
            · exact ⟨gj, capj, he, (hJq.1.lt gj (by rw [he]; rfl)).2⟩
          simp at hej
          obtain ⟨rfl, rfl⟩ := hej
          have cj : wr.cell? ⟨gj, k, none⟩ = some (.int .i64 js[k]) := by
            rw [hJq.1.cellAt k (by omega)]
            simp [Rx.nums, hkl]
          obtain ⟨J, hJe⟩ : ∃ J, J = js[k] := ⟨_, rfl⟩
          rw [← hJe] at q5 fz cj hjlt
          have hJI : (J : Int) < Q := by omega
          have call1 : Calls Tryz.prog 62 #[.pointer (some ⟨p, 0, none⟩)] wr.drew fun e w' => e = .returned (.int .i64 Q) ∧ w' = wr.drew := iNext ⟨_, _, _, h1, h2, h3⟩
          have hpb : ((wr.setCell ⟨g5, J * 6 + 4, none⟩ (.int .i64 Q)).drew).heap[p]? = wr.heap[p]? := Below.heap_setCell wr ⟨g5, J * 6 + 4, none⟩ (.int .i64 Q) p (by show p ≠ g5; omega)
          have h9 := cs6_a h8 h3.1 (f := J) (by omega) (Q : Int)
          have hP5 : PC B p Q (upd Pk J (setA (Pk J) (Q : Int))) ((wr.setCell ⟨g5, J * 6 + 4, none⟩ (.int .i64 Q)).drew) := ⟨_, _, _, (World.cell?_of_block hpb).trans h1, (World.frozen?_of_block hpb).trans h2, (h3.stored _ _).1, h9⟩
          have HP5 : Hid (PC B p Q (upd Pk J (setA (Pk J) (Q : Int))) ((wr.setCell ⟨g5, J * 6 + 4, none⟩ (.int .i64 Q)).drew)) := hP5
          have HJe : Hid (J = js[k]) := hJe
          clear h8 h9 hP5
          have hC5 : Ch p B wr ((wr.setCell ⟨g5, J * 6 + 4, none⟩ (.int .i64 Q)).drew) := ⟨rfl, rfl, rfl, by show wr.heap.size ≤ (wr.setCell ⟨g5, J * 6 + 4, none⟩ (.int .i64 Q)).heap.size; simp, fun k h1 _ => Below.heap_setCell wr ⟨g5, J * 6 + 4, none⟩ (.int .i64 Q) k (by show k ≠ g5; omega), fun k hk1 hk2 hr => ⟨Below.heap_setCell wr ⟨g5, J * 6 + 4, none⟩ (.int .i64 Q) k (fun e => hr ((rowAt_is h1).2 (by show some g5 = some k; rw [show k = g5 from e]))), fun hr' => hr ((rowAt_same hpb).1 hr')⟩⟩
          have hJ5 := hJq.ch hpW hC5
          clear hJe
          go_wp2_with fail
          go_region_with (first | (go_at_call 62; refine call1.mono ?_; rintro e w2 ⟨rfl, hw⟩; have hw := hw.symm; subst hw))
          all_goals go_wp2_with fail
          all_goals go_roundw
          all_goals try (simp only [intOf]; omega)
          all_goals exact ⟨k + 1, by go_num, hkl, ⟨_, HP5.out, by rw [HJe.out]; exact jumps_more hkl HPk.out⟩, hCq.trans hC5, hJ5⟩
        · obtain rfl : k = js.length := by omega
          go_wp2_with fail
          have hPk := HPk.out
          rw [List.take_length, HQ.out] at hPk
          have hM3 := HM3.out
          rw [HN0.out] at hM3
          refine bodyPost_end (v := .tuple #[]) ?_ rfl ⟨rfl, ⟨Pk, by rw [← HQ.out]; exact hPq, more_or Hm.out (List.getElem?_eq_getElem hml) hjl HJs.out Hsame.out HPre.out hM3 hPk⟩, hCq⟩
          simp [results, Tryz.results59]


end Nf
end Go.Proofs.YtgdnlmaacnnfiaaGreatDoor

namespace Go.Proofs.YtgdnlmaacnnfiaaGreatDoor
open Go.RowKit
namespace Rx

mutual
theorem nl_le : ∀ t : Data, nl t + 2 ≤ 5 * cnt t
  | .slice ks lab => by
    have h := nls_le ks
    have h2 := cnts_len ks
    rw [nl, cnt]
    split
    · omega
    · split
      · omega
      · split
        · omega
        · split
          · omega
          · split <;> omega
  | .lit _ => by simp [nl, cnt]
  | .nil => by simp [nl, cnt]
  | .ptr _ => by simp [nl, cnt]
  | .agg _ => by simp [nl, cnt]
  | .iface _ _ => by simp [nl, cnt]
theorem nls_le : ∀ ks : List Data, nls ks + 2 * ks.length ≤ 5 * cnts ks
  | [] => by simp [nls, cnts]
  | t :: ts => by
    have h1 := nl_le t
    have h2 := nls_le ts
    simp [nls, cnts]
    omega
end

set_option maxHeartbeats 2000000 in
set_option maxRecDepth 100000 in
theorem iNfaOf {W : World} (hSet : SetOk W) {t : Data} (hR : RightD 12 t) (hc : cnt t ≤ 1000) (w : World) (hW : Below W.heap.size W w) (S : Nat → Prop) (a b c d u : Value) (h : RexIs w t S [a, b, c, d, u]) (hS : ∀ k, S k → k < w.heap.size) :
    Calls Tryz.prog 10 #[.agg #[a, b, c, d, u]] w fun e w' => ∃ ao cap, e = .returned (.slice ao (nl t + 1) cap) ∧ Below w.heap.size w w' := by
  have hnl := nl_le t
  obtain ⟨op, cc, ss, no, ao, n, cap, rfl, rfl, rfl, rfl, rfl⟩ := rex_cells h
  obtain ⟨o1, ho1⟩ : ∃ o1, o1 = Obj.cells #[.int .i64 op, .int .i64 cc, .string ⟨ss.toArray⟩, .bool no, .slice ao n cap] 26 := ⟨_, rfl⟩
  have hb1 : Below w.heap.size w (w.alloc o1) := (Below.refl _ w).alloc (Nat.le_refl _) _
  have hV1 : Var (w.alloc o1) w.heap.size (.int .i64 op) (.int .i64 cc) (.string ⟨ss.toArray⟩) (.bool no) (.slice ao n cap) := by rw [ho1]; exact heap_alloc_last _ _
  have hW1 : Below W.heap.size W (w.alloc o1) := hW.alloc hW.size _
  have call1 := iRexOk hSet hR hc (w.alloc o1) hW1 S _ _ _ _ _ (rex_frame _ _ _ (fun k hk => hb1.block k (hS k hk)) h) (fun k hk => Nat.lt_of_lt_of_le (hS k hk) hb1.size)
  have k0 := hV1.cell.1
  have k1 := hV1.cell.2.1
  have k2 := hV1.cell.2.2.1
  have k3 := hV1.cell.2.2.2.1
  have k4 := hV1.cell.2.2.2.2
  have hz1 : (w.alloc o1).heap.size = w.heap.size + 1 := World.size_alloc _ _
  subst ho1
  go_enter Tryz.func10, Tryz.ntmps10
  go_wp2_with fail
  refine call1.mono ?_
  rintro e w2 ⟨rfl, hb2⟩
  have hz2 := hb2.size
  have hV2 := hV1.kept (hb2.block _ (by omega))
  have j0 := hV2.cell.1
  have j1 := hV2.cell.2.1
  have j2 := hV2.cell.2.2.1
  have j3 := hV2.cell.2.2.2.1
  have j4 := hV2.cell.2.2.2.2
  have hBw2 : Below w.heap.size w w2 := hb1.trans (hb2.mono (by omega))
  obtain ⟨o2, ho2⟩ : ∃ o2, o2 = Obj.cells #[.slice none 0 0] 63 := ⟨_, rfl⟩
  have hb3 : Below w.heap.size w (w2.alloc o2) := hBw2.alloc (by omega) _
  have hrow3 : (w2.alloc o2).heap[w2.heap.size]? = some (.cells #[.slice none 0 0] 63 (0, 0)) := by rw [ho2]; exact heap_alloc_last _ _
  have hz3 : (w2.alloc o2).heap.size = w2.heap.size + 1 := World.size_alloc _ _
  have call2 := iPatternOf hSet 12 t hR (by omega) (by omega) (w2.alloc o2) S _ _ _ _ _ (hW.trans (hb3.mono hW.size)) (rex_frame _ _ _ (fun k hk => hb3.block k (hS k hk)) h) (fun k hk => Nat.lt_of_lt_of_le (hS k hk) hb3.size)
  have hlt1 : w.heap.size < w2.heap.size := by omega
  subst ho2
  go_wp2_with fail
  refine call2.mono ?_
  rintro e w4 ⟨v, rfl, hv, hb4⟩
  have hz4 := hb4.size
  obtain ⟨Tv, yv, rfl⟩ := pat_iface hv
  have hrow4 := (hb4.block w2.heap.size (by omega)).trans hrow3
  have hPL : PL w4.heap.size w2.heap.size 0 w4 := ⟨none, 0, [], by rw [cell_of_row _ _ 0 _ _ (0, 0) hrow4]; rfl, by simp [World.frozen?, hrow4], World.ownsRow_nil _ _ _ _⟩
  have hp : w2.heap.size < w4.heap.size := by omega
  have call3 := iPutPattern hp (fun ks hl hk w n S u xs a1 a2 a3 a4 a5 a6 a7 => iPutOneOf hp ks hl hk w n S u xs a1 a2 a3 a4 a5 a6 a7) 12 t hR w4 0 _ _ hPL (Nat.le_refl _) hv (fun k hk => ⟨hk.2, by have := hk.1; omega⟩) (by omega)
  have hBw4 : Below w.heap.size w w4 := hb3.trans (hb4.mono (by omega))
  go_wp2_with fail
  refine call3.mono ?_
  rintro e w5 ⟨rfl, hP5, hC5⟩
  have hz5 := hC5.size
  go_wp2_with fail
  refine (iPut hP5 hp (by omega) (by omega) _ _ _ _ _ _).mono ?_
  rintro e w6 ⟨rfl, hP6, hC6⟩
  have hC := hC5.trans hC6
  obtain ⟨aq, cq, xq, c1, c2, c3⟩ := hP6
  rw [Nat.zero_add] at c1
  go_wp2_with fail
  go_ret
  refine ⟨aq, cq, rfl, hBw4.trans ⟨hC.os, hC.tape, hC.output, hC.size, fun k hk => hC.block k (by omega) (by omega)⟩⟩

end Rx
end Go.Proofs.YtgdnlmaacnnfiaaGreatDoor

