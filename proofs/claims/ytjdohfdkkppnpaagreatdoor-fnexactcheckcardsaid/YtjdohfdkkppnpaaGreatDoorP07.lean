/-
  The specification's Names, over rules.
  Chapter 3 as plain functions: a text is a function from places to bytes (256: there is none), a pattern is a tree.
-/
import Derived.Test.YtjdohfdkkppnpaaGreatDoorP06
import GoSem.ClaimData
namespace Go.Proofs.YtjdohfdkkppnpaaGreatDoor
open Go.RowKit
namespace Ck
open Nd Ty

/-- All nodes of rules, tree by tree. -/
def dfs : List Ru → List Data
  | [] => []
  | r :: rs => subs r.2.1 ++ (subs r.2.2 ++ dfs rs)
theorem dfs_append : ∀ (xs ys : List Ru), dfs (xs ++ ys) = dfs xs ++ dfs ys
  | [], ys => rfl
  | a :: xs, ys => by simp only [List.cons_append, dfs, dfs_append xs ys, List.append_assoc]
theorem dfs_len : ∀ rs : List Ru, (dfs rs).length ≤ 2 * sizR rs
  | [] => by simp [dfs]
  | r :: rs => by
    have := dfs_len rs
    have := cnt_siz r.2.1
    have := cnt_siz r.2.2
    simp only [dfs, sizR, List.length_append, subs_len]
    omega
theorem mem_dfs {x : Data} : ∀ {rs : List Ru}, x ∈ dfs rs ↔ SubR rs x
  | [] => by simp [dfs, SubR]
  | r :: rs => by
    have ih := mem_dfs (x := x) (rs := rs)
    simp only [dfs, List.mem_append, ih, SubR, List.mem_cons]
    constructor
    · rintro (h | h | ⟨r', h1, h2⟩)
      · exact ⟨r, .inl rfl, .inl h⟩
      · exact ⟨r, .inl rfl, .inr h⟩
      · exact ⟨r', .inr h1, h2⟩
    · rintro ⟨r', rfl | h1, h2⟩
      · exact h2.imp id .inl
      · exact .inr (.inr ⟨r', h1, h2⟩)
theorem txt_none (w : World) : TxtRow (w.alloc (.cells #[] 9)) w.heap.size 0 [] :=
  ⟨rfl, .inr ⟨_, 0, _, rfl, Nat.zero_le _, heap_new _ _, Nat.le_refl _, by unfold maxLen; omega, rfl, rfl⟩⟩

set_option maxHeartbeats 2000000 in
set_option maxRecDepth 100000 in
theorem sNames {rs : List Ru} {w : World} {S : Nat → Prop} {v : Value} {xs : List Value} {B : Nat} (hsz : sizR rs ≤ 1048576) (hlt : ∀ k, S k → k < w.heap.size) (ho : w.ownsRow B 41 9 v rs.length xs) (hR : RulesIs w S rs xs) :
    Calls Tryz.prog 22 #[v] w fun e w' => ∃ gv kv gc kc, e = .returned (.tuple #[.slice (some ⟨gv, 0, none⟩) (ascS (varsIn (dfs rs))).length kv, .slice (some ⟨gc, 0, none⟩) (ascS (cellsIn (dfs rs))).length kc]) ∧ TxtRow w' gv kv (ascS (varsIn (dfs rs))) ∧ TxtRow w' gc kc (ascS (cellsIn (dfs rs))) ∧ Below w.heap.size w w' := by
  obtain ⟨ao, cap, rfl⟩ := owns_slice ho
  have bn : (rs.length : Int) ≤ 1048576 := by have := sizR_len rs; omega
  obtain ⟨VR, hVR⟩ : ∃ VR, VR = ascS (varsIn (dfs rs)) := ⟨_, rfl⟩
  obtain ⟨CR, hCR⟩ : ∃ CR, CR = ascS (cellsIn (dfs rs)) := ⟨_, rfl⟩
  rw [← hVR, ← hCR]
  have HR : Hid (VR = ascS (varsIn (dfs rs)) ∧ CR = ascS (cellsIn (dfs rs))) := ⟨hVR, hCR⟩
  clear hVR hCR
  obtain ⟨o1, ho1⟩ : ∃ o1, o1 = Obj.cells #[] 9 := ⟨_, rfl⟩
  have tb0 : Below w.heap.size w ((w.alloc o1).alloc o1) := ((Below.refl _ w).alloc (Nat.le_refl _) _).alloc (by simp) _
  have tv0 : TxtRow ((w.alloc o1).alloc o1) w.heap.size 0 [] := by rw [ho1]; exact (txt_none w).later ((Below.refl _ _).alloc (Nat.le_refl _) _)
  have tc0 : TxtRow ((w.alloc o1).alloc o1) (w.heap.size + 1) 0 [] := by rw [ho1]; have := txt_none (w.alloc (.cells #[] 9)); rwa [World.size_alloc] at this
  subst ho1
  go_enter Tryz.func22, Tryz.ntmps22
  go_wp2_with fail
  go_loopw [4, 5, 6] (fun v1 v2 i wr => ∃ (k ga ka gb kb : Nat) (V C : List (List UInt8)), k ≤ rs.length ∧ i = .int .i64 k ∧ V = ascS (varsIn (dfs (rs.take k))) ∧ C = ascS (cellsIn (dfs (rs.take k))) ∧ v1 = .slice (some ⟨ga, 0, none⟩) V.length ka ∧ v2 = .slice (some ⟨gb, 0, none⟩) C.length kb ∧ TxtRow wr ga ka V ∧ TxtRow wr gb kb C ∧ Below w.heap.size w wr) (fun _ _ i _ => rs.length - (intOf i).toNat)
  case atStart => exact ⟨0, w.heap.size, 0, w.heap.size + 1, 0, [], [], Nat.zero_le _, rfl, by simp [dfs, varsIn, ascS], by simp [dfs, cellsIn, ascS], rfl, rfl, tv0, tc0, tb0⟩
  case round =>
    clear tv0 tc0 tb0
    obtain ⟨k, ga, ka, gb, kb, V, C, hk, rfl, hVk, hCk, rfl, rfl, tv, tc, tb⟩ := hrel
    by_cases hkl : k < rs.length
    · have hki : rs[k]? = some rs[k] := List.getElem?_eq_getElem hkl
      obtain ⟨p0, p1, p2, p3, b0, b1, b2, b3, -, e1, e2, e3, e4, e5, e6, e7, e8, hp, hbd⟩ := rules_at hR hki
      obtain ⟨g, rfl, hg, hc⟩ := row_cells ho hkl
      have cc : ∀ w', Below w.heap.size w w' → ∀ j x, xs[j]? = some x → w'.cell? ⟨g, j, none⟩ = some x := fun w' hb j x hx => (hb.cell (p := ⟨g, j, none⟩) hg).trans (hc j x hx)
      have c1 := cc _ tb _ _ e1
      have c2 := cc _ tb _ _ e2
      have c3 := cc _ tb _ _ e3
      have c4 := cc _ tb _ _ e4
      have d5 := fun w' hb => cc w' hb _ _ e5
      have d6 := fun w' hb => cc w' hb _ _ e6
      have d7 := fun w' hb => cc w' hb _ _ e7
      have d8 := fun w' hb => cc w' hb _ _ e8
      have hszr := sizR_mem (List.getElem_mem hkl)
      have hst := sizR_take rs k _ hki
      have hle : sizR (rs.take (k + 1)) ≤ sizR rs := by have := sizR_append (rs.take (k + 1)) (rs.drop (k + 1)); rw [List.take_append_drop] at this; omega
      have hq1 := cnt_siz rs[k].2.1
      have hq2 := cnt_siz rs[k].2.2
      have hdl := dfs_len (rs.take k)
      have hVl : V.length ≤ (dfs (rs.take k)).length := by rw [hVk]; have := foldl_len (varsIn (dfs (rs.take k))) []; have := varsIn_len (dfs (rs.take k)); unfold ascS; simp at *; omega
      have hCl : C.length ≤ (dfs (rs.take k)).length := by rw [hCk]; have := foldl_len (cellsIn (dfs (rs.take k))) []; have := cellsIn_len (dfs (rs.take k)); unfold ascS; simp at *; omega
      have fr : ∀ w', Below w.heap.size w w' → NodeIs w' rs[k].2.1 S [p0, p1, p2, p3] ∧ NodeIs w' rs[k].2.2 S [b0, b1, b2, b3] ∧ ∀ j, S j → j < w'.heap.size := fun w' hb => ⟨node_frame _ _ _ (fun j hj => hb.block j (hlt j hj)) hp, node_frame _ _ _ (fun j hj => hb.block j (hlt j hj)) hbd, fun j hj => Nat.lt_of_lt_of_le (hlt j hj) hb.size⟩
      have call1 := sNm rs[k].2.1 wr S p0 p1 p2 p3 V C ga ka gb kb (fr wr tb).1 (fr wr tb).2.2 tv tc (by omega) (by omega)
      have hl1 := foldl_len (varsIn (subs rs[k].2.1)) V
      have hl2 := foldl_len (cellsIn (subs rs[k].2.1)) C
      have hl3 := varsIn_len (subs rs[k].2.1)
      have hl4 := cellsIn_len (subs rs[k].2.1)
      rw [subs_len] at hl3 hl4
      have call2 := fun (w' : World) (hb : Below w.heap.size w w') gv kv gc kc (h1 : TxtRow w' gv kv ((varsIn (subs rs[k].2.1)).foldl putS V)) (h2 : TxtRow w' gc kc ((cellsIn (subs rs[k].2.1)).foldl putS C)) => sNm rs[k].2.2 w' S b0 b1 b2 b3 _ _ gv kv gc kc (fr w' hb).2.1 (fr w' hb).2.2 h1 h2 (by omega) (by omega)
      have hdf : dfs (rs.take (k + 1)) = dfs (rs.take k) ++ (subs rs[k].2.1 ++ subs rs[k].2.2) := by rw [List.take_add_one, hki, dfs_append]; simp [dfs]
      have HV : Hid ((varsIn (subs rs[k].2.2)).foldl putS ((varsIn (subs rs[k].2.1)).foldl putS V) = ascS (varsIn (dfs (rs.take (k + 1)))) ∧ (cellsIn (subs rs[k].2.2)).foldl putS ((cellsIn (subs rs[k].2.1)).foldl putS C) = ascS (cellsIn (dfs (rs.take (k + 1))))) := by
        constructor
        · rw [hdf, varsIn_append, varsIn_append, hVk]; unfold ascS; rw [List.foldl_append, List.foldl_append]
        · rw [hdf, cellsIn_append, cellsIn_append, hCk]; unfold ascS; rw [List.foldl_append, List.foldl_append]
      obtain ⟨pop, pn, ps, pao, pcap, pxs, -, rfl, rfl, rfl, rfl, -, -, -⟩ := node_form hp
      obtain ⟨bop, bn', bs, bao, bcap, bxs, -, rfl, rfl, rfl, rfl, -, -, -⟩ := node_form hbd
      generalize (varsIn (subs rs[k].2.2)).foldl putS ((varsIn (subs rs[k].2.1)).foldl putS V) = V2 at *
      generalize (cellsIn (subs rs[k].2.2)).foldl putS ((cellsIn (subs rs[k].2.1)).foldl putS C) = C2 at *
      generalize (varsIn (subs rs[k].2.1)).foldl putS V = V1 at *
      generalize (cellsIn (subs rs[k].2.1)).foldl putS C = C1 at *
      generalize (kidsOf rs[k].2.1).length = pL at *
      generalize (kidsOf rs[k].2.2).length = bL at *
      have bk : (k : Int) < rs.length := by omega
      clear hR ho hki e1 e2 e3 e4 e5 e6 e7 e8 hp hbd hc cc hlt hszr hsz hst hle hq1 hq2 hdl hVl hCl fr hl1 hl2 hl3 hl4 hdf hVk hCk HR
      go_wp2_with (first
        | (go_at_call 48; refine call1.mono ?_; clear call1; rintro e w2 ⟨gv2, kv2, gc2, kc2, rfl, tv2, tc2, tb2⟩; have tB2 := tb.trans (tb2.mono tb.size); have c5 := d5 _ tB2; have c6 := d6 _ tB2; have c7 := d7 _ tB2; have c8 := d8 _ tB2)
        | (go_at_call 48; refine (call2 _ tB2 _ _ _ _ tv2 tc2).mono ?_; clear call2; rintro e w3 ⟨gv3, kv3, gc3, kc3, rfl, tv3, tc3, tb3⟩))
      go_roundw
      case rel => exact ⟨k + 1, gv3, kv3, gc3, kc3, V2, C2, hkl, by go_num, HV.out.1, HV.out.2, rfl, rfl, tv3, tc3, tB2.trans (tb3.mono tB2.size)⟩
      case measure => simp [intOf]; omega
    · obtain rfl : k = rs.length := by omega
      rw [List.take_length] at hVk hCk
      have HF : Hid (VR = V ∧ CR = C) := ⟨HR.out.1.trans hVk.symm, HR.out.2.trans hCk.symm⟩
      clear hVk hCk HR
      go_wp2_with fail
      go_ret2
      obtain ⟨rfl, rfl⟩ := HF.out
      exact ⟨ga, ka, gb, kb, rfl, tv, tc, tb⟩

end Ck
end Go.Proofs.YtjdohfdkkppnpaaGreatDoor

namespace Go.Proofs.YtjdohfdkkppnpaaGreatDoor
namespace Rx

/-- A Rex: its Kids, and what else it bears. -/
def nd (op c : Nat) (set : List UInt8) (no : Bool) (kids : List Data) : Data :=
  .slice kids [.lit (.int .i64 op), .lit (.int .i64 c), .lit (.string set), .lit (.bool no)]

theorem nd_inj {op c op' c' : Nat} {s s' : List UInt8} {n n' : Bool} {k k' : List Data} (h : nd op c s n k = nd op' c' s' n' k') : op = op' ∧ c = c' ∧ s = s' ∧ n = n' ∧ k = k' := by
  simp only [nd, Data.slice.injEq, List.cons.injEq, Data.lit.injEq, Lit.int.injEq, Lit.string.injEq, Lit.bool.injEq, true_and, and_true] at h
  exact ⟨by omega, by omega, h.2.2.2.1, h.2.2.2.2, h.1⟩

def leaf (op : Nat) : Data := nd op 0 [] false []
def chr (b : Nat) : Data := nd 1 b [] false []
def one (op : Nat) (t : Data) : Data := nd op 0 [] false [t]
def catOf (ts : List Data) : Data := match ts with
  | [] => leaf 11
  | [t] => t
  | ts => nd 6 0 [] false ts
def orOf (ts : List Data) : Data := match ts with
  | [t] => t
  | ts => nd 7 0 [] false ts

def bytesOf (M : Nat → Bool) : List UInt8 := ((List.range 256).filter M).map UInt8.ofNat
def spanOn (M : Nat → Bool) (lo hi : Nat) : Nat → Bool := fun b => M b || (decide (lo ≤ b) && decide (b ≤ hi))
def setOf (M : Nat → Bool) (no : Bool) : Data := nd 3 0 (bytesOf M) no []

def setLoop (g : Nat → Nat) : Nat → Nat → (Nat → Bool) → Option ((Nat → Bool) × Nat)
  | 0, _, _ => none
  | f + 1, i, M =>
    if g i = 256 then none
    else if g i = 93 then some (M, i + 1)
    else if g (i + 1) = 45 ∧ g (i + 2) ≠ 93 then
      if g (i + 2) = 256 ∨ g (i + 2) < g i then none else setLoop g f (i + 3) (spanOn M (g i) (g (i + 2)))
    else setLoop g f (i + 1) (spanOn M (g i) (g i))

def setEnd (no : Bool) (r : Option ((Nat → Bool) × Nat)) : Option (Data × Nat) := match r with
  | none => none
  | some (M, k) => if bytesOf M = [] then none else some (setOf M no, k)

def setAt (g : Nat → Nat) (N i : Nat) : Option (Data × Nat) :=
  setEnd (decide (g i = 94)) (setLoop g (N + 1) (if g i = 94 then i + 1 else i) (fun _ => false))

def shut (g : Nat → Nat) (r : Option (Data × Nat)) : Option (Data × Nat) := match r with
  | none => none
  | some (t, j) => if g j = 41 then some (t, j + 1) else none

def atomAt (g : Nat → Nat) (N : Nat) (F : Nat → Option (Data × Nat)) (i : Nat) : Option (Data × Nat) :=
  if g i = 256 then none
  else if g i = 40 then shut g (F (i + 1))
  else if g i = 46 then some (leaf 2, i + 1)
  else if g i = 94 then some (leaf 4, i + 1)
  else if g i = 36 then some (leaf 5, i + 1)
  else if g i = 91 then setAt g N (i + 1)
  else if g i = 92 then (if g (i + 1) = 256 then none else some (chr (g (i + 1)), i + 2))
  else if g i = 42 ∨ g i = 43 ∨ g i = 63 then none
  else some (chr (g i), i + 1)

def stars (g : Nat → Nat) : Nat → Data → Nat → Data × Nat
  | 0, t, i => (t, i)
  | f + 1, t, i =>
    if g i = 42 then stars g f (one 8 t) (i + 1)
    else if g i = 43 then stars g f (one 9 t) (i + 1)
    else if g i = 63 then stars g f (one 10 t) (i + 1)
    else (t, i)

def pieceAt (g : Nat → Nat) (N : Nat) (A : Nat → Option (Data × Nat)) (i : Nat) : Option (Data × Nat) := match A i with
  | none => none
  | some (t, j) => some (stars g (N + 1) t j)

def partLoop (g : Nat → Nat) (N : Nat) (A : Nat → Option (Data × Nat)) : Nat → Nat → List Data → Option (List Data × Nat)
  | 0, _, _ => none
  | f + 1, i, ts =>
    if g i = 256 ∨ g i = 124 ∨ g i = 41 then some (ts, i)
    else match pieceAt g N A i with
      | none => none
      | some (t, j) => partLoop g N A f j (ts ++ [t])

def partEnd (r : Option (List Data × Nat)) : Option (Data × Nat) := match r with
  | none => none
  | some (ts, j) => some (catOf ts, j)

def partAt (g : Nat → Nat) (N : Nat) (A : Nat → Option (Data × Nat)) (i : Nat) : Option (Data × Nat) := partEnd (partLoop g N A (N + 1) i [])

def patLoop (g : Nat → Nat) (N : Nat) (A : Nat → Option (Data × Nat)) : Nat → Nat → List Data → Option (List Data × Nat)
  | 0, _, _ => none
  | f + 1, i, ts =>
    if g i = 124 then match partAt g N A (i + 1) with
      | none => none
      | some (t, j) => patLoop g N A f j (ts ++ [t])
    else some (ts, i)

def patEnd (r : Option (List Data × Nat)) : Option (Data × Nat) := match r with
  | none => none
  | some (ts, j) => some (orOf ts, j)

def patAt (g : Nat → Nat) (N : Nat) (A : Nat → Option (Data × Nat)) (i : Nat) : Option (Data × Nat) := match partAt g N A i with
  | none => none
  | some (t, j) => patEnd (patLoop g N A (N + 1) j [t])

/-- Atoms with brackets at most so deep. -/
def atomN (g : Nat → Nat) (N : Nat) : Nat → Nat → Option (Data × Nat)
  | 0 => fun _ => none
  | n + 1 => atomAt g N (patAt g N (atomN g N n))

def patN (g : Nat → Nat) (N n : Nat) : Nat → Option (Data × Nat) := patAt g N (atomN g N n)

mutual
def dep : Data → Nat
  | .slice ks _ => deps ks + 1
  | _ => 1
def deps : List Data → Nat
  | [] => 0
  | t :: ts => max (dep t) (deps ts)
end

def wholeV (g : Nat → Nat) (N n : Nat) : Option Data := match patN g N n 0 with
  | none => none
  | some (t, j) => if j = N ∧ dep t ≤ 12 then some t else none

/-! where a reading ends -/

section
variable {g : Nat → Nat} {N : Nat}

theorem lt_of_some (hg : ∀ i, N ≤ i → g i = 256) {i : Nat} (h : g i ≠ 256) : i < N := by
  rcases Nat.lt_or_ge i N with h1 | h1
  · exact h1
  · exact absurd (hg i h1) h

theorem setLoop_in (hg : ∀ i, N ≤ i → g i = 256) : ∀ (f i : Nat) (M M' : Nat → Bool) (k : Nat), setLoop g f i M = some (M', k) → i < k ∧ k ≤ N := by
  intro f
  induction f with
  | zero => intro i M M' k h; simp [setLoop] at h
  | succ f ih =>
    intro i M M' k h
    rw [setLoop] at h
    split at h
    · simp at h
    rename_i h1
    have := lt_of_some hg h1
    split at h
    · simp at h
      omega
    split at h
    · split at h
      · simp at h
      · have := ih _ _ _ _ h; omega
    · have := ih _ _ _ _ h; omega

theorem setAt_in (hg : ∀ i, N ≤ i → g i = 256) {i k : Nat} {t : Data} (h : setAt g N i = some (t, k)) : i < k ∧ k ≤ N := by
  unfold setAt setEnd at h
  split at h
  · simp at h
  · rename_i M k' h1
    have := setLoop_in hg _ _ _ _ _ h1
    split at h
    · simp at h
    · simp at h
      split at this <;> omega

theorem atomAt_in (hg : ∀ i, N ≤ i → g i = 256) {F : Nat → Option (Data × Nat)} (hF : ∀ i t j, F i = some (t, j) → i ≤ j ∧ (i ≤ N → j ≤ N)) {i k : Nat} {t : Data} (h : atomAt g N F i = some (t, k)) : i < k ∧ k ≤ N := by
  unfold atomAt at h
  split at h
  · simp at h
  rename_i h1
  have h1 := lt_of_some hg h1
  split at h
  · unfold shut at h
    split at h
    · simp at h
    · rename_i t' j' h2
      have := hF _ _ _ h2
      split at h
      · rename_i h3
        have := lt_of_some hg (i := j') (by omega)
        simp at h
        omega
      · simp at h
  split at h
  · simp at h; omega
  split at h
  · simp at h; omega
  split at h
  · simp at h; omega
  split at h
  · have := setAt_in hg h; omega
  split at h
  · split at h
    · simp at h
    · rename_i h2
      have := lt_of_some hg h2
      simp at h; omega
  split at h
  · simp at h
  · simp at h; omega

theorem stars_in (hg : ∀ i, N ≤ i → g i = 256) : ∀ (f : Nat) (t : Data) (i : Nat), i ≤ (stars g f t i).2 ∧ (i ≤ N → (stars g f t i).2 ≤ N) := by
  intro f
  induction f with
  | zero => intro t i; simp [stars]
  | succ f ih =>
    intro t i
    rw [stars]
    have a := fun op => ih (one op t) (i + 1)
    have b : g i = 42 ∨ g i = 43 ∨ g i = 63 → i < N := fun h => lt_of_some hg (by omega)
    split
    · have := a 8; omega
    split
    · have := a 9; omega
    split
    · have := a 10; omega
    · exact ⟨Nat.le_refl _, id⟩

theorem pieceAt_in (hg : ∀ i, N ≤ i → g i = 256) {A : Nat → Option (Data × Nat)} (hA : ∀ i t j, A i = some (t, j) → i < j ∧ j ≤ N) {i j : Nat} {t : Data} (h : pieceAt g N A i = some (t, j)) : i < j ∧ j ≤ N := by
  unfold pieceAt at h
  split at h
  · simp at h
  · rename_i t' j' h1
    have := hA _ _ _ h1
    have := stars_in hg (N + 1) t' j'
    simp at h
    rw [h] at this
    simp at this
    omega

theorem partLoop_in (hg : ∀ i, N ≤ i → g i = 256) {A : Nat → Option (Data × Nat)} (hA : ∀ i t j, A i = some (t, j) → i < j ∧ j ≤ N) : ∀ (f i : Nat) (ts us : List Data) (j : Nat), partLoop g N A f i ts = some (us, j) → i ≤ j ∧ (i ≤ N → j ≤ N) := by
  intro f
  induction f with
  | zero => intro i ts us j h; simp [partLoop] at h
  | succ f ih =>
    intro i ts us j h
    rw [partLoop] at h
    split at h
    · simp at h; omega
    split at h
    · simp at h
    · rename_i t j' h1
      have := pieceAt_in hg hA h1
      have := ih _ _ _ _ h
      omega

theorem partAt_in (hg : ∀ i, N ≤ i → g i = 256) {A : Nat → Option (Data × Nat)} (hA : ∀ i t j, A i = some (t, j) → i < j ∧ j ≤ N) {i j : Nat} {t : Data} (h : partAt g N A i = some (t, j)) : i ≤ j ∧ (i ≤ N → j ≤ N) := by
  unfold partAt partEnd at h
  split at h
  · simp at h
  · rename_i ts j' h1
    have := partLoop_in hg hA _ _ _ _ _ h1
    simp at h
    omega

theorem patLoop_in (hg : ∀ i, N ≤ i → g i = 256) {A : Nat → Option (Data × Nat)} (hA : ∀ i t j, A i = some (t, j) → i < j ∧ j ≤ N) : ∀ (f i : Nat) (ts us : List Data) (j : Nat), patLoop g N A f i ts = some (us, j) → i ≤ j ∧ (i ≤ N → j ≤ N) := by
  intro f
  induction f with
  | zero => intro i ts us j h; simp [patLoop] at h
  | succ f ih =>
    intro i ts us j h
    rw [patLoop] at h
    split at h
    · rename_i h0
      have := lt_of_some hg (i := i) (by omega)
      split at h
      · simp at h
      · rename_i t j' h1
        have := partAt_in hg hA h1
        have := ih _ _ _ _ h
        omega
    · simp at h; omega

theorem patAt_in (hg : ∀ i, N ≤ i → g i = 256) {A : Nat → Option (Data × Nat)} (hA : ∀ i t j, A i = some (t, j) → i < j ∧ j ≤ N) {i j : Nat} {t : Data} (h : patAt g N A i = some (t, j)) : i ≤ j ∧ (i ≤ N → j ≤ N) := by
  unfold patAt patEnd at h
  split at h
  · simp at h
  · rename_i t' j' h1
    have := partAt_in hg hA h1
    split at h
    · simp at h
    · rename_i us k h2
      have := patLoop_in hg hA _ _ _ _ _ h2
      simp at h
      omega

theorem atomN_in (hg : ∀ i, N ≤ i → g i = 256) : ∀ (n i : Nat) (t : Data) (j : Nat), atomN g N n i = some (t, j) → i < j ∧ j ≤ N := by
  intro n
  induction n with
  | zero => intro i t j h; simp [atomN] at h
  | succ n ih =>
    intro i t j h
    rw [atomN] at h
    exact atomAt_in hg (fun _ _ _ h => patAt_in hg ih h) h

theorem patN_in (hg : ∀ i, N ≤ i → g i = 256) {n i j : Nat} {t : Data} (h : patN g N n i = some (t, j)) : i ≤ j ∧ (i ≤ N → j ≤ N) := patAt_in hg (atomN_in hg n) h

/-! what is read within brackets of one depth is read within more, and within as many as there is room for -/

theorem piece_agree (hg : ∀ i, N ≤ i → g i = 256) {A A' : Nat → Option (Data × Nat)} {a b : Nat} (hAA : ∀ i t j, a ≤ i → j ≤ b → A i = some (t, j) → A' i = some (t, j))
    {i j : Nat} {t : Data} (hi : a ≤ i) (hj : j ≤ b) (h : pieceAt g N A i = some (t, j)) : pieceAt g N A' i = some (t, j) := by
  unfold pieceAt at h ⊢
  split at h
  · simp at h
  · rename_i t' j' h1
    have := stars_in hg (N + 1) t' j'
    simp at h
    rw [h] at this
    simp at this
    rw [hAA _ _ _ hi (by omega) h1]
    simp [h]

theorem partLoop_agree (hg : ∀ i, N ≤ i → g i = 256) {A A' : Nat → Option (Data × Nat)} {a b : Nat} (hA : ∀ i t j, A i = some (t, j) → i < j ∧ j ≤ N) (hAA : ∀ i t j, a ≤ i → j ≤ b → A i = some (t, j) → A' i = some (t, j)) :
    ∀ (f i : Nat) (ts us : List Data) (j : Nat), a ≤ i → j ≤ b → partLoop g N A f i ts = some (us, j) → partLoop g N A' f i ts = some (us, j) := by
  intro f
  induction f with
  | zero => intro i ts us j _ _ h; simp [partLoop] at h
  | succ f ih =>
    intro i ts us j hi hj h
    rw [partLoop] at h ⊢
    split at h
    · rename_i h0
      rw [if_pos h0]; exact h
    · rename_i h0
      rw [if_neg h0]
      split at h
      · simp at h
      · rename_i t j' h1
        have := pieceAt_in hg hA h1
        have := partLoop_in hg hA _ _ _ _ _ h
        rw [piece_agree hg hAA hi (by omega) h1]
        exact ih _ _ _ _ (by omega) hj h

theorem part_agree (hg : ∀ i, N ≤ i → g i = 256) {A A' : Nat → Option (Data × Nat)} {a b : Nat} (hA : ∀ i t j, A i = some (t, j) → i < j ∧ j ≤ N) (hAA : ∀ i t j, a ≤ i → j ≤ b → A i = some (t, j) → A' i = some (t, j))
    {i j : Nat} {t : Data} (hi : a ≤ i) (hj : j ≤ b) (h : partAt g N A i = some (t, j)) : partAt g N A' i = some (t, j) := by
  unfold partAt partEnd at h ⊢
  split at h
  · simp at h
  · rename_i ts j' h1
    simp at h
    rw [partLoop_agree hg hA hAA _ _ _ _ _ hi (by omega) h1]
    simp [h]

theorem patLoop_agree (hg : ∀ i, N ≤ i → g i = 256) {A A' : Nat → Option (Data × Nat)} {a b : Nat} (hA : ∀ i t j, A i = some (t, j) → i < j ∧ j ≤ N) (hAA : ∀ i t j, a ≤ i → j ≤ b → A i = some (t, j) → A' i = some (t, j)) :
    ∀ (f i : Nat) (ts us : List Data) (j : Nat), a ≤ i → j ≤ b → patLoop g N A f i ts = some (us, j) → patLoop g N A' f i ts = some (us, j) := by
  intro f
  induction f with
  | zero => intro i ts us j _ _ h; simp [patLoop] at h
  | succ f ih =>
    intro i ts us j hi hj h
    rw [patLoop] at h ⊢
    split at h
    · rename_i h0
      rw [if_pos h0]
      split at h
      · simp at h
      · rename_i t j' h1
        have := partAt_in hg hA h1
        have := patLoop_in hg hA _ _ _ _ _ h
        rw [part_agree hg hA hAA (by omega) (by omega) h1]
        exact ih _ _ _ _ (by omega) hj h
    · rename_i h0
      rw [if_neg h0]; exact h

theorem pat_agree (hg : ∀ i, N ≤ i → g i = 256) {A A' : Nat → Option (Data × Nat)} {a b : Nat} (hA : ∀ i t j, A i = some (t, j) → i < j ∧ j ≤ N) (hAA : ∀ i t j, a ≤ i → j ≤ b → A i = some (t, j) → A' i = some (t, j))
    {i j : Nat} {t : Data} (hi : a ≤ i) (hj : j ≤ b) (h : patAt g N A i = some (t, j)) : patAt g N A' i = some (t, j) := by
  unfold patAt patEnd at h ⊢
  split at h
  · simp at h
  · rename_i t' j' h1
    have := partAt_in hg hA h1
    split at h
    · simp at h
    · rename_i us k h2
      have := patLoop_in hg hA _ _ _ _ _ h2
      simp at h
      rw [part_agree hg hA hAA hi (by omega) h1]
      simp only
      rw [patLoop_agree hg hA hAA _ _ _ _ _ (by omega) (by omega) h2]
      simp [h]

theorem atom_agree (hg : ∀ i, N ≤ i → g i = 256) : ∀ (m n i : Nat) (t : Data) (j : Nat), j ≤ i + 2 * n → atomN g N m i = some (t, j) → 0 < n → atomN g N n i = some (t, j) := by
  intro m
  induction m with
  | zero => intro n i t j _ h; simp [atomN] at h
  | succ m ih =>
    intro n i t j hj h hn
    obtain ⟨n, rfl⟩ : ∃ k, n = k + 1 := ⟨n - 1, by omega⟩
    rw [atomN] at h ⊢
    unfold atomAt at h ⊢
    split at h
    · simp at h
    rename_i h0
    rw [if_neg h0]
    split at h
    · rename_i h1
      rw [if_pos h1]
      unfold shut at h ⊢
      split at h
      · simp at h
      · rename_i t' j' h2
        split at h
        · rename_i h3
          simp at h
          have h4 : patAt g N (atomN g N n) (i + 1) = some (t', j') := by
            rcases Nat.eq_zero_or_pos n with h5 | h5
            · subst h5
              have := patAt_in hg (atomN_in hg m) h2
              refine pat_agree hg (a := i + 1) (b := j') (atomN_in hg m) (fun i2 t2 j2 a1 a2 a3 => ?_) (Nat.le_refl _) (Nat.le_refl _) h2
              have := atomN_in hg m _ _ _ a3
              omega
            · refine pat_agree hg (a := i + 1) (b := j') (atomN_in hg m) (fun i2 t2 j2 a1 a2 a3 => ?_) (Nat.le_refl _) (Nat.le_refl _) h2
              exact ih n i2 t2 j2 (by omega) a3 h5
          rw [h4]
          simp only
          rw [if_pos h3]
          simp [h]
        · simp at h
    · rename_i h1
      rw [if_neg h1]
      exact h

theorem patN_agree (hg : ∀ i, N ≤ i → g i = 256) {m n i j : Nat} {t : Data} (hn : 0 < n) (hj : j ≤ i + 2 * n) (h : patN g N m i = some (t, j)) : patN g N n i = some (t, j) :=
  pat_agree hg (a := i) (b := j) (atomN_in hg m) (fun i2 t2 j2 a1 a2 a3 => atom_agree hg m n i2 t2 j2 (by omega) a3 hn) (Nat.le_refl _) (Nat.le_refl _) h

theorem whole_agree (hg : ∀ i, N ≤ i → g i = 256) {m n : Nat} (hm : 0 < m) (hn : 0 < n) (hNm : N ≤ 2 * m) (hNn : N ≤ 2 * n) : wholeV g N m = wholeV g N n := by
  have key : ∀ {m n : Nat}, 0 < n → N ≤ 2 * n → ∀ t, wholeV g N m = some t → wholeV g N n = some t := by
    intro m n hn hN t h
    unfold wholeV at h ⊢
    split at h
    · simp at h
    · rename_i t' j h1
      split at h
      · rename_i h2
        rw [patN_agree hg hn (by omega) h1]
        simp only
        rw [if_pos h2]
        exact h
      · simp at h
  cases h : wholeV g N m with
  | some t => exact (key hn hNn t h).symm
  | none =>
    cases h2 : wholeV g N n with
    | none => rfl
    | some t => rw [key hm hNm t h2] at h; simp at h

end

end Rx
end Go.Proofs.YtjdohfdkkppnpaaGreatDoor

