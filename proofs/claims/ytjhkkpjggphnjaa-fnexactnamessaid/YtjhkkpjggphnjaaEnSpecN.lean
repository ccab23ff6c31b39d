/-
  The specification's Names, over rules.
-/
import Derived.Test.YtjhkkpjggphnjaaEnSpec
namespace Go.Proofs.Ytjhkkpjggphnjaa
open Go.RowKit
namespace Ck
open Nd Ty

/-- All nodes of rules, tree by tree. -/
def dfs : List Ru → List Data
  | [] => []
  | r :: rs => subs r.2.1 ++ (subs r.2.2 ++ dfs rs)
theorem dfs_append : ∀ (xs ys : List Ru), dfs (xs ++ ys) = dfs xs ++ dfs ys
  | [], ys => rfl
  | a :: xs, ys => by simp only [List.cons_append, dfs, dfs_append xs ys, List.append_assoc]
theorem dfs_len : ∀ rs : List Ru, (dfs rs).length ≤ 2 * sizR rs
  | [] => by simp [dfs]
  | r :: rs => by
    have := dfs_len rs
    have := cnt_siz r.2.1
    have := cnt_siz r.2.2
    simp only [dfs, sizR, List.length_append, subs_len]
    omega
theorem mem_dfs {x : Data} : ∀ {rs : List Ru}, x ∈ dfs rs ↔ SubR rs x
  | [] => by simp [dfs, SubR]
  | r :: rs => by
    have ih := mem_dfs (x := x) (rs := rs)
    simp only [dfs, List.mem_append, ih, SubR, List.mem_cons]
    constructor
    · rintro (h | h | ⟨r', h1, h2⟩)
      · exact ⟨r, .inl rfl, .inl h⟩
      · exact ⟨r, .inl rfl, .inr h⟩
      · exact ⟨r', .inr h1, h2⟩
    · rintro ⟨r', rfl | h1, h2⟩
      · exact h2.imp id .inl
      · exact .inr (.inr ⟨r', h1, h2⟩)
theorem txt_none (w : World) : TxtRow (w.alloc (.cells #[] 9)) w.heap.size 0 [] :=
  ⟨rfl, .inr ⟨_, 0, _, rfl, Nat.zero_le _, heap_new _ _, Nat.le_refl _, by unfold maxLen; omega, rfl, rfl⟩⟩

set_option maxHeartbeats 2000000 in
set_option maxRecDepth 100000 in
theorem sNames {rs : List Ru} {w : World} {S : Nat → Prop} {v : Value} {xs : List Value} {B : Nat} (hsz : sizR rs ≤ 1048576) (hlt : ∀ k, S k → k < w.heap.size) (ho : w.ownsRow B 45 9 v rs.length xs) (hR : RulesIs w S rs xs) :
    Calls Try.prog 5 #[v] w fun e w' => ∃ gv kv gc kc, e = .returned (.tuple #[.slice (some ⟨gv, 0, none⟩) (ascS (varsIn (dfs rs))).length kv, .slice (some ⟨gc, 0, none⟩) (ascS (cellsIn (dfs rs))).length kc]) ∧ TxtRow w' gv kv (ascS (varsIn (dfs rs))) ∧ TxtRow w' gc kc (ascS (cellsIn (dfs rs))) ∧ Below w.heap.size w w' := by
  obtain ⟨ao, cap, rfl⟩ := owns_slice ho
  have bn : (rs.length : Int) ≤ 1048576 := by have := sizR_len rs; omega
  obtain ⟨VR, hVR⟩ : ∃ VR, VR = ascS (varsIn (dfs rs)) := ⟨_, rfl⟩
  obtain ⟨CR, hCR⟩ : ∃ CR, CR = ascS (cellsIn (dfs rs)) := ⟨_, rfl⟩
  rw [← hVR, ← hCR]
  have HR : Hid (VR = ascS (varsIn (dfs rs)) ∧ CR = ascS (cellsIn (dfs rs))) := ⟨hVR, hCR⟩
  clear hVR hCR
  obtain ⟨o1, ho1⟩ : ∃ o1, o1 = Obj.cells #[] 9 := ⟨_, rfl⟩
  have tb0 : Below w.heap.size w ((w.alloc o1).alloc o1) := ((Below.refl _ w).alloc (Nat.le_refl _) _).alloc (by simp) _
  have tv0 : TxtRow ((w.alloc o1).alloc o1) w.heap.size 0 [] := by rw [ho1]; exact (txt_none w).later ((Below.refl _ _).alloc (Nat.le_refl _) _)
  have tc0 : TxtRow ((w.alloc o1).alloc o1) (w.heap.size + 1) 0 [] := by rw [ho1]; have := txt_none (w.alloc (.cells #[] 9)); rwa [World.size_alloc] at this
  subst ho1
  go_enter Try.func5, Try.ntmps5
  go_wp2_with fail
  go_loopw [4, 5, 6] (fun v1 v2 i wr => ∃ (k ga ka gb kb : Nat) (V C : List (List UInt8)), k ≤ rs.length ∧ i = .int .i64 k ∧ V = ascS (varsIn (dfs (rs.take k))) ∧ C = ascS (cellsIn (dfs (rs.take k))) ∧ v1 = .slice (some ⟨ga, 0, none⟩) V.length ka ∧ v2 = .slice (some ⟨gb, 0, none⟩) C.length kb ∧ TxtRow wr ga ka V ∧ TxtRow wr gb kb C ∧ Below w.heap.size w wr) (fun _ _ i _ => rs.length - (intOf i).toNat)
  case atStart => exact ⟨0, w.heap.size, 0, w.heap.size + 1, 0, [], [], Nat.zero_le _, rfl, by simp [dfs, varsIn, ascS], by simp [dfs, cellsIn, ascS], rfl, rfl, tv0, tc0, tb0⟩
  case round =>
    clear tv0 tc0 tb0
    obtain ⟨k, ga, ka, gb, kb, V, C, hk, rfl, hVk, hCk, rfl, rfl, tv, tc, tb⟩ := hrel
    by_cases hkl : k < rs.length
    · have hki : rs[k]? = some rs[k] := List.getElem?_eq_getElem hkl
      obtain ⟨p0, p1, p2, p3, b0, b1, b2, b3, -, e1, e2, e3, e4, e5, e6, e7, e8, hp, hbd⟩ := rules_at hR hki
      obtain ⟨g, rfl, hg, hc⟩ := row_cells ho hkl
      have cc : ∀ w', Below w.heap.size w w' → ∀ j x, xs[j]? = some x → w'.cell? ⟨g, j, none⟩ = some x := fun w' hb j x hx => (hb.cell (p := ⟨g, j, none⟩) hg).trans (hc j x hx)
      have c1 := cc _ tb _ _ e1
      have c2 := cc _ tb _ _ e2
      have c3 := cc _ tb _ _ e3
      have c4 := cc _ tb _ _ e4
      have d5 := fun w' hb => cc w' hb _ _ e5
      have d6 := fun w' hb => cc w' hb _ _ e6
      have d7 := fun w' hb => cc w' hb _ _ e7
      have d8 := fun w' hb => cc w' hb _ _ e8
      have hszr := sizR_mem (List.getElem_mem hkl)
      have hst := sizR_take rs k _ hki
      have hle : sizR (rs.take (k + 1)) ≤ sizR rs := by have := sizR_append (rs.take (k + 1)) (rs.drop (k + 1)); rw [List.take_append_drop] at this; omega
      have hq1 := cnt_siz rs[k].2.1
      have hq2 := cnt_siz rs[k].2.2
      have hdl := dfs_len (rs.take k)
      have hVl : V.length ≤ (dfs (rs.take k)).length := by rw [hVk]; have := foldl_len (varsIn (dfs (rs.take k))) []; have := varsIn_len (dfs (rs.take k)); unfold ascS; simp at *; omega
      have hCl : C.length ≤ (dfs (rs.take k)).length := by rw [hCk]; have := foldl_len (cellsIn (dfs (rs.take k))) []; have := cellsIn_len (dfs (rs.take k)); unfold ascS; simp at *; omega
      have fr : ∀ w', Below w.heap.size w w' → NodeIs w' rs[k].2.1 S [p0, p1, p2, p3] ∧ NodeIs w' rs[k].2.2 S [b0, b1, b2, b3] ∧ ∀ j, S j → j < w'.heap.size := fun w' hb => ⟨node_frame _ _ _ (fun j hj => hb.block j (hlt j hj)) hp, node_frame _ _ _ (fun j hj => hb.block j (hlt j hj)) hbd, fun j hj => Nat.lt_of_lt_of_le (hlt j hj) hb.size⟩
      have call1 := sNm rs[k].2.1 wr S p0 p1 p2 p3 V C ga ka gb kb (fr wr tb).1 (fr wr tb).2.2 tv tc (by omega) (by omega)
      have hl1 := foldl_len (varsIn (subs rs[k].2.1)) V
      have hl2 := foldl_len (cellsIn (subs rs[k].2.1)) C
      have hl3 := varsIn_len (subs rs[k].2.1)
      have hl4 := cellsIn_len (subs rs[k].2.1)
      rw [subs_len] at hl3 hl4
      have call2 := fun (w' : World) (hb : Below w.heap.size w w') gv kv gc kc (h1 : TxtRow w' gv kv ((varsIn (subs rs[k].2.1)).foldl putS V)) (h2 : TxtRow w' gc kc ((cellsIn (subs rs[k].2.1)).foldl putS C)) => sNm rs[k].2.2 w' S b0 b1 b2 b3 _ _ gv kv gc kc (fr w' hb).2.1 (fr w' hb).2.2 h1 h2 (by omega) (by omega)
      have hdf : dfs (rs.take (k + 1)) = dfs (rs.take k) ++ (subs rs[k].2.1 ++ subs rs[k].2.2) := by rw [List.take_add_one, hki, dfs_append]; simp [dfs]
      have HV : Hid ((varsIn (subs rs[k].2.2)).foldl putS ((varsIn (subs rs[k].2.1)).foldl putS V) = ascS (varsIn (dfs (rs.take (k + 1)))) ∧ (cellsIn (subs rs[k].2.2)).foldl putS ((cellsIn (subs rs[k].2.1)).foldl putS C) = ascS (cellsIn (dfs (rs.take (k + 1))))) := by
        constructor
        · rw [hdf, varsIn_append, varsIn_append, hVk]; unfold ascS; rw [List.foldl_append, List.foldl_append]
        · rw [hdf, cellsIn_append, cellsIn_append, hCk]; unfold ascS; rw [List.foldl_append, List.foldl_append]
      obtain ⟨pop, pn, ps, pao, pcap, pxs, -, rfl, rfl, rfl, rfl, -, -, -⟩ := node_form hp
      obtain ⟨bop, bn', bs, bao, bcap, bxs, -, rfl, rfl, rfl, rfl, -, -, -⟩ := node_form hbd
      generalize (varsIn (subs rs[k].2.2)).foldl putS ((varsIn (subs rs[k].2.1)).foldl putS V) = V2 at *
      generalize (cellsIn (subs rs[k].2.2)).foldl putS ((cellsIn (subs rs[k].2.1)).foldl putS C) = C2 at *
      generalize (varsIn (subs rs[k].2.1)).foldl putS V = V1 at *
      generalize (cellsIn (subs rs[k].2.1)).foldl putS C = C1 at *
      generalize (kidsOf rs[k].2.1).length = pL at *
      generalize (kidsOf rs[k].2.2).length = bL at *
      have bk : (k : Int) < rs.length := by omega
      clear hR ho hki e1 e2 e3 e4 e5 e6 e7 e8 hp hbd hc cc hlt hszr hsz hst hle hq1 hq2 hdl hVl hCl fr hl1 hl2 hl3 hl4 hdf hVk hCk HR
      go_wp2_with (first
        | (go_at_call 14; refine call1.mono ?_; clear call1; rintro e w2 ⟨gv2, kv2, gc2, kc2, rfl, tv2, tc2, tb2⟩; have tB2 := tb.trans (tb2.mono tb.size); have c5 := d5 _ tB2; have c6 := d6 _ tB2; have c7 := d7 _ tB2; have c8 := d8 _ tB2)
        | (go_at_call 14; refine (call2 _ tB2 _ _ _ _ tv2 tc2).mono ?_; clear call2; rintro e w3 ⟨gv3, kv3, gc3, kc3, rfl, tv3, tc3, tb3⟩))
      go_roundw
      case rel => exact ⟨k + 1, gv3, kv3, gc3, kc3, V2, C2, hkl, by go_num, HV.out.1, HV.out.2, rfl, rfl, tv3, tc3, tB2.trans (tb3.mono tB2.size)⟩
      case measure => simp [intOf]; omega
    · obtain rfl : k = rs.length := by omega
      rw [List.take_length] at hVk hCk
      have HF : Hid (VR = V ∧ CR = C) := ⟨HR.out.1.trans hVk.symm, HR.out.2.trans hCk.symm⟩
      clear hVk hCk HR
      go_wp2_with fail
      go_ret2
      obtain ⟨rfl, rfl⟩ := HF.out
      exact ⟨ga, ka, gb, kb, rfl, tv, tc, tb⟩

end Ck
end Go.Proofs.Ytjhkkpjggphnjaa
