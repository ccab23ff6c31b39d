/-
  The specification's Names.
-/
import Derived.Test.YtjdohfdkkppnpaaGreatDoorP03
import Derived.Test.YtjdohfdkkppnpaaGreatDoorP05
namespace Go.Proofs.YtjdohfdkkppnpaaGreatDoor
open Go.RowKit
namespace Ck
open Nd Ty

theorem subs_len (t : Data) : (subs t).length = cnt t := by
  induction t using tree_ind with
  | h ks lab ih =>
    have : ∀ ts : List Data, (∀ t ∈ ts, (subs t).length = cnt t) → (subsL ts).length = cnts ts := by
      intro ts
      induction ts with
      | nil => intro _; simp [subsL, cnts]
      | cons a ts ih2 =>
        intro h
        have h1 := h a (by simp)
        have h2 := ih2 fun t ht => h t (by simp [ht])
        simp only [subsL, cnts, List.length_append]
        omega
    have := this ks ih
    simp only [subs, cnt, List.length_cons]
    omega
  | h1 t ht =>
    cases t <;> simp [subs, cnt]
    exact absurd rfl (ht _ _)
theorem subsL_len (ts : List Data) : (subsL ts).length = cnts ts := by
  induction ts with
  | nil => simp [subsL, cnts]
  | cons t ts ih => simp only [subsL, cnts, List.length_append, subs_len, ih]
theorem varsIn_len (ts : List Data) : (varsIn ts).length ≤ ts.length := List.length_filterMap_le ..
theorem cellsIn_len (ts : List Data) : (cellsIn ts).length ≤ ts.length := List.length_filterMap_le ..

/-- What l10Names tells of a tree. -/
def NmOk (t : Data) : Prop := ∀ (w : World) (S : Nat → Prop) (a b c u : Value) (vs cs : List (List UInt8)) (gv kv gc kc : Nat), NodeIs w t S [a, b, c, u] → (∀ k, S k → k < w.heap.size) → TxtRow w gv kv vs → TxtRow w gc kc cs → vs.length + cnt t ≤ 2500000 → cs.length + cnt t ≤ 2500000 →
  Calls Tryz.prog 48 #[.agg #[a, b, c, u], .slice (some ⟨gv, 0, none⟩) vs.length kv, .slice (some ⟨gc, 0, none⟩) cs.length kc] w fun e w' => ∃ gv' kv' gc' kc', e = .returned (.tuple #[.slice (some ⟨gv', 0, none⟩) ((varsIn (subs t)).foldl putS vs).length kv', .slice (some ⟨gc', 0, none⟩) ((cellsIn (subs t)).foldl putS cs).length kc']) ∧
    TxtRow w' gv' kv' ((varsIn (subs t)).foldl putS vs) ∧ TxtRow w' gc' kc' ((cellsIn (subs t)).foldl putS cs) ∧ Below w.heap.size w w'

def varsT (op : Int) (s : List UInt8) : List (List UInt8) := if op = 4 then [s] else []
def cellsT (op : Int) (s : List UInt8) : List (List UInt8) := if op = 5 ∨ op = 34 then [s] else []
theorem varsIn_one (t : Data) : varsIn [t] = varsT (opOf t) (txtOf t) := by unfold varsIn varsT varN; by_cases h : opOf t = 4 <;> simp [h]
theorem cellsIn_one (t : Data) : cellsIn [t] = cellsT (opOf t) (txtOf t) := by unfold cellsIn cellsT cellN; by_cases h : opOf t = 5 ∨ opOf t = 34 <;> simp [h]

set_option maxHeartbeats 2000000 in
set_option maxRecDepth 100000 in
theorem nm_of {t : Data} (ih : ∀ k ∈ kidsOf t, NmOk k) : NmOk t := by
  intro w S a b c u vs cs gv kv gc kc ht hS hv hc hl hl2
  obtain ⟨op, n, s, ao, cap, xs, hnd, rfl, rfl, rfl, rfl, hro, hrg, hrn⟩ := node_form ht
  have hop : opOf t = op := by rw [hnd]; rfl
  have htx : txtOf t = s := by rw [hnd]; rfl
  have hck := cnt_kids t
  have hkl := cnts_len (kidsOf t)
  obtain ⟨ks, hks⟩ : ∃ ks, ks = kidsOf t := ⟨_, rfl⟩
  rw [← hks] at ih hro hrg hrn hck hkl ⊢
  have hsub : subs t = t :: subsL ks := by rw [hks]; exact subs_kids t
  have hV : (varsIn (subs t)).foldl putS vs = (varsIn (subsL ks)).foldl putS ((varsT op s).foldl putS vs) := by
    rw [hsub, ← List.singleton_append, varsIn_append, varsIn_one, hop, htx, List.foldl_append]
  have hC : (cellsIn (subs t)).foldl putS cs = (cellsIn (subsL ks)).foldl putS ((cellsT op s).foldl putS cs) := by
    rw [hsub, ← List.singleton_append, cellsIn_append, cellsIn_one, hop, htx, List.foldl_append]
  rw [hV, hC]
  obtain ⟨o1, ho1⟩ : ∃ o1, o1 = Obj.cells #[.int .i64 op, .int .i64 n, .string ⟨s.toArray⟩, .slice ao ks.length cap] 39 := ⟨_, rfl⟩
  have hb1 : Below w.heap.size w (w.alloc o1) := (Below.refl _ w).alloc (Nat.le_refl _) _
  have hvA := hv.later hb1
  have hcA := hc.later hb1
  have hlI : (ks.length : Int) ≤ 2500000 := by omega
  -- the three ways of the switch
  have hway : ∃ (f : Bool × Bool), ((f = (true, false) ∧ op = 4) ∨ (f = (false, true) ∧ (op = 5 ∨ op = 34)) ∨ (f = (false, false) ∧ op ≠ 4 ∧ op ≠ 5 ∧ op ≠ 34)) := by
    by_cases h4 : op = 4
    · exact ⟨_, .inl ⟨rfl, h4⟩⟩
    · by_cases h5 : op = 5 ∨ op = 34
      · exact ⟨_, .inr (.inl ⟨rfl, h5⟩)⟩
      · simp only [not_or] at h5
        exact ⟨_, .inr (.inr ⟨rfl, h4, h5.1, h5.2⟩)⟩
  have cv := sPut (s := s) hvA (by omega)
  have cc := sPut (s := s) hcA (by omega)
  -- what is so behind the switch
  obtain ⟨V0, hV0⟩ : ∃ V0, V0 = (varsT op s).foldl putS vs := ⟨_, rfl⟩
  obtain ⟨C0, hC0⟩ : ∃ C0, C0 = (cellsT op s).foldl putS cs := ⟨_, rfl⟩
  have hV0l : V0.length ≤ vs.length + 1 := by
    have := foldl_len (varsT op s) vs
    have : (varsT op s).length ≤ 1 := by unfold varsT; split <;> simp
    rw [hV0]; omega
  have hC0l : C0.length ≤ cs.length + 1 := by
    have := foldl_len (cellsT op s) cs
    have : (cellsT op s).length ≤ 1 := by unfold cellsT; split <;> simp
    rw [hC0]; omega
  rw [← hV0, ← hC0]
  have HV0 : Hid (V0 = (varsT op s).foldl putS vs) := hV0
  have HC0 : Hid (C0 = (cellsT op s).foldl putS cs) := hC0
  obtain ⟨VR, hVR⟩ : ∃ VR, VR = (varsIn (subsL ks)).foldl putS V0 := ⟨_, rfl⟩
  obtain ⟨CR, hCR⟩ : ∃ CR, CR = (cellsIn (subsL ks)).foldl putS C0 := ⟨_, rfl⟩
  rw [← hVR, ← hCR]
  have HR : Hid (VR = (varsIn (subsL ks)).foldl putS V0 ∧ CR = (cellsIn (subsL ks)).foldl putS C0) := ⟨hVR, hCR⟩
  have hcl : vs.length + cnts ks + 1 ≤ 2500000 ∧ cs.length + cnts ks + 1 ≤ 2500000 := ⟨by omega, by omega⟩
  have hkid : ∀ w', Below w.heap.size w w' → ∀ i t', ks[i]? = some t' → ∃ (S1 : Nat → Prop) (x0 x1 x2 x3 : Value) (g : Nat), ao = some ⟨g, 0, none⟩ ∧ w'.cell? ⟨g, i * 4, none⟩ = some x0 ∧ w'.cell? ⟨g, i * 4 + 1, none⟩ = some x1 ∧ w'.cell? ⟨g, i * 4 + 2, none⟩ = some x2 ∧ w'.cell? ⟨g, i * 4 + 3, none⟩ = some x3 ∧ NodeIs w' t' S1 [x0, x1, x2, x3] ∧ ∀ k, S1 k → k < w'.heap.size := by
    intro w' hb i t' hi
    obtain ⟨S1, x0, x1, x2, x3, y0, y1, y2, y3, hn, hs1⟩ := nodes_at hrn hi
    obtain ⟨g, rfl, hg, hcc⟩ := row_cells hro ((List.getElem?_eq_some_iff.1 hi).1)
    have cell : ∀ j x, xs[j]? = some x → w'.cell? ⟨g, j, none⟩ = some x := fun j x hx => (hb.cell (p := ⟨g, j, none⟩) hg).trans (hcc j x hx)
    have hlt : ∀ k, S1 k → k < w.heap.size := fun k hk => hS k (hs1 k hk).1
    exact ⟨S1, x0, x1, x2, x3, g, rfl, cell _ _ y0, cell _ _ y1, cell _ _ y2, cell _ _ y3, node_frame _ _ _ (fun k hk => hb.block k (hlt k hk)) hn, fun k hk => Nat.lt_of_lt_of_le (hlt k hk) hb.size⟩
  have te0 : (w.alloc o1).cell? ⟨w.heap.size, 3, none⟩ = some (.slice ao ks.length cap) := by have h := heap_new w o1; unfold World.cell?; simp only [h]; rw [ho1]; rfl
  subst ho1
  clear ht hnd hro hrg hrn hV hC hV0 hC0 hVR hCR hck hsub htx hop hv hc hl hl2 hks
  obtain ⟨f, ⟨-, rfl⟩ | ⟨-, hop⟩ | ⟨-, h4, h5, h6⟩⟩ := hway
  · have eV : V0 = putS vs s := by rw [HV0.out]; rfl
    have eC : C0 = cs := by rw [HC0.out]; rfl
    have HE : Hid (V0 = putS vs s ∧ C0 = cs) := ⟨eV, eC⟩
    clear eV eC HV0 HC0 cc
    go_enter Tryz.func48, Tryz.ntmps48
    go_wp2_with (go_at_call 90; refine cv.mono ?_; rintro e w1 ⟨ga, ka, rfl, tv, hb2⟩)
    · obtain ⟨gb, kb, hgb⟩ : ∃ gb kb, gb = gc ∧ kb = kc := ⟨_, _, rfl, rfl⟩
      obtain ⟨rfl, rfl⟩ := hgb
      have tc := hcA.later hb2
      have tb : Below w.heap.size w w1 := hb1.trans (hb2.mono hb1.size)
      have te := (hb2.cell (p := ⟨w.heap.size, 3, none⟩) (by simp)).trans te0
      rw [← HE.out.1] at tv
      rw [← HE.out.2] at tc
      go_loopw [1, 2, 8] (fun v1 v2 i wr => ∃ (k ga ka gb kb : Nat) (V C : List (List UInt8)), k ≤ ks.length ∧ i = .int .i64 k ∧ V = (varsIn (subsL (ks.take k))).foldl putS V0 ∧ C = (cellsIn (subsL (ks.take k))).foldl putS C0 ∧ v1 = .slice (some ⟨ga, 0, none⟩) V.length ka ∧ v2 = .slice (some ⟨gb, 0, none⟩) C.length kb ∧ TxtRow wr ga ka V ∧ TxtRow wr gb kb C ∧ Below w.heap.size w wr ∧ wr.cell? ⟨w.heap.size, 3, none⟩ = some (.slice ao ks.length cap)) (fun _ _ i _ => ks.length - (intOf i).toNat)
      case atStart => exact ⟨0, ga, ka, gb, kb, V0, C0, Nat.zero_le _, rfl, by simp [subsL, varsIn], by simp [subsL, cellsIn], by rw [HE.out.1], by rw [HE.out.2], tv, tc, tb, te⟩
      case round =>
        clear tv tc tb te
        obtain ⟨k, ga, ka, gb, kb, V, C, hk, rfl, hVk, hCk, rfl, rfl, tv, tc, tb, te⟩ := hrel
        by_cases hkk : k < ks.length
        · have hki : ks[k]? = some ks[k] := List.getElem?_eq_getElem hkk
          obtain ⟨S1, x0, x1, x2, x3, g, rfl, c0, c1, c2, c3, hn, hlt⟩ := hkid wr tb k _ hki
          have hsz : cnts (ks.take (k + 1)) = cnts (ks.take k) + cnt ks[k] := cnts_take ks k _ hki
          have hle := cnts_le ks (k + 1)
          have hVl : V.length ≤ V0.length + cnts (ks.take k) := by rw [hVk]; have := foldl_len (varsIn (subsL (ks.take k))) V0; have := varsIn_len (subsL (ks.take k)); rw [subsL_len] at this; omega
          have hCl : C.length ≤ C0.length + cnts (ks.take k) := by rw [hCk]; have := foldl_len (cellsIn (subsL (ks.take k))) C0; have := cellsIn_len (subsL (ks.take k)); rw [subsL_len] at this; omega
          have call := ih ks[k] (List.getElem_mem hkk) wr S1 x0 x1 x2 x3 V C ga ka gb kb hn hlt tv tc (by omega) (by omega)
          have hst : subsL (ks.take (k + 1)) = subsL (ks.take k) ++ subs ks[k] := by rw [List.take_add_one, hki, subsL_append]; simp [subsL]
          have HV : Hid ((varsIn (subs ks[k])).foldl putS V = (varsIn (subsL (ks.take (k + 1)))).foldl putS V0 ∧ (cellsIn (subs ks[k])).foldl putS C = (cellsIn (subsL (ks.take (k + 1)))).foldl putS C0) := by
            constructor
            · rw [hst, varsIn_append, List.foldl_append, hVk]
            · rw [hst, cellsIn_append, List.foldl_append, hCk]
          obtain ⟨op', n', s', ao', cap', xs', -, rfl, rfl, rfl, rfl, -, -, -⟩ := node_form hn
          generalize (varsIn (subs ks[k])).foldl putS V = V1 at *
          generalize (cellsIn (subs ks[k])).foldl putS C = C1 at *
          generalize (kidsOf ks[k]).length = L' at *
          have bk : (k : Int) < ks.length := by omega
          have hwl : w.heap.size < wr.heap.size := World.block_lt_of_cell? _ _ te
          clear hn hlt hki hst hsz hle hVl hCl hVk hCk hkid ih HR
          go_wp2_with (go_at_call 48; refine call.mono ?_; rintro e w2 ⟨gv2, kv2, gc2, kc2, rfl, tv2, tc2, tb2⟩)
          go_roundw
          case rel => exact ⟨k + 1, gv2, kv2, gc2, kc2, V1, C1, hkk, by go_num, HV.out.1, HV.out.2, rfl, rfl, tv2, tc2, tb.trans (tb2.mono tb.size), (tb2.cell (p := ⟨w.heap.size, 3, none⟩) hwl).trans te⟩
          case measure => simp [intOf]; omega
        · obtain rfl : k = ks.length := by omega
          rw [List.take_length] at hVk hCk
          have HF : Hid (VR = V ∧ CR = C) := ⟨HR.out.1.trans hVk.symm, HR.out.2.trans hCk.symm⟩
          clear hVk hCk hkid ih HR
          go_wp2_with fail
          go_ret2
          obtain ⟨rfl, rfl⟩ := HF.out
          exact ⟨ga, ka, gb, kb, rfl, tv, tc, tb⟩
  · have eV : V0 = vs := by rw [HV0.out]; unfold varsT; rw [if_neg (by omega)]; rfl
    have eC : C0 = putS cs s := by rw [HC0.out]; unfold cellsT; rw [if_pos hop]; rfl
    have HE : Hid (V0 = vs ∧ C0 = putS cs s) := ⟨eV, eC⟩
    clear eV eC HV0 HC0 cv
    rcases hop with rfl | rfl
    all_goals
      go_enter Tryz.func48, Tryz.ntmps48
      go_wp2_with (go_at_call 90; refine cc.mono ?_; rintro e w1 ⟨gb, kb, rfl, tc, hb2⟩)
      obtain ⟨ga, ka, hgb⟩ : ∃ ga ka, ga = gv ∧ ka = kv := ⟨_, _, rfl, rfl⟩
      obtain ⟨rfl, rfl⟩ := hgb
      have tv := hvA.later hb2
      have tb : Below w.heap.size w w1 := hb1.trans (hb2.mono hb1.size)
      have te := (hb2.cell (p := ⟨w.heap.size, 3, none⟩) (by simp)).trans te0
      rw [← HE.out.1] at tv
      rw [← HE.out.2] at tc
      go_loopw [1, 2, 8] (fun v1 v2 i wr => ∃ (k ga ka gb kb : Nat) (V C : List (List UInt8)), k ≤ ks.length ∧ i = .int .i64 k ∧ V = (varsIn (subsL (ks.take k))).foldl putS V0 ∧ C = (cellsIn (subsL (ks.take k))).foldl putS C0 ∧ v1 = .slice (some ⟨ga, 0, none⟩) V.length ka ∧ v2 = .slice (some ⟨gb, 0, none⟩) C.length kb ∧ TxtRow wr ga ka V ∧ TxtRow wr gb kb C ∧ Below w.heap.size w wr ∧ wr.cell? ⟨w.heap.size, 3, none⟩ = some (.slice ao ks.length cap)) (fun _ _ i _ => ks.length - (intOf i).toNat)
      case atStart => exact ⟨0, ga, ka, gb, kb, V0, C0, Nat.zero_le _, rfl, by simp [subsL, varsIn], by simp [subsL, cellsIn], by rw [HE.out.1], by rw [HE.out.2], tv, tc, tb, te⟩
      case round =>
        clear tv tc tb te
        obtain ⟨k, ga, ka, gb, kb, V, C, hk, rfl, hVk, hCk, rfl, rfl, tv, tc, tb, te⟩ := hrel
        by_cases hkk : k < ks.length
        · have hki : ks[k]? = some ks[k] := List.getElem?_eq_getElem hkk
          obtain ⟨S1, x0, x1, x2, x3, g, rfl, c0, c1, c2, c3, hn, hlt⟩ := hkid wr tb k _ hki
          have hsz : cnts (ks.take (k + 1)) = cnts (ks.take k) + cnt ks[k] := cnts_take ks k _ hki
          have hle := cnts_le ks (k + 1)
          have hVl : V.length ≤ V0.length + cnts (ks.take k) := by rw [hVk]; have := foldl_len (varsIn (subsL (ks.take k))) V0; have := varsIn_len (subsL (ks.take k)); rw [subsL_len] at this; omega
          have hCl : C.length ≤ C0.length + cnts (ks.take k) := by rw [hCk]; have := foldl_len (cellsIn (subsL (ks.take k))) C0; have := cellsIn_len (subsL (ks.take k)); rw [subsL_len] at this; omega
          have call := ih ks[k] (List.getElem_mem hkk) wr S1 x0 x1 x2 x3 V C ga ka gb kb hn hlt tv tc (by omega) (by omega)
          have hst : subsL (ks.take (k + 1)) = subsL (ks.take k) ++ subs ks[k] := by rw [List.take_add_one, hki, subsL_append]; simp [subsL]
          have HV : Hid ((varsIn (subs ks[k])).foldl putS V = (varsIn (subsL (ks.take (k + 1)))).foldl putS V0 ∧ (cellsIn (subs ks[k])).foldl putS C = (cellsIn (subsL (ks.take (k + 1)))).foldl putS C0) := by
            constructor
            · rw [hst, varsIn_append, List.foldl_append, hVk]
            · rw [hst, cellsIn_append, List.foldl_append, hCk]
          obtain ⟨op', n', s', ao', cap', xs', -, rfl, rfl, rfl, rfl, -, -, -⟩ := node_form hn
          generalize (varsIn (subs ks[k])).foldl putS V = V1 at *
          generalize (cellsIn (subs ks[k])).foldl putS C = C1 at *
          generalize (kidsOf ks[k]).length = L' at *
          have bk : (k : Int) < ks.length := by omega
          have hwl : w.heap.size < wr.heap.size := World.block_lt_of_cell? _ _ te
          clear hn hlt hki hst hsz hle hVl hCl hVk hCk hkid ih HR
          go_wp2_with (go_at_call 48; refine call.mono ?_; rintro e w2 ⟨gv2, kv2, gc2, kc2, rfl, tv2, tc2, tb2⟩)
          go_roundw
          case rel => exact ⟨k + 1, gv2, kv2, gc2, kc2, V1, C1, hkk, by go_num, HV.out.1, HV.out.2, rfl, rfl, tv2, tc2, tb.trans (tb2.mono tb.size), (tb2.cell (p := ⟨w.heap.size, 3, none⟩) hwl).trans te⟩
          case measure => simp [intOf]; omega
        · obtain rfl : k = ks.length := by omega
          rw [List.take_length] at hVk hCk
          have HF : Hid (VR = V ∧ CR = C) := ⟨HR.out.1.trans hVk.symm, HR.out.2.trans hCk.symm⟩
          clear hVk hCk hkid ih HR
          go_wp2_with fail
          go_ret2
          obtain ⟨rfl, rfl⟩ := HF.out
          exact ⟨ga, ka, gb, kb, rfl, tv, tc, tb⟩
  · have eV : V0 = vs := by rw [HV0.out]; unfold varsT; rw [if_neg h4]; rfl
    have eC : C0 = cs := by rw [HC0.out]; unfold cellsT; rw [if_neg (by omega)]; rfl
    have HE : Hid (V0 = vs ∧ C0 = cs) := ⟨eV, eC⟩
    have e4 : (op == 4) = false := by simp [h4]
    have e5 : (op == 5) = false := by simp [h5]
    have e6 : (op == 34) = false := by simp [h6]
    clear eV eC HV0 HC0 cv cc h4 h5 h6
    go_enter Tryz.func48, Tryz.ntmps48
    go_wp2_with fail
    · obtain ⟨ga, ka, gb, kb, hgb⟩ : ∃ ga ka gb kb, ga = gv ∧ ka = kv ∧ gb = gc ∧ kb = kc := ⟨_, _, _, _, rfl, rfl, rfl, rfl⟩
      obtain ⟨rfl, rfl, rfl, rfl⟩ := hgb
      have tb := hb1
      have te := te0
      have tv := hvA
      have tc := hcA
      rw [← HE.out.1] at tv
      rw [← HE.out.2] at tc
      go_loopw [1, 2, 8] (fun v1 v2 i wr => ∃ (k ga ka gb kb : Nat) (V C : List (List UInt8)), k ≤ ks.length ∧ i = .int .i64 k ∧ V = (varsIn (subsL (ks.take k))).foldl putS V0 ∧ C = (cellsIn (subsL (ks.take k))).foldl putS C0 ∧ v1 = .slice (some ⟨ga, 0, none⟩) V.length ka ∧ v2 = .slice (some ⟨gb, 0, none⟩) C.length kb ∧ TxtRow wr ga ka V ∧ TxtRow wr gb kb C ∧ Below w.heap.size w wr ∧ wr.cell? ⟨w.heap.size, 3, none⟩ = some (.slice ao ks.length cap)) (fun _ _ i _ => ks.length - (intOf i).toNat)
      case atStart => exact ⟨0, ga, ka, gb, kb, V0, C0, Nat.zero_le _, rfl, by simp [subsL, varsIn], by simp [subsL, cellsIn], by rw [HE.out.1], by rw [HE.out.2], tv, tc, tb, te⟩
      case round =>
        clear tv tc tb te
        obtain ⟨k, ga, ka, gb, kb, V, C, hk, rfl, hVk, hCk, rfl, rfl, tv, tc, tb, te⟩ := hrel
        by_cases hkk : k < ks.length
        · have hki : ks[k]? = some ks[k] := List.getElem?_eq_getElem hkk
          obtain ⟨S1, x0, x1, x2, x3, g, rfl, c0, c1, c2, c3, hn, hlt⟩ := hkid wr tb k _ hki
          have hsz : cnts (ks.take (k + 1)) = cnts (ks.take k) + cnt ks[k] := cnts_take ks k _ hki
          have hle := cnts_le ks (k + 1)
          have hVl : V.length ≤ V0.length + cnts (ks.take k) := by rw [hVk]; have := foldl_len (varsIn (subsL (ks.take k))) V0; have := varsIn_len (subsL (ks.take k)); rw [subsL_len] at this; omega
          have hCl : C.length ≤ C0.length + cnts (ks.take k) := by rw [hCk]; have := foldl_len (cellsIn (subsL (ks.take k))) C0; have := cellsIn_len (subsL (ks.take k)); rw [subsL_len] at this; omega
          have call := ih ks[k] (List.getElem_mem hkk) wr S1 x0 x1 x2 x3 V C ga ka gb kb hn hlt tv tc (by omega) (by omega)
          have hst : subsL (ks.take (k + 1)) = subsL (ks.take k) ++ subs ks[k] := by rw [List.take_add_one, hki, subsL_append]; simp [subsL]
          have HV : Hid ((varsIn (subs ks[k])).foldl putS V = (varsIn (subsL (ks.take (k + 1)))).foldl putS V0 ∧ (cellsIn (subs ks[k])).foldl putS C = (cellsIn (subsL (ks.take (k + 1)))).foldl putS C0) := by
            constructor
            · rw [hst, varsIn_append, List.foldl_append, hVk]
            · rw [hst, cellsIn_append, List.foldl_append, hCk]
          obtain ⟨op', n', s', ao', cap', xs', -, rfl, rfl, rfl, rfl, -, -, -⟩ := node_form hn
          generalize (varsIn (subs ks[k])).foldl putS V = V1 at *
          generalize (cellsIn (subs ks[k])).foldl putS C = C1 at *
          generalize (kidsOf ks[k]).length = L' at *
          have bk : (k : Int) < ks.length := by omega
          have hwl : w.heap.size < wr.heap.size := World.block_lt_of_cell? _ _ te
          clear hn hlt hki hst hsz hle hVl hCl hVk hCk hkid ih HR
          go_wp2_with (go_at_call 48; refine call.mono ?_; rintro e w2 ⟨gv2, kv2, gc2, kc2, rfl, tv2, tc2, tb2⟩)
          go_roundw
          case rel => exact ⟨k + 1, gv2, kv2, gc2, kc2, V1, C1, hkk, by go_num, HV.out.1, HV.out.2, rfl, rfl, tv2, tc2, tb.trans (tb2.mono tb.size), (tb2.cell (p := ⟨w.heap.size, 3, none⟩) hwl).trans te⟩
          case measure => simp [intOf]; omega
        · obtain rfl : k = ks.length := by omega
          rw [List.take_length] at hVk hCk
          have HF : Hid (VR = V ∧ CR = C) := ⟨HR.out.1.trans hVk.symm, HR.out.2.trans hCk.symm⟩
          clear hVk hCk hkid ih HR
          go_wp2_with fail
          go_ret2
          obtain ⟨rfl, rfl⟩ := HF.out
          exact ⟨ga, ka, gb, kb, rfl, tv, tc, tb⟩

theorem sNm (t : Data) : NmOk t := by
  induction t using tree_ind with
  | h ks lab ih => exact nm_of ih
  | h1 t ht =>
    intro w S a b c u vs cs gv kv gc kc h
    obtain ⟨op, n, s, ks, rfl⟩ := node_node h
    exact absurd rfl (ht _ _)

end Ck
end Go.Proofs.YtjdohfdkkppnpaaGreatDoor

