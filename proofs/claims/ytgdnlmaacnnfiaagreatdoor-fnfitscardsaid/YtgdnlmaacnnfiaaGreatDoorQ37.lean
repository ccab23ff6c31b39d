/-
  The draw of a Rex: l3Draw.
-/
import Derived.Test.YtgdnlmaacnnfiaaGreatDoorQ36
import Derived.Deep.RegionHeld3
namespace Go.Proofs.YtgdnlmaacnnfiaaGreatDoor
open Go.RowKit Go.Extern
namespace Dr
set_option linter.unusedVariables false
open Rx (RexZ RexZs ndZ SetsZ SetsZs SetZ cnt cnts Var)

theorem TreeP.row {B p rb N b o : Nat} {W w : World} (h : TreeP B p rb N W w b o) : ∃ ao n cap xs, w.cell? ⟨b, o + 4, none⟩ = some (.slice ao n cap) ∧ w.ownsRow 0 26 5 (.slice ao n cap) n xs ∧ n ≤ N ∧ b < w.heap.size ∧ Value.ownBlock (.slice ao n cap) ≠ some b ∧ (∀ k, Value.ownBlock (.slice ao n cap) = some k → W.heap.size < k) ∧ W.heap.size < b ∧
    ∀ w4 ao4 cap4, More p B W w w4 (.slice ao n cap) (.slice ao4 (n + 1) cap4) n xs → Tree B p rb (N + 1) W (w4.setCell ⟨b, o + 4, none⟩ (.slice ao4 (n + 1) cap4)) := by
  obtain ⟨op, c, s, no, ks, ao, cap, S, hC, hp⟩ := h
  have h1 := hC.1
  have h2 := hC.2.1
  have h3 := hC.2.2.1
  have h7 := hC.2.2.2.2.2.2.1
  rw [cnt_z] at h7
  have hln := Rx.cnts_len ks
  rw [Rx.rexZ_nd] at h2
  obtain ⟨v, ys, he, ho, hg, hx⟩ := h2
  simp at he
  subst he
  rcases hp with ⟨rfl, rfl⟩ | ⟨i, hi, rfl, rfl⟩
  · exact ⟨ao, ks.length, cap, ys, h1.cell.2.2.2.2, ho, by omega, h1.lt, fun e => (h3 _ (hg _ e)).2.2 rfl, fun k e => (h3 _ (hg _ e)).1, hC.2.2.2.1, fun w4 ao4 cap4 hm => hC.moreRoot ho hm⟩
  · have hki : ks[i]? = some ks[i] := List.getElem?_eq_getElem hi
    obtain ⟨S1, a, bb, cc, d, u, x0, x1, x2, x3, x4, hr, hsub⟩ := Rx.rexZs_at hx hki
    obtain ⟨op1, c1, s1, no1, ks1, he1⟩ := Rx.rexZ_node hr
    have hs := Rx.setsZs_mem (Rx.setsZ_nd hC.2.2.2.2.2.1).1 (List.getElem_mem hi)
    have hcm := Rx.cnts_mem (List.getElem_mem hi)
    rw [he1] at hki hs hr hcm
    rw [cnt_z] at hcm
    have hl1 := Rx.cnts_len ks1
    rw [Rx.rexZ_nd] at hr
    obtain ⟨v1, xs1, he2, ho1, hg1, hx1⟩ := hr
    simp at he2
    obtain ⟨rfl, rfl, rfl, rfl, rfl⟩ := he2
    obtain ⟨ao1, cap1, rfl⟩ := Rx.owns_slice ho1
    obtain ⟨g, hgg, hgl, hc⟩ := Rx.row_cells ho hi
    simp at hgg
    subst hgg
    exact ⟨ao1, ks1.length, cap1, xs1, hc _ _ x4, ho1, by omega, hgl, fun e => (hsub _ (hg1 _ e)).2 rfl, fun k e => (h3 _ (hsub _ (hg1 _ e)).1).1, (h3 _ (hg _ rfl)).1, fun w4 ao4 cap4 hm => hC.moreKid hki hs ho x4 ho1 hm⟩

/-- How a drawn Rex comes back. -/
def TreeRet (B p : Nat) (w : World) (e : Ending) (w' : World) : Prop := ∃ t op c s no ao n cap, e = .returned (.agg #[.int .i64 op, .int .i64 c, .string s, .bool no, .slice ao n cap]) ∧ SetsZ t ∧ cnt t ≤ 140 ∧ RexZ w' t (Rx.Iv w.heap.size w'.heap.size) [.int .i64 op, .int .i64 c, .string s, .bool no, .slice ao n cap] ∧ Only p w w' ∧ Cur B p w'

/-- The answer's cells are the tree's. -/
theorem Tree.ret {B p rb : Nat} {w w1 : World} (h : Tree B p rb 140 w w1) : ∃ op c s no ao n cap, Var w1 rb (.int .i64 op) (.int .i64 c) (.string s) (.bool no) (.slice ao n cap) ∧ Var w1 w.heap.size (.int .i64 0) (.int .i64 0) (.string ⟨#[]⟩) (.bool false) (.slice none 0 0) ∧ rb ≠ w.heap.size ∧
    TreeRet B p w (.returned (.agg #[.int .i64 op, .int .i64 c, .string s, .bool no, .slice ao n cap])) (set5 w1 w.heap.size (.int .i64 op) (.int .i64 c) (.string s) (.bool no) (.slice ao n cap)) := by
  obtain ⟨op, c, s, no, ks, ao, cap, S, h1, h2, h3, h4, h5, h6, h7, h8, h9, h10⟩ := h
  refine ⟨op, c, ⟨s.toArray⟩, no, ao, ks.length, cap, h1, h5, by omega, ?_⟩
  obtain ⟨hO, hC⟩ := set5_only h8 h9 (Nat.le_refl _) h10 (.int .i64 op) (.int .i64 c) (.string ⟨s.toArray⟩) (.bool no) (.slice ao ks.length cap)
  refine ⟨_, _, _, _, _, _, _, _, rfl, h6, h7, ?_, hO, hC⟩
  refine rexZ_mono (fun k hk => ?_) (Rx.rexZ_frame _ _ _ (fun k hk => set5_block _ _ _ ?_ _ _ _ _ _) h2)
  · have := h3 k hk
    exact ⟨by omega, by rw [set5_size]; omega⟩
  · have := h3 k hk
    omega

/-- A place that points at the root points at a kid as well. -/
theorem TreeP.down {B p rb N : Nat} {W w : World} {ao : Option Addr} {n cap j : Nat} (h : TreeP B p rb N W w rb 0) (hu : w.cell? ⟨rb, 4, none⟩ = some (.slice ao n cap)) (hj : j < n) : ∃ g, ao = some ⟨g, 0, none⟩ ∧ TreeP B p rb N W w g (j * 5) := by
  obtain ⟨op, c, s, no, ks, ao', cap', S, hC, _⟩ := h
  have h1 := hC.1.cell.2.2.2.2
  rw [hu] at h1
  simp at h1
  obtain ⟨rfl, rfl, rfl⟩ := h1
  have h2 := hC.2.1
  rw [Rx.rexZ_nd] at h2
  obtain ⟨v, ys, he, ho, hg, hx⟩ := h2
  simp at he
  subst he
  obtain ⟨g, hgg, _, _⟩ := Rx.row_cells ho hj
  subst hgg
  exact ⟨g, rfl, _, _, _, _, _, _, _, _, hC, .inr ⟨j, hj, rfl, rfl⟩⟩

theorem tree_mono {B p rb N N' : Nat} {W w : World} (h : Tree B p rb N W w) (hN : N ≤ N') : Tree B p rb N' W w := by
  obtain ⟨op, c, s, no, ks, ao, cap, S, h1, h2, h3, h4, h5, h6, h7, h8, h9, h10⟩ := h
  exact ⟨op, c, s, no, ks, ao, cap, S, h1, h2, h3, h4, h5, h6, by omega, h8, h9, h10⟩

theorem set5_alloc (w : World) (o : Obj) (q : Nat) (hq : q < w.heap.size) (a b c d u : Value) : set5 (w.alloc o) q a b c d u = (set5 w q a b c d u).alloc o := by
  unfold set5
  rw [World.setCell_alloc_past _ _ _ _ hq, World.setCell_alloc_past _ _ _ _ (by simpa using hq), World.setCell_alloc_past _ _ _ _ (by simpa using hq), World.setCell_alloc_past _ _ _ _ (by simpa using hq), World.setCell_alloc_past _ _ _ _ (by simpa using hq)]
/-- five cells written in a row, from a place on -/
def set5o (w : World) (q o : Nat) (a b c d u : Value) : World := ((((w.setCell ⟨q, o, none⟩ a).setCell ⟨q, o + 1, none⟩ b).setCell ⟨q, o + 2, none⟩ c).setCell ⟨q, o + 3, none⟩ d).setCell ⟨q, o + 4, none⟩ u
theorem set5o_block (w : World) (q o k : Nat) (hk : k ≠ q) (a b c d u : Value) : (set5o w q o a b c d u).heap[k]? = w.heap[k]? := by
  unfold set5o
  rw [Below.heap_setCell _ ⟨q, _, none⟩ _ _ hk, Below.heap_setCell _ ⟨q, _, none⟩ _ _ hk, Below.heap_setCell _ ⟨q, _, none⟩ _ _ hk, Below.heap_setCell _ ⟨q, _, none⟩ _ _ hk, Below.heap_setCell _ ⟨q, _, none⟩ _ _ hk]
theorem set5o_size (w : World) (q o : Nat) (a b c d u : Value) : (set5o w q o a b c d u).heap.size = w.heap.size := by simp [set5o]
theorem set5o_only (w : World) (q o : Nat) (a b c d u : Value) : Only q w (set5o w q o a b c d u) := by
  unfold set5o
  exact ((((((Only.refl q w).setCell o a).setCell (o + 1) b).setCell (o + 2) c).setCell (o + 3) d).setCell (o + 4) u)
theorem more_of {B p n g4 cap4 : Nat} {W w w4 : World} {Z : Obj} {v : Value} {xs : List Value} (hO : Only p W w) (hC : Cur B p w) (hp : p < W.heap.size) (hown : ∀ k, v.ownBlock = some k → W.heap.size < k) (hlen : xs.length = n * 5)
    (h4 : w4.ownsRow 0 26 5 (.slice (some ⟨g4, 0, none⟩) (n + 1) cap4) (n + 1) (xs ++ [.int .i64 0, .int .i64 0, .string ⟨#[]⟩, .bool false, .slice none 0 0])) (hg : (w.alloc Z).grownBy w4 v.ownBlock) (hb : some g4 = v.ownBlock ∨ some g4 = some (w.alloc Z).heap.size) :
    More p B W w (set5o w4 g4 (n * 5) (.int .i64 2) (.int .i64 0) (.string ⟨#[]⟩) (.bool false) (.slice none 0 0)) v (.slice (some ⟨g4, 0, none⟩) (n + 1) cap4) n xs := by
  have hz : (w.alloc Z).heap.size = w.heap.size + 1 := by simp
  have hWw := hO.size
  have hg4 : W.heap.size < g4 := by
    rcases hb with e | e
    · exact hown g4 e.symm
    · rw [hz] at e
      cases e
      omega
  have hk4 : ∀ k, k < w.heap.size → v.ownBlock ≠ some k → k ≠ g4 := fun k hk hne e => by
    subst e
    rcases hb with e | e
    · exact hne e.symm
    · rw [hz] at e
      cases e
      omega
  have hfr : ∀ k, k < w.heap.size → v.ownBlock ≠ some k → (set5o w4 g4 (n * 5) (.int .i64 2) (.int .i64 0) (.string ⟨#[]⟩) (.bool false) (.slice none 0 0)).heap[k]? = w.heap[k]? := fun k hk hne => by
    rw [set5o_block _ _ _ _ (hk4 k hk hne), hg.block k (by rw [hz]; omega) (fun e => hne e.symm), Below.heap_alloc _ _ _ hk]
  have hCq : ∃ q, Only q (w.alloc Z) w4 ∧ W.heap.size < q := by
    cases e : v.ownBlock with
    | none =>
      rw [e] at hg
      exact ⟨w.heap.size + 1, ⟨hg.os, hg.tape, hg.output, hg.size, fun k _ hk => hg.block k hk (by simp)⟩, by omega⟩
    | some q =>
      rw [e] at hg
      exact ⟨q, ⟨hg.os, hg.tape, hg.output, hg.size, fun k hkq hk => hg.block k hk (fun e => hkq (Option.some.inj e))⟩, hown q e⟩
  obtain ⟨q, hOq, hWq⟩ := hCq
  have hBp := hC.le
  have hC4 : Cur B p w4 := (hC.alloc Z).frame hOq (by omega) (by omega)
  have hCf := hC4.frame (set5o_only w4 g4 (n * 5) (.int .i64 2) (.int .i64 0) (.string ⟨#[]⟩) (.bool false) (.slice none 0 0)) (by omega) (by omega)
  have hs5 := set5o_only w4 g4 (n * 5) (.int .i64 2) (.int .i64 0) (.string ⟨#[]⟩) (.bool false) (.slice none 0 0)
  have hgs := hg.size
  refine ⟨?_, hfr, ?_, by rw [set5o_size]; omega, ⟨(hs5.os.trans hg.os).trans hO.os, (hs5.tape.trans hg.tape).trans hO.tape, (hs5.output.trans hg.output).trans hO.output, by rw [set5o_size]; omega, fun k hkp hk => ?_⟩, hCf⟩
  · have h5 := (((((h4.stored (n * 5) (.int .i64 2)).1.stored (n * 5 + 1) (.int .i64 0)).1.stored (n * 5 + 2) (.string ⟨#[]⟩)).1.stored (n * 5 + 3) (.bool false)).1.stored (n * 5 + 4) (.slice none 0 0)).1
    unfold set5o
    rw [List.set_append_right _ _ (by omega), List.set_append_right _ _ (by omega), List.set_append_right _ _ (by omega), List.set_append_right _ _ (by omega), List.set_append_right _ _ (by omega)] at h5
    simpa [hlen, any5] using h5
  · rcases hb with e | e
    · exact .inl e
    · exact .inr ⟨g4, rfl, by rw [hz] at e; cases e; omega⟩
  · rw [hfr k (by omega) (fun e => by have := hown k e; omega)]
    exact hO.block k hkp hk

theorem set_swap (w : World) (b i g j : Nat) (x y : Value) (h : b ≠ g) : (w.setCell ⟨b, i, none⟩ x).setCell ⟨g, j, none⟩ y = (w.setCell ⟨g, j, none⟩ y).setCell ⟨b, i, none⟩ x := by
  unfold World.setCell
  congr 1
  refine Array.ext_getElem? fun k => ?_
  simp only [Array.getElem?_modify]
  by_cases h1 : b = k
  · subst h1
    simp [Ne.symm h]
  · by_cases h2 : g = k
    · subst h2
      simp [h1]
    · simp [h1, h2]
theorem set5o_swap (w : World) (b i g o : Nat) (x : Value) (h : b ≠ g) (a1 a2 a3 a4 a5 : Value) : set5o (w.setCell ⟨b, i, none⟩ x) g o a1 a2 a3 a4 a5 = (set5o w g o a1 a2 a3 a4 a5).setCell ⟨b, i, none⟩ x := by
  unfold set5o
  rw [set_swap _ b i g _ x _ h, set_swap _ b i g _ x _ h, set_swap _ b i g _ x _ h, set_swap _ b i g _ x _ h, set_swap _ b i g _ x _ h]
theorem alloc_ints3 (w : World) (xs : List Int) (t : TypeId) (k : Nat) (hk : k < xs.length) : (w.alloc (.cells (xs.map (Value.int .i64)).toArray t)).cell? ⟨w.heap.size, k, none⟩ = some (.int .i64 xs[k]) := by
  rw [World.cell?_alloc_at _ _ _ _ rfl]
  simp [hk]
theorem pick_L5 (B p cap : Nat) (t : TypeId) (w : World) (hC : Cur B p w) :
    Calls Tryz.prog 38 #[.pointer (some ⟨p, 0, none⟩), .slice (some ⟨w.heap.size, 0, none⟩) 5 cap] (w.alloc (.cells #[.int .i64 (-1), .int .i64 0, .int .i64 97, .int .i64 255, .int .i64 256] t)) fun e w' => ∃ x : Int, e = .returned (.int .i64 x) ∧ Only p w w' ∧ Cur B p w' := by
  have hlt := hC.lt
  refine (pick_int B p w.heap.size cap [-1, 0, 97, 255, 256] _ (hC.alloc _) (by omega) (by simp) (by decide) (by decide) (alloc_ints3 w [-1, 0, 97, 255, 256] t)).mono ?_
  rintro e w' ⟨x, hx, rfl, ho, hC'⟩
  exact ⟨x, rfl, ((Only.refl p w).alloc _).trans ho, hC'⟩
def LS : List ByteArray := [⟨#[]⟩, ⟨#[97]⟩, ⟨#[98, 97]⟩, ⟨#[97, 98]⟩]
theorem LS_set : ∀ s ∈ LS, ∃ l : List UInt8, s = ⟨l.toArray⟩ ∧ ∀ no, SetZ l no := by
  intro s hs
  simp [LS] at hs
  rcases hs with rfl | rfl | rfl | rfl
  · exact ⟨[], rfl, fun _ => .inr (.inl rfl)⟩
  · exact ⟨[97], rfl, fun no => Rx.setZ_a no⟩
  · exact ⟨[98, 97], rfl, fun _ => .inr (.inr rfl)⟩
  · exact ⟨[97, 98], rfl, fun no => Rx.setZ_ab no⟩
theorem pick_LSet (B p cap : Nat) (t : TypeId) (w : World) (hC : Cur B p w) :
    Calls Tryz.prog 39 #[.pointer (some ⟨p, 0, none⟩), .slice (some ⟨w.heap.size, 0, none⟩) 4 cap] (w.alloc (.cells #[.string ⟨#[]⟩, .string ⟨#[97]⟩, .string ⟨#[98, 97]⟩, .string ⟨#[97, 98]⟩] t)) fun e w' => ∃ l : List UInt8, e = .returned (.string ⟨l.toArray⟩) ∧ (∀ no, SetZ l no) ∧ Only p w w' ∧ Cur B p w' := by
  have hlt := hC.lt
  refine (pick_str B p w.heap.size cap LS _ (hC.alloc _) (by omega) (by simp) (by decide) (by decide) (alloc_strs w LS t)).mono ?_
  rintro e w' ⟨x, hx, rfl, ho, hC'⟩
  obtain ⟨l, rfl, hl⟩ := LS_set x hx
  exact ⟨l, rfl, hl, ((Only.refl p w).alloc _).trans ho, hC'⟩

set_option maxHeartbeats 4000000 in
set_option maxRecDepth 100000 in
theorem drawTree (hP : ParseOk) (B p : Nat) (w : World) (hC : Cur B p w) :
    Calls Tryz.prog 17 #[.pointer (some ⟨p, 0, none⟩)] w fun e w' => TreeRet B p w e w' := by
  have hlt := hC.lt
  have hne : w.heap.size ≠ p := by omega
  obtain ⟨W1, hW1⟩ : ∃ W1, W1 = w.alloc (.cells #[.int .i64 0, .int .i64 0, .string ⟨#[]⟩, .bool false, .slice none 0 0] 26) := ⟨_, rfl⟩
  have hV1 : Var W1 w.heap.size (.int .i64 0) (.int .i64 0) (.string ⟨#[]⟩) (.bool false) (.slice none 0 0) := by rw [hW1]; exact heap_alloc_last _ _
  have hO1 : Only p w W1 := by rw [hW1]; exact (Only.refl _ _).alloc _
  have hC1 : Cur B p W1 := by rw [hW1]; exact hC.alloc _
  have hz1 : W1.heap.size = w.heap.size + 1 := by rw [hW1]; simp
  have call1 := drawRight hP B p W1 hC1
  go_enter Tryz.func17, Tryz.ntmps17
  go_upto_region 1 with fail
  rw [← hW1]
  clear hW1 hC
  go_upto_region 2 with (first | (go_at_call 36; refine call1.mono ?_; rintro e w2 ⟨t, a, b, c, d, u, rfl, hR, hc, hx, ho2, hC2⟩; have call2 := Rx.sCopy (Rx.dep t) t _ a b c d u w2 (Nat.le_refl _) (by omega) hx (fun k hk => hk.2)) | (go_at_call 35; refine call2.mono ?_; rintro e w3 ⟨a3, b3, c3, d3, u3, rfl, hb3, hx3⟩; obtain ⟨op3, cc3, ss3, no3, ao3, n3, cap3, rfl, rfl, rfl, rfl, rfl⟩ := Rx.rex_cells hx3))
  have hz2 := ho2.size
  have hz3 := hb3.size
  obtain ⟨rb, hrb⟩ : ∃ rb, rb = w3.heap.size := ⟨_, rfl⟩
  obtain ⟨w4, hw4⟩ : ∃ w4, w4 = w3.alloc (.cells #[.int .i64 op3, .int .i64 cc3, .string ⟨ss3.toArray⟩, .bool no3, .slice ao3 n3 cap3] 26) := ⟨_, rfl⟩
  have hT0 : TreeP B p rb 121 w w4 rb 0 := by
    obtain ⟨op', c', s', no', ks, rfl⟩ := Rx.rex_node hx3
    have hx3' := Rx.rexZ_of _ _ _ hx3
    rw [Rx.nd_Z] at hx3' hR hc
    have hcs := hx3
    rw [Rx.rex_nd] at hcs
    obtain ⟨v, xs, he, ho, _, _⟩ := hcs
    simp at he
    obtain ⟨e1, e2, e3, rfl, rfl⟩ := he
    obtain rfl : op3 = op' := by omega
    obtain rfl : cc3 = c' := by omega
    obtain ⟨ao, cap, hsl⟩ := Rx.owns_slice ho
    simp at hsl
    obtain ⟨rfl, rfl, rfl⟩ := hsl
    have e3' : ss3 = s' := by simpa using e3
    subst e3'
    have hO4 : Only p w w4 := by rw [hw4]; exact ((hO1.trans ho2).trans (only_below hb3)).alloc _
    have hC4 : Cur B p w4 := by rw [hw4]; exact (cur_grown hC2 hb3).alloc _
    refine ⟨_, _, _, _, ks, ao3, cap3, Rx.Iv w2.heap.size w3.heap.size, ⟨?_, ?_, ?_, by omega, ?_, Rx.setsZ_right 12 _ hR, hc, hO4, hC4, hlt⟩, .inl ⟨rfl, rfl⟩⟩
    · rw [hw4, hrb]; exact heap_alloc_last _ _
    · exact Rx.rexZ_frame _ _ _ (fun k hk => by rw [hw4]; exact Below.heap_alloc _ _ _ hk.2) hx3'
    · intro k hk
      have := hk.1
      have := hk.2
      exact ⟨by omega, by rw [hw4]; simp; omega, by omega⟩
    · exact hV1.kept (by rw [hw4, Below.heap_alloc _ _ _ (by omega), hb3.block _ (by omega), ho2.block _ hne (by omega)])
  have hk3 : w4.cell? ⟨rb, 4, none⟩ = some (.slice ao3 n3 cap3) := by
    have h : Var w4 rb (.int .i64 op3) (.int .i64 cc3) (.string ⟨ss3.toArray⟩) (.bool no3) (.slice ao3 n3 cap3) := by rw [hw4, hrb]; exact heap_alloc_last _ _
    exact h.cell.2.2.2.2
  have hrp : rb ≠ p := by omega
  have hrl : rb < w4.heap.size := by rw [hw4, hrb]; simp
  rw [← hw4, ← hrb]
  clear hw4 hrb hx3 hb3 hx ho2 hC2 call1 call2 hR hc hz2 hz3 hV1 hO1 hC1 hz1 hP
  have hn3 : n3 ≤ 121 := by
    obtain ⟨ao, n, cap, xs, hc, _, hle, _⟩ := hT0.row
    rw [hk3] at hc
    simp at hc
    omega
  have hn3I : (n3 : Int) ≤ 121 := by omega
  go_upto_region 3 with fail
  go_cut [17] (fun v wx => ∃ bb, v = .bool bb ∧ (bb = true → 0 < n3) ∧ TreeP B p rb 121 w wx rb 0 ∧ wx.cell? ⟨rb, 4, none⟩ = some (.slice ao3 n3 cap3))
  case first =>
    by_cases h0 : n3 = 0
    · have h0I : (n3 : Int) ≤ 0 := by omega
      have h0d : decide ((0 : Int) < n3) = false := by simp; omega
      clear h0
      go_wp2_with fail
      go_meet
      case rel => exact ⟨false, rfl, fun h => by simp at h, hT0, hk3⟩
    · have h0I : (0 : Int) < n3 := by omega
      have hcur := hT0.cur
      go_wp2_with (go_at_call 37; refine (once_small B p 2 _ hcur (by decide) (by decide)).mono ?_; rintro e w5 ⟨b5, rfl, ho5, hC5⟩)
      go_meet
      case rel => exact ⟨b5, rfl, fun _ => by omega, hT0.only ho5 hC5, (ho5.cell (a := ⟨rb, 4, none⟩) hrp hrl).trans hk3⟩
  case rest =>
    obtain ⟨bb, rfl, hbb, hT1, hk4⟩ := hcut
    clear hT0 hk3
    have hrl4 : rb < wc.heap.size := World.block_lt_of_cell? wc _ hk4
    go_upto_if 17 with fail
    go_cut [4] (fun v wx => ∃ b o, v = .pointer (some ⟨b, o, none⟩) ∧ TreeP B p rb 121 w wx b o)
    case first =>
      cases bb with
      | false =>
        go_wp2_with fail
        go_meet
        case rel => exact ⟨rb, 0, rfl, hT1⟩
      | true =>
        have h0 := hbb rfl
        have h0I : (0 : Int) < n3 := by omega
        obtain ⟨g, rfl, _⟩ := hT1.down hk4 h0
        have hcur := hT1.cur
        have hrp : rb ≠ p := hrp
        go_wp2_with fail
        go_region_held3 (fun w' => w'.cell? ⟨rb, 4, none⟩ = some (.slice (some ⟨g, 0, none⟩) n3 cap3)) (first | exact hk4 | assumption) (first | (go_at_call 19; refine (below_small B p (n3 : Int) _ (cur_drewN hcur 1) h0I (by omega)).mono ?_; rintro e w6 ⟨x, rfl, hx0, hx1, ho6, hC6⟩; have hk6 := (ho6.cell (a := ⟨rb, 4, none⟩) hrp hrl4).trans hk4))
        all_goals
          go_wp2_with fail
          go_meet
          case rel =>
            obtain ⟨g', e, hTk⟩ := (hT1.only (((Only.refl p wc).drewN 1).trans ho6) hC6).down hk6 (j := x.toNat) (by omega)
            simp at e
            subst e
            exact ⟨g, _, rfl, hTk⟩
    case rest =>
      obtain ⟨b, o, rfl, hT⟩ := hcut
      clear hT1 hk4 hrl4
      have hcur := hT.cur
      go_upto_block 0 with (go_at_call 19; refine (below_small B p 14 _ hcur (by decide) (by decide)).mono ?_; rintro e w7 ⟨x, rfl, hx0, hx1, ho7, hC7⟩)
      have hT := hT.only ho7 hC7
      clear ho7 hcur
      go_cut [] (fun wx => Tree B p rb 140 w wx)
      case first =>
        have hxI : x < 14 := hx1
        by_cases h0 : x = 0
        · subst h0
          go_wp2_with (go_at_call 19; refine (below_small B p 14 _ hC7 (by decide) (by decide)).mono ?_; rintro e w8 ⟨y, rfl, hy0, hy1, ho8, hC8⟩; have hT8 := hT.only ho8 hC8; obtain ⟨op8, c8, s8, no8, ao8, n8, cap8, q0, q1, q2, q3, q4, qf⟩ := hT8.cells; have qf0 := qf 0; simp only [Nat.add_zero] at qf0)
          go_meet
          case rel => exact tree_mono (hT8.op _) (by omega)
        have e0 : (x == 0) = false := by simp [h0]
        by_cases h1 : x = 1
        · subst h1
          go_wp2_with (go_at_call 38; with_reducible refine (pick_L5 B p _ _ _ hC7).mono ?_; rintro e w8 ⟨y, rfl, ho8, hC8⟩; have hT8 := hT.only ho8 hC8; obtain ⟨op8, c8, s8, no8, ao8, n8, cap8, q0, q1, q2, q3, q4, qf⟩ := hT8.cells; have qf0 := qf 1)
          go_meet
          case rel => exact tree_mono (hT8.c _) (by omega)
        have e1 : (x == 1) = false := by simp [h1]
        by_cases h2 : x = 2
        · subst h2
          go_wp2_with (go_at_call 39; with_reducible refine (pick_LSet B p _ _ _ hC7).mono ?_; rintro e w8 ⟨y, rfl, hy, ho8, hC8⟩; have hT8 := hT.only ho8 hC8; obtain ⟨op8, c8, s8, no8, ao8, n8, cap8, q0, q1, q2, q3, q4, qf⟩ := hT8.cells; have qf0 := qf 2)
          go_meet
          case rel => exact tree_mono (hT8.set _ hy) (by omega)
        have e2 : (x == 2) = false := by simp [h2]
        by_cases h4 : x = 4
        · subst h4
          obtain ⟨op8, c8, s8, no8, ao8, n8, cap8, q0, q1, q2, q3, q4, qf⟩ := hT.cells
          have qf0 := qf 3
          go_wp2_with fail
          go_meet
          case rel => exact tree_mono hT.no (by omega)
        have e4 : (x == 4) = false := by simp [h4]
        by_cases h3 : x = 3
        · subst h3
          obtain ⟨op8, c8, s8, no8, ao8, n8, cap8, q0, q1, q2, q3, q4, qf⟩ := hT.cells
          obtain ⟨ao, n, cap, xs, hcell, ho, hn, hbl, hob, hown, hWb, hmore⟩ := hT.row
          rw [hcell] at q4
          simp at q4
          obtain ⟨rfl, rfl, rfl⟩ := q4
          have qf4 := qf 4
          obtain ⟨_, _, _, _, _, _, _, _, hCo, _⟩ := hT
          have hO7 := hCo.2.2.2.2.2.2.2.1
          have hlen : xs.length = n * 5 := ho.1
          obtain ⟨i0, hi0, hz0, hz1, hz2⟩ := info_parts Rx.Tryz.info26r
          have hnI : (n : Int) ≤ 121 := by omega
          have hk64 : Hid ((n + 1) * 64 ≤ 140737488355328) := by show _ ≤ _; omega
          have hkm : Hid (n + 1 ≤ maxLen) := by show _ ≤ _; unfold maxLen; omega
          clear hCo q0 q1 q2 q3 qf e0 e1 e2 e4 h0 h1 h2 h4
          go_wp2_with fail
          go_region_law (first
            | (refine Rx.step_append_own rfl (.tmp 57) (.tmp 60) 24 rfl 0 26 i0 _ 5 64 Tryz.underlying24 hi0 hz0 hz1 hz2 rfl (by decide) (.slice ao n cap) n xs (by first | (simp [Act.eval]; done) | simp [Act.eval, Act.put]) (ho.alloc _) ⟨w7.heap.size, 0, none⟩ 1 1 [.int .i64 0, .int .i64 0, .string ⟨#[]⟩, .bool false, .slice none 0 0] (by first | (simp [Act.eval]; done) | simp [Act.eval, Act.put]) rfl (Rx.cell_five_new _ _ _ _ _ _) (by simp [Value.oneCell']) hkm.out hk64.out (Nat.zero_le _) ?_; intro v4 w4 hown4 hgr4 hb4; have hgr5 : (w7.alloc (.cells #[.int .i64 0, .int .i64 0, .string ⟨#[]⟩, .bool false, .slice none 0 0] 26)).grownBy w4 (Value.ownBlock (.slice ao n cap)) := ⟨hgr4.os, hgr4.tape, hgr4.output, hgr4.size, hgr4.block⟩; obtain ⟨ao4, cap4, rfl⟩ := Rx.owns_slice hown4; obtain ⟨g4, rfl, hg4l, hc4⟩ := Rx.row_cells hown4 (show n < n + 1 by omega); have k0 := hc4 (n * 5) (.int .i64 0) (by rw [List.getElem?_append_right (by omega), hlen, Nat.sub_self]; rfl); have k1 := hc4 (n * 5 + 1) (.int .i64 0) (by rw [List.getElem?_append_right (by omega), hlen, Nat.add_sub_cancel_left]; rfl); have k2 := hc4 (n * 5 + 2) (.string ⟨#[]⟩) (by rw [List.getElem?_append_right (by omega), hlen, Nat.add_sub_cancel_left]; rfl); have k3 := hc4 (n * 5 + 3) (.bool false) (by rw [List.getElem?_append_right (by omega), hlen, Nat.add_sub_cancel_left]; rfl); have k4 := hc4 (n * 5 + 4) (.slice none 0 0) (by rw [List.getElem?_append_right (by omega), hlen, Nat.add_sub_cancel_left]; rfl); have f0 := hown4.frozenAt (n * 5); have f1 := hown4.frozenAt (n * 5 + 1); have f2 := hown4.frozenAt (n * 5 + 2); have f3 := hown4.frozenAt (n * 5 + 3); have f4 := hown4.frozenAt (n * 5 + 4); have hbb : w4.heap[b]? = w7.heap[b]? := (hgr5.block b (by simp; omega) (fun e => hob e.symm)).trans (Below.heap_alloc _ _ _ hbl); have kb : w4.cell? ⟨b, o + 4, none⟩ = some (.slice ao n cap) := (World.cell?_of_block (a := ⟨b, o + 4, none⟩) hbb).trans hcell; have fb : w4.frozen? ⟨b, o + 4, none⟩ = false := (World.frozen?_of_block (a := ⟨b, o + 4, none⟩) hbb).trans qf4; have hb5 : some g4 = Value.ownBlock (.slice ao n cap) ∨ some g4 = some (w7.alloc (.cells #[.int .i64 0, .int .i64 0, .string ⟨#[]⟩, .bool false, .slice none 0 0] 26)).heap.size := hb4; have hM := hmore _ _ _ (more_of hO7 hC7 hlt hown hlen hown4 hgr5 hb5); have hgb : g4 ≠ b := (fun e => by rcases hb5 with h | h; exact hob (by rw [← h, e]); rw [e] at h; simp at h; omega); have hgb' : b ≠ g4 := Ne.symm hgb; have hii : (n : Int) < (n : Int) + 1 := by omega))
          all_goals
            have hM2 := hM
            rw [← set5o_swap _ _ _ _ _ _ hgb'] at hM2
            unfold set5o at hM hM2
            have HM : Hid (Tree B p rb (121 + 1) w _) := hM
            have HM2 : Hid (Tree B p rb (121 + 1) w _) := hM2
            clear hM hM2
            go_wp2_with fail
            go_meet
            case rel =>
              refine tree_mono ?_ (show 121 + 1 ≤ 140 by omega)
              first | with_reducible exact HM.out | with_reducible exact HM2.out
        have e3 : (x == 3) = false := by simp [h3]
        by_cases h5 : x = 5
        · subst h5
          clear h0 h1 h2 h3 h4 e0 e1 e2 e3 e4
          go_wp2_with fail
          go_loopw [5] (fun i wr => ∃ k : Nat, i = .int .i64 k ∧ k ≤ 11 ∧ Tree B p rb (121 + k) w wr) (fun i _ => 11 - (intOf i).toNat)
          case atStart => exact ⟨0, rfl, by omega, hT.tree⟩
          case round =>
            obtain ⟨k, rfl, hk, hTr⟩ := hrel
            have hkI : (k : Int) ≤ 11 := by omega
            clear hT hC7
            by_cases hk11 : k < 11
            · have hkI' : (k : Int) < 11 := by omega
              obtain ⟨op, c, s, no, ks, ao, cap, S, hCo⟩ := hTr
              have hwrap := hCo.wrap (.cells #[.int .i64 op, .int .i64 c, .string ⟨s.toArray⟩, .bool no, .slice ao ks.length cap] 26)
              have hVr := hCo.1
              have hrl := hVr.lt
              obtain ⟨v0, v1, v2, v3, v4⟩ := hVr.cell
              have y0 := hVr.frozen 0
              have y1 := hVr.frozen 1
              have y2 := hVr.frozen 2
              have y3 := hVr.frozen 3
              have y4 := hVr.frozen 4
              have HW : Hid (Tree B p rb (121 + k + 1) w (set5 ((wr.alloc (.cells #[.int .i64 op, .int .i64 c, .string ⟨s.toArray⟩, .bool no, .slice ao ks.length cap] 26)).alloc (.cells #[.int .i64 op, .int .i64 c, .string ⟨s.toArray⟩, .bool no, .slice ao ks.length cap] 26)) rb (.int .i64 10) (.int .i64 0) (.string ⟨#[]⟩) (.bool false) (.slice (some ⟨wr.heap.size + 1, 0, none⟩) 1 1))) := hwrap
              clear hwrap hCo hVr
              go_wp2_with fail
              go_roundw
              case rel =>
                refine ⟨k + 1, by go_num, by omega, ?_⟩
                have h := HW.out
                rw [set5_alloc _ _ _ (by simp; omega), set5_alloc _ _ _ hrl] at h
                unfold set5 at h
                rw [← Nat.add_assoc]
                with_reducible exact h
              case measure => simp [intOf]; omega
            · obtain rfl : k = 11 := by omega
              go_wp2_with fail
              go_meet
              case rel => exact tree_mono hTr (by omega)
        have e5 : (x == 5) = false := by simp [h5]
        clear h0 h1 h2 h3 h4 h5
        go_wp2_with fail
        go_meet
        case rel => exact tree_mono hT.tree (by omega)
      case rest =>
        clear hT
        obtain ⟨op, c, s, no, ao, n, cap, hVr, hVq, hrq, hret⟩ := hcut.ret
        obtain ⟨v0, v1, v2, v3, v4⟩ := hVr.cell
        obtain ⟨z0, z1, z2, z3, z4⟩ := hVq.cell
        have y0 := hVq.frozen 0
        have y1 := hVq.frozen 1
        have y2 := hVq.frozen 2
        have y3 := hVq.frozen 3
        have y4 := hVq.frozen 4
        have HR : Hid (TreeRet B p w (.returned (.agg #[.int .i64 op, .int .i64 c, .string s, .bool no, .slice ao n cap])) (set5 wc w.heap.size (.int .i64 op) (.int .i64 c) (.string s) (.bool no) (.slice ao n cap))) := hret
        have hVf := set5_var (a' := .int .i64 op) (b' := .int .i64 c) (c' := .string s) (d' := .bool no) (u' := .slice ao n cap) hVq
        obtain ⟨x0, x1, x2, x3, x4⟩ := hVf.cell
        unfold set5 at x0 x1 x2 x3 x4
        clear hVr hVq hVf hret hcut
        go_wp2_with fail
        refine bodyPost_ret (v := .agg #[.int .i64 op, .int .i64 c, .string s, .bool no, .slice ao n cap]) (by simp [results, Tryz.results17, x0, x1, x2, x3, x4, go_sem]) rfl ?_
        exact HR.out


end Dr
end Go.Proofs.YtgdnlmaacnnfiaaGreatDoor

