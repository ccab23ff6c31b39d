/-
  Chapter 5's specification: MatchTree at right patterns.
  The specification's l3Right at any Rex.
-/
import Derived.Test.YtgdnlmaacnnfiaaGreatDoorQ18
import Derived.Test.YtgdnlmaacnnfiaaGreatDoorQ11
namespace Go.Proofs.YtgdnlmaacnnfiaaGreatDoor
open Go.RowKit
namespace Mt
open Rx Clo

theorem sWithin (x lo hi : Int) (b : Bool) (hb : b = (decide (lo ≤ x) && decide (x ≤ hi))) (w : World) : Calls Tryz.prog 24 #[.int .i64 x, .int .i64 lo, .int .i64 hi] w fun e w' => e = .returned (.bool b) ∧ w' = w := by
  subst hb
  by_cases h1 : lo ≤ x
  · have e1 : decide (lo ≤ x) = true := decide_eq_true h1
    go_enter Tryz.func24, Tryz.ntmps24
    go_wp2_with fail
    go_ret
    exact ⟨by simp [h1], rfl⟩
  · have e1 : decide (lo ≤ x) = false := decide_eq_false h1
    go_enter Tryz.func24, Tryz.ntmps24
    go_wp2_with fail
    go_ret
    exact ⟨by simp, rfl⟩

theorem Tryz.infoRowsr : (Tryz.prog.info? 116).map (fun i => (i.zero, i.size, i.bytes)) = some (some (.slice none 0 0), 1, 24) := by kernel_rfl

theorem in_self (G : List (Data × List Nat)) : In G G 0 := fun i x hx => by rw [Nat.zero_add]; exact hx

theorem parts_st {w6 w7 : World} {p e np : Nat} {s : ByteArray} {v' : Value} {G : List (Data × List Nat)} {xs : List Value} (hW : Wk w6 p s v' G xs (fun _ => False)) (hnp : np = G.length) (h0 : 0 < np)
    (hw7 : ∀ k, k < w6.heap.size → k ≠ p → w7.heap[k]? = w6.heap[k]?) (he : e = w6.heap.size) (hp : w7.heap[p]? = some (.cells #[v', .string s, .slice (some ⟨e, 0, none⟩) np np] 57 (0, 0))) (hel : e < w7.heap.size) (hs : s.size ≤ 1000) (hn : np ≤ 100000)
    (hgood : ∀ m, m < np → (knG G m).map (tsG G) = (match tsG G m with | .slice ks _ => ks | _ => []) ∧ ∀ k ∈ knG G m, k < np) : St w7 p e np s (tsG G) (knG G) := by
  have hpl := hW.lt
  obtain ⟨ao, cap, rfl⟩ := owns_slice hW.own
  have hown := hW.own
  rw [← hnp] at hown hp
  obtain ⟨q, rfl, hq, hql, -⟩ := part_cell hown h0
  refine ⟨⟨q, cap, ?_, by omega, fun m hm => ⟨?_⟩⟩, ?_, ?_, by omega, hel, fun m hm => (hgood m hm).2, hs, hn⟩
  · rw [cell_of_row _ _ _ _ _ _ hp]; rfl
  · have hgm : G[m]? = some G[m] := List.getElem?_eq_getElem (by omega)
    obtain ⟨cs, ⟨op, c, ss, no, ks, ao', n', cap', kv, h1, h2, h3, h4⟩, hget⟩ := parts_get hW.parts hgm
    subst h2
    obtain ⟨bo, bcap, rfl⟩ := owns_len h3
    have hT : tsG G m = nd op c ss no ks := by simp [tsG, hgm, h1]
    have hK : knG G m = G[m].2 := by simp [knG, hgm]
    have hkm := (hgood m hm).1
    rw [hT] at hkm
    simp only [nd] at hkm
    have hcell : ∀ j x, j < 6 → ([.int .i64 op, .int .i64 c, .string ⟨ss.toArray⟩, .bool no, .slice ao' n' cap', .slice bo G[m].2.length bcap] : List Value)[j]? = some x → w7.cell? ⟨q, m * 6 + j, none⟩ = some x := by
      intro j x hj hx
      rw [World.cell?_of_block (a := ⟨q, m * 6 + j, none⟩) (hw7 q hql (by omega))]
      have hadd : (⟨q, 0, none⟩ : Addr).add (m * 6 + j) = ⟨q, m * 6 + j, none⟩ := by unfold Addr.add; split <;> simp_all
      rw [← hadd]
      exact hown.cells rfl _ _ (by rw [hget j hj]; exact hx)
    refine ⟨op, c, ss, no, ao', n', cap', bo, bcap, ?_, hcell 0 _ (by omega) rfl, hcell 1 _ (by omega) rfl, hcell 2 _ (by omega) rfl, hcell 3 _ (by omega) rfl, hcell 4 _ (by omega) rfl, by rw [hK]; exact hcell 5 _ (by omega) rfl, fun i k hi => ?_⟩
    · rw [hT]
      unfold nd
      rw [hkm]
    · rw [hK] at hi
      have hil := (List.getElem?_eq_some_iff.1 hi).1
      obtain ⟨g, cap2, he2, hg2, _⟩ := owns_form h3 (by omega)
      simp at he2
      obtain ⟨rfl, _⟩ := he2
      have hgl := (h3.lt g rfl).2
      refine ⟨g, rfl, by omega, ?_⟩
      rw [World.cell?_of_block (a := ⟨g, i, none⟩) (hw7 g hgl (by omega))]
      exact owns_cell h3 (x := k) (by simp [natI, hi])
  · rw [cell_of_row _ _ _ _ _ _ hp]; rfl
  · rw [cell_of_row _ _ _ _ _ _ hp]; rfl

theorem memo_first {w : World} {B e np N : Nat} {g : Nat → Nat} {ts : Nat → Data} (h : w.heap[e]? = some (.cells (madeCells #[.slice none 0 0] np) 116 (0, 0))) : Memo (fun _ => False) B e np N g ts w := by
  have hc : ∀ m, m < np → (madeCells #[Value.slice none 0 0] np)[m]? = some (.slice none 0 0) := by
    intro m hm
    rw [← Array.getElem?_toList, toList_madeCells_one]
    simp [hm]
  refine ⟨⟨_, h, by rw [size_madeCells], fun m hm => .inl (hc m hm)⟩, ?_⟩
  intro m m' b n c n' c' h1 _
  rw [cell_of_row _ _ _ _ _ _ h] at h1
  rcases Nat.lt_or_ge m np with hm | hm
  · rw [hc m hm] at h1; simp at h1
  · rw [Array.getElem?_eq_none (by rw [size_madeCells]; simpa using hm)] at h1; simp at h1

theorem flat_cnt_of : ∀ (ts : List Data), (∀ t ∈ ts, ∀ (n m : Nat) (x : Data × List Nat), (flatT t n)[m]? = some x → cnt x.1 ≤ cnt t) → ∀ (n m : Nat) (x : Data × List Nat), (flatTs ts n)[m]? = some x → cnt x.1 ≤ cnts ts
  | [], _, n, m, x, hx => by simp [flatTs] at hx
  | t :: ts, h, n, m, x, hx => by
    simp only [flatTs] at hx
    simp only [cnts]
    rcases Nat.lt_or_ge m (flatT t n).length with hm | hm
    · rw [List.getElem?_append_left hm] at hx
      have := h t (by simp) n m x hx
      omega
    · rw [List.getElem?_append_right hm] at hx
      have := flat_cnt_of ts (fun t ht => h t (by simp [ht])) _ _ x hx
      omega
theorem flat_cnt (t : Data) : ∀ (n m : Nat) (x : Data × List Nat), (flatT t n)[m]? = some x → cnt x.1 ≤ cnt t := by
  induction t using rex_ind with
  | h ks lab ih =>
    intro n m x hx
    simp only [flatT] at hx
    cases m with
    | zero => simp at hx; subst hx; exact Nat.le_refl _
    | succ m =>
      simp at hx
      have := flat_cnt_of ks ih _ _ x hx
      simp only [cnt]
      omega
  | h1 t ht =>
    intro n m x hx
    cases t with
    | slice ks lab => exact absurd rfl (ht _ _)
    | _ =>
      cases m with
      | zero => simp [flatT] at hx; subst hx; exact Nat.le_refl _
      | succ m => simp [flatT] at hx
theorem owns_base2 {w : World} {base base' e size n : Nat} {v : Value} {xs : List Value} (h : w.ownsRow base e size v n xs) (hb : base' ≤ base) : w.ownsRow base' e size v n xs := by
  obtain ⟨h1, h2⟩ := h
  refine ⟨h1, ?_⟩
  rcases h2 with h2 | ⟨g, cap, cur, rfl, hg, h3⟩
  · exact .inl h2
  · exact .inr ⟨g, cap, cur, rfl, by omega, h3⟩

set_option maxHeartbeats 4000000 in
set_option maxRecDepth 100000 in
theorem sMatchTree {t : Data} {dp : Nat} (hR : RightD dp t) (hcnt : cnt t ≤ 100000) (s : ByteArray) (hs : s.size ≤ 1000) (at' : Nat) (hat : at' ≤ s.size) (w : World) (S : Nat → Prop) (a b c d u : Value) (hX : RexIs w t S [a, b, c, d, u]) (hS : ∀ k, S k → k < w.heap.size)
    (hOk : ∀ wx, Below w.heap.size w wx → Calls Tryz.prog 23 #[.agg #[a, b, c, d, u]] wx fun e w' => e = .returned (.bool true) ∧ Below wx.heap.size wx w') :
    Calls Tryz.prog 9 #[.agg #[a, b, c, d, u], .string s, .int .i64 at'] w fun e w' => ∃ v, e = .returned v ∧ OwnInts w.heap.size w' v (nums (endsB (gOf s) s.size t at') (s.size + 1)) ∧ Below w.heap.size w w' := by
  obtain ⟨op, cc, ss, no, ao, n, cap, rfl, rfl, rfl, rfl, rfl⟩ := rex_cells hX
  obtain ⟨o1, ho1⟩ : ∃ o1, o1 = Obj.cells #[.int .i64 op, .int .i64 cc, .string ⟨ss.toArray⟩, .bool no, .slice ao n cap] 26 := ⟨_, rfl⟩
  have hb1 : Below w.heap.size w (w.alloc o1) := (Below.refl _ w).alloc (Nat.le_refl _) _
  have hB1 : (w.alloc o1).heap[w.heap.size]? = some (.cells #[.int .i64 op, .int .i64 cc, .string ⟨ss.toArray⟩, .bool no, .slice ao n cap] 26 (0, 0)) := by rw [ho1]; exact heap_alloc_last _ _
  have boxed : ∀ wx : World, wx.heap[w.heap.size]? = some (.cells #[.int .i64 op, .int .i64 cc, .string ⟨ss.toArray⟩, .bool no, .slice ao n cap] 26 (0, 0)) → wx.cell? ⟨w.heap.size, 0, none⟩ = some (.int .i64 op) ∧ wx.cell? ⟨w.heap.size, 1, none⟩ = some (.int .i64 cc) ∧ wx.cell? ⟨w.heap.size, 2, none⟩ = some (.string ⟨ss.toArray⟩) ∧ wx.cell? ⟨w.heap.size, 3, none⟩ = some (.bool no) ∧ wx.cell? ⟨w.heap.size, 4, none⟩ = some (.slice ao n cap) := by
    intro wx h
    refine ⟨?_, ?_, ?_, ?_, ?_⟩ <;> (rw [cell_of_row _ _ _ _ _ _ h]; rfl)
  obtain ⟨r0, r1, r2, r3, r4⟩ := boxed _ hB1
  have bat : (at' : Int) ≤ s.size := by omega
  have bs : (s.size : Int) ≤ 1000 := by omega
  have HO1 : Hid (o1 = Obj.cells #[.int .i64 op, .int .i64 cc, .string ⟨ss.toArray⟩, .bool no, .slice ao n cap] 26) := ho1
  clear ho1
  go_enter Tryz.func9, Tryz.ntmps9
  go_upto_region 1 with fail
  rw [← HO1.out]
  go_wp2_with fail
  refine (hOk _ hb1).mono ?_
  rintro e w2 ⟨rfl, hb2⟩
  have hz2 := hb2.size
  rw [World.size_alloc] at hz2
  have hB2 := (hb2.block w.heap.size (by simp)).trans hB1
  obtain ⟨r0', r1', r2', r3', r4'⟩ := boxed _ hB2
  have hbw2 : Below w.heap.size w w2 := hb1.trans (hb2.mono (by simp))
  clear r0 r1 r2 r3 r4
  go_upto_region 4 with (first | (go_at_call 24; refine (sWithin _ _ _ true (by simp; omega) _).mono ?_; rintro e wz ⟨rfl, hwz⟩; have hwz := hwz.symm; subst hwz))
  obtain ⟨p, hp⟩ : ∃ p, p = w2.heap.size := ⟨_, rfl⟩
  obtain ⟨w3, hw3⟩ : ∃ w3, w3 = w2.alloc (.cells #[.slice none 0 0, .string s, .slice none 0 0] 57) := ⟨_, rfl⟩
  have hW3 : Wk w3 p s (.slice none 0 0) [] [] (fun _ => False) := ⟨by rw [hw3, hp]; exact heap_alloc_last _ _, World.ownsRow_nil _ _ _ _, by simp only [PartsIs]⟩
  have hbw3 : Below w2.heap.size w2 w3 := by rw [hw3]; exact (Below.refl _ w2).alloc (Nat.le_refl _) _
  have hz3 : w3.heap.size = p + 1 := by rw [hw3, hp]; simp
  have hX3 : RexIs w3 t S [.int .i64 op, .int .i64 cc, .string ⟨ss.toArray⟩, .bool no, .slice ao n cap] := rex_frame _ _ _ (fun k hk => (hbw3.block k (by have := hS k hk; omega)).trans (hbw2.block k (hS k hk))) hX
  have hB3 := (hbw3.block w.heap.size (by omega)).trans hB2
  obtain ⟨r0, r1, r2, r3, r4⟩ := boxed _ hB3
  have hflat := sFlat (p := p) (s := s) t (fun _ => False) w3 (.slice none 0 0) [] [] S _ _ _ _ _ hW3 (fun _ h => h.elim) id (fun _ _ h => h) hX3 (fun k hk => by have := hS k hk; omega) (by simpa using hcnt)
  rw [← hw3, ← hp]
  have hpw : w.heap.size < p := by omega
  have HP : Hid (p = w2.heap.size) := hp
  clear r0' r1' r2' r3' r4' hw3 hp hX hX3 hW3
  go_wp2_with fail
  refine hflat.mono ?_
  rintro e w6 ⟨rfl, v', xs', hW6, hF6⟩
  simp only [List.nil_append, List.length_nil] at hW6 ⊢
  obtain ⟨np, hnp⟩ : ∃ np, np = cnt t := ⟨_, rfl⟩
  have hGl : (flatT t 0).length = np := by rw [flatT_len, hnp]
  have hnp0 : 0 < np := by rw [hnp]; exact cnt_pos t
  have hnpI : (np : Int) ≤ 100000 := by omega
  obtain ⟨va, vc, rfl⟩ := owns_slice hW6.own
  rw [hGl] at hW6 hF6
  have hl6 := hW6.lt
  have hz6 := hF6.size
  have p0 : w6.cell? ⟨p, 0, none⟩ = some (.slice va np vc) := by rw [cell_of_row _ _ _ _ _ _ hW6.blk]; rfl
  have p2 : w6.cell? ⟨p, 2, none⟩ = some (.slice none 0 0) := by rw [cell_of_row _ _ _ _ _ _ hW6.blk]; rfl
  have f2 : w6.frozen? ⟨p, 2, none⟩ = false := by have := hW6.blk; simp [World.frozen?, this]
  have hmk := run_make_row' (P := Tryz.prog) 55 116 (.slice none 0 0) 24 Tryz.underlying55 Tryz.infoRowsr rfl .i64 .i64 np (by omega) (by omega)
  clear hflat
  have HNP : Hid (np = cnt t) := hnp
  clear hnp
  go_upto_region 6 with fail
  obtain ⟨e, he⟩ : ∃ e, e = w6.heap.size := ⟨_, rfl⟩
  obtain ⟨w7, hw7⟩ : ∃ w7, w7 = (w6.setCell ⟨p, 2, none⟩ (.slice (some ⟨w6.heap.size, 0, none⟩) np np)).alloc (.cells (madeCells #[.slice none 0 0] np) 116) := ⟨_, rfl⟩
  have hz7 : w7.heap.size = e + 1 := by rw [hw7, he]; simp
  have hk7 : ∀ k, k < w6.heap.size → k ≠ p → w7.heap[k]? = w6.heap[k]? := fun k hk hkp => by
    rw [hw7]
    exact (Below.heap_alloc _ _ _ (by simpa using hk)).trans (Below.heap_setCell _ _ _ _ hkp)
  have hp7 : w7.heap[p]? = some (.cells #[.slice va np vc, .string s, .slice (some ⟨e, 0, none⟩) np np] 57 (0, 0)) := by
    rw [hw7, he]
    refine (Below.heap_alloc _ _ _ (by simpa using hl6)).trans ?_
    exact heap_set_at w6 p 2 _ hW6.blk
  have he7 : w7.heap[e]? = some (.cells (madeCells #[.slice none 0 0] np) 116 (0, 0)) := by
    rw [hw7, he]
    have := heap_alloc_last (w6.setCell ⟨p, 2, none⟩ (.slice (some ⟨w6.heap.size, 0, none⟩) np np)) (.cells (madeCells #[.slice none 0 0] np) 116)
    simpa using this
  have hgood : ∀ m, m < np → (knG (flatT t 0) m).map (tsG (flatT t 0)) = (match tsG (flatT t 0) m with | .slice ks _ => ks | _ => []) ∧ ∀ k ∈ knG (flatT t 0) m, k < np := by
    intro m hm
    have hmG : (flatT t 0)[m]? = some (flatT t 0)[m] := List.getElem?_eq_getElem (by omega)
    obtain ⟨cs, ⟨op1, c1, ss1, no1, ks1, _, _, _, _, h1, _⟩, _⟩ := parts_get hW6.parts hmG
    have hT : tsG (flatT t 0) m = nd op1 c1 ss1 no1 ks1 := by simp [tsG, hmG, h1]
    obtain ⟨h2, h3⟩ := flat_good t 0 (in_self _) m (by omega) (by rw [← HNP.out]; omega) ks1 _ hT
    rw [hT, ← hGl]
    exact ⟨h2, h3⟩
  have hSt : St w7 p e np s (tsG (flatT t 0)) (knG (flatT t 0)) := parts_st hW6 hGl.symm hnp0 hk7 he hp7 (by omega) hs (by omega) hgood
  have hkl : ∀ m, m < np → (knG (flatT t 0) m).length ≤ 100000 := by
    intro m hm
    have hmG : (flatT t 0)[m]? = some (flatT t 0)[m] := List.getElem?_eq_getElem (by omega)
    obtain ⟨cs, ⟨op1, c1, ss1, no1, ks1, _, _, _, _, h1, _⟩, _⟩ := parts_get hW6.parts hmG
    have hT : tsG (flatT t 0) m = nd op1 c1 ss1 no1 ks1 := by simp [tsG, hmG, h1]
    have hk := (hgood m hm).1
    rw [hT] at hk
    have hl : (knG (flatT t 0) m).length = ks1.length := by rw [← List.length_map (tsG (flatT t 0)), hk]; rfl
    have hc := flat_cnt t 0 m (nd op1 c1 ss1 no1 ks1, (flatT t 0)[m].2) (by rw [hmG, ← h1])
    rw [cnt_nd] at hc
    have := cnts_len ks1
    omega
  have hroot : tsG (flatT t 0) 0 = t := (flat_head (in_self (flatT t 0))).1
  have hfrom := sFromAll hSt hkl dp 0 hnp0 (by rw [hroot]; exact hR) (fun _ => False) at' w7 hat (fun _ h => h.elim) (But.refl _ _) (memo_first he7)
  have hlow : ∀ k, k < w.heap.size → w7.heap[k]? = w.heap[k]? := fun k hk => (hk7 k (by omega) (by omega)).trans ((hF6.block k (by omega) (by omega) (by simp [Value.ownBlock])).trans ((hbw3.block k (by omega)).trans (hbw2.block k hk)))
  have hb7 : Below w.heap.size w w7 := by
    refine ⟨?_, ?_, ?_, by omega, hlow⟩
    · rw [hw7]; exact hF6.os.trans (hbw3.os.trans hbw2.os)
    · rw [hw7]; exact hF6.tape.trans (hbw3.tape.trans hbw2.tape)
    · rw [hw7]; exact hF6.output.trans (hbw3.output.trans hbw2.output)
  rw [← hw7]
  clear hw7 hgood hkl p0 p2 f2 hmk
  go_wp2_with fail
  refine hfrom.mono ?_
  rintro en w8 ⟨d8, rfl, hd8, hd8B, -, hbut8, -, hk8⟩
  rw [hroot] at hd8
  have hb8 : Below w.heap.size w w8 := hbut8.below hb7 (by omega) (Nat.le_refl _)
  have hz8 := hbut8.2.2.2.1
  obtain ⟨N1, hN1⟩ : ∃ N1, N1 = s.size + 1 := ⟨_, rfl⟩
  rw [← hN1] at hd8 ⊢
  have hlist := sList hd8 (by omega)
  have HN : Hid (N1 = s.size + 1) := hN1
  clear hN1
  go_wp2_with fail
  refine hlist.mono ?_
  rintro en w9 ⟨v9, rfl, ho9, hb9⟩
  go_wp2_with fail
  go_ret
  exact ⟨v9, rfl, by unfold OwnInts at ho9 ⊢; rw [← HN.out]; exact owns_base2 ho9 hb8.size, hb8.trans (hb9.mono hb8.size)⟩

end Mt
end Go.Proofs.YtgdnlmaacnnfiaaGreatDoor

namespace Go.Proofs.YtgdnlmaacnnfiaaGreatDoor
open Go.RowKit
namespace Rx

def okLab (op c : Int) (s : List UInt8) (no : Bool) (k : Nat) : Bool :=
  if op = 1 then (decide (0 ≤ c) && decide (c ≤ 255)) && s.isEmpty && !no && decide (k = 0)
  else if op = 3 then decide (c = 0) && !s.isEmpty && upB ⟨s.toArray⟩ && decide (k = 0)
  else if op = 6 ∨ op = 7 then decide (c = 0) && s.isEmpty && !no && decide (2 ≤ k)
  else if op = 8 ∨ op = 9 ∨ op = 10 then decide (c = 0) && s.isEmpty && !no && decide (k = 1)
  else (decide (2 ≤ op) && decide (op ≤ 11)) && decide (c = 0) && s.isEmpty && !no && decide (k = 0)
def labZ (lab : List Data) (k : Nat) : Bool := match lab with
  | [.lit (.int .i64 op), .lit (.int .i64 c), .lit (.string s), .lit (.bool no)] => okLab op c s no k
  | _ => false
mutual
def rightZ : Data → Bool
  | .slice ks lab => rightZs ks && labZ lab ks.length
  | _ => false
def rightZs : List Data → Bool
  | [] => true
  | t :: ts => rightZ t && rightZs ts
end
def setLe (lab : List Data) : Prop := match lab with
  | [_, _, .lit (.string s), _] => s.length ≤ 1000
  | _ => True
mutual
/-- No set is long. -/
def Small : Data → Prop
  | .slice ks lab => Smalls ks ∧ setLe lab
  | _ => True
def Smalls : List Data → Prop
  | [] => True
  | t :: ts => Small t ∧ Smalls ts
end
theorem smalls_mem : ∀ {ts : List Data} {t : Data}, Smalls ts → t ∈ ts → Small t
  | t' :: ts, t, h, hm => by
    simp only [Smalls] at h
    rcases List.mem_cons.1 hm with rfl | hm
    · exact h.1
    · exact smalls_mem h.2 hm
theorem rightZ_nd (op c : Int) (s : List UInt8) (no : Bool) (ks : List Data) : rightZ (ndZ op c s no ks) = (rightZs ks && okLab op c s no ks.length) := by simp [ndZ, rightZ, labZ]
theorem rightZs_take {ks : List Data} {k : Nat} {t : Data} (h : ks[k]? = some t) : rightZs (ks.take (k + 1)) = (rightZs (ks.take k) && rightZ t) := by
  have ht : ks.take (k + 1) = ks.take k ++ [t] := by rw [List.take_add_one, h]; rfl
  rw [ht]
  generalize ks.take k = l
  induction l with
  | nil => simp [rightZs]
  | cons a l ih => simp [rightZs, ih, Bool.and_assoc]
theorem rightZs_all : ∀ (ks : List Data), rightZs ks = true ↔ ∀ t ∈ ks, rightZ t = true
  | [] => by simp [rightZs]
  | t :: ts => by simp [rightZs, rightZs_all ts]

theorem loop_len (bs : ByteArray) : ∀ (n i : Nat) (r : List UInt8), bs.size - i = n → (ByteArray.toList.loop bs i r).length = n + r.length := by
  intro n
  induction n with
  | zero =>
    intro i r h
    unfold ByteArray.toList.loop
    rw [if_neg (by omega)]
    simp
  | succ n ih =>
    intro i r h
    unfold ByteArray.toList.loop
    rw [if_pos (by omega), ih (i + 1) _ (by omega)]
    simp
    omega
theorem toList_nil {bs : ByteArray} : bs.toList = [] ↔ bs.size = 0 := by
  have h : bs.toList.length = bs.size := by
    unfold ByteArray.toList
    rw [loop_len bs bs.size 0 [] (by omega)]
    simp
  constructor
  · intro e; rw [e] at h; simpa using h.symm
  · intro e; exact List.eq_nil_of_length_eq_zero (by omega)

def RightOk (t : Data) : Prop := ∀ (w : World) (S : Nat → Prop) (a b c d u : Value), RexZ w t S [a, b, c, d, u] → (∀ k, S k → k < w.heap.size) →
  Calls Tryz.prog 57 #[.agg #[a, b, c, d, u]] w fun e w' => e = .returned (.bool (rightZ t)) ∧ Below w.heap.size w w'

end Rx
end Go.Proofs.YtgdnlmaacnnfiaaGreatDoor

