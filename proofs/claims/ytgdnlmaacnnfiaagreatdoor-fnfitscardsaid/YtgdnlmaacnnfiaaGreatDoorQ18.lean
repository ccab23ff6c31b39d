/-
  Chapter 5's specification: l5Flat.
-/
import Derived.Test.YtgdnlmaacnnfiaaGreatDoorQ17
import Derived.Test.YtgdnlmaacnnfiaaGreatDoorQ05
namespace Go.Proofs.YtgdnlmaacnnfiaaGreatDoor
open Go.RowKit
namespace Mt
open Rx Clo

theorem Tryz.infoPartr : (Tryz.prog.info? 115).map (fun i => (i.zero, i.size, i.bytes)) = some (some (.agg #[.int .i64 0, .int .i64 0, .string ⟨#[]⟩, .bool false, .slice none 0 0, .slice none 0 0]), 6, 88) := by kernel_rfl

/-- The work at block p, while its parts are put. -/
structure Wk (w : World) (p : Nat) (s : ByteArray) (v : Value) (G : List (Data × List Nat)) (xs : List Value) (Av : Nat → Prop) : Prop where
  blk : w.heap[p]? = some (.cells #[v, .string s, .slice none 0 0] 57 (0, 0))
  own : w.ownsRow (p + 1) 115 6 v G.length xs
  parts : PartsIs w p Av G xs

/-- What l5Flat turns: block p, and the parts' own row. -/
structure Fc (p : Nat) (v : Value) (w : World) (v' : Value) (w' : World) : Prop where
  os : w'.os = w.os
  tape : w'.tape = w.tape
  output : w'.output = w.output
  size : w.heap.size ≤ w'.heap.size
  block : ∀ k, k < w.heap.size → k ≠ p → v.ownBlock ≠ some k → w'.heap[k]? = w.heap[k]?
  own : v'.ownBlock = v.ownBlock ∨ ∃ m, v'.ownBlock = some m ∧ w.heap.size ≤ m

theorem Fc.refl (p : Nat) (v : Value) (w : World) : Fc p v w v w := ⟨rfl, rfl, rfl, Nat.le_refl _, fun _ _ _ _ => rfl, .inl rfl⟩
theorem Fc.not {p : Nat} {v v' : Value} {w w' : World} (h : Fc p v w v' w') {k : Nat} (hk : k < w.heap.size) (hn : v.ownBlock ≠ some k) : v'.ownBlock ≠ some k := by
  rcases h.own with e | ⟨m, e, hm⟩
  · rw [e]; exact hn
  · rw [e]; intro h; simp at h; omega
theorem Fc.trans {p : Nat} {v v1 v2 : Value} {w w1 w2 : World} (h : Fc p v w v1 w1) (h' : Fc p v1 w1 v2 w2) : Fc p v w v2 w2 := by
  have h1 := h.size
  have h2 := h'.size
  refine ⟨h'.os.trans h.os, h'.tape.trans h.tape, h'.output.trans h.output, by omega, fun k hk hp hn => (h'.block k (by omega) hp (h.not hk hn)).trans (h.block k hk hp hn), ?_⟩
  rcases h'.own with e | ⟨m, e, hm⟩
  · rw [e]; exact h.own
  · exact .inr ⟨m, e, by omega⟩
theorem Fc.alloc {p : Nat} {v v' : Value} {w w' : World} (h : Fc p v w v' w') (o : Obj) : Fc p v w v' (w'.alloc o) := by
  have h1 := h.size
  exact ⟨h.os, h.tape, h.output, by simp; omega, fun k hk hp hn => (Below.heap_alloc _ _ _ (by omega)).trans (h.block k hk hp hn), h.own⟩
theorem Fc.grown {p : Nat} {v v' : Value} {w w1 w2 : World} {row : Option Nat} (h : Fc p v w v' w1) (hg : w1.grownBy w2 row) (hr : ∀ b, row = some b → w.heap.size ≤ b) : Fc p v w v' w2 := by
  have h1 := h.size
  have h2 := hg.size
  exact ⟨hg.os.trans h.os, hg.tape.trans h.tape, hg.output.trans h.output, by omega, fun k hk hp hn => (hg.block k (by omega) fun e => by have := hr k e.symm; omega).trans (h.block k hk hp hn), h.own⟩
theorem part_tag {w : World} {p n k : Nat} {v : Value} {xs : List Value} (h : w.ownsRow p 115 6 v n xs) (hv : v.ownBlock = some k) : ∃ cs, w.heap[k]? = some (.cells cs 115 (0, 0)) := by
  rcases h.2 with ⟨rfl, _⟩ | ⟨g, cap, cur, rfl, _, hh, _⟩
  · simp [Value.ownBlock] at hv
  · simp [Value.ownBlock] at hv
    subst hv
    exact ⟨cur, hh⟩

theorem Wk.lt {w : World} {p : Nat} {s : ByteArray} {v : Value} {G : List (Data × List Nat)} {xs : List Value} {Av : Nat → Prop} (h : Wk w p s v G xs Av) : p < w.heap.size := heap_lt h.blk
theorem Wk.kept {w w' : World} {p : Nat} {s : ByteArray} {v : Value} {G : List (Data × List Nat)} {xs : List Value} {Av Av' : Nat → Prop} (h : Wk w p s v G xs Av) (hw : ∀ k, k < w.heap.size → ¬ Av k → w'.heap[k]? = w.heap[k]?) (hp : ¬ Av p) (hv : ∀ k, v.ownBlock = some k → ¬ Av k) (hA : ∀ k, k < w.heap.size → Av' k → Av k) : Wk w' p s v G xs Av' :=
  ⟨(hw p h.lt hp).trans h.blk, Clo.owns_same h.own fun g hg => hw g (h.own.lt g hg).2 (hv g hg), parts_frame (fun k _ _ hA' hc => ⟨hw k (heap_lt hc) hA', fun h => hA' (hA k (heap_lt hc) h)⟩) h.parts⟩
theorem Wk.alloc {w : World} {p : Nat} {s : ByteArray} {v : Value} {G : List (Data × List Nat)} {xs : List Value} {Av : Nat → Prop} (h : Wk w p s v G xs Av) (o : Obj) : Wk (w.alloc o) p s v G xs Av :=
  ⟨(Below.heap_alloc _ _ _ h.lt).trans h.blk, h.own.alloc o, parts_frame (fun _ _ _ hA' hc => ⟨Below.heap_alloc _ _ _ (heap_lt hc), hA'⟩) h.parts⟩
/-- Blocks that there are not yet may be kept out. -/
theorem Wk.mono {w : World} {p : Nat} {s : ByteArray} {v : Value} {G : List (Data × List Nat)} {xs : List Value} {Av Av' : Nat → Prop} (h : Wk w p s v G xs Av) (hA : ∀ k, k < w.heap.size → Av' k → Av k) : Wk w p s v G xs Av' :=
  ⟨h.blk, h.own, parts_frame (fun k _ _ hA' hc => ⟨rfl, fun h => hA' (hA k (heap_lt hc) h)⟩) h.parts⟩

def FlatOk (p : Nat) (s : ByteArray) (t : Data) : Prop := ∀ (Av : Nat → Prop) (w : World) (v : Value) (G : List (Data × List Nat)) (xs : List Value) (S : Nat → Prop) (a b c d u : Value),
  Wk w p s v G xs Av → (∀ k, Av k → k < w.heap.size) → ¬ Av p → (∀ k, v.ownBlock = some k → ¬ Av k) → RexIs w t S [a, b, c, d, u] → (∀ k, S k → k < p) → G.length + cnt t ≤ 100000 →
  Calls Tryz.prog 25 #[.pointer (some ⟨p, 0, none⟩), .agg #[a, b, c, d, u]] w fun e w' => e = .returned (.int .i64 G.length) ∧ ∃ v' xs', Wk w' p s v' (G ++ flatT t G.length) xs' Av ∧ Fc p v w v' w'

theorem part_cell {w : World} {B n cap : Nat} {ao : Option Addr} {xs : List Value} {N : Nat} (h : w.ownsRow B 115 6 (.slice ao N cap) N xs) (hn : n < N) : ∃ g, ao = some ⟨g, 0, none⟩ ∧ B ≤ g ∧ g < w.heap.size ∧ ∀ j, j < 6 → ∃ x, w.cell? ⟨g, n * 6 + j, none⟩ = some x := by
  rcases h.2 with ⟨h0, h1⟩ | ⟨g, cap', cur, he, hg, _⟩
  · omega
  · simp at he
    obtain ⟨rfl, rfl⟩ := he
    refine ⟨g, rfl, hg, (h.lt g rfl).2, fun j hj => ?_⟩
    have hl : n * 6 + j < xs.length := by rw [h.1]; omega
    have h2 := h.cells rfl _ _ (List.getElem?_eq_getElem hl)
    have hadd : (⟨g, 0, none⟩ : Addr).add (n * 6 + j) = ⟨g, n * 6 + j, none⟩ := by unfold Addr.add; split <;> simp_all
    exact ⟨xs[n * 6 + j], hadd ▸ h2⟩
theorem cnts_take (ks : List Data) : ∀ i, cnts (ks.take i) ≤ cnts ks := by
  induction ks with
  | nil => intro i; simp [cnts]
  | cons t ts ih =>
    intro i
    cases i with
    | zero => simp [cnts]
    | succ i => have := ih i; simp [cnts]; omega

theorem cell_part_new (w : World) (a b c d u v : Value) : ∀ j x, [a, b, c, d, u, v][j]? = some x → (w.alloc (.cells #[a, b, c, d, u, v] 115)).cell? ((⟨w.heap.size, 0, none⟩ : Addr).add j) = some x := by
  intro j x hj
  have hadd : (⟨w.heap.size, 0, none⟩ : Addr).add j = ⟨w.heap.size, j, none⟩ := by unfold Addr.add; split <;> simp_all
  rw [hadd, cell_of_row _ _ j _ _ (0, 0) (heap_alloc_last w _)]
  simpa using hj

set_option maxHeartbeats 4000000 in
set_option maxRecDepth 100000 in
theorem sFlatNd {p : Nat} {s : ByteArray} (op cc : Nat) (ss : List UInt8) (no : Bool) (ks : List Data) (ih : ∀ t ∈ ks, FlatOk p s t) : FlatOk p s (nd op cc ss no ks) := by
  intro Av w v G xs S a b c d u hW hAv hAp hAo hX hS hcnt
  obtain ⟨i0, hi0, hz0, hz1, hz2⟩ := info_parts Tryz.infoPartr
  obtain ⟨n, hn⟩ : ∃ n, n = G.length := ⟨_, rfl⟩
  rw [cnt_nd] at hcnt
  rw [rex_nd] at hX
  obtain ⟨kv, kx, hcs, hko, hkS, hkx⟩ := hX
  simp at hcs
  obtain ⟨rfl, rfl, rfl, rfl, rfl⟩ := hcs
  obtain ⟨ko, kcap, rfl⟩ := owns_slice hko
  obtain ⟨ao, cap, rfl⟩ := owns_slice hW.own
  obtain ⟨zs, hzs⟩ : ∃ zs : ByteArray, zs = ⟨ss.toArray⟩ := ⟨_, rfl⟩
  have hpl := hW.lt
  have hnI : (n : Int) ≤ 100000 := by omega
  have hkl : ks.length ≤ cnts ks := cnts_len ks
  have hkI : (ks.length : Int) ≤ 100000 := by omega
  have hk64 : Hid ((n + 1) * 88 ≤ 140737488355328) := by show _ ≤ _; omega
  have hkm : Hid (n + 1 ≤ maxLen) := by show _ ≤ _; unfold maxLen; omega
  have p0 : w.cell? ⟨p, 0, none⟩ = some (.slice ao n cap) := by rw [cell_of_row _ _ _ _ _ _ hW.blk, hn]; rfl
  have f0 : w.frozen? ⟨p, 0, none⟩ = false := by have := hW.blk; simp [World.frozen?, this]
  obtain ⟨o1, ho1⟩ : ∃ o1 : Obj, o1 = .cells #[.int .i64 op, .int .i64 cc, .string zs, .bool no, .slice ko ks.length kcap] 26 := ⟨_, rfl⟩
  obtain ⟨o2, ho2⟩ : ∃ o2 : Obj, o2 = .cells #[.int .i64 op, .int .i64 cc, .string zs, .bool no, .slice ko ks.length kcap, .slice none 0 0] 115 := ⟨_, rfl⟩
  have hXown := hW.own
  have hXparts := hW.parts
  have hXblk := hW.blk
  rw [← hn] at hXown
  have hownp : ∀ g, Value.ownBlock (.slice ao n cap) = some g → p + 1 ≤ g := fun g hg => (hXown.lt g hg).1
  have hownA : (((w.alloc o1).drew).alloc o2).ownsRow (p + 1) 115 6 (.slice ao n cap) n xs := ((hXown.alloc o1).drew).alloc o2
  have hs1 : ((w.alloc o1).drew).heap.size = w.heap.size + 1 := World.size_alloc _ _
  have hs1' : (((w.alloc o1).drew).alloc o2).heap.size = w.heap.size + 2 := by rw [World.size_alloc, hs1]
  have hba : p + 1 ≤ (((w.alloc o1).drew).alloc o2).heap.size := by rw [hs1']; omega
  have hc6 : ∀ j x, [.int .i64 op, .int .i64 cc, .string zs, .bool no, .slice ko ks.length kcap, .slice none 0 0][j]? = some x → (((w.alloc o1).drew).alloc o2).cell? ((⟨w.heap.size + 1, 0, none⟩ : Addr).add j) = some x := by
    intro j x hj
    have := cell_part_new ((w.alloc o1).drew) _ _ _ _ _ _ j x hj
    rw [hs1, ← ho2] at this
    exact this
  have hpb : ∀ w4, (((w.alloc o1).drew).alloc o2).grownBy w4 (Value.ownBlock (.slice ao n cap)) → w4.heap[p]? = w.heap[p]? := fun w4 hg => (hg.block p (by rw [hs1']; omega) (fun e => by have := hownp p e.symm; omega)).trans ((Below.heap_alloc _ _ _ (by rw [hs1]; omega)).trans (Below.heap_alloc _ _ _ hpl))
  have hB1 : (w.alloc o1).heap[w.heap.size]? = some (.cells #[.int .i64 op, .int .i64 cc, .string zs, .bool no, .slice ko ks.length kcap] 26 (0, 0)) := by rw [ho1]; exact heap_alloc_last _ _
  have r0 : (w.alloc o1).cell? ⟨w.heap.size, 0, none⟩ = some (.int .i64 op) := by rw [cell_of_row _ _ _ _ _ _ hB1]; rfl
  have r1 : (w.alloc o1).cell? ⟨w.heap.size, 1, none⟩ = some (.int .i64 cc) := by rw [cell_of_row _ _ _ _ _ _ hB1]; rfl
  have r2 : (w.alloc o1).cell? ⟨w.heap.size, 2, none⟩ = some (.string zs) := by rw [cell_of_row _ _ _ _ _ _ hB1]; rfl
  have r3 : (w.alloc o1).cell? ⟨w.heap.size, 3, none⟩ = some (.bool no) := by rw [cell_of_row _ _ _ _ _ _ hB1]; rfl
  have r4 : (w.alloc o1).cell? ⟨w.heap.size, 4, none⟩ = some (.slice ko ks.length kcap) := by rw [cell_of_row _ _ _ _ _ _ hB1]; rfl
  rw [← hzs]
  have HZ : Hid (zs = ⟨ss.toArray⟩) := hzs
  have HG : Hid (n = G.length) := hn
  rw [← hn]
  have HO1 : Hid (o1 = .cells #[.int .i64 op, .int .i64 cc, .string zs, .bool no, .slice ko ks.length kcap] 26) := ho1
  have HO2 : Hid (o2 = .cells #[.int .i64 op, .int .i64 cc, .string zs, .bool no, .slice ko ks.length kcap, .slice none 0 0] 115) := ho2
  clear hzs hn ho1 ho2
  go_enter Tryz.func25, Tryz.ntmps25
  go_upto_region 2 with fail
  go_cut [] (fun wx => ∃ v4 xs4, Wk wx p s v4 (G ++ [(nd op cc ss no ks, [])]) xs4 Av ∧ Fc p (.slice ao n cap) w v4 wx ∧ wx.heap[w.heap.size]? = some (.cells #[.int .i64 op, .int .i64 cc, .string zs, .bool no, .slice ko ks.length kcap] 26 (0, 0)))
  case first =>
    rw [← HO1.out]
    go_region_law (first | (rw [← HO2.out]; refine step_append_own rfl (.tmp 17) (.tmp 20) 54 rfl (p + 1) 115 i0 _ 6 88 Tryz.underlying54 hi0 hz0 hz1 hz2 rfl (by decide) (.slice ao n cap) n xs (by simp [Act.eval]) hownA ⟨w.heap.size + 1, 0, none⟩ 1 1 [.int .i64 op, .int .i64 cc, .string zs, .bool no, .slice ko ks.length kcap, .slice none 0 0] (by simp [Act.eval]) rfl hc6 (by simp [Value.oneCell']) hkm.out hk64.out hba ?_; intro v4 w4 hown4 hgr4 hb4; have c4 : w4.cell? ⟨p, 0, none⟩ = some (.slice ao n cap) := (World.cell?_of_block (hpb w4 hgr4)).trans p0; have f4 : w4.frozen? ⟨p, 0, none⟩ = false := (World.frozen?_of_block (hpb w4 hgr4)).trans f0; obtain ⟨ao4, cap4, rfl⟩ := owns_slice hown4))
    all_goals (
      go_wp2_with fail
      go_meet
      replace hgr4 : (((w.alloc o1).drew).alloc o2).grownBy w4 (Value.ownBlock (.slice ao n cap)) := hgr4
      replace hb4 : Value.ownBlock (.slice ao4 (n + 1) cap4) = Value.ownBlock (.slice ao n cap) ∨ Value.ownBlock (.slice ao4 (n + 1) cap4) = some (((w.alloc o1).drew).alloc o2).heap.size := hb4
      have hsame : ∀ k, k < w.heap.size → k ≠ p → Value.ownBlock (.slice ao n cap) ≠ some k → (w4.setCell ⟨p, 0, none⟩ (.slice ao4 (n + 1) cap4)).heap[k]? = w.heap[k]? := fun k h1 h2 h4 => (Below.heap_setCell _ ⟨p, 0, none⟩ _ _ h2).trans ((hgr4.block k (by rw [hs1']; omega) (Ne.symm h4)).trans ((Below.heap_alloc _ _ _ (by rw [hs1]; omega)).trans (Below.heap_alloc _ _ _ h1)))
      have hbx : (w4.setCell ⟨p, 0, none⟩ (.slice ao4 (n + 1) cap4)).heap[w.heap.size]? = some (.cells #[.int .i64 op, .int .i64 cc, .string zs, .bool no, .slice ko ks.length kcap] 26 (0, 0)) := (Below.heap_setCell _ ⟨p, 0, none⟩ _ _ (by show w.heap.size ≠ p; omega)).trans ((hgr4.block w.heap.size (by rw [hs1']; omega) (fun e => by have := (hXown.lt _ e.symm).2; omega)).trans ((Below.heap_alloc _ _ _ (by rw [hs1]; omega)).trans hB1))
      have hpk : (w4.setCell ⟨p, 0, none⟩ (.slice ao4 (n + 1) cap4)).heap[p]? = some (.cells #[.slice ao4 (n + 1) cap4, .string s, .slice none 0 0] 57 (0, 0)) := by
        have := heap_set_at w4 p 0 (.slice ao4 (n + 1) cap4) ((hpb w4 hgr4).trans hXblk)
        exact this
      have hpt : PartsIs (w4.setCell ⟨p, 0, none⟩ (.slice ao4 (n + 1) cap4)) p Av (G ++ [(nd op cc ss no ks, [])]) (xs ++ [.int .i64 op, .int .i64 cc, .string zs, .bool no, .slice ko ks.length kcap, .slice none 0 0]) := by
        refine parts_snoc (parts_frame (fun k c hk hA hc => ⟨hsame k (heap_lt hc) (by omega) (fun e => ?_), hA⟩) hXparts) ⟨op, cc, ss, no, ks, ko, ks.length, kcap, .slice none 0 0, rfl, by rw [HZ.out], World.ownsRow_nil _ _ _ _, fun b hb => by simp [Value.ownBlock] at hb⟩
        obtain ⟨cs', hc'⟩ := part_tag hXown e
        rw [hc] at hc'
        simp at hc'
      refine ⟨.slice ao4 (n + 1) cap4, _, ⟨hpk, ?_, hpt⟩, ⟨hgr4.os, hgr4.tape, hgr4.output, by have := hgr4.size; rw [hs1'] at this; simp; omega, hsame, ?_⟩, hbx⟩
      · rw [List.length_append, List.length_singleton, ← HG.out]
        exact Clo.owns_same hown4 fun g hg => Below.heap_setCell _ _ _ _ (by have := (hown4.lt g hg).1; show g ≠ p; omega)
      · rcases hb4 with e | e
        · exact .inl e
        · refine .inr ⟨_, e, ?_⟩
          show w.heap.size ≤ (((w.alloc o1).drew).alloc o2).heap.size
          rw [hs1']; omega)
  case rest =>
    obtain ⟨v4, xs4, hW4, hF4, hbx⟩ := hcut
    clear hownA hc6 hpb hB1 r0 r1 r2 r3 r4 hXown hXparts hXblk p0 f0
    have hs4 := hF4.size
    have hl4 := hW4.lt
    have hbl : w.heap.size < wc.heap.size := heap_lt hbx
    obtain ⟨i1, hi1, hy0, hy1, hy2⟩ := info_parts Tryz.infoIntr
    go_wp2_with fail
    go_loopw [6, 7] (fun kvv iv wr => ∃ (i : Nat) (v' : Value) (xs' : List Value), iv = .int .i64 i ∧ i ≤ ks.length ∧ wr.ownsRow (p + 1) 3 1 kvv (kidNs (ks.take i) (n + 1)).length (ints (natI (kidNs (ks.take i) (n + 1)))) ∧ (∀ b, kvv.ownBlock = some b → w.heap.size ≤ b) ∧ Wk wr p s v' (G ++ (nd op cc ss no ks, []) :: flatTs (ks.take i) (n + 1)) xs' (fun k => Av k ∨ kvv.ownBlock = some k) ∧ Fc p (.slice ao n cap) w v' wr ∧ wr.heap[w.heap.size]? = some (.cells #[.int .i64 op, .int .i64 cc, .string zs, .bool no, .slice ko ks.length kcap] 26 (0, 0))) (fun _ iv _ => ks.length - (intOf iv).toNat)
    case atStart =>
      refine ⟨0, v4, xs4, rfl, by omega, World.ownsRow_made wc #[] 0 (by omega) (by unfold maxLen; omega) rfl, fun b hb => by simp [Value.ownBlock] at hb; omega, ?_, hF4.alloc _, (Below.heap_alloc _ _ _ hbl).trans hbx⟩
      have := (hW4.mono (Av' := fun k => Av k ∨ Value.ownBlock (.slice (some ⟨wc.heap.size, 0, none⟩) 0 0) = some k) (fun k hk h => h.elim id (fun e => by simp [Value.ownBlock] at e; omega))).alloc (.cells #[] 3)
      simpa [flatTs] using this
    case round =>
      clear hW4 hF4 hbx hs4 hl4 hbl
      obtain ⟨i, v', xs', rfl, hi, hko', hkb, hW', hF', hbr⟩ := hrel
      obtain ⟨ka, kc, rfl⟩ := owns_len hko'
      have hs' := hF'.size
      have hl' := hW'.lt
      have hbl : w.heap.size < wr.heap.size := heap_lt hbr
      have b4 : wr.cell? ⟨w.heap.size, 4, none⟩ = some (.slice ko ks.length kcap) := by rw [cell_of_row _ _ _ _ _ _ hbr]; rfl
      have hlow : ∀ k, k < p → wr.heap[k]? = w.heap[k]? := fun k hk => hF'.block k (by omega) (by omega) (fun e => by have := hownp k e; omega)
      have hlen : (kidNs (ks.take i) (n + 1)).length = i := by rw [kidNs_len]; simp; omega
      have hGl : (G ++ (nd op cc ss no ks, []) :: flatTs (ks.take i) (n + 1)).length = n + 1 + cnts (ks.take i) := by
        rw [List.length_append, List.length_cons, flatTs_len, ← HG.out]; omega
      have hAvn : ∀ k, v'.ownBlock = some k → ¬ (Av k ∨ Value.ownBlock (.slice ka (kidNs (ks.take i) (n + 1)).length kc) = some k) := by
        intro k hk h
        rcases h with h | h
        · have hk1 := hAv k h
          rcases hF'.own with e | ⟨m, e, hm⟩
          · exact hAo k (by rw [← HG.out, ← e]; exact hk) h
          · rw [e] at hk; simp at hk; omega
        · obtain ⟨c1, h1⟩ := part_tag hW'.own hk
          obtain ⟨c2, h2⟩ := own_tag hko' h
          rw [h1] at h2
          simp at h2
      have hAvp : ¬ (Av p ∨ Value.ownBlock (.slice ka (kidNs (ks.take i) (n + 1)).length kc) = some p) := by
        rintro (h | h)
        · exact hAp h
        · have := (hko'.lt p h).1; omega
      by_cases hil : i < ks.length
      · have hki : ks[i]? = some ks[i] := List.getElem?_eq_getElem hil
        obtain ⟨tk, htk⟩ : ∃ tk, tk = ks[i] := ⟨_, rfl⟩
        rw [← htk] at hki
        have hmem : tk ∈ ks := by rw [htk]; exact List.getElem_mem _
        obtain ⟨S1, xa, xb, xc, xd, xu, y0, y1, y2, y3, y4, hX1, hS1⟩ := rexs_at hkx hki
        obtain ⟨gk, rfl, hgl, hgc⟩ := row_cells hko hil
        have hgp : gk < p := hS gk (hkS gk rfl)
        have hcc : ∀ j x, kx[j]? = some x → wr.cell? ⟨gk, j, none⟩ = some x := fun j x hx => (World.cell?_of_block (a := ⟨gk, j, none⟩) (hlow gk hgp)).trans (hgc j x hx)
        have q0 := hcc _ _ y0
        have q1 := hcc _ _ y1
        have q2 := hcc _ _ y2
        have q3 := hcc _ _ y3
        have q4 := hcc _ _ y4
        obtain ⟨op1, c1, ss1, no1, ao1, n1, cap1, rfl, rfl, rfl, rfl, rfl⟩ := rex_cells hX1
        have hX2 := rex_frame (w' := wr) tk S1 _ (fun k hk => hlow k (hS k (hS1 k hk).1)) hX1
        have hcm := cnts_mem hmem
        have hct : cnts (ks.take (i + 1)) = cnts (ks.take i) + cnt tk := by rw [List.take_add_one, hki]; exact cnts_snoc _ _
        have hcle : cnts (ks.take (i + 1)) ≤ cnts ks := cnts_take _ _
        have hG' : G.length = n := HG.out.symm
        have bi : (i : Int) < ks.length := by omega
        have call := ih tk hmem (fun k => Av k ∨ Value.ownBlock (.slice ka (kidNs (ks.take i) (n + 1)).length kc) = some k) wr v' _ xs' S1 _ _ _ _ _ hW' (fun k hk => by rcases hk with h | h; have := hAv k h; omega; exact (hko'.lt k h).2) hAvp hAvn hX2 (fun k hk => hS k (hS1 k hk).1) (by rw [hGl]; omega)
        rw [hGl] at call
        obtain ⟨m, hm⟩ : ∃ m, m = n + 1 + cnts (ks.take i) := ⟨_, rfl⟩
        rw [← hm] at call
        have HM : Hid (m = n + 1 + cnts (ks.take i)) := hm
        have hmI : (m : Int) ≤ 100000 := by omega
        rw [hlen] at hko' hkb hAvn hAvp call hW' ⊢
        clear hm y0 y1 y2 y3 y4 hX1 hX2 hcc hgc
        go_wp2_with fail
        refine call.mono ?_
        rintro e w6 ⟨rfl, v6, xs6, hW6, hF6⟩
        have hs6 := hF6.size
        have hno6 : ∀ k, Value.ownBlock (.slice ka i kc) = some k → w6.heap[k]? = wr.heap[k]? := fun k hk => hF6.block k (hko'.lt k hk).2 (by have := (hko'.lt k hk).1; omega) (fun e => hAvn k e (.inr hk))
        have hko6 := Clo.owns_same hko' hno6
        have hb6 : w6.heap[w.heap.size]? = some (.cells #[.int .i64 op, .int .i64 cc, .string zs, .bool no, .slice (some ⟨gk, 0, none⟩) ks.length kcap] 26 (0, 0)) := (hF6.block w.heap.size hbl (by omega) (fun e => by
          obtain ⟨c1, h1⟩ := part_tag hW'.own e
          rw [hbr] at h1
          simp at h1)).trans hbr
        have hoA := hko6.alloc (.cells #[.int .i64 (m : Int)] 3)
        have hone : ∀ j u, (ints [(m : Int)])[j]? = some u → (w6.alloc (.cells #[.int .i64 m] 3)).cell? ((⟨w6.heap.size, 0, none⟩ : Addr).add j) = some u := cell_one_new _ _ _
        go_wp2_with (at_builtin; refine wpList_append_own_at _ rfl _ _ 29 rfl (p + 1) 3 i1 (.int .i64 0) 1 8 Tryz.underlying29 hi1 hy0 hy1 hy2 rfl (by decide) (.slice ka i kc) _ _ rfl hoA ⟨w6.heap.size, 0, none⟩ 1 1 (ints [(m : Int)]) rfl rfl hone (ints_cell1 _) (by unfold maxLen; omega) (by omega) (by simp; omega) ?_; intro kv7 w7 hown7 hgr7 _ hb7)
        go_roundw
        case rel =>
          have htk1 : ks.take (i + 1) = ks.take i ++ [tk] := by rw [List.take_add_one, hki]; rfl
          have hkn : kidNs (ks.take (i + 1)) (n + 1) = kidNs (ks.take i) (n + 1) ++ [m] := by rw [htk1, kidNs_snoc, HM.out]
          have hft : flatTs (ks.take (i + 1)) (n + 1) = flatTs (ks.take i) (n + 1) ++ flatT tk m := by rw [htk1, flatTs_snoc, HM.out]
          refine ⟨i + 1, v6, xs6, by go_num, by omega, ?_, ?_, ?_, ?_, ?_⟩
          · rw [hkn, natI_snoc, ints_append, List.length_append, List.length_singleton, hlen]
            exact hown7
          · intro b hb
            rcases hb7 with e | e
            · exact hkb b (by rw [← e]; exact hb)
            · rw [e] at hb; simp at hb; omega
          · rw [hft]
            have hW6' := (hW6.alloc (.cells #[.int .i64 (m : Int)] 3)).kept (w' := w7) (Av' := fun k => Av k ∨ kv7.ownBlock = some k) (fun k hk hA => hgr7.block k hk (fun e => hA (.inr e.symm))) hAvp (fun k hk h => ?_) (fun k hk h => ?_)
            · simpa using hW6'
            · rcases hF6.own with e | ⟨m', e, hm'⟩
              · exact hAvn k (by rw [← e]; exact hk) h
              · rw [e] at hk
                simp at hk
                rcases h with h | h
                · have := hAv k h; omega
                · have := (hko'.lt k h).2; omega
            · rcases h with h | h
              · exact .inl h
              · rcases hb7 with e | e
                · exact .inr (by rw [← e]; exact h)
                · rw [e] at h; simp at h hk; omega
          · exact ((hF'.trans hF6).alloc _).grown hgr7 (fun b hb => hkb b hb)
          · exact (hgr7.block w.heap.size (by simp; omega) (fun e => by
              have h1 := own_tag hko6 e.symm
              obtain ⟨c1, h1⟩ := h1
              rw [hb6] at h1
              simp at h1)).trans ((Below.heap_alloc _ _ _ (by omega)).trans hb6)
        case measure => simp [intOf]; omega
      · obtain rfl : i = ks.length := by omega
        rw [List.take_length] at hko' hkb hAvn hAvp hW' hGl hlen ⊢
        have hnI' : n < n + 1 + cnts ks := by omega
        obtain ⟨ao', cap', rfl⟩ := owns_slice hW'.own
        rw [hGl] at hW' hAvn hF'
        have hown' := hW'.own
        rw [hGl] at hown'
        obtain ⟨g', rfl, hg', hgl', hgc'⟩ := part_cell hown' hnI'
        obtain ⟨x5, q5⟩ := hgc' 5 (by omega)
        have pp0 : wr.cell? ⟨p, 0, none⟩ = some (.slice (some ⟨g', 0, none⟩) (n + 1 + cnts ks) cap') := by rw [cell_of_row _ _ _ _ _ _ hW'.blk]; rfl
        have fg' : wr.frozen? ⟨g', n * 6 + 5, none⟩ = false := by
          obtain ⟨c1, h1⟩ := part_tag hown' rfl
          simp [World.frozen?, h1]
        obtain ⟨L, hL⟩ : ∃ L, L = n + 1 + cnts ks := ⟨_, rfl⟩
        have hLI : (n : Int) < L := by omega
        rw [← hL] at pp0 hW' hAvn hF' hown'
        have HL : Hid (L = n + 1 + cnts ks) := hL
        rw [hlen] at hko' hkb hAvn hAvp hW' ⊢
        clear hL
        go_wp2_with fail
        go_ret
        have hparts := hW'.parts
        have hne : ∀ k, k ≠ g' → (wr.setCell ⟨g', n * 6 + 5, none⟩ (.slice ka ks.length kc)).heap[k]? = wr.heap[k]? := fun k hk => Below.heap_setCell _ _ _ _ hk
        have hkg : ∀ k, Value.ownBlock (.slice ka ks.length kc) = some k → k ≠ g' := fun k hk e => hAvn k (by rw [e]; rfl) (.inr hk)
        have hko2 : (wr.setCell ⟨g', n * 6 + 5, none⟩ (.slice ka ks.length kc)).ownsRow (p + 1) 3 1 (.slice ka ks.length kc) (kidNs ks (n + 1)).length (ints (natI (kidNs ks (n + 1)))) := by
          rw [hlen]
          exact Clo.owns_same hko' fun k hk => hne k (hkg k hk)
        have hp2 : PartsIs (wr.setCell ⟨g', n * 6 + 5, none⟩ (.slice ka ks.length kc)) p Av (G ++ (nd op cc ss no ks, []) :: flatTs ks (n + 1)) xs' := parts_frame (fun k c _ hA hc => ⟨hne k (fun e => by
          subst e
          obtain ⟨c1, h1⟩ := part_tag hown' rfl
          rw [h1] at hc
          simp at hc), fun h => hA (.inl h)⟩) hparts
        have hp3 := parts_put hko2 (fun b hb h => by have := hAv b h; have := hkb b hb; omega) hp2
        refine ⟨by simp, .slice (some ⟨g', 0, none⟩) L cap', xs'.set (n * 6 + 5) (.slice ka ks.length kc), ⟨(hne p (by omega)).trans hW'.blk, ?_, ?_⟩, ⟨hF'.os, hF'.tape, hF'.output, by simpa using hF'.size, fun k hk hkp hkn => (hne k (fun e => hF'.not hk hkn (by rw [e]; rfl))).trans (hF'.block k hk hkp hkn), hF'.own⟩⟩
        · rw [List.length_append, flatT_len, cnt_nd, ← HG.out, show n + (cnts ks + 1) = L by rw [HL.out]; omega]
          exact (hown'.stored _ _).1
        · rw [flatT_nd]
          rw [← HG.out] at hp3
          exact hp3

theorem sFlat {p : Nat} {s : ByteArray} (t : Data) : FlatOk p s t := by
  induction t using rex_ind with
  | h ks lab ih =>
    intro Av w v G xs S a b c d u hW hAv hAp hAo hX hS hcnt
    obtain ⟨op, cc, ss, no, ks', ht⟩ := rex_node hX
    rw [ht] at hX hcnt ⊢
    have hks : ks = ks' := by unfold nd at ht; simp at ht; exact ht.1
    subst hks
    exact sFlatNd op cc ss no ks ih Av w v G xs S a b c d u hW hAv hAp hAo hX hS hcnt
  | h1 t ht =>
    intro Av w v G xs S a b c d u hW hAv hAp hAo hX hS hcnt
    obtain ⟨op, cc, ss, no, ks', rfl⟩ := rex_node hX
    exact absurd rfl (ht _ _)

end Mt
end Go.Proofs.YtgdnlmaacnnfiaaGreatDoor

