/-
  The nodes of rules come one by one: the function that eachNode makes.
-/
import Derived.Test.YtjdohfdkkppnpaaGreatDoorP20
namespace Go.Proofs.YtjdohfdkkppnpaaGreatDoor
open Go.RowKit
namespace Ck
open Nd Ty
attribute [local go_sem] Oper.semAt_some

/-- What lies when the iterator goes on: the places seen, the nodes of w, the row of rules. -/
structure Base (w W wr : World) (m : Nat) (G : List Nat) (Sr Sx : Nat → Prop) (ro : Option Nat) : Prop where
  map : MapIs wr m G
  new : W.heap.size ≤ m
  free : ∀ g ∈ G, Cellsy w g ∧ ¬ Sr g
  old : ∀ k, Cellsy w k → wr.heap[k]? = w.heap[k]?
  no : ∀ k, Sx k → ¬ Cellsy wr k
  size : W.heap.size ≤ wr.heap.size
  row : ∀ g, ro = some g → wr.heap[g]? = w.heap[g]?

theorem Base.less {w W wr : World} {m : Nat} {G : List Nat} {Sr Sr' Sx : Nat → Prop} {ro : Option Nat} (h : Base w W wr m G Sr Sx ro) (hS : ∀ k, Sr' k → Sr k) : Base w W wr m G Sr' Sx ro :=
  { h with free := fun g hg => ⟨(h.free g hg).1, fun hs => (h.free g hg).2 (hS g hs)⟩ }
theorem Base.below {w W wr wr' : World} {m : Nat} {G : List Nat} {Sr Sx : Nat → Prop} {ro : Option Nat} (h : Base w W wr m G Sr Sx ro) (hS : ∀ k, Sx k → k < W.heap.size) (hro : ∀ g, ro = some g → g < wr.heap.size) (hb : Below wr.heap.size wr wr') : Base w W wr' m G Sr Sx ro where
  map := h.map.same (hb.block _ h.map.lt)
  new := h.new
  free := h.free
  old := fun k hk => by
    have h1 := h.old k hk
    obtain ⟨cur, hc⟩ := hk
    exact (hb.block k (heap_lt (h1.trans hc))).trans h1
  no := fun k hk hc => h.no k hk (by obtain ⟨cur, hc⟩ := hc; exact ⟨cur, (hb.block k (Nat.lt_of_lt_of_le (hS k hk) h.size)).symm.trans hc⟩)
  size := Nat.le_trans h.size hb.size
  row := fun g hg => (hb.block g (hro g hg)).trans (h.row g hg)
theorem Base.cy {w W wr : World} {m : Nat} {G : List Nat} {Sr Sx : Nat → Prop} {ro : Option Nat} (h : Base w W wr m G Sr Sx ro) {k : Nat} (hk : Cellsy w k) : Cellsy wr k := by
  have := h.old k hk
  obtain ⟨cur, hc⟩ := hk
  exact ⟨cur, this.trans hc⟩
theorem Base.keep {w W wr wr' : World} {m : Nat} {G : List Nat} {Sr Sx : Nat → Prop} {ro : Option Nat} (h : Base w W wr m G Sr Sx ro) (hS : ∀ k, Sx k → k < W.heap.size) (hro : ∀ g, ro = some g → ¬ Sx g ∧ ∃ o, w.heap[g]? = some o ∧ o.isCells = true) (hk : Keep Sx wr wr') : Base w W wr' m G Sr Sx ro where
  map := hk.map (fun hs => by have := hS m hs; have := h.new; omega) h.map
  new := h.new
  free := h.free
  old := fun k hc => (hk.nodes h.no (h.cy hc)).trans (h.old k hc)
  no := fun k hs => hk.no k hs (h.no k hs)
  size := Nat.le_trans h.size hk.size
  row := fun g hg => by
    obtain ⟨hn, o, ho, hc⟩ := hro g hg
    rw [ho]
    exact hk.same g o ((h.row g hg).trans ho) hn (.inl hc)

/-- The lists that are gone over next, f depths at most. -/
def Lv (w W : World) (m : Nat) (Sr Sx : Nat → Prop) (ro : Option Nat) (rs : List Ru) (k : Nat) (J : List (Nde w rs) → World → Prop) (f : Nat) (lv : Value) (wr : World) : Prop :=
  ∃ (ls : List (List Data)) (vs xs : List Value) (S : Nat → Prop) (pre : List (Nde w rs)) (G : List Nat), wr.ownsRow W.heap.size 37 1 lv ls.length vs ∧ RowsIs wr ls vs xs ∧ NodesIs wr ls.flatten S xs ∧ (∀ l ∈ ls, l ≠ []) ∧ cnts ls.flatten ≤ 1048577 ∧ (∀ t ∈ ls.flatten, siz t ≤ 1048576) ∧
    (∀ b, S b → Cellsy w b ∧ ¬ Sr b) ∧ (∀ g ∈ G, ¬ S g) ∧ Base w W wr m G Sr Sx ro ∧ deps ls.flatten ≤ f ∧ pre.map Nde.key ++ (bfs f ls).map (fun t => (k, t)) = visit 0 (rs.take (k + 1)) ∧ J pre wr

theorem abide {w : World} {rs : List Ru} {J : List (Nde w rs) → World → Prop} {B : Nat} (hJ : AbidesFrom B J) {s : List (Nde w rs)} {A A' : World} (h : J s A) (hb : Below A.heap.size A A') : J s A' :=
  hJ s A A' none h ⟨hb.os, hb.tape, hb.output, hb.size, fun k hk _ => hb.block k hk⟩ (fun r e => by cases e)
theorem abide_map {w : World} {rs : List Ru} {J : List (Nde w rs) → World → Prop} {B m : Nat} {G : List Nat} (hJ : AbidesFrom B J) {s : List (Nde w rs)} {A A' : World} (h : J s A) (hm : MapIs A m G) (hB : B ≤ m) (hf : Fr (fun k => k = m) A A') : J s A' :=
  hJ s A A' (some m) h ⟨hf.os, hf.tape, hf.output, hf.size, fun k hk hne => hf.block k hk fun e => hne (by rw [e])⟩ (fun r e => by
    cases e
    obtain ⟨es, c, h1, _⟩ := hm
    exact ⟨hB, _, h1, rfl⟩)

/-- The next depth. -/
theorem lv_next {w W w3 w4 : World} {m : Nat} {Sr Sx : Nat → Prop} {ro : Option Nat} {rs : List Ru} {k f : Nat} {J : List (Nde w rs) → World → Prop} (hJ : AbidesFrom W.heap.size J) {ls : List (List Data)} {pre : List (Nde w rs)} {G : List Nat} {v : Value}
    (hS : ∀ k, Sx k → k < W.heap.size) (hro : ∀ g, ro = some g → ¬ Sx g ∧ ∃ o, w.heap[g]? = some o ∧ o.isCells = true) (hB3 : Base w W w3 m G Sr Sx ro) (hne : ls.flatten ≠ []) (hc : cnts ls.flatten ≤ 1048577) (hz : ∀ t ∈ ls.flatten, siz t ≤ 1048576) (hd : deps ls.flatten ≤ f + 1)
    (hpre : pre.map Nde.key ++ (bfs f (below ls)).map (fun t => (k, t)) = visit 0 (rs.take (k + 1))) (hJ3 : J pre w3)
    (hG : Got w3 w4 m G.length (fun b => ¬ (Cellsy w b ∧ ¬ Sr b)) (below ls) v) : Lv w W m Sr Sx ro rs k J f v w4 := by
  obtain ⟨vs, xb, Sb, G', g1, g2, g3, g4, g5, g6, g7, g8, g9⟩ := hG
  have hcy : ∀ g, Cellsy w3 g → w4.heap[g]? = w3.heap[g]? := fun g hg => by
    have := hB3.map.not hg
    obtain ⟨cur, hc⟩ := hg
    exact g9.block g (heap_lt hc) this
  have hb : ∀ b, Sb b → Cellsy w b ∧ ¬ Sr b := fun b hb => Classical.byContradiction fun h => g8 b hb h
  have hm4 := g4
  refine ⟨below ls, vs, xb, Sb, pre, G', owns_base g1 hB3.size, rows_frame hcy g2, nodes_frame (fun b h => hcy b (hB3.cy (hb b h).1)) g3, ?_, ?_, siz_below hz, hb, fun g hg => (g7 g hg).2, ?_, ?_, hpre, abide_map hJ hJ3 hB3.map hB3.new g9⟩
  · rw [below_flat]; exact below1_ne _
  · have := below1_cnts ls.flatten
    rw [← below_flat] at this
    omega
  · refine ⟨g4, hB3.new, fun g hg => Classical.byContradiction fun h => (g7 g hg).1 h, fun k hk => (hcy k (hB3.cy hk)).trans (hB3.old k hk), fun k hk hc => hB3.no k hk ?_, Nat.le_trans hB3.size g9.size, fun g hg => ?_⟩
    · have h1 := hS k hk
      have h2 := hB3.new
      have h3 := hB3.size
      obtain ⟨cur, hc⟩ := hc
      exact ⟨cur, (g9.block k (by omega) (by omega)).symm.trans hc⟩
    · obtain ⟨hn, o, ho, hc⟩ := hro g hg
      have h1 := hB3.row g hg
      refine (g9.block g (heap_lt (h1.trans ho)) ?_).trans h1
      rintro rfl
      obtain ⟨es, c, hm, _⟩ := hB3.map
      rw [h1, ho] at hm
      cases hm
      cases hc
  · have := deps_below hne
    omega

theorem rows_at {w : World} : ∀ {ls : List (List Data)} {vs xs : List Value} {S : Nat → Prop} {q : Nat} {l : List Data}, RowsIs w ls vs xs → NodesIs w ls.flatten S xs → ls[q]? = some l → ∃ (v : Value) (c : List Value) (S' : Nat → Prop), vs[q]? = some v ∧ w.ownsRow 0 39 4 v l.length c ∧ NodesIs w l S' c ∧ ∀ b, S' b → S b
  | [], vs, xs, S, q, l, _, _, hq => by simp at hq
  | l0 :: ls, vs, xs, S, q, l, hR, hN, hq => by
    obtain ⟨hv, vs', c1, c2, rfl, rfl, hrow, hR2⟩ := hR
    rw [List.flatten_cons] at hN
    obtain ⟨S1, S2, d1, d2, hdd, hN1, hN2, hS12, hS2⟩ := nodes_split hN
    obtain ⟨rfl, rfl⟩ := List.append_inj hdd (by rw [hrow.1, nodes_len hN1])
    cases q with
    | zero =>
      simp at hq
      subst hq
      exact ⟨hv, c1, S1, rfl, hrow, hN1, fun b hb => (hS12 b hb).1⟩
    | succ q =>
      obtain ⟨v, c, S', a1, a2, a3, a4⟩ := rows_at hR2 hN2 (by simpa using hq)
      exact ⟨v, c, S', by simpa using a1, a2, a3, fun b hb => hS2 b (a4 b hb)⟩

set_option maxHeartbeats 4000000 in
set_option maxRecDepth 100000 in
theorem nodes_stops {rs : List Ru} {w : World} {Bl cap B n : Nat} {ao : Option Addr} {xs0 : List Value} {S0 Sx : Nat → Prop} (hsz : sizR rs ≤ 1048576) (hbox : w.heap[Bl]? = some (.cells #[.slice ao rs.length cap] 25 (0, 0)))
    (ho : w.ownsRow B 41 9 (.slice ao rs.length cap) rs.length xs0) (hr : RulesAp w rs S0 xs0) (hcy : ∀ k, S0 k → Cellsy w k) (hSx : ∀ k, Sx k → k < w.heap.size ∧ ¬ Cellsy w k ∧ (Value.slice ao rs.length cap).ownBlock ≠ some k) (hn : 2 ≤ n) :
    SeqStopsK Fence.wide n Tryz.prog 115 #[.pointer (some ⟨Bl, 0, none⟩)] Nde.encs (Keep Sx) (fun ys : List (Nde w rs) => ys.map Nde.key = visit 0 rs) (fun pre => pre.map Nde.key <+: visit 0 rs) (visit 0 rs).length w := by
  intro l J Jx W hW hJ hJx hY h0
  have hS : ∀ k, Sx k → k < W.heap.size := fun k hk => Nat.lt_of_lt_of_le (hSx k hk).1 hW.size
  have hro : ∀ g, (Value.slice ao rs.length cap).ownBlock = some g → ¬ Sx g ∧ ∃ o, w.heap[g]? = some o ∧ o.isCells = true := fun g hg => ⟨fun hs => (hSx g hs).2.2 hg, by
    rcases ho.2 with ⟨e, _⟩ | ⟨g', cap', cur, e, _, hb, _⟩
    · rw [e] at hg; simp [Value.ownBlock] at hg
    · rw [e] at hg; simp [Value.ownBlock] at hg; subst hg; exact ⟨_, hb, rfl⟩⟩
  have hbox' : (W.alloc (.map #[] 0)).cell? ⟨Bl, 0, none⟩ = some (.slice ao rs.length cap) := by
    have := (Below.heap_alloc W (.map #[] 0) Bl (Nat.lt_of_lt_of_le (heap_lt hbox) hW.size)).trans ((hW.block Bl (heap_lt hbox)).trans hbox)
    simp only [World.cell?, this]
    rfl
  have bn : (rs.length : Int) ≤ 1048576 := by have := sizR_len rs; omega
  have hmm := @run_makeMap Tryz.prog
  have hn1 : 1 ≤ n := by omega
  have hB0 : Base w W (W.alloc (.map #[] 0)) W.heap.size [] S0 Sx (Value.slice ao rs.length cap).ownBlock :=
    Base.below (wr := W.alloc (.map #[] 0)) ⟨mapIs_made W, Nat.le_refl _, fun g hg => by simp at hg, fun k hk => by
        obtain ⟨cur, hc⟩ := hk
        rw [Below.heap_alloc _ _ _ (Nat.lt_of_lt_of_le (heap_lt hc) hW.size)]
        exact hW.block k (heap_lt hc), fun k hk hc => (hSx k hk).2.1 (by
        obtain ⟨cur, hc⟩ := hc
        rw [Below.heap_alloc _ _ _ (hS k hk), hW.block k (hSx k hk).1] at hc
        exact ⟨cur, hc⟩), by simp, fun g hg => by
        obtain ⟨_, o, h1, _⟩ := hro g hg
        rw [Below.heap_alloc _ _ _ (Nat.lt_of_lt_of_le (heap_lt h1) hW.size)]
        exact hW.block g (heap_lt h1)⟩ hS (fun g hg => by
        obtain ⟨_, o, h1, _⟩ := hro g hg
        have := hW.size
        have := heap_lt h1
        simp
        omega) (Below.refl _ _)
  have hJ0 : J [] (W.alloc (.map #[] 0)) := abide hJ h0 ((Below.refl _ W).alloc (Nat.le_refl _) _)
  refine callsIn_of_wp Tryz.func115 rfl trivial ?_ rfl
  simp only [Tryz.ntmps115, List.size_toArray, List.length_cons, List.length_nil, Nat.reduceAdd, Nat.reduceSub, Array.replicate_succ, Array.replicate_zero, List.push_toArray, List.append_toArray, List.nil_append, List.cons_append]
  gi_wp2
  gi_loopw [14] (fun i wr => ∃ k : Nat, k ≤ rs.length ∧ i = .int .i64 k ∧ ∃ (pre : List (Nde w rs)) (G : List Nat) (Sr : Nat → Prop), RulesAp w (rs.drop k) Sr (xs0.drop (k * 9)) ∧ (∀ b, Sr b → Cellsy w b) ∧ Base w W wr W.heap.size G Sr Sx (Value.slice ao rs.length cap).ownBlock ∧ pre.map Nde.key = visit 0 (rs.take k) ∧ J pre wr) (fun i _ => rs.length - (intOf i).toNat)
  case atStart => exact ⟨0, Nat.zero_le _, rfl, [], [], S0, by simpa using hr, hcy, hB0, by simp [visit], hJ0⟩
  case round =>
    obtain ⟨k, hk, rfl, pre, G, Sr, hR, hSr, hB, hpre, hJp⟩ := hrel
    by_cases hkl : k < rs.length
    · have hki : rs[k]? = some rs[k] := List.getElem?_eq_getElem hkl
      rw [List.drop_eq_getElem_cons hkl] at hR
      obtain ⟨p0, p1, p2, p3, b0, b1, b2, b3, Sp, Sb, Sr', hx9, hp, hbd, hR2, k1, k2, k3⟩ := ap_open hR
      have hx2 : (xs0.drop (k * 9)).drop 9 = xs0.drop ((k + 1) * 9) := by rw [List.drop_drop, show (k + 1) * 9 = k * 9 + 9 by omega]
      rw [hx2] at hR2 hx9
      obtain ⟨g, rfl, hg, hc⟩ := row_cells ho hkl
      have cc : ∀ j x, (Value.int .i64 rs[k].1 :: p0 :: p1 :: p2 :: p3 :: b0 :: b1 :: b2 :: b3 :: xs0.drop ((k + 1) * 9))[j]? = some x → wr.cell? ⟨g, k * 9 + j, none⟩ = some x := fun j x hx => by
        rw [← hx9, List.getElem?_drop] at hx
        exact (World.cell?_of_block (hB.row g rfl)).trans (hc _ x hx)
      have c0 : wr.cell? ⟨g, k * 9, none⟩ = _ := cc 0 _ rfl
      have c1 : wr.cell? ⟨g, k * 9 + 1, none⟩ = _ := cc 1 _ rfl
      have c2 : wr.cell? ⟨g, k * 9 + 1 + 1, none⟩ = _ := cc 2 _ rfl
      have c3 : wr.cell? ⟨g, k * 9 + 1 + 2, none⟩ = _ := cc 3 _ rfl
      have c4 : wr.cell? ⟨g, k * 9 + 1 + 3, none⟩ = _ := cc 4 _ rfl
      have c5 : wr.cell? ⟨g, k * 9 + 5, none⟩ = _ := cc 5 _ rfl
      have c6 : wr.cell? ⟨g, k * 9 + 5 + 1, none⟩ = _ := cc 6 _ rfl
      have c7 : wr.cell? ⟨g, k * 9 + 5 + 2, none⟩ = _ := cc 7 _ rfl
      have c8 : wr.cell? ⟨g, k * 9 + 5 + 3, none⟩ = _ := cc 8 _ rfl
      have hszr := sizR_mem (List.getElem_mem hkl)
      have hvt := visit_take hki
      obtain ⟨pop, pn, ps, pao, pcap, pxs, -, rfl, rfl, rfl, rfl, -, -, -⟩ := node_form hp
      obtain ⟨bop, bn', bs, bao, bcap, bxs, -, rfl, rfl, rfl, rfl, -, -, -⟩ := node_form hbd
      obtain ⟨o1, ho1⟩ : ∃ o1, o1 = Obj.cells #[.int .i64 rs[k].1, .int .i64 pop, .int .i64 pn, .string ⟨ps.toArray⟩, .slice pao (kidsOf rs[k].2.1).length pcap, .int .i64 bop, .int .i64 bn', .string ⟨bs.toArray⟩, .slice bao (kidsOf rs[k].2.2).length bcap] 41 := ⟨_, rfl⟩
      obtain ⟨o2, ho2⟩ : ∃ o2, o2 = Obj.cells #[.int .i64 pop, .int .i64 pn, .string ⟨ps.toArray⟩, .slice pao (kidsOf rs[k].2.1).length pcap, .int .i64 bop, .int .i64 bn', .string ⟨bs.toArray⟩, .slice bao (kidsOf rs[k].2.2).length bcap] 39 := ⟨_, rfl⟩
      obtain ⟨o3, ho3⟩ : ∃ o3, o3 = Obj.cells #[.slice (some ⟨wr.heap.size + 1, 0, none⟩) 2 2] 37 := ⟨_, rfl⟩
      have hA3 : Below wr.heap.size wr (((wr.alloc o1).alloc o2).alloc o3) := (((Below.refl _ wr).alloc (Nat.le_refl _) _).alloc (by simp) _).alloc (by simp; omega) _
      have e3 : (((wr.alloc o1).alloc o2).alloc o3).heap[wr.heap.size + 1 + 1]? = some o3 := by have := heap_new ((wr.alloc o1).alloc o2) o3; simpa only [World.size_alloc] using this
      have e2 : (((wr.alloc o1).alloc o2).alloc o3).heap[wr.heap.size + 1]? = some o2 := by
        have := heap_new (wr.alloc o1) o2
        simp only [World.size_alloc] at this
        rw [Below.heap_alloc _ _ _ (by simp), this]
      have hgw : ∀ g', (Value.slice (some ⟨g, 0, none⟩) rs.length cap).ownBlock = some g' → g' < wr.heap.size := fun g' hg' => by
        obtain ⟨_, o, h1, _⟩ := hro g' hg'
        exact heap_lt ((hB.row g' hg').trans h1)
      have hcw : ∀ b, Cellsy w b → (((wr.alloc o1).alloc o2).alloc o3).heap[b]? = w.heap[b]? := fun b hb => by
        have h1 := hB.old b hb
        obtain ⟨cur, hc⟩ := hb
        exact (hA3.block b (heap_lt (h1.trans hc))).trans h1
      have hLv : Lv w W W.heap.size Sr' Sx (Value.slice (some ⟨g, 0, none⟩) rs.length cap).ownBlock rs k J (deps [rs[k].2.1, rs[k].2.2]) (.slice (some ⟨wr.heap.size + 1 + 1, 0, none⟩) 1 1) (((wr.alloc o1).alloc o2).alloc o3) := by
        refine ⟨[[rs[k].2.1, rs[k].2.2]], [.slice (some ⟨wr.heap.size + 1, 0, none⟩) 2 2], [.int .i64 pop, .int .i64 pn, .string ⟨ps.toArray⟩, .slice pao (kidsOf rs[k].2.1).length pcap, .int .i64 bop, .int .i64 bn', .string ⟨bs.toArray⟩, .slice bao (kidsOf rs[k].2.2).length bcap], fun b => Sp b ∨ Sb b, pre, G, ?_, ?_, ?_, ?_, ?_, ?_, ?_, ?_, ?_, by simp, ?_, abide hJ hJp hA3⟩
        · have hs := hB.size
          exact ⟨rfl, .inr ⟨_, 1, _, rfl, by omega, by rw [e3, ho3], Nat.le_refl _, by unfold maxLen; omega, rfl, rfl⟩⟩
        · exact ⟨_, [], _, [], rfl, (List.append_nil _).symm, ⟨rfl, .inr ⟨_, 2, _, rfl, Nat.zero_le _, by rw [e2, ho2], Nat.le_refl _, by unfold maxLen; omega, rfl, rfl⟩⟩, rfl, rfl⟩
        · refine ⟨Sp, Sb, [.int .i64 pop, .int .i64 pn, .string ⟨ps.toArray⟩, .slice pao (kidsOf rs[k].2.1).length pcap], [.int .i64 bop, .int .i64 bn', .string ⟨bs.toArray⟩, .slice bao (kidsOf rs[k].2.2).length bcap], rfl, node_frame _ _ _ (fun b hb => hcw b (hSr b (k1 b hb).1)) hp, ?_, fun b hb => ⟨.inl hb, (k1 b hb).2.1⟩, fun b hb => .inr hb⟩
          exact ⟨Sb, fun _ => False, [.int .i64 bop, .int .i64 bn', .string ⟨bs.toArray⟩, .slice bao (kidsOf rs[k].2.2).length bcap], [], rfl, node_frame _ _ _ (fun b hb => hcw b (hSr b (k2 b hb).1)) hbd, rfl, fun b hb => ⟨hb, id⟩, fun b hb => hb.elim⟩
        · intro l hl
          simp at hl
          subst hl
          simp
        · have := cnt_siz rs[k].2.1
          have := cnt_siz rs[k].2.2
          simp [cnts]
          omega
        · intro t ht
          simp at ht
          rcases ht with rfl | rfl <;> omega
        · intro b hb
          rcases hb with hb | hb
          · exact ⟨hSr b (k1 b hb).1, (k1 b hb).2.2⟩
          · exact ⟨hSr b (k2 b hb).1, (k2 b hb).2⟩
        · intro g' hg' hs
          refine (hB.free g' hg').2 ?_
          rcases hs with hs | hs
          · exact (k1 g' hs).1
          · exact (k2 g' hs).1
        · exact (hB.less k3).below hS hgw hA3
        · rw [hpre, hvt]
          rfl
      have bk : (k : Int) < rs.length := by omega
      have hR2' : ∀ b, Sr' b → Cellsy w b := fun b hb => hSr b (k3 b hb)
      obtain ⟨vq, hvq⟩ := visit_sub (rs := rs) (k + 1)
      subst ho1 ho2 ho3
      clear hp hbd hx9 cc hR hSr k1 k2 k3 hszr hvt hki hx2 hpre hJp hB hA3 e3 e2 hgw hcw hc hB0 hJ0 h0 hbox' hmm hr ho hcy
      generalize hpL : (kidsOf rs[k].2.1).length = pL at *
      generalize hbL : (kidsOf rs[k].2.2).length = bL at *
      generalize rs[k].1 = kd at *
      gi_wp2
      gi_loopw [6] (fun lv wi => ∃ f, Lv w W W.heap.size Sr' Sx (Value.slice (some ⟨g, 0, none⟩) rs.length cap).ownBlock rs k J f lv wi) (fun lv wi => leastOf fun f => Lv w W W.heap.size Sr' Sx (Value.slice (some ⟨g, 0, none⟩) rs.length cap).ownBlock rs k J f lv wi)
      case atStart => exact ⟨_, hLv⟩
      case round =>
        clear hLv c0 c1 c2 c3 c4 c5 c6 c7 c8
        obtain ⟨hlv, hmin⟩ := leastOf_spec hrel
        obtain ⟨f, hf⟩ : ∃ f, f = leastOf fun f => Lv w W W.heap.size Sr' Sx (Value.slice (some ⟨g, 0, none⟩) rs.length cap).ownBlock rs k J f u6 wr := ⟨_, rfl⟩
        rw [← hf] at hlv
        obtain ⟨ls, vs, xs, S, pre, G, h1, h2, h3, h4, h5, h6, h7, h8, hB, hd, hpre, hJp⟩ := hlv
        obtain ⟨ao2, cap2, rfl⟩ := owns_slice h1
        have HF : Hid (f = leastOf fun f => Lv w W W.heap.size Sr' Sx (Value.slice (some ⟨g, 0, none⟩) rs.length cap).ownBlock rs k J f (.slice ao2 ls.length cap2) wr) := hf
        clear hrel hmin hf
        by_cases hls : ls = []
        · subst hls
          have hpre' : pre.map Nde.key = visit 0 (rs.take (k + 1)) := by rw [← hpre, bfs_nil]; simp
          clear h1 h2 h3 h4 h5 h6 h7 h8 HF hpre hd
          gi_wp2
          exact ⟨⟨k + 1, hkl, by go_num, pre, G, Sr', hR2, hR2', hB, hpre', hJp⟩, by simp [intOf]; omega⟩
        · have hpos : 0 < ls.length := List.length_pos_iff.2 hls
          have hlf := len_flat h4
          have hfl : ls.flatten ≠ [] := fun e => by rw [e, List.length_nil] at hlf; omega
          obtain ⟨f, rfl⟩ : ∃ f', f = f' + 1 := ⟨f - 1, by have := deps_below hfl; omega⟩
          have hcl := cnts_len ls.flatten
          have hlI : (0 : Int) < ls.length := by omega
          have hlI2 : (ls.length : Int) ≤ 1048577 := by omega
          rw [bfs, List.map_append, ← List.append_assoc] at hpre
          have hlv' := h1.lt
          obtain ⟨w1, rfl⟩ : ∃ w1, w1 = wr := ⟨_, rfl⟩
          obtain ⟨gl, rfl, hgl, hcl2⟩ := row_cells h1 hpos
          have hnl : ¬ Sx gl := fun hs => by have := hS gl hs; have := (hlv' gl rfl).1; omega
          gi_wp2
          gi_loopw [30] (fun i wi => ∃ q : Nat, q ≤ ls.length ∧ i = .int .i64 q ∧ ∃ pre3 : List (Nde w rs), pre3.map Nde.key = pre.map Nde.key ++ (ls.take q).flatten.map (fun t => (k, t)) ∧ Keep Sx w1 wi ∧ J pre3 wi) (fun i _ => ls.length - (intOf i).toNat)
          case atStart => exact ⟨0, Nat.zero_le _, rfl, pre, by simp, Keep.refl _ _, hJp⟩
          case round =>
            obtain ⟨q, hq, rfl, pre3, hp3, hK3, hJ3⟩ := hrel
            by_cases hql : q < ls.length
            · have hqi : ls[q]? = some ls[q] := List.getElem?_eq_getElem hql
              obtain ⟨v, c, S', hv, hrow, hN, hS'⟩ := rows_at h2 h3 hqi
              have hcell : wr.cell? ⟨gl, q, none⟩ = some v := by
                have a1 := hcl2 q v hv
                obtain ⟨gx, cur, e, hb⟩ := owns_block h1 hpos
                simp at e
                subst e
                exact (World.cell?_of_block ((hK3.cells hnl hb).trans hb.symm)).trans a1
              obtain ⟨l', hl'⟩ : ∃ l', l' = ls[q] := ⟨_, rfl⟩
              rw [← hl'] at hrow hN hqi
              have htk : (ls.take (q + 1)).flatten = (ls.take q).flatten ++ l' := by rw [List.take_add_one, hqi, List.flatten_append]; simp
              have hspl : ls.flatten = (ls.take q).flatten ++ (l' ++ (ls.drop (q + 1)).flatten) := by
                have := List.take_append_drop q ls
                rw [List.drop_eq_getElem_cons hql, ← hl'] at this
                conv => lhs; rw [← this]
                simp
              have hne' : l' ≠ [] := h4 l' (by rw [hl']; exact List.getElem_mem hql)
              have hpos' : 0 < l'.length := List.length_pos_iff.2 hne'
              have hll : l'.length ≤ 1048577 := by
                have := congrArg List.length hspl
                simp only [List.length_append] at this
                omega
              obtain ⟨ao3, cap3, rfl⟩ := owns_slice hrow
              obtain ⟨gr, rfl, hgr, hcr⟩ := row_cells hrow hpos'
              obtain ⟨gx, cur, e, hbr⟩ := owns_block hrow hpos'
              simp at e
              subst e
              have hlI3 : (l'.length : Int) ≤ 1048577 := by omega
              have bq : (q : Int) < ls.length := by omega
              have HP3 : Hid (pre3.map Nde.key = pre.map Nde.key ++ (ls.take q).flatten.map (fun t => (k, t))) := hp3
              clear hv hqi hl' hp3
              gi_wp2
              gi_loopw [36] (fun i wi => ∃ r : Nat, r ≤ l'.length ∧ i = .int .i64 r ∧ ∃ pre4 : List (Nde w rs), pre4.map Nde.key = pre.map Nde.key ++ ((ls.take q).flatten ++ l'.take r).map (fun t => (k, t)) ∧ Keep Sx w1 wi ∧ J pre4 wi) (fun i _ => l'.length - (intOf i).toNat)
              case atStart => exact ⟨0, Nat.zero_le _, rfl, pre3, by rw [HP3.out]; simp, hK3, hJ3⟩
              case round =>
                clear hcell hK3 hJ3 HP3
                obtain ⟨r, hr, rfl, pre4, hp4, hK4, hJ4⟩ := hrel
                by_cases hrl : r < l'.length
                · have hri : l'[r]? = some l'[r] := List.getElem?_eq_getElem hrl
                  obtain ⟨S1, a, b, c', u, e1, e2, e3, e4, ht, hS1⟩ := nodes_at hN hri
                  have cr : ∀ j x, c[j]? = some x → wr.cell? ⟨gr, j, none⟩ = some x := fun j x hx => (World.cell?_of_block (hK4.nodes hB.no ⟨cur, hbr⟩)).trans (hcr j x hx)
                  have x0 := cr _ _ e1
                  have x1 := cr _ _ e2
                  have x2 := cr _ _ e3
                  have x3 := cr _ _ e4
                  have hmt : l'[r] ∈ ls.flatten := by rw [hspl]; simp
                  have hSc : ∀ b, S1 b → Cellsy w b := fun b hb => (h7 b (hS' b (hS1 b hb))).1
                  have hlen4 : pre4.length < (visit 0 rs).length := by
                    have a1 := congrArg List.length hp4
                    have a2 := congrArg List.length hpre
                    have a3 := congrArg List.length hvq
                    have a4 := congrArg List.length hspl
                    simp only [List.length_map, List.length_append, List.length_take] at a1 a2 a3 a4
                    omega
                  have hmem : (k, l'[r]) ∈ visit 0 rs := by
                    rw [hvq, ← hpre]
                    simp only [List.mem_append, List.mem_map]
                    exact .inl (.inl (.inr ⟨_, hmt, rfl⟩))
                  obtain ⟨x, hx⟩ : ∃ x : Nde w rs, x = ⟨k, l'[r], a, b, c', u, S1, node_frame _ _ _ (fun b hb => (hB.old b (hSc b hb)).symm) ht, hSc, h6 _ hmt, hmem⟩ := ⟨_, rfl⟩
                  have hkey : x.key = (k, l'[r]) := by rw [hx]; rfl
                  have henc : x.encs = #[.int .i64 k, .agg #[a, b, c', u]] := by rw [hx]; rfl
                  obtain ⟨op, nn, st, ao5, cap5, ys, -, rfl, rfl, rfl, rfl, -, -, -⟩ := node_form ht
                  have htk4 : l'.take (r + 1) = l'.take r ++ [l'[r]] := by rw [List.take_add_one, hri]; rfl
                  obtain ⟨oN, hoN⟩ : ∃ oN, oN = Obj.cells #[.int .i64 op, .int .i64 nn, .string ⟨st.toArray⟩, .slice ao5 (kidsOf l'[r]).length cap5] 39 := ⟨_, rfl⟩
                  have hba : Below wr.heap.size wr (wr.alloc oN) := (Below.refl _ wr).alloc (Nat.le_refl _) _
                  have hS4 : ∀ k, Sx k → k < wr.heap.size := fun k hk => Nat.lt_of_lt_of_le (hS k hk) (Nat.le_trans hB.size hK4.size)
                  have hKa : Keep Sx w1 (wr.alloc oN) := hK4.trans (Keep.below hS4 hba)
                  obtain ⟨fn, tmps, assign, body, hy, hRd⟩ := hY pre4 x (wr.alloc oN) (abide hJ hJ4 hba) hlen4
                  rw [henc] at hy
                  have HX : Hid (pre4.map Nde.key = pre.map Nde.key ++ ((ls.take q).flatten ++ l'.take r).map (fun t => (k, t)) ∧ x.key = (k, l'[r]) ∧ l'.take (r + 1) = l'.take r ++ [l'[r]]) := ⟨hp4, hkey, htk4⟩
                  have br : (r : Int) < l'.length := by omega
                  subst hoN
                  clear hp4 hkey htk4 hx henc e1 e2 e3 e4 ht hri cr hmem hlen4 hSc hmt hS4 hba
                  generalize (kidsOf l'[r]).length = L5 at *
                  gi_wp2
                  refine hRd.mono ?_
                  rintro e W3 (⟨rfl, hJ3', hk3⟩ | ⟨rfl, hJx3⟩)
                  · gi_wp2
                    go_roundw
                    case rel =>
                      obtain ⟨y1, y2, y3⟩ := HX.out
                      exact ⟨r + 1, hrl, by go_num, pre4 ++ [x], by rw [List.map_append, y1, y3]; simp only [List.map_append, List.map_cons, List.map_nil, List.append_assoc, y2], hKa.trans hk3, hJ3'⟩
                    case measure => simp [intOf]; omega
                  · gi_wp2
                    refine bodyPost_ret (results_none rfl _ _ _) rfl ?_
                    refine ⟨⟨_, rfl⟩, .inr ⟨pre4 ++ [x], ?_, hJx3⟩⟩
                    obtain ⟨y1, y2, y3⟩ := HX.out
                    rw [hvq, ← hpre, List.map_append, y1, List.map_cons, List.map_nil, y2, hspl]
                    refine ⟨((l'.drop (r + 1) ++ (ls.drop (q + 1)).flatten).map fun t => (k, t)) ++ (bfs f (below ls)).map (fun t => (k, t)) ++ vq, ?_⟩
                    have y4 : l'.map (fun t => (k, t)) = (l'.take r ++ [l'[r]]).map (fun t => (k, t)) ++ (l'.drop (r + 1)).map fun t => (k, t) := by
                      rw [← List.map_append, ← y3, List.take_append_drop]
                    simp only [List.map_append, List.append_assoc, y4, List.map_cons, List.map_nil]
                · obtain rfl : r = l'.length := by omega
                  rw [List.take_length] at hp4
                  have hp5 : pre4.map Nde.key = pre.map Nde.key ++ (ls.take (q + 1)).flatten.map (fun t => (k, t)) := by rw [hp4, htk]
                  clear hp4
                  gi_wp2
                  exact ⟨⟨q + 1, hql, by go_num, pre4, hp5, hK4, hJ4⟩, by simp [intOf]; omega⟩
            · obtain rfl : q = ls.length := by omega
              rw [List.take_length] at hp3
              have hB3 := hB.keep hS hro hK3
              have hcy3 : ∀ g, Cellsy w1 g → wr.heap[g]? = w1.heap[g]? := fun g hg => hK3.nodes hB.no hg
              have call := iKidsBelowR (R := fun b => ¬ (Cellsy w b ∧ ¬ Sr' b)) (d := 1) (Nat.le_refl _) (by omega) (hK3.row h1 (fun g' hg' => by simp [Value.ownBlock] at hg'; subst hg'; exact hnl)) (rows_frame hcy3 h2) (nodes_frame (fun b hb => hcy3 b (hB.cy (h7 b hb).1)) h3) hB3.map (fun g' hg' => hB3.cy (hB.free g' hg').1) h8 h5 h4 (fun b hb hn => hn (h7 b hb)) (fun g' hg' hn => hn (hB.free g' hg'))
              have hnext : ∀ w4 v, Got wr w4 W.heap.size G.length (fun b => ¬ (Cellsy w b ∧ ¬ Sr' b)) (below ls) v → Lv w W W.heap.size Sr' Sx (Value.slice (some ⟨g, 0, none⟩) rs.length cap).ownBlock rs k J f v w4 := fun w4 v hG =>
                lv_next hJ hS hro hB3 hfl h5 h6 hd (by rw [hp3]; exact hpre) hJ3 hG
              clear h1 h2 h3 h4 h5 h6 h7 h8 hpre hp3 hB3 hcy3 hcl2
              have hfK : Fence.wide.fn 107 := trivial
              gi_wp2_with (gi_at_call 107; refine (callsIn_wide.2 call).mono ?_; rintro e w5 ⟨v, rfl, hG⟩)
              go_roundw
              case rel => exact ⟨f, hnext w5 v hG⟩
              case measure =>
                have := (leastOf_spec (p := fun f => Lv w W W.heap.size Sr' Sx (Value.slice (some ⟨g, 0, none⟩) rs.length cap).ownBlock rs k J f v w5) ⟨f, hnext w5 v hG⟩).2 f (hnext w5 v hG)
                have := HF.out
                omega
    · obtain rfl : k = rs.length := by omega
      rw [List.take_length] at hpre
      gi_wp2
      go_end0
      exact ⟨⟨_, rfl⟩, .inl ⟨pre, hpre, hJp⟩⟩

end Ck
end Go.Proofs.YtjdohfdkkppnpaaGreatDoor

