/-
  The specification's RexParse at all arguments.
  The law FnExactOpsOk, at every list of places and both numbers.
  MachOk, the program's.
-/
import Derived.Test.YtkhoccjfkkfipaaGreatDoorP40
import Derived.Test.YtkhoccjfkkfipaaGreatDoorP41
import Derived.Test.YtkhoccjfkkfipaaGreatDoorP28
import Derived.Test.YtkhoccjfkkfipaaGreatDoorP11
import Derived.Test.YtkhoccjfkkfipaaGreatDoorP19
import Derived.Test.YtkhoccjfkkfipaaGreatDoorP26
namespace Go.Proofs.YtkhoccjfkkfipaaGreatDoor
open Go.RowKit
namespace Rx

theorem sAtomN {p : Nat} {s : ByteArray} (hs : s.size ≤ 1000) : ∀ n deep, n + deep = 41 → TellsF 172 p s deep (atomN (gOf s) s.size n) := by
  intro n
  have hg : ∀ i, s.size ≤ i → gOf s i = 256 := fun i h => gOf_out h
  induction n with
  | zero =>
    intro deep hd
    obtain rfl : deep = 41 := by omega
    exact sAtomDeep hs
  | succ n ih =>
    intro deep hd
    have h1 := ih (deep + 1) (by omega)
    have h2 := sPiece hs (atomN_in hg n) h1
    have h3 := sPart hs (fun i t j h => pieceAt_in hg (atomN_in hg n) h) h2
    have h4 := sPattern hs (fun i t j h => partAt_in hg (atomN_in hg n) h) h3
    exact sAtom hs (by omega) (fun i t j h hi => (patAt_in hg (atomN_in hg n) h).2 hi) (fun i w h hi => sSet h hi hs) h4

theorem sPatN {p : Nat} {s : ByteArray} (hs : s.size ≤ 1000) : TellsF 121 p s 0 (patN (gOf s) s.size 41) := by
  have hg : ∀ i, s.size ≤ i → gOf s i = 256 := fun i h => gOf_out h
  have h1 := sAtomN (p := p) hs 41 0 (by omega)
  have h2 := sPiece hs (atomN_in hg 41) h1
  have h3 := sPart hs (fun i t j h => pieceAt_in hg (atomN_in hg 41) h) h2
  exact sPattern hs (fun i t j h => partAt_in hg (atomN_in hg 41) h) h3

theorem parse_is {s : ByteArray} (hs : ¬ 60 < s.size) : parseV s = wholeV (gOf s) s.size 41 := by
  unfold parseV
  rw [if_neg hs]
  exact whole_agree (fun i h => gOf_out h) (by omega) (by omega) (by omega) (by omega)

theorem ret_pair {fn : Func} {K L : Nat} {R : Ending → World → Prop} {a : Act} {W : World} {B : Nat} {v0 v1 v2 v3 v4 x : Value} (hf : fn.results = #[.cell K 149, .tmp L]) (ht : a.tmps[K]? = some (.pointer (some ⟨B, 0, none⟩))) (hx : a.tmps[L]? = some x) (hd : a.defers = [])
    (hV : Var W B v0 v1 v2 v3 v4) (hR : R (.returned (.tuple #[.agg #[v0, v1, v2, v3, v4], x])) W) : bodyPost Tryz.prog fn R .ret a W := by
  obtain ⟨x0, x1, x2, x3, x4⟩ := hV.cell
  refine bodyPost_ret ?_ hd hR
  simp [results, hf, ht, hx, go_sem, x0, x1, x2, x3, x4]

theorem frozen_row {W : World} {b : Nat} {cs : Array Value} {T : TypeId} (h : W.heap[b]? = some (.cells cs T (0, 0))) (k : Nat) : W.frozen? ⟨b, k, none⟩ = false := by
  simp [World.frozen?, h]

theorem below_put5 {w W : World} (h : Below w.heap.size w W) (a b c d u : Value) : Below w.heap.size w (put5 W w.heap.size a b c d u) := by
  unfold put5
  exact ((((h.setCell (Nat.le_refl _) _).setCell (Nat.le_refl _) _).setCell (Nat.le_refl _) _).setCell (Nat.le_refl _) _).setCell (Nat.le_refl _) _

set_option maxRecDepth 100000 in
theorem sRexParse (s : ByteArray) (w : World) : Calls Tryz.prog 103 #[.string s] w fun e w' => RexOut (parseV s) w e w' := by
  obtain ⟨R, hR⟩ : ∃ R, R = parseV s := ⟨_, rfl⟩
  rw [← hR]
  have hV0 : Var (w.alloc (.cells #[.int .i64 0, .int .i64 0, .string ⟨#[]⟩, .bool false, .slice none 0 0] 149)) w.heap.size (.int .i64 0) (.int .i64 0) (.string ⟨#[]⟩) (.bool false) (.slice none 0 0) := heap_alloc_last _ _
  have hB0 : Below w.heap.size w (w.alloc (.cells #[.int .i64 0, .int .i64 0, .string ⟨#[]⟩, .bool false, .slice none 0 0] 149)) := (Below.refl _ w).alloc (Nat.le_refl _) _
  by_cases hlen : 60 < s.size
  · have HR : Hid (R = none) := by show R = none; rw [hR]; unfold parseV; rw [if_pos hlen]
    have e1 : decide ((60 : Int) < s.size) = true := decide_eq_true (by omega)
    have e2 : decide (60 < s.size) = true := decide_eq_true hlen
    clear hR hlen
    go_enter Tryz.func103, Tryz.ntmps103
    go_wp2_with fail
    refine ret_pair Tryz.results103 rfl rfl rfl hV0 ?_
    rw [HR.out]
    exact ⟨rfl, hB0⟩
  · rw [parse_is hlen] at hR
    have hs : s.size ≤ 1000 := by omega
    have e1 : decide ((60 : Int) < s.size) = false := decide_eq_false (by omega)
    have e2 : decide (60 < s.size) = false := decide_eq_false hlen
    obtain ⟨o1, ho1⟩ : ∃ o1, o1 = Obj.cells #[.int .i64 0, .int .i64 0, .string ⟨#[]⟩, .bool false, .slice none 0 0] 149 := ⟨_, rfl⟩
    obtain ⟨o2, ho2⟩ : ∃ o2, o2 = Obj.cells #[.string s, .int .i64 0, .bool false] 172 := ⟨_, rfl⟩
    have hrow : ((w.alloc o1).alloc o2).heap[w.heap.size + 1]? = some (.cells #[.string s, .int .i64 0, .bool false] 172 (0, 0)) := by
      rw [ho2, show w.heap.size + 1 = (w.alloc o1).heap.size by simp]; exact heap_alloc_last _ _
    have hC0 : Cs (w.heap.size + 1) s ((0 : Nat) : Int) false ((w.alloc o1).alloc o2) := by
      refine ⟨?_, ?_, ?_, ?_, ?_⟩
      · rw [cell_of_row _ _ 0 _ _ _ hrow]; rfl
      · rw [cell_of_row _ _ 1 _ _ _ hrow]; rfl
      · rw [cell_of_row _ _ 2 _ _ _ hrow]; rfl
      · exact frozen_row hrow _
      · exact frozen_row hrow _
    have hK : ∀ w1 : World, ((w.alloc o1).alloc o2).grownBy w1 (some (w.heap.size + 1)) → Var w1 w.heap.size (.int .i64 0) (.int .i64 0) (.string ⟨#[]⟩) (.bool false) (.slice none 0 0) ∧ Below w.heap.size w w1 ∧ w.heap.size < w1.heap.size ∧ w.heap.size + 1 < w1.heap.size := by
      intro w1 hg
      have hz := hg.size
      simp at hz
      refine ⟨?_, (((Below.refl _ w).alloc (Nat.le_refl _) _).alloc (by simp) _).grown hg (by simp; omega) (by simp), by omega, by omega⟩
      unfold Var
      rw [hg.block _ (by simp; omega) (by simp), Below.heap_alloc _ _ _ (by simp), ho1]
      exact heap_alloc_last _ _
    have hP := sPatN (p := w.heap.size + 1) hs
    subst ho1 ho2
    rcases hq : patN (gOf s) s.size 41 0 with _ | ⟨t, j⟩
    · have HR : Hid (R = none) := by show R = none; rw [hR]; unfold wholeV; rw [hq]
      clear hR
      go_enter Tryz.func103, Tryz.ntmps103
      go_wp2_with (go_at_call 121; refine (hP 0 _ hC0 (Nat.zero_le _)).mono ?_; intro e w1 h1; obtain ⟨a, b, c, d, u, j', rfl, h5, hC, hgr⟩ := tells_none h1 hq; obtain ⟨y1, y2, y3, y4, y5, y6, y7, rfl, rfl, rfl, rfl, rfl⟩ := h5; obtain ⟨hV1, hB1, hl1, hl2⟩ := hK w1 hgr; have k0 := hC.text; have k1 := hC.pos; have k2 := hC.bad; have u0 := hV1.frozen; have v0 := hV1.cell)
      refine ret_pair Tryz.results103 rfl rfl rfl ((put5_var hV1 _ _ _ _ _).kept (Below.heap_alloc _ _ _ ?_)) ?_
      · simpa using hl1
      · rw [HR.out]
        exact ⟨rfl, (below_put5 hB1 _ _ _ _ _).alloc (by rw [put5_size]; omega) _⟩
    · have hcnt := patN_cnt (fun i h => gOf_out h) hq
      have hjs := (patN_in (fun i h => gOf_out h) hq).2 (Nat.zero_le _)
      have hdc := dep_cnt t
      have hx2 : ∀ (w1 : World) {y1 y2 : Nat} {y3 : List UInt8} {y4 : Bool} {y5 : Option Addr} {y6 y7 : Nat}, RexIs w1 t (Iv ((w.alloc (.cells #[.int .i64 0, .int .i64 0, .string ⟨#[]⟩, .bool false, .slice none 0 0] 149)).alloc (.cells #[.string s, .int .i64 0, .bool false] 172)).heap.size w1.heap.size) [.int .i64 y1, .int .i64 y2, .string ⟨y3.toArray⟩, .bool y4, .slice y5 y6 y7] → RexIs (w1.alloc (.cells #[.int .i64 y1, .int .i64 y2, .string ⟨y3.toArray⟩, .bool y4, .slice y5 y6 y7] 149)) t (Iv (w.heap.size + 2) w1.heap.size) [.int .i64 y1, .int .i64 y2, .string ⟨y3.toArray⟩, .bool y4, .slice y5 y6 y7] := by
        intro w1 y1 y2 y3 y4 y5 y6 y7 hx
        refine rex_mono (rex_frame t _ _ (fun k hk => Below.heap_alloc _ _ _ hk.2) hx) fun k hk => ?_
        have h1 := hk.1
        simp at h1
        exact ⟨h1, hk.2⟩
      by_cases hj : j = s.size
      · subst hj
        by_cases hd : dep t ≤ 12
        · have HR : Hid (R = some t) := by show R = _; rw [hR]; unfold wholeV; rw [hq]; simp [hd]
          have d1 : decide ((12 : Int) < dep t) = false := decide_eq_false (by omega)
          have d2 : decide (12 < dep t) = false := decide_eq_false (by omega)
          clear hR hd
          go_enter Tryz.func103, Tryz.ntmps103
          go_wp2_with (first | (go_at_call 121; refine (hP 0 _ hC0 (Nat.zero_le _)).mono ?_; intro e w1 h1; obtain ⟨a, b, c, d, u, rfl, hx, hC, hgr⟩ := tells_some h1 hq; obtain ⟨y1, y2, y3, y4, y5, y6, y7, rfl, rfl, rfl, rfl, rfl⟩ := rex_cells hx; obtain ⟨hV1, hB1, hl1, hl2⟩ := hK w1 hgr; have k0 := hC.text; have k1 := hC.pos; have k2 := hC.bad; have u0 := hV1.frozen; have v0 := hV1.cell) | (go_at_call 122; refine (sDeep (dep t) t (Nat.le_refl _) (by omega) _ (Iv (w.heap.size + 2) w1.heap.size) _ _ _ _ _ (hx2 w1 hx) (fun k hk => by have := hk.2; simp; omega)).mono ?_; rintro e w2 ⟨rfl, hb2⟩; have hV2 := hV1.kept ((hb2.block _ (by simp; omega)).trans (Below.heap_alloc _ _ _ hl1)); have u2 := hV2.frozen; have v2 := hV2.cell; have hr2 := (heap_alloc_last w1 (.cells #[.int .i64 y1, .int .i64 y2, .string ⟨y3.toArray⟩, .bool y4, .slice y5 y6 y7] 149)); have hV3 : Var w2 w1.heap.size (.int .i64 y1) (.int .i64 y2) (.string ⟨y3.toArray⟩) (.bool y4) (.slice y5 y6 y7) := (hb2.block _ (by simp)).trans hr2; have r0 := hV3.cell.1; have r1 := hV3.cell.2.1; have r2 := hV3.cell.2.2.1; have r3 := hV3.cell.2.2.2.1; have r4 := hV3.cell.2.2.2.2; have hB2 : Below w.heap.size w w2 := (hB1.alloc (by omega) _).trans (hb2.mono (by simp; omega))))
          refine ret_pair Tryz.results103 rfl rfl rfl (put5_var hV2 _ _ _ _ _) ?_
          rw [HR.out]
          refine ⟨_, _, _, _, _, rfl, below_put5 hB2 _ _ _ _ _, ?_⟩
          refine rex_mono (rex_frame t _ _ (fun k hk => ?_) (hx2 w1 hx)) fun k hk => ?_
          · have h1 := hk.1
            have h2 := hk.2
            exact (put5_block _ (by omega) _ _ _ _ _).trans (hb2.block k (by simp; omega))
          · have h1 := hk.1
            have h2 := hk.2
            have h3 := hb2.size
            simp at h3
            exact ⟨by omega, by simp; omega⟩
        · have HR : Hid (R = none) := by show R = _; rw [hR]; unfold wholeV; rw [hq]; simp [hd]
          have d1 : decide ((12 : Int) < dep t) = true := decide_eq_true (by omega)
          have d2 : decide (12 < dep t) = true := decide_eq_true (by omega)
          clear hR hd
          go_enter Tryz.func103, Tryz.ntmps103
          go_wp2_with (first | (go_at_call 121; refine (hP 0 _ hC0 (Nat.zero_le _)).mono ?_; intro e w1 h1; obtain ⟨a, b, c, d, u, rfl, hx, hC, hgr⟩ := tells_some h1 hq; obtain ⟨y1, y2, y3, y4, y5, y6, y7, rfl, rfl, rfl, rfl, rfl⟩ := rex_cells hx; obtain ⟨hV1, hB1, hl1, hl2⟩ := hK w1 hgr; have k0 := hC.text; have k1 := hC.pos; have k2 := hC.bad; have u0 := hV1.frozen; have v0 := hV1.cell) | (go_at_call 122; refine (sDeep (dep t) t (Nat.le_refl _) (by omega) _ (Iv (w.heap.size + 2) w1.heap.size) _ _ _ _ _ (hx2 w1 hx) (fun k hk => by have := hk.2; simp; omega)).mono ?_; rintro e w2 ⟨rfl, hb2⟩; have hV2 := hV1.kept ((hb2.block _ (by simp; omega)).trans (Below.heap_alloc _ _ _ hl1)); have u2 := hV2.frozen; have v2 := hV2.cell; have hr2 := (heap_alloc_last w1 (.cells #[.int .i64 y1, .int .i64 y2, .string ⟨y3.toArray⟩, .bool y4, .slice y5 y6 y7] 149)); have hV3 : Var w2 w1.heap.size (.int .i64 y1) (.int .i64 y2) (.string ⟨y3.toArray⟩) (.bool y4) (.slice y5 y6 y7) := (hb2.block _ (by simp)).trans hr2; have r0 := hV3.cell.1; have r1 := hV3.cell.2.1; have r2 := hV3.cell.2.2.1; have r3 := hV3.cell.2.2.2.1; have r4 := hV3.cell.2.2.2.2; have hB2 : Below w.heap.size w w2 := (hB1.alloc (by omega) _).trans (hb2.mono (by simp; omega))))
          refine ret_pair Tryz.results103 rfl rfl rfl (put5_var hV2 _ _ _ _ _) ?_
          rw [HR.out]
          exact ⟨rfl, below_put5 hB2 _ _ _ _ _⟩
      · have HR : Hid (R = none) := by show R = _; rw [hR]; unfold wholeV; rw [hq]; simp [hj]
        have j1 : ((j : Int) != (s.size : Int)) = true := by simp; omega
        have j2 : ((j : Int) == (s.size : Int)) = false := by simp; omega
        clear hR
        go_enter Tryz.func103, Tryz.ntmps103
        go_wp2_with (go_at_call 121; refine (hP 0 _ hC0 (Nat.zero_le _)).mono ?_; intro e w1 h1; obtain ⟨a, b, c, d, u, rfl, hx, hC, hgr⟩ := tells_some h1 hq; obtain ⟨y1, y2, y3, y4, y5, y6, y7, rfl, rfl, rfl, rfl, rfl⟩ := rex_cells hx; obtain ⟨hV1, hB1, hl1, hl2⟩ := hK w1 hgr; have k0 := hC.text; have k1 := hC.pos; have k2 := hC.bad; have u0 := hV1.frozen; have v0 := hV1.cell)
        refine ret_pair Tryz.results103 rfl rfl rfl ((put5_var hV1 _ _ _ _ _).kept (Below.heap_alloc _ _ _ ?_)) ?_
        · simpa using hl1
        · rw [HR.out]
          exact ⟨rfl, (below_put5 hB1 _ _ _ _ _).alloc (by rw [put5_size]; omega) _⟩

end Rx
end Go.Proofs.YtkhoccjfkkfipaaGreatDoor
namespace Go.Proofs.YtkhoccjfkkfipaaGreatDoor
open Go.RowKit
namespace Oc
open St (Vl RdV)

/-- A text that is a pattern. -/
def patB (s : ByteArray) : Bool := (Rx.parseV s).isSome

theorem sl_of {w : World} {base e size n : Nat} {v : Value} {xs : List Value} (h : w.ownsRow base e size v n xs) : ∃ (ao : Option Addr) (n' cap' : Nat), v = .slice ao n' cap' := by
  rcases h.2 with ⟨hn, _⟩ | ⟨g, cap, cur, hv, _⟩
  · exact ⟨_, _, _, hn⟩
  · exact ⟨_, _, _, hv⟩
theorem told_of {f : Nat} {s : ByteArray} {w : World} (h : Calls Tryz.prog f #[.string s] w fun e w' => Rx.RexOut (Rx.parseV s) w e w') : Told f (patB s) s w := by
  refine h.mono ?_
  intro e w'' hR
  unfold patB
  unfold Rx.RexOut at hR
  cases hp : Rx.parseV s with
  | none => rw [hp] at hR; obtain ⟨rfl, hb''⟩ := hR; exact ⟨⟨_, _, _, _, _, _, _, rfl⟩, hb''⟩
  | some tr =>
    rw [hp] at hR
    obtain ⟨a, b, c, d, u, rfl, hb'', hI⟩ := hR
    obtain ⟨op, cc, st, no, ks, rfl⟩ := Rx.rex_node hI
    rw [Rx.rex_nd] at hI
    obtain ⟨v, ys, he, ho', -⟩ := hI
    simp at he
    obtain ⟨rfl, rfl, rfl, rfl, rfl⟩ := he
    obtain ⟨ao', n', cap', rfl⟩ := sl_of ho'
    exact ⟨⟨_, _, _, _, _, _, _, rfl⟩, hb''⟩
theorem parseI : ParseI patB := fun s w a b hS hs => told_of (Rx.iRexParse s b w hS.2 (by omega))
theorem parseS : ParseS patB := fun s w => told_of (Rx.sRexParse s w)

end Oc
end Go.Proofs.YtkhoccjfkkfipaaGreatDoor
namespace Go.Proofs.YtkhoccjfkkfipaaGreatDoor
open Go.RowKit
namespace Mh
open Pg (RdI PSm PRd)
open St (Vl Cl RdV RdC SmC)
open Oc (hold heap_new Blk)

theorem all_takeT {α : Type} {p : α → Bool} {ks : List α} {k : Nat} {t : α} (h : ks[k]? = some t) : (ks.take (k + 1)).all p = ((ks.take k).all p && p t) := by
  rw [List.take_add_one, List.all_append, h]
  simp
theorem all_noT {α : Type} {p : α → Bool} {ks : List α} {t : α} (h : t ∈ ks) (hp : p t = false) : ks.all p = false := by
  rw [List.all_eq_false]
  exact ⟨t, h, by simp [hp]⟩
def seqB (n : Int) : Bool := decide (0 ≤ n ∧ n ≤ 100000)
def doneB (dn : List Int) : Bool := decide (dn.length = 3) && dn.all seqB
/-- Whether a Mach is right. -/
def machB (vars cells : List ByteArray) (st mn vs : List Vl) (cs : List Cl) (nr er : Int) (dn : List Int) (out : ByteArray) : Bool :=
  decide (out.size ≤ 1500) && (doneB dn && (Pg.progB Oc.patB vars cells st mn && St.stateB vs cs nr er vars.length cells.length))

/-- A Mach that is read. -/
structure MRd (w : World) (a b c : Option Addr) (vs : List Vl) (cs : List Cl) (dn : List Int) : Prop where
  vs : RdV w a vs
  cs : RdC w b cs
  dn : RdI w c dn
theorem MRd.below {W w : World} {a b c : Option Addr} {vs : List Vl} {cs : List Cl} {dn : List Int} (h : MRd W a b c vs cs dn) (hb : Below W.heap.size W w) : MRd w a b c vs cs dn := ⟨h.vs.below hb, h.cs.below hb, h.dn.below hb⟩
structure MSm (vs : List Vl) (cs : List Cl) (dn : List Int) (out : ByteArray) : Prop where
  vn : vs.length ≤ 1048576
  vs : ∀ v ∈ vs, St.SmV v
  cn : cs.length ≤ 1048576
  cs : ∀ c ∈ cs, SmC c
  dn : dn.length ≤ 1048576
  out : out.size ≤ 1048576

set_option maxRecDepth 100000 in
theorem iAreAllI {f : Nat} {fc : Array Value} {p : Int → Bool} {ss : List Int} {w : World} (hf : ∀ s ∈ ss, ∀ w', Below w.heap.size w w' → Calls Tryz.prog f (#[.int .i64 s] ++ fc) w' fun e w'' => e = .returned (.bool (p s)) ∧ Below w'.heap.size w' w'') (hent : ∀ (vs : Array Value) (w : World), (callFunc f vs).run Tryz.prog w = .ok (.enter f vs) w) (hn : ss.length ≤ 1048577) (ao : Option Addr) (cap : Nat) (hA : RdI w ao ss) :
    Calls Tryz.prog 74 #[.slice ao ss.length cap, .func (.func f) #[] fc] w fun e w' => e = .returned (.bool (ss.all p)) ∧ Below w.heap.size w w' := by
  have bn : (ss.length : Int) ≤ 1048577 := by omega
  have HE : Hid (∀ (vs : Array Value) (w : World), (callFunc f vs).run Tryz.prog w = .ok (.enter f vs) w) := hent
  clear hn hent
  go_enter Tryz.func74, Tryz.ntmps74
  go_wp2_with fail
  go_loopw [6, 9] (fun _ i wr => ∃ k : Nat, k ≤ ss.length ∧ i = .int .i64 k ∧ (ss.take k).all p = true ∧ Below w.heap.size w wr) (fun _ i _ => ss.length - (intOf i).toNat)
  case atStart => exact ⟨0, Nat.zero_le _, rfl, rfl, Below.refl _ _⟩
  case round =>
    obtain ⟨k, hkn, rfl, hall, hb⟩ := hrel
    by_cases hkl : k < ss.length
    · have hki : ss[k]? = some ss[k] := List.getElem?_eq_getElem hkl
      obtain ⟨b, o, rfl, hbl, c0⟩ := hA.below hb k _ hki
      have bk : (k : Int) < ss.length := by omega
      have hT := all_takeT (p := p) hki
      rw [hall, Bool.true_and] at hT
      have call := hf ss[k] (List.getElem_mem hkl) wr hb
      have HN : Hid (p ss[k] = false → ss.all p = false) := all_noT (List.getElem_mem hkl)
      have HT : Hid ((ss.take (k + 1)).all p = p ss[k]) := hT
      clear hf hA hki hall hT
      generalize p ss[k] = B at *
      generalize ss[k] = v at *
      cases B
      · replace HN : Hid (ss.all p = false) := HN.out rfl
        go_wp2_with fail
        rw [HE.out]
        refine Calls.mono call ?_
        rintro e w2 ⟨rfl, hb2⟩
        go_wp2_with fail
        go_ret
        exact ⟨by rw [HN.out]; rfl, hb.trans (hb2.mono hb.size)⟩
      · go_wp2_with fail
        rw [HE.out]
        refine Calls.mono call ?_
        rintro e w2 ⟨rfl, hb2⟩
        go_wp2_with fail
        go_roundw
        case rel => exact ⟨k + 1, hkl, by go_num, HT.out, hb.trans (hb2.mono hb.size)⟩
        case measure => simp [intOf]; omega
    · obtain rfl : k = ss.length := by omega
      rw [List.take_length] at hall
      have H : Hid (ss.all p = true) := hall
      clear hall
      go_wp2_with fail
      go_ret
      exact ⟨by rw [H.out]; rfl, hb⟩

theorem enterSeq (vs : Array Value) (w : World) : (callFunc 75 vs).run Tryz.prog w = .ok (.enter 75 vs) w := by kernel_rfl
theorem iSeq (n : Int) (w : World) : Calls Tryz.prog 75 #[.int .i64 n] w fun e w' => e = .returned (.bool (seqB n)) ∧ Below w.heap.size w w' := by
  obtain ⟨R, hR⟩ : ∃ R, R = seqB n := ⟨_, rfl⟩
  rw [← hR]
  by_cases h0 : 0 ≤ n
  · by_cases h1 : n ≤ 100000
    · have H : Hid (R = true) := hR.trans (decide_eq_true ⟨h0, h1⟩)
      clear hR
      go_enter Tryz.func75, Tryz.ntmps75
      go_wp2_with fail
      go_ret
      exact ⟨by rw [H.out] <;> simp, Below.refl _ _⟩
    · have H : Hid (R = false) := hR.trans (decide_eq_false fun h => h1 h.2)
      have e1 : decide (n ≤ 100000) = false := decide_eq_false h1
      clear hR
      go_enter Tryz.func75, Tryz.ntmps75
      go_wp2_with fail
      go_ret
      exact ⟨by rw [H.out] <;> simp, Below.refl _ _⟩
  · have H : Hid (R = false) := hR.trans (decide_eq_false fun h => h0 h.1)
    have e1 : decide (0 ≤ n) = false := decide_eq_false h0
    clear hR
    go_enter Tryz.func75, Tryz.ntmps75
    go_wp2_with fail
    go_ret
    exact ⟨by rw [H.out] <;> simp, Below.refl _ _⟩

theorem iDone {dn : List Int} {c : Option Addr} {xc : Nat} {w : World} (hD : RdI w c dn) (hn : dn.length ≤ 1048576) :
    Calls Tryz.prog 54 #[.slice c dn.length xc] w fun e w' => e = .returned (.bool (doneB dn)) ∧ Below w.heap.size w w' := by
  have CA : Hid (Calls Tryz.prog 74 #[.slice c dn.length xc, .func (.func 75) #[] #[]] w fun e w' => e = .returned (.bool (dn.all seqB)) ∧ Below w.heap.size w w') :=
    iAreAllI (fc := #[]) (fun s _ w' _ => iSeq s w') enterSeq (by omega) c xc hD
  obtain ⟨R, hR⟩ : ∃ R, R = doneB dn := ⟨_, rfl⟩
  have HR : Hid (R = (decide (dn.length = 3) && dn.all seqB)) := hR
  rw [← hR]
  clear hR hD
  by_cases h : dn.length = 3
  · have e1 : (dn.length : Int) = 3 := by omega
    have H : Hid (R = dn.all seqB) := HR.out.trans (by rw [decide_eq_true h, Bool.true_and])
    clear HR hn
    generalize dn.all seqB = B at *
    generalize dn.length = n at *
    subst h
    go_enter Tryz.func54, Tryz.ntmps54
    go_wp2_with (go_at_call 74; refine Calls.mono CA.out ?_; rintro e w2 ⟨rfl, hb2⟩)
    go_ret
    exact ⟨by rw [H.out] <;> rfl, hb2⟩
  · have e1 : ((dn.length : Int) == 3) = false := beq_eq_false_iff_ne.2 (by omega)
    have H : Hid (R = false) := HR.out.trans (by rw [decide_eq_false h, Bool.false_and])
    clear HR CA
    go_enter Tryz.func54, Tryz.ntmps54
    go_wp2_with fail
    go_ret
    exact ⟨by rw [H.out] <;> rfl, Below.refl _ _⟩

set_option maxHeartbeats 2000000 in
set_option maxRecDepth 100000 in
theorem iMachOk {va ca sa ma a b c : Option Addr} {vc cc sc mc xa xb xc : Nat} {vars cells : List ByteArray} {st mn vs : List St.Vl} {cs : List St.Cl} {dn : List Int} {nr er : Int} {out : ByteArray} {ad bd : Addr} {w : World} (hS : Oc.Sn w ad bd) (hP : PRd w va ca sa ma vars cells st mn) (hm : PSm vars cells st mn) (hM : MRd w a b c vs cs dn) (ho : MSm vs cs dn out) :
    Calls Tryz.prog 27 #[.agg #[.slice va vars.length vc, .slice ca cells.length cc, .slice sa st.length sc, .slice ma mn.length mc], .agg #[.slice a vs.length xa, .slice b cs.length xb, .int .i64 nr, .int .i64 er, .slice c dn.length xc, .string out]] w fun e w' => e = .returned (.bool (machB vars cells st mn vs cs nr er dn out)) ∧ Below w.heap.size w w' := by
  have CD : Hid (∀ w', Below w.heap.size w w' → Calls Tryz.prog 54 #[.slice c dn.length xc] w' fun e w'' => e = .returned (.bool (doneB dn)) ∧ Below w'.heap.size w' w'') := fun w' h => iDone (hM.dn.below h) ho.dn
  have CP : Hid (∀ w', Below w.heap.size w w' → Calls Tryz.prog 55 #[.agg #[.slice va vars.length vc, .slice ca cells.length cc, .slice sa st.length sc, .slice ma mn.length mc]] w' fun e w'' => e = .returned (.bool (Pg.progB Oc.patB vars cells st mn)) ∧ Below w'.heap.size w' w'') := fun w' h => by
    have hd := hP.below h
    exact Pg.iProgOk Oc.parseI (hS.below h) hd.vs hd.cs hd.ss hd.ms hm.vs hm.cs hm.ss hm.ms hm.vn hm.cn (Nat.le_trans hm.sn (by decide)) (Nat.le_trans hm.mm (by decide))
  have CS : Hid (∀ w', Below w.heap.size w w' → Calls Tryz.prog 56 #[.agg #[.slice a vs.length xa, .slice b cs.length xb, .int .i64 nr, .int .i64 er], .int .i64 vars.length, .int .i64 cells.length] w' fun e w'' => e = .returned (.bool (St.stateB vs cs nr er vars.length cells.length)) ∧ Below w'.heap.size w' w'') := fun w' h =>
    St.iStateOk (hS.below h).1 (hM.vs.below h) (hM.cs.below h) ho.vn ho.cn ho.vs ho.cs
  obtain ⟨R, hR⟩ : ∃ R, R = machB vars cells st mn vs cs nr er dn out := ⟨_, rfl⟩
  have HR : Hid (R = (decide (out.size ≤ 1500) && (doneB dn && (Pg.progB Oc.patB vars cells st mn && St.stateB vs cs nr er vars.length cells.length)))) := hR
  rw [← hR]
  have bo : (out.size : Int) ≤ 1048576 := by have := ho.out; omega
  have bv : (vars.length : Int) ≤ 1048576 := by have := hm.vn; omega
  have bc : (cells.length : Int) ≤ 1048576 := by have := hm.cn; omega
  clear hR hS hP hm hM ho
  generalize doneB dn = D at *
  generalize Pg.progB Oc.patB vars cells st mn = Q at *
  generalize St.stateB vs cs nr er vars.length cells.length = F at *
  obtain ⟨W1, hW1⟩ : ∃ W1, W1 = (w.alloc (.cells #[.slice va vars.length vc, .slice ca cells.length cc, .slice sa st.length sc, .slice ma mn.length mc] 39)).alloc (.cells #[.slice a vs.length xa, .slice b cs.length xb, .int .i64 nr, .int .i64 er, .slice c dn.length xc, .string out] 46) := ⟨_, rfl⟩
  have HK1 : Hid (Below w.heap.size w W1 ∧ Blk 39 W1 w.heap.size [.slice va vars.length vc, .slice ca cells.length cc, .slice sa st.length sc, .slice ma mn.length mc] ∧ Blk 46 W1 (w.heap.size + 1) [.slice a vs.length xa, .slice b cs.length xb, .int .i64 nr, .int .i64 er, .slice c dn.length xc, .string out]) := by
    have k1 := Blk.new 46 (w.alloc (.cells #[.slice va vars.length vc, .slice ca cells.length cc, .slice sa st.length sc, .slice ma mn.length mc] 39)) [.slice a vs.length xa, .slice b cs.length xb, .int .i64 nr, .int .i64 er, .slice c dn.length xc, .string out]
    rw [World.size_alloc] at k1
    rw [hW1]
    exact ⟨((Below.refl _ w).alloc (Nat.le_refl _) _).alloc (by simp) _, (Blk.new 39 w [.slice va vars.length vc, .slice ca cells.length cc, .slice sa st.length sc, .slice ma mn.length mc]).alloc _, k1⟩
  by_cases h1 : (out.size : Int) ≤ 1500
  · have H1 : Hid (R = (D && (Q && F))) := HR.out.trans (by rw [decide_eq_true (show out.size ≤ 1500 by omega), Bool.true_and])
    clear HR
    go_enter Tryz.func27, Tryz.ntmps27
    go_wp2_with (go_at_call 54; refine hold ?_)
    rw [← hW1]
    clear hW1
    refine Calls.mono (CD.out _ HK1.out.1) ?_
    rintro e w2 ⟨rfl, hb2⟩
    have HK2 : Hid (Below w.heap.size w w2 ∧ Blk 39 w2 w.heap.size [.slice va vars.length vc, .slice ca cells.length cc, .slice sa st.length sc, .slice ma mn.length mc] ∧ Blk 46 w2 (w.heap.size + 1) [.slice a vs.length xa, .slice b cs.length xb, .int .i64 nr, .int .i64 er, .slice c dn.length xc, .string out]) := ⟨HK1.out.1.trans (hb2.mono HK1.out.1.size), HK1.out.2.1.below hb2, HK1.out.2.2.below hb2⟩
    have x0 := HK2.out.2.1.cell 0 rfl
    have x1 := HK2.out.2.1.cell 1 rfl
    have x2 := HK2.out.2.1.cell 2 rfl
    have x3 := HK2.out.2.1.cell 3 rfl
    clear hb2 HK1 CD
    cases D with
    | false =>
      go_wp2_with fail
      go_ret
      exact ⟨by rw [H1.out] <;> rfl, HK2.out.1⟩
    | true =>
      go_wp2_with (go_at_call 55; refine hold ?_)
      refine Calls.mono (CP.out _ HK2.out.1) ?_
      rintro e w3 ⟨rfl, hb3⟩
      have HK3 : Hid (Below w.heap.size w w3 ∧ Blk 39 w3 w.heap.size [.slice va vars.length vc, .slice ca cells.length cc, .slice sa st.length sc, .slice ma mn.length mc] ∧ Blk 46 w3 (w.heap.size + 1) [.slice a vs.length xa, .slice b cs.length xb, .int .i64 nr, .int .i64 er, .slice c dn.length xc, .string out]) := ⟨HK2.out.1.trans (hb3.mono HK2.out.1.size), HK2.out.2.1.below hb3, HK2.out.2.2.below hb3⟩
      clear x0 x1 x2 x3
      have x0 := HK3.out.2.1.cell 0 rfl
      have x1 := HK3.out.2.1.cell 1 rfl
      have y0 := HK3.out.2.2.cell 0 rfl
      have y1 := HK3.out.2.2.cell 1 rfl
      have y2 := HK3.out.2.2.cell 2 rfl
      have y3 := HK3.out.2.2.cell 3 rfl
      clear hb3 HK2 CP
      cases Q with
      | false =>
        go_wp2_with fail
        go_ret
        exact ⟨by rw [H1.out] <;> rfl, HK3.out.1⟩
      | true =>
        go_wp2_with (go_at_call 56; refine hold ?_)
        refine Calls.mono (CS.out _ HK3.out.1) ?_
        rintro e w4 ⟨rfl, hb4⟩
        go_wp2_with fail
        go_ret
        exact ⟨by rw [H1.out] <;> rfl, HK3.out.1.trans (hb4.mono HK3.out.1.size)⟩
  · have H : Hid (R = false) := HR.out.trans (by rw [decide_eq_false (show ¬ out.size ≤ 1500 by omega), Bool.false_and])
    clear HR CD CP CS
    go_enter Tryz.func27, Tryz.ntmps27
    go_wp2_with fail
    rw [← hW1]
    go_ret
    exact ⟨by rw [H.out] <;> rfl, HK1.out.1⟩

end Mh
end Go.Proofs.YtkhoccjfkkfipaaGreatDoor
