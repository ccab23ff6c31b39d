/-
  How many Rex a pattern of so many bytes has.
  RexParse of the program, and what it defers.
-/
import Derived.Test.YtkhoccjfkkfipaaGreatDoorP29
import Derived.Test.YtkhoccjfkkfipaaGreatDoorP34
import Derived.Defers
import Derived.Recover
namespace Go.Proofs.YtkhoccjfkkfipaaGreatDoor
namespace Rx

theorem cnts_snoc (ts : List Data) (t : Data) : cnts (ts ++ [t]) = cnts ts + cnt t := by
  induction ts with
  | nil => simp [cnts]
  | cons a ts ih => simp [cnts, ih]; omega

theorem cnt_one (op : Nat) (t : Data) : cnt (one op t) = cnt t + 1 := by unfold one; rw [cnt_nd]; simp [cnts]

section
variable {g : Nat → Nat} {N : Nat}

theorem stars_cnt : ∀ (f : Nat) (t : Data) (i : Nat), cnt (stars g f t i).1 + i ≤ cnt t + (stars g f t i).2 := by
  intro f
  induction f with
  | zero => intro t i; simp [stars]
  | succ f ih =>
    intro t i
    rw [stars]
    have a := fun op => ih (one op t) (i + 1)
    simp only [cnt_one] at a
    split
    · have := a 8; omega
    split
    · have := a 9; omega
    split
    · have := a 10; omega
    · exact Nat.le_refl _

theorem setAt_cnt {i k : Nat} {t : Data} (h : setAt g N i = some (t, k)) : cnt t = 1 := by
  unfold setAt setEnd at h
  split at h
  · simp at h
  · split at h
    · simp at h
    · simp at h
      rw [← h.1]
      unfold setOf
      rw [cnt_nd]; simp [cnts]

theorem atomAt_cnt (hg : ∀ i, N ≤ i → g i = 256) {F : Nat → Option (Data × Nat)} (hF : ∀ i t j, F i = some (t, j) → i ≤ j ∧ cnt t + 2 * i ≤ 2 * j + 1) {i k : Nat} {t : Data} (h : atomAt g N F i = some (t, k)) : cnt t + 1 + 2 * i ≤ 2 * k := by
  have leaf1 : ∀ op, cnt (leaf op) = 1 := fun op => by unfold leaf; rw [cnt_nd]; simp [cnts]
  have chr1 : ∀ b, cnt (chr b) = 1 := fun op => by unfold chr; rw [cnt_nd]; simp [cnts]
  unfold atomAt at h
  split at h
  · simp at h
  split at h
  · unfold shut at h
    split at h
    · simp at h
    · rename_i t' j' h2
      have := hF _ _ _ h2
      split at h
      · simp at h
        obtain ⟨rfl, rfl⟩ := h
        omega
      · simp at h
  split at h
  · simp at h; obtain ⟨rfl, rfl⟩ := h; rw [leaf1]; omega
  split at h
  · simp at h; obtain ⟨rfl, rfl⟩ := h; rw [leaf1]; omega
  split at h
  · simp at h; obtain ⟨rfl, rfl⟩ := h; rw [leaf1]; omega
  split at h
  · have := setAt_cnt h; have := setAt_in hg h; omega
  split at h
  · split at h
    · simp at h
    · simp at h; obtain ⟨rfl, rfl⟩ := h; rw [chr1]; omega
  split at h
  · simp at h
  · simp at h; obtain ⟨rfl, rfl⟩ := h; rw [chr1]; omega

theorem piece_cnt (hg : ∀ i, N ≤ i → g i = 256) {A : Nat → Option (Data × Nat)} (hA : ∀ i t j, A i = some (t, j) → cnt t + 1 + 2 * i ≤ 2 * j) {i j : Nat} {t : Data} (h : pieceAt g N A i = some (t, j)) : cnt t + 1 + 2 * i ≤ 2 * j := by
  unfold pieceAt at h
  split at h
  · simp at h
  · rename_i t' j' h1
    have := hA _ _ _ h1
    have a := stars_cnt (g := g) (N + 1) t' j'
    have b := (stars_in hg (N + 1) t' j').1
    simp at h
    rw [h] at a b
    simp at a b
    omega

theorem partLoop_cnt (hg : ∀ i, N ≤ i → g i = 256) {A : Nat → Option (Data × Nat)} (hA : ∀ i t j, A i = some (t, j) → cnt t + 1 + 2 * i ≤ 2 * j) : ∀ (f i : Nat) (ts us : List Data) (j : Nat), partLoop g N A f i ts = some (us, j) → cnts us + us.length + 2 * i ≤ cnts ts + ts.length + 2 * j := by
  intro f
  induction f with
  | zero => intro i ts us j h; simp [partLoop] at h
  | succ f ih =>
    intro i ts us j h
    rw [partLoop] at h
    split at h
    · simp at h; obtain ⟨rfl, rfl⟩ := h; omega
    split at h
    · simp at h
    · rename_i t j' h1
      have := piece_cnt hg hA h1
      have := ih _ _ _ _ h
      rw [cnts_snoc] at this
      simp at this
      omega

theorem part_cnt (hg : ∀ i, N ≤ i → g i = 256) {A : Nat → Option (Data × Nat)} (hin : ∀ i t j, A i = some (t, j) → i < j ∧ j ≤ N) (hA : ∀ i t j, A i = some (t, j) → cnt t + 1 + 2 * i ≤ 2 * j) {i j : Nat} {t : Data} (h : partAt g N A i = some (t, j)) : cnt t + 2 * i ≤ 2 * j + 1 := by
  have hij := (partAt_in hg hin h).1
  unfold partAt partEnd at h
  split at h
  · simp at h
  · rename_i ts j' h1
    have := partLoop_cnt hg hA _ _ _ _ _ h1
    simp [cnts] at this
    simp at h
    obtain ⟨rfl, rfl⟩ := h
    unfold catOf
    split
    · unfold leaf; rw [cnt_nd]; simp [cnts]; omega
    · simp [cnts] at this; omega
    · rename_i h3 h4
      rw [cnt_nd]
      have : 2 ≤ ts.length := by
        rcases ts with _ | ⟨a, _ | ⟨b, ts⟩⟩
        · exact (h3 rfl).elim
        · exact (h4 a rfl).elim
        · simp
      omega

theorem patLoop_cnt (hg : ∀ i, N ≤ i → g i = 256) {A : Nat → Option (Data × Nat)} (hin : ∀ i t j, A i = some (t, j) → i < j ∧ j ≤ N) (hA : ∀ i t j, A i = some (t, j) → cnt t + 1 + 2 * i ≤ 2 * j) : ∀ (f i : Nat) (ts us : List Data) (j : Nat), patLoop g N A f i ts = some (us, j) → cnts us + us.length + 2 * i ≤ cnts ts + ts.length + 2 * j ∧ ts.length ≤ us.length := by
  intro f
  induction f with
  | zero => intro i ts us j h; simp [patLoop] at h
  | succ f ih =>
    intro i ts us j h
    rw [patLoop] at h
    split at h
    · split at h
      · simp at h
      · rename_i t j' h1
        have := part_cnt hg hin hA h1
        have := ih _ _ _ _ h
        rw [cnts_snoc] at this
        simp at this
        omega
    · simp at h; obtain ⟨rfl, rfl⟩ := h; omega

theorem pat_cnt (hg : ∀ i, N ≤ i → g i = 256) {A : Nat → Option (Data × Nat)} (hin : ∀ i t j, A i = some (t, j) → i < j ∧ j ≤ N) (hA : ∀ i t j, A i = some (t, j) → cnt t + 1 + 2 * i ≤ 2 * j) {i j : Nat} {t : Data} (h : patAt g N A i = some (t, j)) : cnt t + 2 * i ≤ 2 * j + 1 := by
  unfold patAt patEnd at h
  split at h
  · simp at h
  · rename_i t' j' h1
    have := part_cnt hg hin hA h1
    split at h
    · simp at h
    · rename_i us k h2
      have a := patLoop_cnt hg hin hA _ _ _ _ _ h2
      simp [cnts] at a
      simp at h
      obtain ⟨rfl, rfl⟩ := h
      unfold orOf
      split
      · simp [cnts] at a; omega
      · rename_i h3
        rw [cnt_nd]
        have : 2 ≤ us.length := by
          rcases us with _ | ⟨a', _ | ⟨b, us⟩⟩
          · simp at a
          · exact (h3 a' rfl).elim
          · simp
        omega

theorem atomN_cnt (hg : ∀ i, N ≤ i → g i = 256) : ∀ (n i : Nat) (t : Data) (j : Nat), atomN g N n i = some (t, j) → cnt t + 1 + 2 * i ≤ 2 * j := by
  intro n
  induction n with
  | zero => intro i t j h; simp [atomN] at h
  | succ n ih =>
    intro i t j h
    rw [atomN] at h
    exact atomAt_cnt hg (fun _ _ _ h => ⟨(patAt_in hg (atomN_in hg n) h).1, pat_cnt hg (atomN_in hg n) ih h⟩) h

theorem patN_cnt (hg : ∀ i, N ≤ i → g i = 256) {n i j : Nat} {t : Data} (h : patN g N n i = some (t, j)) : cnt t + 2 * i ≤ 2 * j + 1 := pat_cnt hg (atomN_in hg n) (atomN_cnt hg n) h

theorem whole_cnt (hg : ∀ i, N ≤ i → g i = 256) {n : Nat} {t : Data} (h : wholeV g N n = some t) : cnt t ≤ 2 * N + 1 := by
  unfold wholeV at h
  split at h
  · simp at h
  · rename_i t' j h1
    have := patN_cnt hg h1
    split at h
    · simp at h; subst h; omega
    · simp at h

end
end Rx
end Go.Proofs.YtkhoccjfkkfipaaGreatDoor
namespace Go.Proofs.YtkhoccjfkkfipaaGreatDoor
open Go.RowKit
namespace Rx

/-- The second result's variable. -/
def Flag (w : World) (q : Nat) (b : Bool) : Prop := w.heap[q]? = some (.cells #[.bool b] 4 (0, 0))
theorem Flag.cell {w : World} {q : Nat} {b : Bool} (h : Flag w q b) : w.cell? ⟨q, 0, none⟩ = some (.bool b) := by
  rw [cell_of_row w q _ _ _ _ h]; rfl
theorem Flag.frozen {w : World} {q : Nat} {b : Bool} (h : Flag w q b) : w.frozen? ⟨q, 0, none⟩ = false := by
  unfold Flag at h
  simp [World.frozen?, h]
theorem Flag.set {w : World} {q : Nat} {b : Bool} (h : Flag w q b) (x : Bool) : Flag (w.setCell ⟨q, 0, none⟩ (.bool x)) q x := by
  unfold Flag at h ⊢
  simp [World.setCell, Array.getElem?_modify, h]
theorem Flag.kept {w w' : World} {q : Nat} {b : Bool} (h : Flag w q b) (hw : w'.heap[q]? = w.heap[q]?) : Flag w' q b := hw.trans h

theorem frozen_of_row {w : World} {q : Nat} {cs : Array Value} {t : TypeId} (h : w.heap[q]? = some (.cells cs t (0, 0))) (k : Nat) : w.frozen? ⟨q, k, none⟩ = false := by simp [World.frozen?, h]

def Zero (w : World) (q : Nat) : Prop := Var w q (.int .i64 0) (.int .i64 0) (.string ⟨#[]⟩) (.bool false) (.slice none 0 0)

theorem catch_panicking (B : Nat) (a b c d u : Value) (f : Bool) (ad : Addr) (w : World) (hV : Var w B a b c d u) (hF : Flag w (B + 1) f) :
    CallsD Tryz.prog 129 #[.pointer (some ⟨B, 0, none⟩), .pointer (some ⟨B + 1, 0, none⟩)] (.panicking [{ v := errV ad, recovered := false }]) w fun e u' w' =>
      e = .returned (.tuple #[]) ∧ u' = .panicking [{ v := errV ad, recovered := true }] ∧ Zero w' B ∧ Flag w' (B + 1) false ∧ Below B w w' := by
  have hcs := hV.cell
  have c0 := hcs.1
  have c1 := hcs.2.1
  have c2 := hcs.2.2.1
  have c3 := hcs.2.2.2.1
  have c4 := hcs.2.2.2.2
  have y0 := hV.frozen 0
  have y1 := hV.frozen 1
  have y2 := hV.frozen 2
  have y3 := hV.frozen 3
  have y4 := hV.frozen 4
  have g0 := hF.cell
  have g1 := hF.frozen
  unfold errV
  refine callsD_of_wpS Tryz.func129 rfl fun c₀ cs hu => ?_
  apply wpS_seq
  apply wpS_region
  simp [wpOpsS, go_sem, recoverD, hu, Tryz.ntmps129, Exit.thenS]
  refine wpS_cond (t := true) (by simp [Act.eval, Array.replicate]) ?_
  simp only [if_true]
  apply wpS_region
  simp [wpOpsS, go_sem, c0, c1, c2, c3, c4, y0, y1, y2, y3, y4, g0, g1, bodyPostS, results, Tryz.results129]
  have hn : ∀ (n : Nat) (x : Value) (W : World), (W.setCell ⟨B, n, none⟩ x).heap[B + 1]? = W.heap[B + 1]? := fun n x W => Below.heap_setCell W ⟨B, n, none⟩ x _ (by simp)
  have hb : ∀ (n : Nat) (x : Value) (W : World), Below B w W → Below B w (W.setCell ⟨B, n, none⟩ x) := fun n x W hW => hW.setCell (p := ⟨B, n, none⟩) (Nat.le_refl _) x
  refine ⟨(((((hV.set0 _).set1 _).set2 _).set3 _).set4 _).kept (Below.heap_setCell _ ⟨B + 1, 0, none⟩ _ _ (by simp)), (hF.kept ?_).set false, ?_⟩
  · rw [hn, hn, hn, hn, hn]
  · exact (hb _ _ _ (hb _ _ _ (hb _ _ _ (hb _ _ _ (hb _ _ _ (Below.refl _ w)))))).setCell (p := ⟨B + 1, 0, none⟩) (by simp) _

theorem catch_idle (B : Nat) (w : World) :
    CallsD Tryz.prog 129 #[.pointer (some ⟨B, 0, none⟩), .pointer (some ⟨B + 1, 0, none⟩)] .returning w fun e u' w' => e = .returned (.tuple #[]) ∧ u' = .returning ∧ w' = w := by
  refine callsD_of_wpS Tryz.func129 rfl fun c₀ cs hu => ?_
  apply wpS_seq
  apply wpS_region
  simp [wpOpsS, go_sem, recoverD, hu, Tryz.ntmps129, Exit.thenS]
  refine wpS_cond (t := false) (by simp [Act.eval, Array.replicate]) ?_
  simp only [Bool.false_eq_true, if_false]
  refine wpS_of_wp (wp_skip ?_)
  cases c₀
  simp_all [bodyPostS, results, Tryz.results129]

/-- What RexParse answers. -/
def parseV (s : ByteArray) : Option Data := if 60 < s.size then none else wholeV (gOf s) s.size 61

def RexOut (r : Option Data) (w : World) (e : Ending) (w' : World) : Prop := match r with
  | none => e = .returned (.tuple #[.agg #[.int .i64 0, .int .i64 0, .string ⟨#[]⟩, .bool false, .slice none 0 0], .bool false]) ∧ Below w.heap.size w w'
  | some t => ∃ a b c d u, e = .returned (.tuple #[.agg #[a, b, c, d, u], .bool true]) ∧ Below w.heap.size w w' ∧ RexIs w' t (Iv w.heap.size w'.heap.size) [a, b, c, d, u]

set_option maxRecDepth 100000 in
theorem iRexParse (s : ByteArray) (ad : Addr) (w : World) (herr : w.cell? ⟨0, 0, none⟩ = some (.iface 273 (.pointer (some ad)))) (h63 : (s.size : Int) < 9000000000000000000) :
    Calls Tryz.prog 114 #[.string s] w fun e w' => RexOut (parseV s) w e w' := by
  have hmf : ∀ (fn : Fn) (first cap : Array Value) (w : World), (Instr.makeFunc fn first cap).run Tryz.prog w = .ok (.func fn first cap) w := fun _ _ _ _ => rfl
  have helt : 0 < w.heap.size := World.block_lt_of_cell? w _ herr
  obtain ⟨o1, ho1⟩ : ∃ o1, o1 = Obj.cells #[.int .i64 0, .int .i64 0, .string ⟨#[]⟩, .bool false, .slice none 0 0] 149 := ⟨_, rfl⟩
  obtain ⟨o2, ho2⟩ : ∃ o2, o2 = Obj.cells #[.bool false] 4 := ⟨_, rfl⟩
  have hV0 : Zero ((w.alloc o1).alloc o2) w.heap.size := by
    unfold Zero Var
    rw [Below.heap_alloc _ _ _ (by simp), heap_alloc_last, ho1]
  have hF0 : Flag ((w.alloc o1).alloc o2) (w.heap.size + 1) false := by
    have := heap_alloc_last (w.alloc o1) o2
    unfold Flag
    rw [ho2] at this ⊢
    simpa using this
  have hb0 : Below w.heap.size w ((w.alloc o1).alloc o2) := ((Below.refl _ w).alloc (Nat.le_refl _) _).alloc (by simp) _
  have herr0 : ((w.alloc o1).alloc o2).cell? ⟨0, 0, none⟩ = some (.iface 273 (.pointer (some ad))) := (hb0.cell (p := ⟨0, 0, none⟩) helt).trans herr
  by_cases hlen : 60 < s.size
  · have hR : parseV s = none := by unfold parseV; rw [if_pos hlen]
    rw [hR]
    have hl : (60 : Int) < s.size := by omega
    subst ho1 ho2
    go_enter_defers Tryz.func114, Tryz.ntmps114
    go_wp2_with fail
    refine leaves_cons (f := 129) (args := #[.pointer (some ⟨w.heap.size, 0, none⟩), .pointer (some ⟨w.heap.size + 1, 0, none⟩)]) (by simp) (by simp [go_sem]) ?_
    refine (catch_panicking w.heap.size _ _ _ _ _ _ ad _ hV0 hF0).mono ?_
    rintro e u' w'' ⟨rfl, rfl, hz, hf, hb⟩
    have hzc := Var.cell hz
    have z0 := hzc.1
    have z1 := hzc.2.1
    have z2 := hzc.2.2.1
    have z3 := hzc.2.2.2.1
    have z4 := hzc.2.2.2.2
    have z5 := hf.cell
    have hbb := hb0.trans hb
    simp [Leaves, settle, results, Tryz.results114, go_sem, z0, z1, z2, z3, z4, z5]
    exact ⟨rfl, hbb⟩
  · have hs : s.size ≤ 1000 := by omega
    have hl : decide ((60 : Int) < s.size) = false := decide_eq_false (by omega)
    obtain ⟨o3, ho3⟩ : ∃ o3, o3 = Obj.cells #[.string s, .int .i64 0] 182 := ⟨_, rfl⟩
    have hbr : Below (w.heap.size + 2) ((w.alloc o1).alloc o2) (((w.alloc o1).alloc o2).alloc o3) := (Below.refl _ _).alloc (by simp) _
    have hRow : (((w.alloc o1).alloc o2).alloc o3).heap[w.heap.size + 2]? = some o3 := by
      have := heap_alloc_last ((w.alloc o1).alloc o2) o3
      simpa using this
    have hRd : Rd (w.heap.size + 2) s ad 0 (((w.alloc o1).alloc o2).alloc o3) := by
      rw [ho3] at hRow ⊢
      refine ⟨?_, ?_, ?_, ?_, by omega⟩
      · rw [cell_of_row _ _ _ _ _ _ hRow]; rfl
      · rw [cell_of_row _ _ _ _ _ _ hRow]; rfl
      · exact frozen_of_row hRow 1
      · rw [← ho3]; exact (hbr.cell (p := ⟨0, 0, none⟩) (Nat.lt_of_lt_of_le helt (by omega))).trans herr0
    have hV1 : Zero (((w.alloc o1).alloc o2).alloc o3) w.heap.size := Var.kept hV0 (hbr.block _ (by omega))
    have hF1 : Flag (((w.alloc o1).alloc o2).alloc o3) (w.heap.size + 1) false := hF0.kept (hbr.block _ (by omega))
    have hb1 : Below w.heap.size w (((w.alloc o1).alloc o2).alloc o3) := hb0.alloc (by simp; omega) _
    obtain ⟨n, hn⟩ : ∃ n, n = 61 := ⟨_, rfl⟩
    have hw := iWhole hs hRd n (by omega)
    obtain ⟨R, hR⟩ : ∃ R, R = parseV s := ⟨_, rfl⟩
    rw [← hR]
    have hR : R = wholeV (gOf s) s.size n := by rw [hR, hn]; unfold parseV; rw [if_neg hlen]
    unfold wholeV at hR
    have hszr : ∀ {w1 : World}, (((w.alloc o1).alloc o2).alloc o3).grownBy w1 (some (w.heap.size + 2)) → Zero w1 w.heap.size ∧ Flag w1 (w.heap.size + 1) false ∧ Below w.heap.size w w1 ∧ w.heap.size + 3 ≤ w1.heap.size := by
      intro w1 hg
      have hsz := hg.size
      simp at hsz
      refine ⟨Var.kept hV1 (hg.block _ (by simp; omega) (by simp)), hF1.kept (hg.block _ (by simp) (by simp)), ?_, by omega⟩
      exact ⟨hg.os.trans hb1.os, hg.tape.trans hb1.tape, hg.output.trans hb1.output, Nat.le_trans hb1.size hg.size, fun k hk => (hg.block k (by simp; omega) (by simp; omega)).trans (hb1.block k hk)⟩
    have HZ : Hid (∀ w1, (((w.alloc o1).alloc o2).alloc o3).grownBy w1 (some (w.heap.size + 2)) → Zero w1 w.heap.size ∧ Flag w1 (w.heap.size + 1) false ∧ Below w.heap.size w w1 ∧ w.heap.size + 3 ≤ w1.heap.size) := fun w1 => hszr
    clear hszr
    clear hn hV0 hF0 hb0 herr0 hRd hV1 hF1 hb1 hRow hbr hlen
    rcases hq : patN (gOf s) s.size n 0 with _ | ⟨t, j⟩
    · rw [hq] at hR hw
      have HR : Hid (R = none) := hR
      clear hR
      subst ho1 ho2 ho3
      go_enter_defers Tryz.func114, Tryz.ntmps114
      go_wp2_with (go_at_call 130; refine hw.mono ?_; intro e w1 h1; obtain ⟨rfl, hg1⟩ := reads_none h1 rfl; obtain ⟨k1, k2, k3, k4⟩ := HZ.out w1 hg1)
      refine leaves_cons (f := 129) (args := #[.pointer (some ⟨w.heap.size, 0, none⟩), .pointer (some ⟨w.heap.size + 1, 0, none⟩)]) (by simp) (by simp [go_sem]) ?_
      refine (catch_panicking w.heap.size _ _ _ _ _ _ ad _ k1 k2).mono ?_
      rintro e u' w'' ⟨rfl, rfl, hz, hf, hb⟩
      have hzc := Var.cell hz
      have z0 := hzc.1
      have z1 := hzc.2.1
      have z2 := hzc.2.2.1
      have z3 := hzc.2.2.2.1
      have z4 := hzc.2.2.2.2
      have z5 := hf.cell
      have hbb := k3.trans hb
      simp [Leaves, settle, results, Tryz.results114, go_sem, z0, z1, z2, z3, z4, z5]
      rw [HR.out]
      exact ⟨rfl, hbb⟩
    · rw [hq] at hR hw
      have hcnt := patN_cnt (g := gOf s) gOf_end hq
      have hjn := (patN_in (g := gOf s) gOf_end hq).2 (by omega)
      by_cases hj : j = s.size
      · have hw' : endOf s (some (t, j)) = some (t, j) := by unfold endOf; simp [hj]
        rw [hw'] at hw
        by_cases hd : dep t ≤ 12
        · have HR : Hid (R = some t) := by show _ = _; rw [hR]; simp [hj, hd]
          clear hR hj hq hw'
          have hd' : decide ((12 : Int) < dep t) = false := decide_eq_false (by omega)
          clear hd
          subst ho1 ho2 ho3
          go_enter_defers Tryz.func114, Tryz.ntmps114
          go_wp2_with (first | (go_at_call 130; refine hw.mono ?_; intro e w1 h1; obtain ⟨v, rfl, hv, h2, hg1⟩ := reads_some h1 rfl; obtain ⟨k1, k2, k3, k4⟩ := HZ.out w1 hg1) | (go_at_call 131; refine (iDepthOf (dep t) t _ v w1 (Nat.le_refl _) (by omega) hv (fun k hk => hk.2)).mono ?_; rintro e w2 ⟨rfl, hb2⟩; have k1' := Var.kept k1 (hb2.block _ (by omega)); have k2' := k2.kept (hb2.block _ (by omega)); have k3' := k3.trans (hb2.mono (by omega)); have hs2 := hb2.size; have hv2 := pat_frame (fun k hk => hb2.block k hk.2) (fun _ h => h) t v hv) | (go_at_call 132; refine (iRexOf (dep t) t _ v w2 (Nat.le_refl _) (by omega) hv2 (fun k hk => Nat.lt_of_lt_of_le hk.2 hs2)).mono ?_; rintro e w3 ⟨ra, rb, rc, rd, ru, rfl, hb3, hr3⟩; obtain ⟨op3, cc3, ss3, no3, ao3, n3, cap3, rfl, rfl, rfl, rfl, rfl⟩ := rex_cells hr3; have m1 := Var.kept k1' (hb3.block _ (by omega)); have m2 := k2'.kept (hb3.block _ (by omega)); have mc := Var.cell m1; have z0 := mc.1; have z1 := mc.2.1; have z2 := mc.2.2.1; have z3 := mc.2.2.2.1; have z4 := mc.2.2.2.2; have y0 := Var.frozen m1 0; have y1 := Var.frozen m1 1; have y2 := Var.frozen m1 2; have y3 := Var.frozen m1 3; have y4 := Var.frozen m1 4; have q0 := m2.cell; have q1 := m2.frozen))
          have hn1 : ∀ (n : Nat) (x : Value) (W : World) (j : Nat), j ≠ w.heap.size → (W.setCell ⟨w.heap.size, n, none⟩ x).heap[j]? = W.heap[j]? := fun n x W j hj => Below.heap_setCell W ⟨w.heap.size, n, none⟩ x j hj
          have hn2 : ∀ (x : Value) (W : World) (j : Nat), j ≠ w.heap.size + 1 → (W.setCell ⟨w.heap.size + 1, 0, none⟩ x).heap[j]? = W.heap[j]? := fun x W j hj => Below.heap_setCell W ⟨w.heap.size + 1, 0, none⟩ x j hj
          have hbs : ∀ (n : Nat) (x : Value) (W : World), Below w.heap.size w W → Below w.heap.size w (W.setCell ⟨w.heap.size, n, none⟩ x) := fun n x W hW => hW.setCell (p := ⟨w.heap.size, n, none⟩) (Nat.le_refl _) x
          have hb03 : Below w.heap.size w w3 := k3'.trans (hb3.mono (by omega))
          have hvF := (((((Var.set0 m1 (.int .i64 op3)).set1 (.int .i64 cc3)).set2 (.string ⟨ss3.toArray⟩)).set3 (.bool no3)).set4 (.slice ao3 n3 cap3)).kept (hn2 (.bool true) _ _ (by omega))
          have hfF := Flag.set (w := ((((w3.setCell ⟨w.heap.size, 0, none⟩ (.int .i64 op3)).setCell ⟨w.heap.size, 1, none⟩ (.int .i64 cc3)).setCell ⟨w.heap.size, 2, none⟩ (.string ⟨ss3.toArray⟩)).setCell ⟨w.heap.size, 3, none⟩ (.bool no3)).setCell ⟨w.heap.size, 4, none⟩ (.slice ao3 n3 cap3)) (m2.kept (by rw [hn1 _ _ _ _ (by omega), hn1 _ _ _ _ (by omega), hn1 _ _ _ _ (by omega), hn1 _ _ _ _ (by omega), hn1 _ _ _ _ (by omega)])) true
          have hbF := (hbs 4 (.slice ao3 n3 cap3) _ (hbs 3 (.bool no3) _ (hbs 2 (.string ⟨ss3.toArray⟩) _ (hbs 1 (.int .i64 cc3) _ (hbs 0 (.int .i64 op3) _ hb03))))).setCell (p := ⟨w.heap.size + 1, 0, none⟩) (by simp) (.bool true)
          have hrF := rex_mono (S' := Iv w.heap.size w3.heap.size) (rex_frame (w' := (((((w3.setCell ⟨w.heap.size, 0, none⟩ (.int .i64 op3)).setCell ⟨w.heap.size, 1, none⟩ (.int .i64 cc3)).setCell ⟨w.heap.size, 2, none⟩ (.string ⟨ss3.toArray⟩)).setCell ⟨w.heap.size, 3, none⟩ (.bool no3)).setCell ⟨w.heap.size, 4, none⟩ (.slice ao3 n3 cap3)).setCell ⟨w.heap.size + 1, 0, none⟩ (.bool true)) t _ _ (fun j hj => by
            have := hj.1
            rw [hn2 _ _ _ (by omega), hn1 _ _ _ _ (by omega), hn1 _ _ _ _ (by omega), hn1 _ _ _ _ (by omega), hn1 _ _ _ _ (by omega), hn1 _ _ _ _ (by omega)]) hr3) (fun j hj => ⟨by have := hj.1; omega, hj.2⟩)
          refine leaves_cons (f := 129) (args := #[.pointer (some ⟨w.heap.size, 0, none⟩), .pointer (some ⟨w.heap.size + 1, 0, none⟩)]) (by simp) (by simp [go_sem]) ?_
          refine (catch_idle w.heap.size _).mono ?_
          rintro e u' w'' ⟨rfl, rfl, rfl⟩
          have hzc := Var.cell hvF
          have x0 := hzc.1
          have x1 := hzc.2.1
          have x2 := hzc.2.2.1
          have x3 := hzc.2.2.2.1
          have x4 := hzc.2.2.2.2
          have x5 := hfF.cell
          have HF : Hid (Below w.heap.size w _ ∧ RexIs _ t _ _) := ⟨hbF, hrF⟩
          clear hvF hfF hbF hrF hzc m1 m2 mc z0 z1 z2 z3 z4 y0 y1 y2 y3 y4 q0 q1 hn1 hn2 hbs hr3
          simp [Leaves, settle, results, Tryz.results114, go_sem, x0, x1, x2, x3, x4, x5]
          rw [HR.out]
          exact ⟨_, _, _, _, _, rfl, HF.out.1, rex_mono HF.out.2 fun j hj => ⟨hj.1, by simpa using hj.2⟩⟩
        · have HR : Hid (R = none) := by show _ = _; rw [hR]; simp [hd]
          clear hR hj hq hw'
          have hd' : (12 : Int) < dep t := by omega
          subst ho1 ho2 ho3
          go_enter_defers Tryz.func114, Tryz.ntmps114
          go_wp2_with (first | (go_at_call 130; refine hw.mono ?_; intro e w1 h1; obtain ⟨v, rfl, hv, h2, hg1⟩ := reads_some h1 rfl; obtain ⟨k1, k2, k3, k4⟩ := HZ.out w1 hg1) | (go_at_call 131; refine (iDepthOf (dep t) t _ v w1 (Nat.le_refl _) (by omega) hv (fun k hk => hk.2)).mono ?_; rintro e w2 ⟨rfl, hb2⟩; have h3 := h2.below hb2 h2.lt h2.elt; have c3 := h3.err; have k1' := Var.kept k1 (hb2.block _ (by omega)); have k2' := k2.kept (hb2.block _ (by omega)); have k3' := k3.trans (hb2.mono (by omega))))
          refine leaves_cons (f := 129) (args := #[.pointer (some ⟨w.heap.size, 0, none⟩), .pointer (some ⟨w.heap.size + 1, 0, none⟩)]) (by simp) (by simp [go_sem]) ?_
          refine (catch_panicking w.heap.size _ _ _ _ _ _ ad _ k1' k2').mono ?_
          rintro e u' w'' ⟨rfl, rfl, hz, hf, hb⟩
          have hzc := Var.cell hz
          have z0 := hzc.1
          have z1 := hzc.2.1
          have z2 := hzc.2.2.1
          have z3 := hzc.2.2.2.1
          have z4 := hzc.2.2.2.2
          have z5 := hf.cell
          have hbb := k3'.trans hb
          simp [Leaves, settle, results, Tryz.results114, go_sem, z0, z1, z2, z3, z4, z5]
          rw [HR.out]
          exact ⟨rfl, hbb⟩
      · have hw' : endOf s (some (t, j)) = none := by unfold endOf; simp [hj]
        rw [hw'] at hw
        have HR : Hid (R = none) := by show _ = _; rw [hR]; simp [hj]
        clear hR hj hq hw'
        subst ho1 ho2 ho3
        go_enter_defers Tryz.func114, Tryz.ntmps114
        go_wp2_with (go_at_call 130; refine hw.mono ?_; intro e w1 h1; obtain ⟨rfl, hg1⟩ := reads_none h1 rfl; obtain ⟨k1, k2, k3, k4⟩ := HZ.out w1 hg1)
        refine leaves_cons (f := 129) (args := #[.pointer (some ⟨w.heap.size, 0, none⟩), .pointer (some ⟨w.heap.size + 1, 0, none⟩)]) (by simp) (by simp [go_sem]) ?_
        refine (catch_panicking w.heap.size _ _ _ _ _ _ ad _ k1 k2).mono ?_
        rintro e u' w'' ⟨rfl, rfl, hz, hf, hb⟩
        have hzc := Var.cell hz
        have z0 := hzc.1
        have z1 := hzc.2.1
        have z2 := hzc.2.2.1
        have z3 := hzc.2.2.2.1
        have z4 := hzc.2.2.2.2
        have z5 := hf.cell
        have hbb := k3.trans hb
        simp [Leaves, settle, results, Tryz.results114, go_sem, z0, z1, z2, z3, z4, z5]
        rw [HR.out]
        exact ⟨rfl, hbb⟩

end Rx
end Go.Proofs.YtkhoccjfkkfipaaGreatDoor
