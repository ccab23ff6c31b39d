/-
  The program's putPattern and putOneOf: how many places there come to be.
-/
import Derived.Test.YtgdnlmaacnnfiaaGreatDoorQ24
namespace Go.Proofs.YtgdnlmaacnnfiaaGreatDoor
open Go.RowKit
namespace Rx

theorem hit_anyByte (x : Value) (w : World) : (Instr.typeAssert (.iface 109 x) 50 109 true).run Tryz.prog w = .ok (.tuple #[x, .bool true]) w := by
  simp [Instr.typeAssert, run_underlying Tryz.underlying109, go_sem, Result.andThen]
theorem miss_anyByte (t : Nat) (ht : t ≠ 109) (x : Value) (w : World) : (Instr.typeAssert (.iface t x) 50 109 true).run Tryz.prog w = .ok (.tuple #[.agg #[], .bool false]) w := by
  have hz : (zeroValue 109).run Tryz.prog w = .ok (.agg #[]) w := by kernel_rfl
  simp [Instr.typeAssert, run_underlying Tryz.underlying109, go_sem, Result.andThen, ht, hz]
theorem hit_textStart (x : Value) (w : World) : (Instr.typeAssert (.iface 90 x) 50 90 true).run Tryz.prog w = .ok (.tuple #[x, .bool true]) w := by
  simp [Instr.typeAssert, run_underlying Tryz.underlying90, go_sem, Result.andThen]
theorem miss_textStart (t : Nat) (ht : t ≠ 90) (x : Value) (w : World) : (Instr.typeAssert (.iface t x) 50 90 true).run Tryz.prog w = .ok (.tuple #[.agg #[], .bool false]) w := by
  have hz : (zeroValue 90).run Tryz.prog w = .ok (.agg #[]) w := by kernel_rfl
  simp [Instr.typeAssert, run_underlying Tryz.underlying90, go_sem, Result.andThen, ht, hz]
theorem hit_textEnd (x : Value) (w : World) : (Instr.typeAssert (.iface 92 x) 50 92 true).run Tryz.prog w = .ok (.tuple #[x, .bool true]) w := by
  simp [Instr.typeAssert, run_underlying Tryz.underlying92, go_sem, Result.andThen]
theorem miss_textEnd (t : Nat) (ht : t ≠ 92) (x : Value) (w : World) : (Instr.typeAssert (.iface t x) 50 92 true).run Tryz.prog w = .ok (.tuple #[.agg #[], .bool false]) w := by
  have hz : (zeroValue 92).run Tryz.prog w = .ok (.agg #[]) w := by kernel_rfl
  simp [Instr.typeAssert, run_underlying Tryz.underlying92, go_sem, Result.andThen, ht, hz]

def opOf : List Data → Int
  | .lit (.int _ n) :: _ => n
  | _ => 0

mutual
/-- How many places a pattern has. -/
def nl : Data → Nat
  | .slice ks lab => if opOf lab = 6 then nls ks else if opOf lab = 7 then nls ks + 2 * (ks.length - 1) else if opOf lab = 8 then nls ks + 2 else if opOf lab = 9 ∨ opOf lab = 10 then nls ks + 1 else if opOf lab = 11 then 0 else 1
  | _ => 0
def nls : List Data → Nat
  | [] => 0
  | t :: ts => nl t + nls ts
end

theorem nl_nd (op c : Nat) (s : List UInt8) (no : Bool) (ks : List Data) : nl (nd op c s no ks) = if op = 6 then nls ks else if op = 7 then nls ks + 2 * (ks.length - 1) else if op = 8 then nls ks + 2 else if op = 9 ∨ op = 10 then nls ks + 1 else if op = 11 then 0 else 1 := by
  unfold nd
  rw [nl]
  simp only [opOf]
  have e : ∀ n : Nat, ((op : Int) = (n : Int)) = (op = n) := fun n => propext ⟨fun h => by omega, fun h => by omega⟩
  simp only [show (6 : Int) = ((6 : Nat) : Int) from rfl, show (7 : Int) = ((7 : Nat) : Int) from rfl, show (8 : Int) = ((8 : Nat) : Int) from rfl, show (9 : Int) = ((9 : Nat) : Int) from rfl, show (10 : Int) = ((10 : Nat) : Int) from rfl, show (11 : Int) = ((11 : Nat) : Int) from rfl, e]

theorem nls_take (ks : List Data) {k : Nat} (h : k < ks.length) : nls (ks.take (k + 1)) = nls (ks.take k) + nl ks[k] := by
  have : ∀ (l : List Data) (t : Data), nls (l ++ [t]) = nls l + nl t := by
    intro l t
    induction l with
    | nil => simp [nls]
    | cons a l ih => simp [nls, ih]; omega
  rw [List.take_add_one, List.getElem?_eq_getElem h]
  exact this _ _

def PutOk (p B : Nat) (t : Data) : Prop := ∀ (w : World) (n : Nat) (S : Nat → Prop) (v : Value), PL B p n w → B ≤ w.heap.size → PatIs w t S v → (∀ k, S k → k < B ∧ k ≠ p) → n + nl t ≤ 100000 →
  Calls Tryz.prog 28 #[.pointer (some ⟨p, 0, none⟩), v] w fun e w' => e = .returned (.tuple #[]) ∧ PL B p (n + nl t) w' ∧ Ch p B w w'

theorem pat_ch {p B : Nat} {w w' : World} (h : Ch p B w w') {t : Data} {S : Nat → Prop} {v : Value} (hv : PatIs w t S v) (hS : ∀ k, S k → k < B ∧ k ≠ p) : PatIs w' t S v := pat_frame (fun k hk => h.block k (hS k hk).1 (hS k hk).2) (fun _ h => h) t v hv

theorem PL.alloc {B p n : Nat} {w : World} (h : PL B p n w) (o : Obj) : PL B p n (w.alloc o) := h.kept ((Below.refl _ w).alloc (Nat.le_refl _) o)
theorem ch_alloc {p B : Nat} {w : World} (hp : p < B) (hB : B ≤ w.heap.size) (o : Obj) : Ch p B w (w.alloc o) := ch_below (by omega) hB ((Below.refl _ w).alloc (Nat.le_refl _) o)

theorem leaf_of {w : World} {op c : Nat} {s : List UInt8} {no : Bool} {S : Nat → Prop} {v : Value} (h : PatIs w (nd op c s no []) S v) (ho : op ≠ 6 ∧ op ≠ 7) : Leaf op c s no v := by
  rw [pat_nd] at h
  rcases h with ⟨_, h⟩ | ⟨_, _, _, x, hx, _⟩ | ⟨_, _, _, u, xs, _, _, _, h⟩
  · exact h
  · simp [PatsIs] at hx
  · rcases h with h | h <;> (have := h.1; omega)

theorem one_inv {w : World} {op : Nat} {k : Data} {S : Nat → Prop} {v : Value} (h : PatIs w (one op k) S v) (ho : op = 8 ∨ op = 9 ∨ op = 10) : ∃ x, PatIs w k S x ∧ ((op = 8 ∧ v = .iface 100 (.agg #[x])) ∨ (op = 9 ∧ v = .iface 102 (.agg #[x])) ∨ (op = 10 ∧ v = .iface 103 (.agg #[x]))) := by
  unfold one at h
  rw [pat_nd] at h
  rcases h with ⟨h, _⟩ | ⟨_, _, _, x, hx, h⟩ | ⟨_, _, _, u, xs, _, _, _, h⟩
  · simp at h
  · simp only [PatsIs] at hx
    obtain ⟨y, ys, he, h1, _⟩ := hx
    simp at he
    obtain ⟨rfl, _⟩ := he
    exact ⟨x, h1, h⟩
  · rcases h with h | h <;> (have := h.1; omega)

theorem row_inv {w : World} {op : Nat} {ks : List Data} {S : Nat → Prop} {v : Value} (h : PatIs w (nd op 0 [] false ks) S v) (ho : op = 6 ∨ op = 7) (hl : 2 ≤ ks.length) : ∃ u xs, w.ownsRow 0 50 1 u ks.length xs ∧ (∀ g, u.ownBlock = some g → S g) ∧ PatsIs w ks S xs ∧ ((op = 6 ∧ v = .iface 94 u) ∨ (op = 7 ∧ v = .iface 98 u)) := by
  rw [pat_nd] at h
  rcases h with ⟨h, _⟩ | ⟨_, _, _, x, hx, h⟩ | ⟨_, _, _, u, xs, h1, h2, h3, h⟩
  · rw [h] at hl; simp at hl
  · rcases h with h | h | h <;> (have := h.1; omega)
  · exact ⟨u, xs, h1, h2, h3, h⟩

theorem PL.norow {B p n : Nat} {w : World} (h : PL B p n w) (o : Obj) : ¬ RowAt p (w.alloc o) w.heap.size := by
  obtain ⟨ao, cap, xs, h1, h2, h3⟩ := h
  have hl := World.block_lt_of_cell? w _ h1
  intro hr
  rw [rowAt_same (w := w) (Below.heap_alloc _ _ _ hl), rowAt_is h1] at hr
  have := (h3.lt _ hr).2
  omega

set_option maxHeartbeats 4000000 in
set_option maxRecDepth 100000 in
theorem iPutPattern {p B : Nat} (hp : p < B) (hOr : ∀ (ks : List Data), 2 ≤ ks.length → (∀ t ∈ ks, PutOk p B t) → ∀ (w : World) (n : Nat) (S : Nat → Prop) (u : Value) (xs : List Value), PL B p n w → B ≤ w.heap.size → w.ownsRow 0 50 1 u ks.length xs → (∀ g, u.ownBlock = some g → S g) → PatsIs w ks S xs → (∀ k, S k → k < B ∧ k ≠ p) → n + nls ks + 2 * (ks.length - 1) ≤ 100000 →
      Calls Tryz.prog 59 #[.pointer (some ⟨p, 0, none⟩), u] w fun e w' => e = .returned (.tuple #[]) ∧ PL B p (n + nls ks + 2 * (ks.length - 1)) w' ∧ Ch p B w w') :
    ∀ (d : Nat) (t : Data), RightD d t → PutOk p B t := by
  intro d
  induction d with
  | zero => intro t h; exact h.elim
  | succ d ih =>
    intro t hR w n S v hPL hB hv hS hn
    rw [RightD] at hR
    rcases hR with ⟨b', hb', rfl⟩ | ⟨op, ho, rfl⟩ | ⟨M, no, hM, rfl⟩ | ⟨op, k, ho, rfl, hk⟩ | ⟨op, ks, ho, rfl, hl, hk⟩
    · have hnl : nl (chr b') = 1 := by unfold chr; rw [nl_nd]; simp
      rw [hnl] at hn ⊢
      have hv' : v = .iface 108 (.int .u8 b') := by
        rcases leaf_of hv (by omega) with h | h | h | h | h | h
        · exact h.2.2.2.2
        all_goals (have := h.1; omega)
      subst hv'
      have h_oneByte := hit_oneByte
      go_enter Tryz.func28, Tryz.ntmps28
      go_wp2_with fail
      refine (iPut hPL hp hB (by omega) _ _ _ _ _ _).mono ?_
      rintro e w2 ⟨rfl, hP2, hC2⟩
      go_wp2_with fail
      refine bodyPost_end (v := .tuple #[]) ?_ rfl ⟨rfl, hP2, hC2⟩
      simp [results, Tryz.results28]
    · rcases ho with rfl | rfl | rfl | rfl
      · have hnl : nl (leaf 2) = 1 := by unfold leaf; rw [nl_nd]; simp
        rw [hnl] at hn ⊢
        have hv' : v = .iface 109 (.agg #[]) := by
          rcases leaf_of hv (by omega) with h | h | h | h | h | h
          · have := h.1; omega
          · exact h.2.2.2.2
          · have := h.1; omega
          · have := h.1; omega
          · have := h.1; omega
          · have := h.1; omega
        subst hv'
        have m_oneByte := miss_oneByte 109 (by decide)
        have h_anyByte := hit_anyByte
        obtain ⟨o1, ho1⟩ : ∃ o1, o1 = Obj.cells #[] 109 := ⟨_, rfl⟩
        have hPa := hPL.alloc o1
        have hCa := ch_alloc hp hB o1
        subst ho1
        go_enter Tryz.func28, Tryz.ntmps28
        go_wp2_with fail
        refine (iPut hPa hp (by simp; omega) (by omega) _ _ _ _ _ _).mono ?_
        rintro e w2 ⟨rfl, hP2, hC2⟩
        go_wp2_with fail
        refine bodyPost_end (v := .tuple #[]) ?_ rfl ⟨rfl, hP2, hCa.trans hC2⟩
        simp [results, Tryz.results28]
      · have hnl : nl (leaf 4) = 1 := by unfold leaf; rw [nl_nd]; simp
        rw [hnl] at hn ⊢
        have hv' : v = .iface 90 (.agg #[]) := by
          rcases leaf_of hv (by omega) with h | h | h | h | h | h
          · have := h.1; omega
          · have := h.1; omega
          · have := h.1; omega
          · exact h.2.2.2.2
          · have := h.1; omega
          · have := h.1; omega
        subst hv'
        have m_oneByte := miss_oneByte 90 (by decide)
        have m_anyByte := miss_anyByte 90 (by decide)
        have m_byteSet := miss_byteSet 90 (by decide)
        have h_textStart := hit_textStart
        obtain ⟨o1, ho1⟩ : ∃ o1, o1 = Obj.cells #[] 90 := ⟨_, rfl⟩
        have hPa := hPL.alloc o1
        have hCa := ch_alloc hp hB o1
        subst ho1
        go_enter Tryz.func28, Tryz.ntmps28
        go_wp2_with fail
        refine (iPut hPa hp (by simp; omega) (by omega) _ _ _ _ _ _).mono ?_
        rintro e w2 ⟨rfl, hP2, hC2⟩
        go_wp2_with fail
        refine bodyPost_end (v := .tuple #[]) ?_ rfl ⟨rfl, hP2, hCa.trans hC2⟩
        simp [results, Tryz.results28]
      · have hnl : nl (leaf 5) = 1 := by unfold leaf; rw [nl_nd]; simp
        rw [hnl] at hn ⊢
        have hv' : v = .iface 92 (.agg #[]) := by
          rcases leaf_of hv (by omega) with h | h | h | h | h | h
          · have := h.1; omega
          · have := h.1; omega
          · have := h.1; omega
          · have := h.1; omega
          · exact h.2.2.2.2
          · have := h.1; omega
        subst hv'
        have m_oneByte := miss_oneByte 92 (by decide)
        have m_anyByte := miss_anyByte 92 (by decide)
        have m_byteSet := miss_byteSet 92 (by decide)
        have m_textStart := miss_textStart 92 (by decide)
        have h_textEnd := hit_textEnd
        obtain ⟨o1, ho1⟩ : ∃ o1, o1 = Obj.cells #[] 92 := ⟨_, rfl⟩
        have hPa := hPL.alloc o1
        have hCa := ch_alloc hp hB o1
        subst ho1
        go_enter Tryz.func28, Tryz.ntmps28
        go_wp2_with fail
        refine (iPut hPa hp (by simp; omega) (by omega) _ _ _ _ _ _).mono ?_
        rintro e w2 ⟨rfl, hP2, hC2⟩
        go_wp2_with fail
        refine bodyPost_end (v := .tuple #[]) ?_ rfl ⟨rfl, hP2, hCa.trans hC2⟩
        simp [results, Tryz.results28]
      · have hnl : nl (leaf 11) = 0 := by unfold leaf; rw [nl_nd]; simp
        rw [hnl] at hn ⊢
        have hv' : v = .iface 104 (.agg #[]) := by
          rcases leaf_of hv (by omega) with h | h | h | h | h | h
          · have := h.1; omega
          · have := h.1; omega
          · have := h.1; omega
          · have := h.1; omega
          · have := h.1; omega
          · exact h.2.2.2.2
        subst hv'
        have m_oneByte := miss_oneByte 104 (by decide)
        have m_anyByte := miss_anyByte 104 (by decide)
        have m_byteSet := miss_byteSet 104 (by decide)
        have m_textStart := miss_textStart 104 (by decide)
        have m_textEnd := miss_textEnd 104 (by decide)
        have m_inRow := miss_inRow 104 (by decide)
        have m_oneOf := miss_oneOf 104 (by decide)
        have m_anyOften := miss_anyOften 104 (by decide)
        have m_onceOften := miss_onceOften 104 (by decide)
        have m_onceMost := miss_onceMost 104 (by decide)
        go_enter Tryz.func28, Tryz.ntmps28
        go_wp2_with fail
        refine bodyPost_end (v := .tuple #[]) ?_ rfl ⟨rfl, hPL, Ch.refl _ _ _⟩
        simp [results, Tryz.results28]
    · have hnl : nl (setOf M no) = 1 := by unfold setOf; rw [nl_nd]; simp
      rw [hnl] at hn ⊢
      have hv' : v = .iface 119 (.agg #[.string ⟨(bytesOf M).toArray⟩, .bool no]) := by
        rcases leaf_of hv (by omega) with h | h | h | h | h | h
        · have := h.1; omega
        · have := h.1; omega
        · exact h.2.2
        · have := h.1; omega
        · have := h.1; omega
        · have := h.1; omega
      subst hv'
      have m_oneByte := miss_oneByte 119 (by decide)
      have m_anyByte := miss_anyByte 119 (by decide)
      have h_byteSet := hit_byteSet
      obtain ⟨o1, ho1⟩ : ∃ o1, o1 = Obj.cells #[.string ⟨(bytesOf M).toArray⟩, .bool no] 119 := ⟨_, rfl⟩
      have hPa := hPL.alloc o1
      have hCa := ch_alloc hp hB o1
      subst ho1
      go_enter Tryz.func28, Tryz.ntmps28
      go_wp2_with fail
      refine (iPut hPa hp (by simp; omega) (by omega) _ _ _ _ _ _).mono ?_
      rintro e w2 ⟨rfl, hP2, hC2⟩
      go_wp2_with fail
      refine bodyPost_end (v := .tuple #[]) ?_ rfl ⟨rfl, hP2, hCa.trans hC2⟩
      simp [results, Tryz.results28]
    · obtain ⟨x, hx, hv'⟩ := one_inv hv ho
      obtain ⟨Tx, yx, rfl⟩ := pat_iface hx
      have hqp : w.heap.size ≠ p := by omega
      rcases hv' with ⟨rfl, rfl⟩ | ⟨rfl, rfl⟩ | ⟨rfl, rfl⟩
      · have hnl : nl (one 8 k) = nl k + 2 := by unfold one; rw [nl_nd]; simp [nls]
        rw [hnl] at hn ⊢
        clear hv
        have m_oneByte := miss_oneByte 100 (by decide)
        have m_anyByte := miss_anyByte 100 (by decide)
        have m_byteSet := miss_byteSet 100 (by decide)
        have m_textStart := miss_textStart 100 (by decide)
        have m_textEnd := miss_textEnd 100 (by decide)
        have m_inRow := miss_inRow 100 (by decide)
        have m_oneOf := miss_oneOf 100 (by decide)
        have h_anyOften := hit_anyOften
        obtain ⟨o1, ho1⟩ : ∃ o1, o1 = Obj.cells #[.iface Tx yx] 100 := ⟨_, rfl⟩
        have hPa := hPL.alloc o1
        have hCa := ch_alloc hp hB o1
        have hq := hPL.norow o1
        have c1 : (w.alloc o1).cell? ⟨w.heap.size, 0, none⟩ = some (.iface Tx yx) := by rw [cell_of_row _ _ 0 _ _ (0, 0) (by rw [ho1]; exact heap_alloc_last _ _)]; rfl
        have hBa : B ≤ (w.alloc o1).heap.size := by simp; omega
        have hqa : w.heap.size < (w.alloc o1).heap.size := by simp
        subst ho1
        go_enter Tryz.func28, Tryz.ntmps28
        go_wp2_with fail
        refine (iPutFork hPa hp hBa (by omega)).mono ?_
        rintro e w2 ⟨rfl, hP2, hC2⟩
        have c2 := (World.cell?_of_block (hC2.own _ hqa hqp hq).1).trans c1
        have hz2 := hC2.size
        go_wp2_with fail
        refine (ih k hk w2 (n + 1) S _ hP2 (by omega) (pat_ch (hCa.trans hC2) hx hS) hS (by omega)).mono ?_
        rintro e w3 ⟨rfl, hP3, hC3⟩
        have hz3 := hC3.size
        go_wp2_with fail
        refine (iPut hP3 hp (by omega) (by omega) _ _ _ _ _ _).mono ?_
        rintro e w4 ⟨rfl, hP4, hC4⟩
        go_wp2_with fail
        refine (iForkHere (f := n) hP4 hp (by omega) (by omega)).mono ?_
        rintro e w5 ⟨rfl, hP5, hC5⟩
        go_wp2_with fail
        rw [show n + 1 + nl k + 1 = n + (nl k + 2) by omega] at hP5
        refine bodyPost_end (v := .tuple #[]) ?_ rfl ⟨rfl, hP5, ((((hCa.trans hC2).trans hC3).trans hC4).trans hC5)⟩
        simp [results, Tryz.results28]
      · have hnl : nl (one 9 k) = nl k + 1 := by unfold one; rw [nl_nd]; simp [nls]
        rw [hnl] at hn ⊢
        clear hv
        have m_oneByte := miss_oneByte 102 (by decide)
        have m_anyByte := miss_anyByte 102 (by decide)
        have m_byteSet := miss_byteSet 102 (by decide)
        have m_textStart := miss_textStart 102 (by decide)
        have m_textEnd := miss_textEnd 102 (by decide)
        have m_inRow := miss_inRow 102 (by decide)
        have m_oneOf := miss_oneOf 102 (by decide)
        have m_anyOften := miss_anyOften 102 (by decide)
        have h_onceOften := hit_onceOften
        obtain ⟨o1, ho1⟩ : ∃ o1, o1 = Obj.cells #[.iface Tx yx] 102 := ⟨_, rfl⟩
        have hPa := hPL.alloc o1
        have hCa := ch_alloc hp hB o1
        have hq := hPL.norow o1
        have c1 : (w.alloc o1).cell? ⟨w.heap.size, 0, none⟩ = some (.iface Tx yx) := by rw [cell_of_row _ _ 0 _ _ (0, 0) (by rw [ho1]; exact heap_alloc_last _ _)]; rfl
        have hBa : B ≤ (w.alloc o1).heap.size := by simp; omega
        have hqa : w.heap.size < (w.alloc o1).heap.size := by simp
        subst ho1
        go_enter Tryz.func28, Tryz.ntmps28
        go_wp2_with fail
        refine (iNext hPa).mono ?_
        rintro e w2 ⟨rfl, hw⟩
        have hw := hw.symm
        subst hw
        go_wp2_with fail
        refine (ih k hk _ n S _ hPa hBa (pat_ch hCa hx hS) hS (by omega)).mono ?_
        rintro e w3 ⟨rfl, hP3, hC3⟩
        have hz3 := hC3.size
        have hnk : ((n + nl k : Nat) : Int) ≤ 100000 := by omega
        go_wp2_with fail
        refine (iNext hP3).mono ?_
        rintro e w4 ⟨rfl, hw⟩
        have hw := hw.symm
        subst hw
        go_wp2_with fail
        refine (iPut hP3 hp (by omega) (by omega) _ _ _ _ _ _).mono ?_
        rintro e w5 ⟨rfl, hP5, hC5⟩
        go_wp2_with fail
        rw [show n + nl k + 1 = n + (nl k + 1) by omega] at hP5
        refine bodyPost_end (v := .tuple #[]) ?_ rfl ⟨rfl, hP5, ((hCa.trans hC3).trans hC5)⟩
        simp [results, Tryz.results28]
      · have hnl : nl (one 10 k) = nl k + 1 := by unfold one; rw [nl_nd]; simp [nls]
        rw [hnl] at hn ⊢
        clear hv
        have m_oneByte := miss_oneByte 103 (by decide)
        have m_anyByte := miss_anyByte 103 (by decide)
        have m_byteSet := miss_byteSet 103 (by decide)
        have m_textStart := miss_textStart 103 (by decide)
        have m_textEnd := miss_textEnd 103 (by decide)
        have m_inRow := miss_inRow 103 (by decide)
        have m_oneOf := miss_oneOf 103 (by decide)
        have m_anyOften := miss_anyOften 103 (by decide)
        have m_onceOften := miss_onceOften 103 (by decide)
        have h_onceMost := hit_onceMost
        obtain ⟨o1, ho1⟩ : ∃ o1, o1 = Obj.cells #[.iface Tx yx] 103 := ⟨_, rfl⟩
        have hPa := hPL.alloc o1
        have hCa := ch_alloc hp hB o1
        have hq := hPL.norow o1
        have c1 : (w.alloc o1).cell? ⟨w.heap.size, 0, none⟩ = some (.iface Tx yx) := by rw [cell_of_row _ _ 0 _ _ (0, 0) (by rw [ho1]; exact heap_alloc_last _ _)]; rfl
        have hBa : B ≤ (w.alloc o1).heap.size := by simp; omega
        have hqa : w.heap.size < (w.alloc o1).heap.size := by simp
        subst ho1
        go_enter Tryz.func28, Tryz.ntmps28
        go_wp2_with fail
        refine (iPutFork hPa hp hBa (by omega)).mono ?_
        rintro e w2 ⟨rfl, hP2, hC2⟩
        have c2 := (World.cell?_of_block (hC2.own _ hqa hqp hq).1).trans c1
        have hz2 := hC2.size
        go_wp2_with fail
        refine (ih k hk w2 (n + 1) S _ hP2 (by omega) (pat_ch (hCa.trans hC2) hx hS) hS (by omega)).mono ?_
        rintro e w3 ⟨rfl, hP3, hC3⟩
        go_wp2_with fail
        refine (iForkHere (f := n) hP3 hp (by omega) (by omega)).mono ?_
        rintro e w5 ⟨rfl, hP5, hC5⟩
        go_wp2_with fail
        rw [show n + 1 + nl k = n + (nl k + 1) by omega] at hP5
        refine bodyPost_end (v := .tuple #[]) ?_ rfl ⟨rfl, hP5, (((hCa.trans hC2).trans hC3).trans hC5)⟩
        simp [results, Tryz.results28]
    · obtain ⟨u, xs, hown, hg, hps, hv'⟩ := row_inv hv ho hl
      rcases hv' with ⟨rfl, rfl⟩ | ⟨rfl, rfl⟩
      · have hnl : nl (nd 6 0 [] false ks) = nls ks := by rw [nl_nd]; simp
        rw [hnl] at hn ⊢
        clear hv
        have m_oneByte := miss_oneByte 94 (by decide)
        have m_anyByte := miss_anyByte 94 (by decide)
        have m_byteSet := miss_byteSet 94 (by decide)
        have m_textStart := miss_textStart 94 (by decide)
        have m_textEnd := miss_textEnd 94 (by decide)
        have h_inRow := hit_inRow
        obtain ⟨ao, cap, rfl⟩ := owns_slice hown
        have hlenI : (ks.length : Int) ≤ 9223372036854775807 := by
          rcases hown.2 with ⟨_, h0⟩ | ⟨g, cap', cur, he, _, _, h1, h2, _⟩
          · omega
          · unfold maxLen at h2; omega
        obtain ⟨g, cap', he, hgl⟩ : ∃ g cap', (Value.slice ao ks.length cap) = .slice (some ⟨g, 0, none⟩) ks.length cap' ∧ g < w.heap.size := by
          rcases hown.2 with ⟨_, h0⟩ | ⟨g, cap', cur, he, _⟩
          · omega
          · exact ⟨g, cap', he, (hown.lt g (by rw [he]; rfl)).2⟩
        simp at he
        obtain ⟨rfl, rfl⟩ := he
        have hgS := hg g rfl
        go_enter Tryz.func28, Tryz.ntmps28
        go_wp2_with fail
        go_loopw [61] (fun iv wr => ∃ i : Nat, iv = .int .i64 i ∧ i ≤ ks.length ∧ PL B p (n + nls (ks.take i)) wr ∧ Ch p B w wr) (fun iv _ => ks.length - (intOf iv).toNat)
        case atStart => exact ⟨0, rfl, Nat.zero_le _, by simpa [nls] using hPL, Ch.refl _ _ _⟩
        case round =>
          obtain ⟨i, rfl, hi, hPi, hCi⟩ := hrel
          by_cases hil : i < ks.length
          · obtain ⟨x, hx1, hx2⟩ := pats_at hps (List.getElem?_eq_getElem hil)
            obtain ⟨Tx, yx, rfl⟩ := pat_iface hx2
            have c1 : wr.cell? ⟨g, i, none⟩ = some (.iface Tx yx) := by
              rw [World.cell?_of_block (w := w) (hCi.block g (hS g hgS).1 (hS g hgS).2), hown.cellAt i (by omega)]
              exact hx1
            have hz := hCi.size
            have hle : nls (ks.take (i + 1)) ≤ nls ks := by
              have : ∀ (a b : List Data), nls (a ++ b) = nls a + nls b := by
                intro a b
                induction a with
                | nil => simp [nls]
                | cons c a ih => simp [nls, ih]; omega
              have h2 := this (ks.take (i + 1)) (ks.drop (i + 1))
              rw [List.take_append_drop] at h2
              omega
            have hnt := nls_take ks hil
            have hm : ks[i] ∈ ks := List.getElem_mem hil
            have hiI : (i : Int) < ks.length := by omega
            go_wp2_with fail
            refine (ih ks[i] (hk _ hm) wr (n + nls (ks.take i)) S _ hPi (by omega) (pat_ch hCi hx2 hS) hS (by omega)).mono ?_
            rintro e w3 ⟨rfl, hP3, hC3⟩
            go_wp2_with fail
            go_roundw
            case rel => exact ⟨i + 1, by go_num, hil, by rw [hnt, ← Nat.add_assoc]; exact hP3, hCi.trans hC3⟩
            case measure => simp [intOf]; omega
          · obtain rfl : i = ks.length := by omega
            rw [List.take_length] at hPi
            go_wp2_with fail
            refine bodyPost_end (v := .tuple #[]) ?_ rfl ⟨rfl, hPi, hCi⟩
            simp [results, Tryz.results28]
      · have hnl : nl (nd 7 0 [] false ks) = nls ks + 2 * (ks.length - 1) := by rw [nl_nd]; simp
        rw [hnl, ← Nat.add_assoc] at hn ⊢
        clear hv
        have m_oneByte := miss_oneByte 98 (by decide)
        have m_anyByte := miss_anyByte 98 (by decide)
        have m_byteSet := miss_byteSet 98 (by decide)
        have m_textStart := miss_textStart 98 (by decide)
        have m_textEnd := miss_textEnd 98 (by decide)
        have m_inRow := miss_inRow 98 (by decide)
        have h_oneOf := hit_oneOf
        have call := hOr ks hl (fun t ht => ih t (hk t ht)) w n S u xs hPL hB hown hg hps hS hn
        obtain ⟨ao, cap, rfl⟩ := owns_slice hown
        go_enter Tryz.func28, Tryz.ntmps28
        go_wp2_with fail
        refine call.mono ?_
        rintro e w2 ⟨rfl, hP2, hC2⟩
        go_wp2_with fail
        refine bodyPost_end (v := .tuple #[]) ?_ rfl ⟨rfl, hP2, hC2⟩
        simp [results, Tryz.results28]

end Rx
end Go.Proofs.YtgdnlmaacnnfiaaGreatDoor

