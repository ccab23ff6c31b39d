/-
  The program's finders are made: findersOf.
  The program's finders are made: finderOf.
-/
import Derived.Test.YtgdnlmaacnnfiaaGreatDoorQ29
import Derived.Laws.EntriesVeiled
namespace Go.Proofs.YtgdnlmaacnnfiaaGreatDoor
open Go.RowKit Go.Maps
namespace Mt
open Rx Clo

def Agree (lo hi : Nat) (w w' : World) : Prop := ∀ k, lo ≤ k → k < hi → w'.heap[k]? = w.heap[k]?
theorem Agree.mono {lo hi lo' hi' : Nat} {w w' : World} (h : Agree lo hi w w') (h1 : lo ≤ lo') (h2 : hi' ≤ hi) : Agree lo' hi' w w' := fun k a b => h k (by omega) (by omega)

/-- A finder comes back: in any world that has its memory it is one that was asked nothing. -/
def Made (s : ByteArray) (d : Nat) (t : Data) (w : World) (e : Ending) (w' : World) : Prop :=
  ∃ f cap S, e = .returned (.func (.func f) #[] cap) ∧ (∀ k, S k → w.heap.size ≤ k ∧ k < w'.heap.size) ∧ Below w.heap.size w w' ∧ ∀ w'', Agree w.heap.size w'.heap.size w' w'' → Fnd s d w'' t (.func (.func f) #[] cap) S (fun _ => False) ∧ Maps S w''

def MadeOk (s : ByteArray) (d : Nat) (t : Data) : Prop := ∀ (w : World) (Sp : Nat → Prop) (pv : Value), PatIs w t Sp pv → (∀ k, Sp k → k < w.heap.size) → Calls Tryz.prog 21 #[pv, .string s] w fun e w' => Made s d t w e w'

theorem pats_at {w : World} : ∀ {ts : List Data} {S : Nat → Prop} {xs : List Value} {i : Nat} {t : Data}, PatsIs w ts S xs → ts[i]? = some t → ∃ x, xs[i]? = some x ∧ PatIs w t S x
  | [], S, xs, i, t, h, hi => by simp at hi
  | t' :: ts, S, xs, 0, t, h, hi => by
    simp only [PatsIs] at h
    obtain ⟨x, ys, rfl, h1, _⟩ := h
    simp at hi
    subst hi
    exact ⟨x, rfl, h1⟩
  | t' :: ts, S, xs, i + 1, t, h, hi => by
    simp only [PatsIs] at h
    obtain ⟨x, ys, rfl, _, h2⟩ := h
    obtain ⟨y, h3, h4⟩ := pats_at h2 (by simpa using hi)
    exact ⟨y, by simpa using h3, h4⟩

theorem Tryz.infoFndr : (Tryz.prog.info? 47).map (fun i => (i.zero, i.size, i.bytes)) = some (some .nilFunc, 1, 8) := by kernel_rfl

theorem owns_putF {w : World} {B g n cap : Nat} {xs : List Value} (h : w.ownsRow B 47 1 (.slice (some ⟨g, 0, none⟩) n cap) n xs) (k : Nat) (x : Value) : (w.setCell ⟨g, k, none⟩ x).ownsRow B 47 1 (.slice (some ⟨g, 0, none⟩) n cap) n (xs.set k x) := (h.stored k _).1

set_option maxHeartbeats 2000000 in
set_option maxRecDepth 100000 in
theorem iFindersOf {s : ByteArray} {d : Nat} {ks : List Data} (hk : ∀ t ∈ ks, MadeOk s d t) (hn : ks.length ≤ 100000) (w : World) (Sp : Nat → Prop) (u : Value) (xs : List Value) (ho : w.ownsRow 0 50 1 u ks.length xs) (hx : PatsIs w ks Sp xs) (hS : ∀ k, Sp k → k < w.heap.size) :
    Calls Tryz.prog 46 #[u, .string s] w fun e w' => ∃ (fs : List Value) (Ss : Nat → Nat → Prop), e = .returned (.slice (some ⟨w.heap.size, 0, none⟩) ks.length ks.length) ∧ fs.length = ks.length ∧ w'.ownsRow w.heap.size 47 1 (.slice (some ⟨w.heap.size, 0, none⟩) ks.length ks.length) ks.length fs ∧ (∀ i k, Ss i k → i < ks.length ∧ w.heap.size < k ∧ k < w'.heap.size) ∧ (∀ i j k, Ss i k → Ss j k → i = j) ∧
      (∀ w'', Agree (w.heap.size + 1) w'.heap.size w' w'' → ∀ (i : Nat) k f, ks[i]? = some k → fs[i]? = some f → Fnd s d w'' k f (Ss i) (fun _ => False) ∧ Maps (Ss i) w'') ∧ Below w.heap.size w w' := by
  obtain ⟨ao, cap, rfl⟩ : ∃ ao cap, u = .slice ao ks.length cap := by
    rcases ho.2 with ⟨h0, h1⟩ | ⟨g, cap, cur, h0, _⟩
    · exact ⟨none, 0, by rw [h0, h1]⟩
    · exact ⟨_, _, h0⟩
  have hnI : (ks.length : Int) ≤ 100000 := by omega
  have hmk := run_make_row' (P := Tryz.prog) 96 47 .nilFunc 8 Tryz.underlying96 Tryz.infoFndr rfl .i64 .i64 ks.length (by omega) (by omega)
  have hown0 : (w.alloc (.cells (madeCells #[.nilFunc] ks.length) 47)).ownsRow w.heap.size 47 1 (.slice (some ⟨w.heap.size, 0, none⟩) ks.length ks.length) ks.length (List.replicate ks.length .nilFunc) :=
    ⟨by simp, .inr ⟨w.heap.size, ks.length, madeCells #[.nilFunc] ks.length, rfl, Nat.le_refl _, heap_alloc_last _ _, Nat.le_refl _, by unfold maxLen; omega, by rw [size_madeCells]; omega, by rw [toList_madeCells_one, Nat.mul_one]; simp⟩⟩
  go_enter Tryz.func46, Tryz.ntmps46
  go_wp2_with fail
  go_loopw [13] (fun iv wr => ∃ (i : Nat) (fs : List Value) (Ss : Nat → Nat → Prop), iv = .int .i64 i ∧ i ≤ ks.length ∧ fs.length = i ∧ wr.ownsRow w.heap.size 47 1 (.slice (some ⟨w.heap.size, 0, none⟩) ks.length ks.length) ks.length (fs ++ List.replicate (ks.length - i) .nilFunc) ∧ (∀ j k, Ss j k → j < i ∧ w.heap.size < k ∧ k < wr.heap.size) ∧ (∀ i j k, Ss i k → Ss j k → i = j) ∧
      (∀ w'', Agree (w.heap.size + 1) wr.heap.size wr w'' → ∀ (i : Nat) k f, ks[i]? = some k → fs[i]? = some f → Fnd s d w'' k f (Ss i) (fun _ => False) ∧ Maps (Ss i) w'') ∧ Below w.heap.size w wr) (fun iv _ => ks.length - (intOf iv).toNat)
  case atStart => exact ⟨0, [], fun _ _ => False, rfl, Nat.zero_le _, rfl, by simpa using hown0, fun _ _ h => h.elim, fun _ _ _ h => h.elim, fun _ _ i k f _ h => by simp at h, (Below.refl _ w).alloc (Nat.le_refl _) _⟩
  case round =>
    clear hown0 hmk
    obtain ⟨i, fs, Ss, rfl, hi, hfs, hrow, hSl, hSd, hF, hb⟩ := hrel
    have hsz := hb.size
    have hql := (hrow.lt w.heap.size rfl).2
    by_cases hil : i < ks.length
    · have hki : ks[i]? = some ks[i] := List.getElem?_eq_getElem hil
      obtain ⟨t, hte⟩ : ∃ t, t = ks[i] := ⟨_, rfl⟩
      rw [← hte] at hki
      have hmem : t ∈ ks := by rw [hte]; exact List.getElem_mem _
      clear hte
      obtain ⟨x, hxi, hxp⟩ := pats_at hx hki
      obtain ⟨T, y, rfl⟩ := pat_iface hxp
      obtain ⟨g, rfl, hgl, hgc⟩ : ∃ g, ao = some ⟨g, 0, none⟩ ∧ g < w.heap.size ∧ w.cell? ⟨g, i, none⟩ = some (.iface T y) := by
        rcases ho.2 with ⟨h0, h1⟩ | ⟨g, cap', cur, h0, _⟩
        · omega
        · cases h0
          have hadd : (⟨g, 0, none⟩ : Addr).add i = ⟨g, i, none⟩ := by unfold Addr.add; split <;> simp_all
          exact ⟨g, rfl, (ho.lt g rfl).2, hadd ▸ ho.cells rfl i _ hxi⟩
      have hgc' : wr.cell? ⟨g, i, none⟩ = some (.iface T y) := (hb.cell (p := ⟨g, i, none⟩) hgl).trans hgc
      have hxp' : PatIs wr t Sp (.iface T y) := pat_frame (fun k hk => hb.block k (hS k hk)) (fun _ h => h) t _ hxp
      have call := hk t hmem wr Sp _ hxp' (fun k hk => by have := hS k hk; omega)
      have bi : (i : Int) < ks.length := by omega
      clear hxi hgc hxp hxp'
      go_wp2_with fail
      refine call.mono ?_
      rintro e w1 ⟨f, fcap, S, rfl, hSn, hb1, hfin⟩
      have hs1 := hb1.size
      have hrow1 := Clo.owns_same (w' := w1) hrow (fun g hg => hb1.block g (hrow.lt g hg).2)
      obtain ⟨xo, hxo⟩ : ∃ xo, w1.cell? ⟨w.heap.size, i, none⟩ = some xo := by
        have hl : i < (fs ++ List.replicate (ks.length - i) Value.nilFunc).length := by simp; omega
        have h2 := hrow1.cells rfl _ _ (List.getElem?_eq_getElem hl)
        have hadd : (⟨w.heap.size, 0, none⟩ : Addr).add i = ⟨w.heap.size, i, none⟩ := by unfold Addr.add; split <;> simp_all
        exact ⟨_, hadd ▸ h2⟩
      have fz : w1.frozen? ⟨w.heap.size, i, none⟩ = false := by
        rcases hrow1.2 with ⟨h0, _⟩ | ⟨g', cap', cur, h0, _, hh, _⟩
        · cases h0
        · cases h0
          simp [World.frozen?, hh]
      have hput := owns_putF hrow1 i (.func (.func f) #[] fcap)
      go_wp2_with fail
      go_roundw
      case rel =>
        refine ⟨i + 1, fs ++ [.func (.func f) #[] fcap], fun j k => if j = i then S k else Ss j k, by go_num, by omega, by simp [hfs], ?_, fun j k hjk => ?_, fun a b k h1 h2 => ?_, fun w'' hag a k f' h1 h2 => ?_, ?_⟩
        · have hr : List.replicate (ks.length - i) Value.nilFunc = Value.nilFunc :: List.replicate (ks.length - (i + 1)) Value.nilFunc := by
            rw [show ks.length - i = (ks.length - (i + 1)) + 1 by omega, List.replicate_succ]
          rw [hr] at hput
          rw [List.set_append_right _ _ (by omega), hfs, Nat.sub_self] at hput
          simpa using hput
        · simp only [World.size_setCell]
          replace hjk : if j = i then S k else Ss j k := hjk
          by_cases e : j = i
          · rw [if_pos e] at hjk
            have := hSn k hjk
            omega
          · rw [if_neg e] at hjk
            have := hSl j k hjk
            omega
        · replace h1 : if a = i then S k else Ss a k := h1
          replace h2 : if b = i then S k else Ss b k := h2
          by_cases ea : a = i <;> by_cases eb : b = i
          · omega
          · rw [if_pos ea] at h1
            rw [if_neg eb] at h2
            have := hSn k h1
            have := hSl b k h2
            omega
          · rw [if_neg ea] at h1
            rw [if_pos eb] at h2
            have := hSn k h2
            have := hSl a k h1
            omega
          · rw [if_neg ea] at h1
            rw [if_neg eb] at h2
            exact hSd a b k h1 h2
        · have hag1 : ∀ k, w.heap.size + 1 ≤ k → k < w1.heap.size → w''.heap[k]? = w1.heap[k]? := fun k a1 a2 => (hag k a1 (by simpa using a2)).trans (Below.heap_setCell _ _ _ _ (by show k ≠ w.heap.size; omega))
          by_cases ea : a = i
          · subst ea
            rw [hki] at h1
            rw [List.getElem?_append_right (by omega)] at h2
            simp [hfs] at h2
            cases h1
            subst h2
            simp only [if_true]
            exact hfin w'' (fun k a1 a2 => hag1 k (by omega) a2)
          · have hal : a < fs.length := by
              have := (List.getElem?_eq_some_iff.1 h2).1
              simp at this
              omega
            rw [List.getElem?_append_left hal] at h2
            simp only [if_neg ea]
            exact hF w'' (fun k a1 a2 => (hag1 k a1 (by omega)).trans (hb1.block k a2)) a k f' h1 h2
        · exact (hb.trans (hb1.mono hsz)).setCell (p := ⟨w.heap.size, i, none⟩) (Nat.le_refl _) _
      case measure => simp [intOf]; omega
    · obtain rfl : i = ks.length := by omega
      go_wp2_with fail
      go_ret
      exact ⟨fs, Ss, rfl, hfs, by simpa using hrow, hSl, hSd, hF, hb⟩

end Mt
end Go.Proofs.YtgdnlmaacnnfiaaGreatDoor

namespace Go.Proofs.YtgdnlmaacnnfiaaGreatDoor
open Go.RowKit Go.Maps
namespace Mt
open Rx Clo

theorem hit_nothing (x : Value) (w : World) : (Instr.typeAssert (.iface 104 x) 50 104 true).run Tryz.prog w = .ok (.tuple #[x, .bool true]) w := by
  simp [Instr.typeAssert, run_underlying Tryz.underlying104, go_sem, Result.andThen]
theorem miss_nothing (t : Nat) (ht : t ≠ 104) (x : Value) (w : World) : (Instr.typeAssert (.iface t x) 50 104 true).run Tryz.prog w = .ok (.tuple #[.agg #[], .bool false]) w := by
  have hz : (zeroValue 104).run Tryz.prog w = .ok (.agg #[]) w := by kernel_rfl
  simp [Instr.typeAssert, run_underlying Tryz.underlying104, go_sem, Result.andThen, ht, hz]

theorem below2 (w : World) (o1 o2 : Obj) : Below w.heap.size w ((w.alloc o1).alloc o2) := ((Below.refl _ w).alloc (Nat.le_refl _) _).alloc (by simp) _
theorem below3 (w : World) (o1 o2 o3 : Obj) : Below w.heap.size w (((w.alloc o1).alloc o2).alloc o3) := (below2 w o1 o2).alloc (by simp; omega) _

theorem nobody {w : World} : Maps (fun _ => False) w := fun _ h => h.elim

set_option maxHeartbeats 1000000 in
set_option maxRecDepth 100000 in
theorem madeStart {s : ByteArray} {d : Nat} (w : World) : Calls Tryz.prog 21 #[.iface 90 (.agg #[]), .string s] w fun e w' => Made s (d + 1) (leaf 4) w e w' := by
  have m1 := hit_textStart
  go_enter Tryz.func21, Tryz.ntmps21
  go_wp2_with fail
  go_ret
  exact ⟨_, _, fun _ => False, rfl, fun _ h => h.elim, below3 _ _ _ _, fun w'' _ => ⟨by rw [Fnd]; exact .inl ⟨rfl, rfl⟩, nobody⟩⟩

set_option maxHeartbeats 1000000 in
set_option maxRecDepth 100000 in
theorem madeEnd {s : ByteArray} {d : Nat} (w : World) : Calls Tryz.prog 21 #[.iface 92 (.agg #[]), .string s] w fun e w' => Made s (d + 1) (leaf 5) w e w' := by
  have m1 := miss_textStart 92 (by decide)
  have m2 := hit_textEnd
  have hmf : ∀ (fn : Fn) (first cap : Array Value) (w : World), (Instr.makeFunc fn first cap).run Tryz.prog w = .ok (.func fn first cap) w := fun _ _ _ _ => rfl
  go_enter Tryz.func21, Tryz.ntmps21
  go_wp2_with fail
  go_ret
  refine ⟨_, _, fun _ => False, rfl, fun _ h => h.elim, below3 _ _ _ _, fun w'' hag => ⟨?_, nobody⟩⟩
  rw [Fnd]
  refine .inr (.inl ⟨rfl, w.heap.size + 1, rfl, ?_⟩)
  rw [hag _ (by omega) (by simp), Below.heap_alloc _ _ _ (by simp)]
  have := heap_alloc_last (w.alloc (.cells #[.iface 92 (.agg #[])] 50)) (.cells #[.string s] 9)
  rw [World.size_alloc] at this
  exact this

set_option maxHeartbeats 1000000 in
set_option maxRecDepth 100000 in
theorem madeNone {s : ByteArray} {d : Nat} (w : World) : Calls Tryz.prog 21 #[.iface 104 (.agg #[]), .string s] w fun e w' => Made s (d + 1) (leaf 11) w e w' := by
  have m1 := miss_textStart 104 (by decide)
  have m2 := miss_textEnd 104 (by decide)
  have m3 := miss_inRow 104 (by decide)
  have m4 := miss_oneOf 104 (by decide)
  have m5 := miss_anyOften 104 (by decide)
  have m6 := miss_onceOften 104 (by decide)
  have m7 := miss_onceMost 104 (by decide)
  have m8 := hit_nothing
  go_enter Tryz.func21, Tryz.ntmps21
  go_wp2_with fail
  go_ret
  exact ⟨_, _, fun _ => False, rfl, fun _ h => h.elim, below3 _ _ _ _, fun w'' _ => ⟨by rw [Fnd]; exact .inr (.inr (.inl ⟨rfl, rfl⟩)), nobody⟩⟩

set_option maxHeartbeats 1000000 in
set_option maxRecDepth 100000 in
theorem madeByte {s : ByteArray} {d op c : Nat} {ss : List UInt8} {no : Bool} {pv : Value} (ho : op = 1 ∨ op = 2 ∨ op = 3) (hL : Leaf op c ss no pv) (w : World) : Calls Tryz.prog 21 #[pv, .string s] w fun e w' => Made s (d + 1) (nd op c ss no []) w e w' := by
  obtain ⟨T, y, rfl, h1, h2, h3, h4, h5, h6, h7, h8⟩ : ∃ T y, pv = .iface T y ∧ T ≠ 90 ∧ T ≠ 92 ∧ T ≠ 94 ∧ T ≠ 98 ∧ T ≠ 100 ∧ T ≠ 102 ∧ T ≠ 103 ∧ T ≠ 104 := by
    rcases hL with h | h | h | h | h | h
    · exact ⟨_, _, h.2.2.2.2, by decide, by decide, by decide, by decide, by decide, by decide, by decide, by decide⟩
    · exact ⟨_, _, h.2.2.2.2, by decide, by decide, by decide, by decide, by decide, by decide, by decide, by decide⟩
    · exact ⟨_, _, h.2.2, by decide, by decide, by decide, by decide, by decide, by decide, by decide, by decide⟩
    · omega
    · omega
    · omega
  have m1 := miss_textStart T h1
  have m2 := miss_textEnd T h2
  have m3 := miss_inRow T h3
  have m4 := miss_oneOf T h4
  have m5 := miss_anyOften T h5
  have m6 := miss_onceOften T h6
  have m7 := miss_onceMost T h7
  have m8 := miss_nothing T h8
  have hmf : ∀ (fn : Fn) (first cap : Array Value) (w : World), (Instr.makeFunc fn first cap).run Tryz.prog w = .ok (.func fn first cap) w := fun _ _ _ _ => rfl
  go_enter Tryz.func21, Tryz.ntmps21
  go_wp2_with fail
  go_ret
  refine ⟨_, _, fun _ => False, rfl, fun _ h => h.elim, below2 _ _ _, fun w'' hag => ⟨?_, nobody⟩⟩
  rw [Fnd]
  refine .inr (.inr (.inr (.inl ⟨op, c, ss, no, _, w.heap.size, w.heap.size + 1, ho, rfl, hL, rfl, ?_, ?_⟩)))
  · rw [hag _ (by omega) (by simp; omega), Below.heap_alloc _ _ _ (by simp)]
    exact heap_alloc_last _ _
  · rw [hag _ (by omega) (by simp)]
    have := heap_alloc_last (w.alloc (.cells #[.iface T y] 50)) (.cells #[.string s] 9)
    rw [World.size_alloc] at this
    exact this

theorem owns_low {w : World} {base base' e size n : Nat} {v : Value} {xs : List Value} (h : w.ownsRow base e size v n xs) (hb : base' ≤ base) : w.ownsRow base' e size v n xs := by
  obtain ⟨h1, h2⟩ := h
  refine ⟨h1, ?_⟩
  rcases h2 with h2 | ⟨g, cap, cur, rfl, hg, h3⟩
  · exact .inl h2
  · exact .inr ⟨g, cap, cur, rfl, by omega, h3⟩
theorem img_none {s : ByteArray} {t : Data} {x : Nat} : ¬ Img s t (fun _ => False) x := fun ⟨_, h, _⟩ => h
theorem imgC_none {s : ByteArray} {ks : List Data} : ImgC s ks (fun _ => False) = fun _ => False := by
  funext x
  apply propext
  exact ⟨fun ⟨_, h, _⟩ => h, fun h => h.elim⟩

/-- A list of finders in any world that has its memory. -/
theorem box_made {w w' w'' : World} {lo b g n : Nat} {fs : List Value} (hb : w'.heap[b]? = some (.cells #[.slice (some ⟨g, 0, none⟩) n n] 96 (0, 0))) (ho : w'.ownsRow w.heap.size 47 1 (.slice (some ⟨g, 0, none⟩) n n) n fs) (hn : fs.length = n) (hlo : lo ≤ b) (hg : lo ≤ g) (hag : Agree lo w'.heap.size w' w'') : Box w'' b fs := by
  refine ⟨_, (hag b hlo (heap_lt hb)).trans hb, ?_⟩
  rw [hn]
  exact owns_low (Clo.owns_same ho fun k hk => by
    simp [Value.ownBlock] at hk
    subst hk
    exact hag _ hg (ho.lt _ rfl).2) (Nat.zero_le _)

set_option maxHeartbeats 2000000 in
set_option maxRecDepth 100000 in
theorem madeRow {s : ByteArray} {d : Nat} {ks : List Data} (ih : ∀ t ∈ ks, MadeOk s d t) (hn : ks.length ≤ 1000) (w : World) (Sp : Nat → Prop) (u : Value) (xs : List Value) (ho : w.ownsRow 0 50 1 u ks.length xs) (hx : PatsIs w ks Sp xs) (hu : ∀ g, u.ownBlock = some g → Sp g) (hS : ∀ k, Sp k → k < w.heap.size) :
    Calls Tryz.prog 21 #[.iface 94 u, .string s] w fun e w' => Made s (d + 1) (nd 6 0 [] false ks) w e w' := by
  have m1 := miss_textStart 94 (by decide)
  have m2 := miss_textEnd 94 (by decide)
  have m3 := hit_inRow
  have hmf : ∀ (fn : Fn) (first cap : Array Value) (w : World), (Instr.makeFunc fn first cap).run Tryz.prog w = .ok (.func fn first cap) w := fun _ _ _ _ => rfl
  obtain ⟨ao, cap, rfl⟩ : ∃ ao cap, u = .slice ao ks.length cap := by
    rcases ho.2 with ⟨h0, h1⟩ | ⟨g, cap, cur, h0, _⟩
    · exact ⟨none, 0, by rw [h0, h1]⟩
    · exact ⟨_, _, h0⟩
  obtain ⟨w2, hw2⟩ : ∃ w2, w2 = (w.alloc (.cells #[.iface 94 (.slice ao ks.length cap)] 50)).alloc (.cells #[.string s] 9) := ⟨_, rfl⟩
  have hb2 : Below w.heap.size w w2 := by rw [hw2]; exact below2 _ _ _
  have hs2 : w2.heap.size = w.heap.size + 2 := by rw [hw2]; simp
  have call := iFindersOf ih (by omega) w2 Sp _ xs (Clo.owns_same ho fun g hg => hb2.block g (hS g (hu g hg))) (pats_frame (fun k hk => hb2.block k (hS k hk)) (fun _ h => h) hx) (fun k hk => by have := hS k hk; omega)
  have HW2 : Hid (w2 = (w.alloc (.cells #[.iface 94 (.slice ao ks.length cap)] 50)).alloc (.cells #[.string s] 9)) := hw2
  have HS2 : Hid (w2.heap.size = w.heap.size + 2) := hs2
  clear hw2 hs2
  go_enter Tryz.func21, Tryz.ntmps21
  go_wp2_with fail
  rw [← HW2.out]
  refine call.mono ?_
  rintro e w3 ⟨fs, Ss, rfl, hfl, hfo, hSs, hSd, hF, hb3⟩
  have hs3 := hb3.size
  go_wp2_with (go_at_call 45; go_in)
  go_ret
  have hs2 := HS2.out
  have hbw : Below w.heap.size w w3 := hb2.trans (hb3.mono (by omega))
  refine ⟨_, _, fun k => ∃ i, Ss i k, rfl, fun k hk => ?_, hbw.alloc (by omega) _, fun w'' hag => ⟨?_, ?_⟩⟩
  · obtain ⟨i, hi⟩ := hk
    have := hSs i k hi
    simp
    omega
  · have hag3 : Agree (w2.heap.size + 1) w3.heap.size w3 w'' := fun k h1 h2 => (hag k (by omega) (by simp; omega)).trans (Below.heap_alloc _ _ _ h2)
    have hbox : Box w'' w3.heap.size fs := box_made (w := w2) (heap_alloc_last _ _) (hfo.alloc _) hfl (by omega) (by omega) (hag.mono (by omega) (Nat.le_refl _))
    rw [Fnd]
    refine .inr (.inr (.inr (.inr (.inl ⟨ks, w3.heap.size, fs, Ss, rfl, rfl, hbox, hfl, ⟨fun i k h => ⟨i, h⟩, hSd⟩, fun i k f h1 h2 => ?_⟩))))
    rw [imgC_none]
    exact (hF w'' hag3 i k f h1 h2).1
  · rintro k ⟨i, hi⟩
    have hag3 : Agree (w2.heap.size + 1) w3.heap.size w3 w'' := fun k h1 h2 => (hag k (by omega) (by simp; omega)).trans (Below.heap_alloc _ _ _ h2)
    have hil := (hSs i k hi).1
    exact (hF w'' hag3 i _ _ (List.getElem?_eq_getElem hil) (List.getElem?_eq_getElem (by omega))).2 k hi

end Mt
end Go.Proofs.YtgdnlmaacnnfiaaGreatDoor

