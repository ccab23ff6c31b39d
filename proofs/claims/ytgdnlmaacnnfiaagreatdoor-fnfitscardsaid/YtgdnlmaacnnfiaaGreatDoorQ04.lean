/-
  Pieces, parts and whole patterns of chapter 3.
  Whole patterns of chapter 3: parts, whole.
  The kids of a pattern; how deep it is.
-/
import Derived.Test.YtgdnlmaacnnfiaaGreatDoorQ03
namespace Go.Proofs.YtgdnlmaacnnfiaaGreatDoor
open Go.RowKit
namespace Rx

theorem stars_step (g : Nat → Nat) (f : Nat) (t : Data) (i : Nat) : stars g (f + 1) t i = if g i = 42 then stars g f (one 8 t) (i + 1) else if g i = 43 then stars g f (one 9 t) (i + 1) else if g i = 63 then stars g f (one 10 t) (i + 1) else (t, i) := rfl

theorem grown_own {w w2 w3 : World} {row row' : Option Nat} (h : w.grownBy w2 row) (h' : w2.grownBy w3 row') (ho : ∀ k, row' = some k → w.heap.size ≤ k) : w.grownBy w3 row :=
  ⟨h'.os.trans h.os, h'.tape.trans h.tape, h'.output.trans h.output, Nat.le_trans h.size h'.size, fun k hk hne => (h'.block k (Nat.lt_of_lt_of_le hk h.size) fun e => by have := ho k e.symm; omega).trans (h.block k hk hne)⟩

theorem owns_grown {w w' : World} {B p e size n : Nat} {v : Value} {xs : List Value} (h : w.ownsRow B e size v n xs) (hg : w.grownBy w' (some p)) (hp : p < B) : w'.ownsRow B e size v n xs :=
  owns_same h fun g hv => hg.block g (h.lt g hv).2 (by have := (h.lt g hv).1; simp; omega)

theorem pats_append {wr w2 w3 : World} {B p : Nat} {ts : List Data} {t : Data} {v v' x : Value} {xs : List Value} {S : Nat → Prop} {o : Obj} (hown : wr.ownsRow B 50 1 v ts.length xs) (hps : PatsIs wr ts S xs) (hS : ∀ k, S k → B ≤ k ∧ k < wr.heap.size ∧ v.ownBlock ≠ some k)
    (hB : B ≤ wr.heap.size) (hp : p < B) (hg : wr.grownBy w2 (some p)) (hv : PatIs w2 t (Iv wr.heap.size w2.heap.size) x) (hown3 : w3.ownsRow B 50 1 v' (ts.length + 1) (xs ++ [x]))
    (hgr : (w2.alloc o).grownBy w3 v.ownBlock) (hb : v'.ownBlock = v.ownBlock ∨ v'.ownBlock = some (w2.alloc o).heap.size) : Pats w3 B (ts ++ [t]) v' := by
  refine pats_more (w := wr) (w1 := w2) hps hS hB hv hg.size (fun k h1 h2 _ => hg.block k h2 (by simp; omega)) (fun k hk => (hown.lt k hk).2) hown3 (Nat.le_trans (by simp) hgr.size) (fun k h1 h2 => ?_) ?_
  · exact (hgr.block k (by simp; omega) (Ne.symm h2)).trans (Below.heap_alloc _ _ _ h1)
  · rcases hb with h | h
    · exact .inl h
    · exact .inr ⟨_, h, by simp⟩

theorem pats_len' {w : World} {B : Nat} {ts : List Data} {v : Value} (h : Pats w B ts v) : ∃ ao cap, v = .slice ao ts.length cap := by
  obtain ⟨xs, S, ho, _⟩ := h
  rcases ho.2 with ⟨rfl, hn⟩ | ⟨g, cap, cur, rfl, _⟩
  · rw [hn]; exact ⟨_, _, rfl⟩
  · exact ⟨_, _, rfl⟩

theorem ao_of {w : World} {B b n cap : Nat} {ts : List Data} {ao : Option Addr} (h : Pats w B ts (.slice ao n cap)) (hb : Value.ownBlock (.slice ao n cap) = some b) : ao = some ⟨b, 0, none⟩ := by
  obtain ⟨xs, S, ho, _⟩ := h
  rcases ho.2 with ⟨h, _⟩ | ⟨g, cap', cur, h, _⟩
  · simp at h; obtain ⟨rfl, _⟩ := h; simp [Value.ownBlock] at hb
  · simp at h; obtain ⟨rfl, _⟩ := h; simp [Value.ownBlock] at hb; rw [hb]

theorem pat_same {w w' : World} {t : Data} {S : Nat → Prop} {v : Value} (h : PatIs w t S v) (hw : w'.heap = w.heap) : PatIs w' t S v := pat_frame (fun k _ => by rw [hw]) (fun _ h => h) t v h

theorem Tryz.info50r : (Tryz.prog.info? 50).map (fun i => (i.zero, i.size, i.bytes)) = some (some .nilIface, 1, 16) := by kernel_rfl

theorem partLoop_step (g : Nat → Nat) (N : Nat) (A : Nat → Option (Data × Nat)) (f i : Nat) (ts : List Data) : partLoop g N A (f + 1) i ts = if g i = 256 ∨ g i = 124 ∨ g i = 41 then some (ts, i) else match pieceAt g N A i with
      | none => none
      | some (t, j) => partLoop g N A f j (ts ++ [t]) := rfl

end Rx
end Go.Proofs.YtgdnlmaacnnfiaaGreatDoor

namespace Go.Proofs.YtgdnlmaacnnfiaaGreatDoor
open Go.RowKit
namespace Rx

theorem patLoop_step (g : Nat → Nat) (N : Nat) (A : Nat → Option (Data × Nat)) (f i : Nat) (ts : List Data) : patLoop g N A (f + 1) i ts = if g i = 124 then (match partAt g N A (i + 1) with
      | none => none
      | some (t, j) => patLoop g N A f j (ts ++ [t])) else some (ts, i) := rfl

/-- A list of one. -/
theorem pats_single {w1 : World} {B : Nat} {t : Data} {v : Value} (hv : PatIs w1 t (Iv B w1.heap.size) v) (hB : B ≤ w1.heap.size) : Pats (w1.alloc (.cells #[v] 50)) B [t] (.slice (some ⟨w1.heap.size, 0, none⟩) 1 1) := by
  refine ⟨[v], Iv B w1.heap.size, ⟨rfl, .inr ⟨w1.heap.size, 1, #[v], rfl, hB, heap_alloc_last w1 _, Nat.le_refl _, by decide, rfl, rfl⟩⟩, ?_, ?_⟩
  · simp only [PatsIs]
    exact ⟨v, [], rfl, pat_frame (fun k hk => Below.heap_alloc _ _ _ hk.2) (fun _ h => h) t v hv, rfl⟩
  · intro k hk
    have := hk.2
    exact ⟨hk.1, by simp; omega, by simp [Value.ownBlock]; omega⟩

/-- The whole text. -/
def endOf (s : ByteArray) (r : Option (Data × Nat)) : Option (Data × Nat) := match r with
  | none => none
  | some (t, j) => if j = s.size then some (t, j) else none

end Rx
end Go.Proofs.YtgdnlmaacnnfiaaGreatDoor

namespace Go.Proofs.YtgdnlmaacnnfiaaGreatDoor
open Go.RowKit
namespace Rx

theorem hit_inRow (x : Value) (w : World) : (Instr.typeAssert (.iface 94 x) 50 94 true).run Tryz.prog w = .ok (.tuple #[x, .bool true]) w := by
  simp [Instr.typeAssert, run_underlying Tryz.underlying94, go_sem, Result.andThen]
theorem miss_inRow (t : Nat) (ht : t ≠ 94) (x : Value) (w : World) : (Instr.typeAssert (.iface t x) 50 94 true).run Tryz.prog w = .ok (.tuple #[.slice none 0 0, .bool false]) w := by
  have hz : (zeroValue 94).run Tryz.prog w = .ok (.slice none 0 0) w := by kernel_rfl
  simp [Instr.typeAssert, run_underlying Tryz.underlying94, go_sem, Result.andThen, ht, hz]
theorem hit_oneOf (x : Value) (w : World) : (Instr.typeAssert (.iface 98 x) 50 98 true).run Tryz.prog w = .ok (.tuple #[x, .bool true]) w := by
  simp [Instr.typeAssert, run_underlying Tryz.underlying98, go_sem, Result.andThen]
theorem miss_oneOf (t : Nat) (ht : t ≠ 98) (x : Value) (w : World) : (Instr.typeAssert (.iface t x) 50 98 true).run Tryz.prog w = .ok (.tuple #[.slice none 0 0, .bool false]) w := by
  have hz : (zeroValue 98).run Tryz.prog w = .ok (.slice none 0 0) w := by kernel_rfl
  simp [Instr.typeAssert, run_underlying Tryz.underlying98, go_sem, Result.andThen, ht, hz]
theorem hit_anyOften (x : Value) (w : World) : (Instr.typeAssert (.iface 100 x) 50 100 true).run Tryz.prog w = .ok (.tuple #[x, .bool true]) w := by
  simp [Instr.typeAssert, run_underlying Tryz.underlying100, go_sem, Result.andThen]
theorem miss_anyOften (t : Nat) (ht : t ≠ 100) (x : Value) (w : World) : (Instr.typeAssert (.iface t x) 50 100 true).run Tryz.prog w = .ok (.tuple #[.agg #[.nilIface], .bool false]) w := by
  have hz : (zeroValue 100).run Tryz.prog w = .ok (.agg #[.nilIface]) w := by kernel_rfl
  simp [Instr.typeAssert, run_underlying Tryz.underlying100, go_sem, Result.andThen, ht, hz]
theorem hit_onceOften (x : Value) (w : World) : (Instr.typeAssert (.iface 102 x) 50 102 true).run Tryz.prog w = .ok (.tuple #[x, .bool true]) w := by
  simp [Instr.typeAssert, run_underlying Tryz.underlying102, go_sem, Result.andThen]
theorem miss_onceOften (t : Nat) (ht : t ≠ 102) (x : Value) (w : World) : (Instr.typeAssert (.iface t x) 50 102 true).run Tryz.prog w = .ok (.tuple #[.agg #[.nilIface], .bool false]) w := by
  have hz : (zeroValue 102).run Tryz.prog w = .ok (.agg #[.nilIface]) w := by kernel_rfl
  simp [Instr.typeAssert, run_underlying Tryz.underlying102, go_sem, Result.andThen, ht, hz]
theorem hit_onceMost (x : Value) (w : World) : (Instr.typeAssert (.iface 103 x) 50 103 true).run Tryz.prog w = .ok (.tuple #[x, .bool true]) w := by
  simp [Instr.typeAssert, run_underlying Tryz.underlying103, go_sem, Result.andThen]
theorem miss_onceMost (t : Nat) (ht : t ≠ 103) (x : Value) (w : World) : (Instr.typeAssert (.iface t x) 50 103 true).run Tryz.prog w = .ok (.tuple #[.agg #[.nilIface], .bool false]) w := by
  have hz : (zeroValue 103).run Tryz.prog w = .ok (.agg #[.nilIface]) w := by kernel_rfl
  simp [Instr.typeAssert, run_underlying Tryz.underlying103, go_sem, Result.andThen, ht, hz]
theorem hit_oneByte (x : Value) (w : World) : (Instr.typeAssert (.iface 108 x) 50 108 true).run Tryz.prog w = .ok (.tuple #[x, .bool true]) w := by
  simp [Instr.typeAssert, run_underlying Tryz.underlying108, go_sem, Result.andThen]
theorem miss_oneByte (t : Nat) (ht : t ≠ 108) (x : Value) (w : World) : (Instr.typeAssert (.iface t x) 50 108 true).run Tryz.prog w = .ok (.tuple #[.int .u8 0, .bool false]) w := by
  have hz : (zeroValue 108).run Tryz.prog w = .ok (.int .u8 0) w := by kernel_rfl
  simp [Instr.typeAssert, run_underlying Tryz.underlying108, go_sem, Result.andThen, ht, hz]
theorem hit_byteSet (x : Value) (w : World) : (Instr.typeAssert (.iface 119 x) 50 119 true).run Tryz.prog w = .ok (.tuple #[x, .bool true]) w := by
  simp [Instr.typeAssert, run_underlying Tryz.underlying119, go_sem, Result.andThen]
theorem miss_byteSet (t : Nat) (ht : t ≠ 119) (x : Value) (w : World) : (Instr.typeAssert (.iface t x) 50 119 true).run Tryz.prog w = .ok (.tuple #[.agg #[.string ⟨#[]⟩, .bool false], .bool false]) w := by
  have hz : (zeroValue 119).run Tryz.prog w = .ok (.agg #[.string ⟨#[]⟩, .bool false]) w := by kernel_rfl
  simp [Instr.typeAssert, run_underlying Tryz.underlying119, go_sem, Result.andThen, ht, hz]

/-- The kids' slice. -/
def KidsAre (N : Nat) (w : World) (ks : List Data) (S : Nat → Prop) (u : Value) : Prop := ∃ xs, w.ownsRow 0 50 1 u ks.length xs ∧ (∀ g, u.ownBlock = some g → S g ∨ N ≤ g) ∧ PatsIs w ks S xs

theorem owns_slice {w : World} {B e size n : Nat} {v : Value} {xs : List Value} (ho : w.ownsRow B e size v n xs) : ∃ ao cap, v = .slice ao n cap := by
  rcases ho.2 with ⟨rfl, hn⟩ | ⟨g, cap, cur, rfl, _⟩
  · rw [hn]; exact ⟨_, _, rfl⟩
  · exact ⟨_, _, rfl⟩

theorem owns_at {w : World} {B e n k cap : Nat} {ao : Option Addr} {xs : List Value} {x : Value} (ho : w.ownsRow B e 1 (.slice ao n cap) n xs) (hk : k < n) (hx : xs[k]? = some x) : ∃ g, ao = some ⟨g, 0, none⟩ ∧ g < w.heap.size ∧ w.cell? ⟨g, k, none⟩ = some x := by
  rcases ho.2 with ⟨h, hn⟩ | ⟨g, cap', cur, h, _⟩
  · omega
  · simp only [Value.slice.injEq] at h
    obtain ⟨rfl, _, rfl⟩ := h
    have := ho.cells (g := g) rfl k x hx
    refine ⟨g, rfl, (ho.lt g rfl).2, ?_⟩
    have hadd : (⟨g, 0, none⟩ : Addr).add k = ⟨g, k, none⟩ := by unfold Addr.add; split <;> simp_all
    rw [← hadd]
    exact this

theorem kids_none (N : Nat) (w : World) (S : Nat → Prop) : KidsAre N w [] S (.slice none 0 0) := ⟨[], World.ownsRow_nil _ _ _ _, fun g h => by simp [Value.ownBlock] at h, by simp only [PatsIs]⟩

theorem kids_one {w : World} {ks : List Data} {S : Nat → Prop} {x : Value} {o : Obj} (hx : PatsIs w ks S [x]) (hS : ∀ k, S k → k < w.heap.size) :
    KidsAre w.heap.size ((w.alloc o).alloc (.cells #[x] 50)) ks S (.slice (some ⟨w.heap.size + 1, 0, none⟩) 1 1) := by
  have hsz : (w.alloc o).heap.size = w.heap.size + 1 := by simp
  rw [← hsz]
  have hl := pats_len hx
  simp at hl
  refine ⟨[x], ?_, fun g hg => ?_, pats_frame (fun k hk => ?_) (fun _ h => h) hx⟩
  · rw [← hl]
    exact ⟨rfl, .inr ⟨_, 1, #[x], rfl, Nat.zero_le _, heap_alloc_last _ _, Nat.le_refl _, by decide, rfl, rfl⟩⟩
  · simp only [Value.ownBlock, Option.some.injEq] at hg
    subst hg
    exact .inr (by omega)
  · have := hS k hk
    rw [Below.heap_alloc _ _ _ (by simp; omega), Below.heap_alloc _ _ _ this]

theorem iKidsOf {w : World} {op c : Nat} {s : List UInt8} {no : Bool} {ks : List Data} {S : Nat → Prop} {v : Value} (h : PatIs w (nd op c s no ks) S v) (hS : ∀ k, S k → k < w.heap.size) :
    Calls Tryz.prog 64 #[v] w fun e w' => ∃ u, e = .returned u ∧ Below w.heap.size w w' ∧ KidsAre w.heap.size w' ks S u := by
  rw [pat_nd] at h
  rcases h with ⟨rfl, h⟩ | ⟨_, _, _, x, hx, h⟩ | ⟨_, _, _, u, xs, ho, hg, hx, h⟩
  · rcases h with h | h | h | h | h | h
    · obtain ⟨_, _, _, _, rfl⟩ := h
      have a_inRow := miss_inRow 108 (by decide) (.int .u8 c)
      have a_oneOf := miss_oneOf 108 (by decide) (.int .u8 c)
      have a_anyOften := miss_anyOften 108 (by decide) (.int .u8 c)
      have a_onceOften := miss_onceOften 108 (by decide) (.int .u8 c)
      have a_onceMost := miss_onceMost 108 (by decide) (.int .u8 c)
      go_enter Tryz.func64, Tryz.ntmps64
      go_wp2_with fail
      go_ret
      exact ⟨_, rfl, Below.refl _ _, kids_none _ _ _⟩
    · obtain ⟨_, _, _, _, rfl⟩ := h
      have a_inRow := miss_inRow 109 (by decide) (.agg #[])
      have a_oneOf := miss_oneOf 109 (by decide) (.agg #[])
      have a_anyOften := miss_anyOften 109 (by decide) (.agg #[])
      have a_onceOften := miss_onceOften 109 (by decide) (.agg #[])
      have a_onceMost := miss_onceMost 109 (by decide) (.agg #[])
      go_enter Tryz.func64, Tryz.ntmps64
      go_wp2_with fail
      go_ret
      exact ⟨_, rfl, Below.refl _ _, kids_none _ _ _⟩
    · obtain ⟨_, _, rfl⟩ := h
      have a_inRow := miss_inRow 119 (by decide) (.agg #[.string ⟨s.toArray⟩, .bool no])
      have a_oneOf := miss_oneOf 119 (by decide) (.agg #[.string ⟨s.toArray⟩, .bool no])
      have a_anyOften := miss_anyOften 119 (by decide) (.agg #[.string ⟨s.toArray⟩, .bool no])
      have a_onceOften := miss_onceOften 119 (by decide) (.agg #[.string ⟨s.toArray⟩, .bool no])
      have a_onceMost := miss_onceMost 119 (by decide) (.agg #[.string ⟨s.toArray⟩, .bool no])
      go_enter Tryz.func64, Tryz.ntmps64
      go_wp2_with fail
      go_ret
      exact ⟨_, rfl, Below.refl _ _, kids_none _ _ _⟩
    · obtain ⟨_, _, _, _, rfl⟩ := h
      have a_inRow := miss_inRow 90 (by decide) (.agg #[])
      have a_oneOf := miss_oneOf 90 (by decide) (.agg #[])
      have a_anyOften := miss_anyOften 90 (by decide) (.agg #[])
      have a_onceOften := miss_onceOften 90 (by decide) (.agg #[])
      have a_onceMost := miss_onceMost 90 (by decide) (.agg #[])
      go_enter Tryz.func64, Tryz.ntmps64
      go_wp2_with fail
      go_ret
      exact ⟨_, rfl, Below.refl _ _, kids_none _ _ _⟩
    · obtain ⟨_, _, _, _, rfl⟩ := h
      have a_inRow := miss_inRow 92 (by decide) (.agg #[])
      have a_oneOf := miss_oneOf 92 (by decide) (.agg #[])
      have a_anyOften := miss_anyOften 92 (by decide) (.agg #[])
      have a_onceOften := miss_onceOften 92 (by decide) (.agg #[])
      have a_onceMost := miss_onceMost 92 (by decide) (.agg #[])
      go_enter Tryz.func64, Tryz.ntmps64
      go_wp2_with fail
      go_ret
      exact ⟨_, rfl, Below.refl _ _, kids_none _ _ _⟩
    · obtain ⟨_, _, _, _, rfl⟩ := h
      have a_inRow := miss_inRow 104 (by decide) (.agg #[])
      have a_oneOf := miss_oneOf 104 (by decide) (.agg #[])
      have a_anyOften := miss_anyOften 104 (by decide) (.agg #[])
      have a_onceOften := miss_onceOften 104 (by decide) (.agg #[])
      have a_onceMost := miss_onceMost 104 (by decide) (.agg #[])
      go_enter Tryz.func64, Tryz.ntmps64
      go_wp2_with fail
      go_ret
      exact ⟨_, rfl, Below.refl _ _, kids_none _ _ _⟩
  · obtain ⟨T0, x0, rfl⟩ : ∃ T x0, x = .iface T x0 := by
      rcases ks with _ | ⟨k, ks⟩
      · simp only [PatsIs] at hx; simp at hx
      · simp only [PatsIs] at hx
        obtain ⟨y, ys, hy, h1, _⟩ := hx
        simp at hy
        obtain ⟨rfl, _⟩ := hy
        exact pat_iface h1
    rcases h with h | h | h
    · obtain ⟨_, rfl⟩ := h
      have a_inRow := miss_inRow 100 (by decide) (.agg #[.iface T0 x0])
      have a_oneOf := miss_oneOf 100 (by decide) (.agg #[.iface T0 x0])
      have a_anyOften := hit_anyOften (.agg #[.iface T0 x0])
      go_enter Tryz.func64, Tryz.ntmps64
      go_wp2_with fail
      go_ret
      exact ⟨_, rfl, ((Below.refl _ w).alloc (Nat.le_refl _) _).alloc (by simp) _, kids_one hx hS⟩
    · obtain ⟨_, rfl⟩ := h
      have a_inRow := miss_inRow 102 (by decide) (.agg #[.iface T0 x0])
      have a_oneOf := miss_oneOf 102 (by decide) (.agg #[.iface T0 x0])
      have a_anyOften := miss_anyOften 102 (by decide) (.agg #[.iface T0 x0])
      have a_onceOften := hit_onceOften (.agg #[.iface T0 x0])
      go_enter Tryz.func64, Tryz.ntmps64
      go_wp2_with fail
      go_ret
      exact ⟨_, rfl, ((Below.refl _ w).alloc (Nat.le_refl _) _).alloc (by simp) _, kids_one hx hS⟩
    · obtain ⟨_, rfl⟩ := h
      have a_inRow := miss_inRow 103 (by decide) (.agg #[.iface T0 x0])
      have a_oneOf := miss_oneOf 103 (by decide) (.agg #[.iface T0 x0])
      have a_anyOften := miss_anyOften 103 (by decide) (.agg #[.iface T0 x0])
      have a_onceOften := miss_onceOften 103 (by decide) (.agg #[.iface T0 x0])
      have a_onceMost := hit_onceMost (.agg #[.iface T0 x0])
      go_enter Tryz.func64, Tryz.ntmps64
      go_wp2_with fail
      go_ret
      exact ⟨_, rfl, ((Below.refl _ w).alloc (Nat.le_refl _) _).alloc (by simp) _, kids_one hx hS⟩
  · rcases h with h | h
    · obtain ⟨_, rfl⟩ := h
      have a_inRow := hit_inRow (u)
      go_enter Tryz.func64, Tryz.ntmps64
      go_wp2_with fail
      go_ret
      exact ⟨_, rfl, Below.refl _ _, xs, ho, fun g h => .inl (hg g h), hx⟩
    · obtain ⟨_, rfl⟩ := h
      have a_inRow := miss_inRow 98 (by decide) (u)
      have a_oneOf := hit_oneOf (u)
      go_enter Tryz.func64, Tryz.ntmps64
      go_wp2_with fail
      go_ret
      exact ⟨_, rfl, Below.refl _ _, xs, ho, fun g h => .inl (hg g h), hx⟩

theorem pats_at {w : World} : ∀ {ts : List Data} {S : Nat → Prop} {xs : List Value} {i : Nat} {t : Data}, PatsIs w ts S xs → ts[i]? = some t → ∃ x, xs[i]? = some x ∧ PatIs w t S x
  | [], S, xs, i, t, h, hi => by simp at hi
  | t' :: ts, S, xs, 0, t, h, hi => by
    simp only [PatsIs] at h
    obtain ⟨x, ys, rfl, h1, _⟩ := h
    simp at hi
    subst hi
    exact ⟨x, rfl, h1⟩
  | t' :: ts, S, xs, i + 1, t, h, hi => by
    simp only [PatsIs] at h
    obtain ⟨x, ys, rfl, _, h2⟩ := h
    simp at hi
    obtain ⟨y, h3, h4⟩ := pats_at h2 hi
    exact ⟨y, by simpa using h3, h4⟩

theorem deps_take (ts : List Data) : ∀ i t, ts[i]? = some t → deps (ts.take (i + 1)) = max (deps (ts.take i)) (dep t) := by
  induction ts with
  | nil => intro i t h; simp at h
  | cons t' ts ih =>
    intro i t h
    cases i with
    | zero => simp at h; subst h; simp [deps]
    | succ i =>
      simp at h
      have := ih i t h
      simp only [List.take_succ_cons, deps]
      omega

theorem deps_le (ts : List Data) : ∀ i, deps (ts.take i) ≤ deps ts := by
  induction ts with
  | nil => intro i; simp
  | cons t' ts ih => intro i; cases i with
    | zero => simp [deps]
    | succ i => have := ih i; simp [deps]; omega

theorem dep_cnt : ∀ t : Data, dep t ≤ cnt t := by
  intro t
  induction t using rex_ind with
  | h ks lab ih =>
    have : ∀ l : List Data, (∀ t ∈ l, dep t ≤ cnt t) → deps l ≤ cnts l := by
      intro l
      induction l with
      | nil => intro _; simp [deps]
      | cons a l ihl =>
        intro h
        have h1 := h a (by simp)
        have h2 := ihl (fun t ht => h t (by simp [ht]))
        simp [deps, cnts]; omega
    have := this ks ih
    simp [dep, cnt]; omega
  | h1 t ht => cases t <;> simp_all [dep, cnt]

end Rx
end Go.Proofs.YtgdnlmaacnnfiaaGreatDoor

