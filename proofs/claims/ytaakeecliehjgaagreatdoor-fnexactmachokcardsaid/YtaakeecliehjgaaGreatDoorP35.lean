/-
  The kids of a pattern; how deep it is.
-/
import Derived.Test.YtaakeecliehjgaaGreatDoorP34
namespace Go.Proofs.YtaakeecliehjgaaGreatDoor
open Go.RowKit
namespace Rx

theorem hit_inRow (x : Value) (w : World) : (Instr.typeAssert (.iface 200 x) 159 200 true).run Tryz.prog w = .ok (.tuple #[x, .bool true]) w := by
  simp [Instr.typeAssert, run_underlying Tryz.underlying200, go_sem, Result.andThen]
theorem miss_inRow (t : Nat) (ht : t ≠ 200) (x : Value) (w : World) : (Instr.typeAssert (.iface t x) 159 200 true).run Tryz.prog w = .ok (.tuple #[.slice none 0 0, .bool false]) w := by
  have hz : (zeroValue 200).run Tryz.prog w = .ok (.slice none 0 0) w := by kernel_rfl
  simp [Instr.typeAssert, run_underlying Tryz.underlying200, go_sem, Result.andThen, ht, hz]
theorem hit_oneOf (x : Value) (w : World) : (Instr.typeAssert (.iface 199 x) 159 199 true).run Tryz.prog w = .ok (.tuple #[x, .bool true]) w := by
  simp [Instr.typeAssert, run_underlying Tryz.underlying199, go_sem, Result.andThen]
theorem miss_oneOf (t : Nat) (ht : t ≠ 199) (x : Value) (w : World) : (Instr.typeAssert (.iface t x) 159 199 true).run Tryz.prog w = .ok (.tuple #[.slice none 0 0, .bool false]) w := by
  have hz : (zeroValue 199).run Tryz.prog w = .ok (.slice none 0 0) w := by kernel_rfl
  simp [Instr.typeAssert, run_underlying Tryz.underlying199, go_sem, Result.andThen, ht, hz]
theorem hit_anyOften (x : Value) (w : World) : (Instr.typeAssert (.iface 202 x) 159 202 true).run Tryz.prog w = .ok (.tuple #[x, .bool true]) w := by
  simp [Instr.typeAssert, run_underlying Tryz.underlying202, go_sem, Result.andThen]
theorem miss_anyOften (t : Nat) (ht : t ≠ 202) (x : Value) (w : World) : (Instr.typeAssert (.iface t x) 159 202 true).run Tryz.prog w = .ok (.tuple #[.agg #[.nilIface], .bool false]) w := by
  have hz : (zeroValue 202).run Tryz.prog w = .ok (.agg #[.nilIface]) w := by kernel_rfl
  simp [Instr.typeAssert, run_underlying Tryz.underlying202, go_sem, Result.andThen, ht, hz]
theorem hit_onceOften (x : Value) (w : World) : (Instr.typeAssert (.iface 203 x) 159 203 true).run Tryz.prog w = .ok (.tuple #[x, .bool true]) w := by
  simp [Instr.typeAssert, run_underlying Tryz.underlying203, go_sem, Result.andThen]
theorem miss_onceOften (t : Nat) (ht : t ≠ 203) (x : Value) (w : World) : (Instr.typeAssert (.iface t x) 159 203 true).run Tryz.prog w = .ok (.tuple #[.agg #[.nilIface], .bool false]) w := by
  have hz : (zeroValue 203).run Tryz.prog w = .ok (.agg #[.nilIface]) w := by kernel_rfl
  simp [Instr.typeAssert, run_underlying Tryz.underlying203, go_sem, Result.andThen, ht, hz]
theorem hit_onceMost (x : Value) (w : World) : (Instr.typeAssert (.iface 204 x) 159 204 true).run Tryz.prog w = .ok (.tuple #[x, .bool true]) w := by
  simp [Instr.typeAssert, run_underlying Tryz.underlying204, go_sem, Result.andThen]
theorem miss_onceMost (t : Nat) (ht : t ≠ 204) (x : Value) (w : World) : (Instr.typeAssert (.iface t x) 159 204 true).run Tryz.prog w = .ok (.tuple #[.agg #[.nilIface], .bool false]) w := by
  have hz : (zeroValue 204).run Tryz.prog w = .ok (.agg #[.nilIface]) w := by kernel_rfl
  simp [Instr.typeAssert, run_underlying Tryz.underlying204, go_sem, Result.andThen, ht, hz]
theorem hit_oneByte (x : Value) (w : World) : (Instr.typeAssert (.iface 182 x) 159 182 true).run Tryz.prog w = .ok (.tuple #[x, .bool true]) w := by
  simp [Instr.typeAssert, run_underlying Tryz.underlying182, go_sem, Result.andThen]
theorem miss_oneByte (t : Nat) (ht : t ≠ 182) (x : Value) (w : World) : (Instr.typeAssert (.iface t x) 159 182 true).run Tryz.prog w = .ok (.tuple #[.int .u8 0, .bool false]) w := by
  have hz : (zeroValue 182).run Tryz.prog w = .ok (.int .u8 0) w := by kernel_rfl
  simp [Instr.typeAssert, run_underlying Tryz.underlying182, go_sem, Result.andThen, ht, hz]
theorem hit_byteSet (x : Value) (w : World) : (Instr.typeAssert (.iface 184 x) 159 184 true).run Tryz.prog w = .ok (.tuple #[x, .bool true]) w := by
  simp [Instr.typeAssert, run_underlying Tryz.underlying184, go_sem, Result.andThen]
theorem miss_byteSet (t : Nat) (ht : t ≠ 184) (x : Value) (w : World) : (Instr.typeAssert (.iface t x) 159 184 true).run Tryz.prog w = .ok (.tuple #[.agg #[.string ⟨#[]⟩, .bool false], .bool false]) w := by
  have hz : (zeroValue 184).run Tryz.prog w = .ok (.agg #[.string ⟨#[]⟩, .bool false]) w := by kernel_rfl
  simp [Instr.typeAssert, run_underlying Tryz.underlying184, go_sem, Result.andThen, ht, hz]

/-- The kids' slice. -/
def KidsAre (N : Nat) (w : World) (ks : List Data) (S : Nat → Prop) (u : Value) : Prop := ∃ xs, w.ownsRow 0 159 1 u ks.length xs ∧ (∀ g, u.ownBlock = some g → S g ∨ N ≤ g) ∧ PatsIs w ks S xs

theorem owns_slice {w : World} {B e size n : Nat} {v : Value} {xs : List Value} (ho : w.ownsRow B e size v n xs) : ∃ ao cap, v = .slice ao n cap := by
  rcases ho.2 with ⟨rfl, hn⟩ | ⟨g, cap, cur, rfl, _⟩
  · rw [hn]; exact ⟨_, _, rfl⟩
  · exact ⟨_, _, rfl⟩

theorem owns_at {w : World} {B e n k cap : Nat} {ao : Option Addr} {xs : List Value} {x : Value} (ho : w.ownsRow B e 1 (.slice ao n cap) n xs) (hk : k < n) (hx : xs[k]? = some x) : ∃ g, ao = some ⟨g, 0, none⟩ ∧ g < w.heap.size ∧ w.cell? ⟨g, k, none⟩ = some x := by
  rcases ho.2 with ⟨h, hn⟩ | ⟨g, cap', cur, h, _⟩
  · omega
  · simp only [Value.slice.injEq] at h
    obtain ⟨rfl, _, rfl⟩ := h
    have := ho.cells (g := g) rfl k x hx
    refine ⟨g, rfl, (ho.lt g rfl).2, ?_⟩
    have hadd : (⟨g, 0, none⟩ : Addr).add k = ⟨g, k, none⟩ := by unfold Addr.add; split <;> simp_all
    rw [← hadd]
    exact this

theorem kids_none (N : Nat) (w : World) (S : Nat → Prop) : KidsAre N w [] S (.slice none 0 0) := ⟨[], World.ownsRow_nil _ _ _ _, fun g h => by simp [Value.ownBlock] at h, by simp only [PatsIs]⟩

theorem kids_one {w : World} {ks : List Data} {S : Nat → Prop} {x : Value} {o : Obj} (hx : PatsIs w ks S [x]) (hS : ∀ k, S k → k < w.heap.size) :
    KidsAre w.heap.size ((w.alloc o).alloc (.cells #[x] 159)) ks S (.slice (some ⟨w.heap.size + 1, 0, none⟩) 1 1) := by
  have hsz : (w.alloc o).heap.size = w.heap.size + 1 := by simp
  rw [← hsz]
  have hl := pats_len hx
  simp at hl
  refine ⟨[x], ?_, fun g hg => ?_, pats_frame (fun k hk => ?_) (fun _ h => h) hx⟩
  · rw [← hl]
    exact ⟨rfl, .inr ⟨_, 1, #[x], rfl, Nat.zero_le _, heap_alloc_last _ _, Nat.le_refl _, by decide, rfl, rfl⟩⟩
  · simp only [Value.ownBlock, Option.some.injEq] at hg
    subst hg
    exact .inr (by omega)
  · have := hS k hk
    rw [Below.heap_alloc _ _ _ (by simp; omega), Below.heap_alloc _ _ _ this]

theorem iKidsOf {w : World} {op c : Nat} {s : List UInt8} {no : Bool} {ks : List Data} {S : Nat → Prop} {v : Value} (h : PatIs w (nd op c s no ks) S v) (hS : ∀ k, S k → k < w.heap.size) :
    Calls Tryz.prog 127 #[v] w fun e w' => ∃ u, e = .returned u ∧ Below w.heap.size w w' ∧ KidsAre w.heap.size w' ks S u := by
  rw [pat_nd] at h
  rcases h with ⟨rfl, h⟩ | ⟨_, _, _, x, hx, h⟩ | ⟨_, _, _, u, xs, ho, hg, hx, h⟩
  · rcases h with h | h | h | h | h | h
    · obtain ⟨_, _, _, _, rfl⟩ := h
      have a_inRow := miss_inRow 182 (by decide) (.int .u8 c)
      have a_oneOf := miss_oneOf 182 (by decide) (.int .u8 c)
      have a_anyOften := miss_anyOften 182 (by decide) (.int .u8 c)
      have a_onceOften := miss_onceOften 182 (by decide) (.int .u8 c)
      have a_onceMost := miss_onceMost 182 (by decide) (.int .u8 c)
      go_enter Tryz.func127, Tryz.ntmps127
      go_wp2_with fail
      go_ret
      exact ⟨_, rfl, Below.refl _ _, kids_none _ _ _⟩
    · obtain ⟨_, _, _, _, rfl⟩ := h
      have a_inRow := miss_inRow 239 (by decide) (.agg #[])
      have a_oneOf := miss_oneOf 239 (by decide) (.agg #[])
      have a_anyOften := miss_anyOften 239 (by decide) (.agg #[])
      have a_onceOften := miss_onceOften 239 (by decide) (.agg #[])
      have a_onceMost := miss_onceMost 239 (by decide) (.agg #[])
      go_enter Tryz.func127, Tryz.ntmps127
      go_wp2_with fail
      go_ret
      exact ⟨_, rfl, Below.refl _ _, kids_none _ _ _⟩
    · obtain ⟨_, _, rfl⟩ := h
      have a_inRow := miss_inRow 184 (by decide) (.agg #[.string ⟨s.toArray⟩, .bool no])
      have a_oneOf := miss_oneOf 184 (by decide) (.agg #[.string ⟨s.toArray⟩, .bool no])
      have a_anyOften := miss_anyOften 184 (by decide) (.agg #[.string ⟨s.toArray⟩, .bool no])
      have a_onceOften := miss_onceOften 184 (by decide) (.agg #[.string ⟨s.toArray⟩, .bool no])
      have a_onceMost := miss_onceMost 184 (by decide) (.agg #[.string ⟨s.toArray⟩, .bool no])
      go_enter Tryz.func127, Tryz.ntmps127
      go_wp2_with fail
      go_ret
      exact ⟨_, rfl, Below.refl _ _, kids_none _ _ _⟩
    · obtain ⟨_, _, _, _, rfl⟩ := h
      have a_inRow := miss_inRow 240 (by decide) (.agg #[])
      have a_oneOf := miss_oneOf 240 (by decide) (.agg #[])
      have a_anyOften := miss_anyOften 240 (by decide) (.agg #[])
      have a_onceOften := miss_onceOften 240 (by decide) (.agg #[])
      have a_onceMost := miss_onceMost 240 (by decide) (.agg #[])
      go_enter Tryz.func127, Tryz.ntmps127
      go_wp2_with fail
      go_ret
      exact ⟨_, rfl, Below.refl _ _, kids_none _ _ _⟩
    · obtain ⟨_, _, _, _, rfl⟩ := h
      have a_inRow := miss_inRow 241 (by decide) (.agg #[])
      have a_oneOf := miss_oneOf 241 (by decide) (.agg #[])
      have a_anyOften := miss_anyOften 241 (by decide) (.agg #[])
      have a_onceOften := miss_onceOften 241 (by decide) (.agg #[])
      have a_onceMost := miss_onceMost 241 (by decide) (.agg #[])
      go_enter Tryz.func127, Tryz.ntmps127
      go_wp2_with fail
      go_ret
      exact ⟨_, rfl, Below.refl _ _, kids_none _ _ _⟩
    · obtain ⟨_, _, _, _, rfl⟩ := h
      have a_inRow := miss_inRow 224 (by decide) (.agg #[])
      have a_oneOf := miss_oneOf 224 (by decide) (.agg #[])
      have a_anyOften := miss_anyOften 224 (by decide) (.agg #[])
      have a_onceOften := miss_onceOften 224 (by decide) (.agg #[])
      have a_onceMost := miss_onceMost 224 (by decide) (.agg #[])
      go_enter Tryz.func127, Tryz.ntmps127
      go_wp2_with fail
      go_ret
      exact ⟨_, rfl, Below.refl _ _, kids_none _ _ _⟩
  · obtain ⟨T0, x0, rfl⟩ : ∃ T x0, x = .iface T x0 := by
      rcases ks with _ | ⟨k, ks⟩
      · simp only [PatsIs] at hx; simp at hx
      · simp only [PatsIs] at hx
        obtain ⟨y, ys, hy, h1, _⟩ := hx
        simp at hy
        obtain ⟨rfl, _⟩ := hy
        exact pat_iface h1
    rcases h with h | h | h
    · obtain ⟨_, rfl⟩ := h
      have a_inRow := miss_inRow 202 (by decide) (.agg #[.iface T0 x0])
      have a_oneOf := miss_oneOf 202 (by decide) (.agg #[.iface T0 x0])
      have a_anyOften := hit_anyOften (.agg #[.iface T0 x0])
      go_enter Tryz.func127, Tryz.ntmps127
      go_wp2_with fail
      go_ret
      exact ⟨_, rfl, ((Below.refl _ w).alloc (Nat.le_refl _) _).alloc (by simp) _, kids_one hx hS⟩
    · obtain ⟨_, rfl⟩ := h
      have a_inRow := miss_inRow 203 (by decide) (.agg #[.iface T0 x0])
      have a_oneOf := miss_oneOf 203 (by decide) (.agg #[.iface T0 x0])
      have a_anyOften := miss_anyOften 203 (by decide) (.agg #[.iface T0 x0])
      have a_onceOften := hit_onceOften (.agg #[.iface T0 x0])
      go_enter Tryz.func127, Tryz.ntmps127
      go_wp2_with fail
      go_ret
      exact ⟨_, rfl, ((Below.refl _ w).alloc (Nat.le_refl _) _).alloc (by simp) _, kids_one hx hS⟩
    · obtain ⟨_, rfl⟩ := h
      have a_inRow := miss_inRow 204 (by decide) (.agg #[.iface T0 x0])
      have a_oneOf := miss_oneOf 204 (by decide) (.agg #[.iface T0 x0])
      have a_anyOften := miss_anyOften 204 (by decide) (.agg #[.iface T0 x0])
      have a_onceOften := miss_onceOften 204 (by decide) (.agg #[.iface T0 x0])
      have a_onceMost := hit_onceMost (.agg #[.iface T0 x0])
      go_enter Tryz.func127, Tryz.ntmps127
      go_wp2_with fail
      go_ret
      exact ⟨_, rfl, ((Below.refl _ w).alloc (Nat.le_refl _) _).alloc (by simp) _, kids_one hx hS⟩
  · rcases h with h | h
    · obtain ⟨_, rfl⟩ := h
      have a_inRow := hit_inRow (u)
      go_enter Tryz.func127, Tryz.ntmps127
      go_wp2_with fail
      go_ret
      exact ⟨_, rfl, Below.refl _ _, xs, ho, fun g h => .inl (hg g h), hx⟩
    · obtain ⟨_, rfl⟩ := h
      have a_inRow := miss_inRow 199 (by decide) (u)
      have a_oneOf := hit_oneOf (u)
      go_enter Tryz.func127, Tryz.ntmps127
      go_wp2_with fail
      go_ret
      exact ⟨_, rfl, Below.refl _ _, xs, ho, fun g h => .inl (hg g h), hx⟩

theorem pats_at {w : World} : ∀ {ts : List Data} {S : Nat → Prop} {xs : List Value} {i : Nat} {t : Data}, PatsIs w ts S xs → ts[i]? = some t → ∃ x, xs[i]? = some x ∧ PatIs w t S x
  | [], S, xs, i, t, h, hi => by simp at hi
  | t' :: ts, S, xs, 0, t, h, hi => by
    simp only [PatsIs] at h
    obtain ⟨x, ys, rfl, h1, _⟩ := h
    simp at hi
    subst hi
    exact ⟨x, rfl, h1⟩
  | t' :: ts, S, xs, i + 1, t, h, hi => by
    simp only [PatsIs] at h
    obtain ⟨x, ys, rfl, _, h2⟩ := h
    simp at hi
    obtain ⟨y, h3, h4⟩ := pats_at h2 hi
    exact ⟨y, by simpa using h3, h4⟩

theorem deps_take (ts : List Data) : ∀ i t, ts[i]? = some t → deps (ts.take (i + 1)) = max (deps (ts.take i)) (dep t) := by
  induction ts with
  | nil => intro i t h; simp at h
  | cons t' ts ih =>
    intro i t h
    cases i with
    | zero => simp at h; subst h; simp [deps]
    | succ i =>
      simp at h
      have := ih i t h
      simp only [List.take_succ_cons, deps]
      omega

theorem deps_le (ts : List Data) : ∀ i, deps (ts.take i) ≤ deps ts := by
  induction ts with
  | nil => intro i; simp
  | cons t' ts ih => intro i; cases i with
    | zero => simp [deps]
    | succ i => have := ih i; simp [deps]; omega

theorem dep_cnt : ∀ t : Data, dep t ≤ cnt t := by
  intro t
  induction t using rex_ind with
  | h ks lab ih =>
    have : ∀ l : List Data, (∀ t ∈ l, dep t ≤ cnt t) → deps l ≤ cnts l := by
      intro l
      induction l with
      | nil => intro _; simp [deps]
      | cons a l ihl =>
        intro h
        have h1 := h a (by simp)
        have h2 := ihl (fun t ht => h t (by simp [ht]))
        simp [deps, cnts]; omega
    have := this ks ih
    simp [dep, cnt]; omega
  | h1 t ht => cases t <;> simp_all [dep, cnt]

/-- How deep a pattern is. -/
theorem iDepthOf : ∀ (d : Nat) (t : Data) (S : Nat → Prop) (v : Value) (w : World), dep t ≤ d → cnt t ≤ 100000 → PatIs w t S v → (∀ k, S k → k < w.heap.size) →
    Calls Tryz.prog 105 #[v] w fun e w' => e = .returned (.int .i64 (dep t)) ∧ Below w.heap.size w w' := by
  intro d
  induction d with
  | zero => intro t S v w hd _ h; obtain ⟨op, c, s, no, ks, rfl⟩ := pat_node h; rw [dep_nd] at hd; omega
  | succ d ih =>
    intro t S v w hd hc h hS
    obtain ⟨op, c, s, no, ks, rfl⟩ := pat_node h
    rw [dep_nd] at hd ⊢
    rw [cnt_nd] at hc
    have hkl := cnts_len ks
    have hdc : deps ks ≤ 100000 := by have := dep_cnt (nd op c s no ks); rw [dep_nd, cnt_nd] at this; omega
    have HD : Hid (deps (ks.take ks.length) = deps ks) := by show _ = _; rw [List.take_length]
    have HI := fun i => deps_le ks i
    go_enter Tryz.func105, Tryz.ntmps105
    go_wp2_with (go_at_call 127; refine (iKidsOf h hS).mono ?_; rintro e w1 ⟨u, rfl, hb1, xs, ho, hu, hx⟩; obtain ⟨ao, cap, rfl⟩ := owns_slice ho)
    go_loopw [3, 9] (fun mo i wr => ∃ k : Nat, k ≤ ks.length ∧ i = .int .i64 k ∧ mo = .int .i64 (deps (ks.take k)) ∧ Below w.heap.size w wr ∧ Below w1.heap.size w1 wr) (fun _ i _ => ks.length - (intOf i).toNat)
    case atStart => exact ⟨0, Nat.zero_le _, rfl, rfl, hb1, Below.refl _ _⟩
    case round =>
      obtain ⟨k, hk, rfl, rfl, hb2, hb3⟩ := hrel
      by_cases hkl2 : k < ks.length
      · have hki : ks[k]? = some ks[k] := List.getElem?_eq_getElem hkl2
        obtain ⟨x, hx1, hx2⟩ := pats_at hx hki
        obtain ⟨g, rfl, hgl, hcell⟩ := owns_at ho hkl2 hx1
        have hcell2 := (hb3.cell (p := ⟨g, k, none⟩) hgl).trans hcell
        have hm : ks[k] ∈ ks := List.getElem_mem hkl2
        have d1 := deps_mem hm
        have d2 := cnts_mem hm
        have HT := deps_take ks k ks[k] hki
        have hS1 : ∀ b, S b → b < w1.heap.size := fun b hb => Nat.lt_of_lt_of_le (hS b hb) hb1.size
        have hx3 : PatIs wr ks[k] S x := pat_frame (fun b hb => hb3.block b (hS1 b hb)) (fun _ h => h) _ _ hx2
        have hd1 : (dep ks[k] : Int) ≤ 100000 := by omega
        have hi1 := HI k
        have hi2 : (deps (ks.take k) : Int) ≤ 100000 := by omega
        have call := ih ks[k] S x wr (by omega) (by omega) hx3 (fun b hb => Nat.lt_of_lt_of_le (hS1 b hb) hb3.size)
        have HT2 : Hid (deps (ks.take (k + 1)) = max (deps (ks.take k)) (dep ks[k])) := HT
        clear hx hx1 hx2 hx3 hki hm HT HI hi1 ih d1 d2 h
        generalize dep ks[k] = D at *
        generalize deps (ks.take k) = M at *
        go_wp2_with (go_at_call 105; refine call.mono ?_; rintro e w2 ⟨rfl, hb4⟩)
        go_roundw
        case rel =>
          refine ⟨k + 1, by omega, by go_num, ?_, hb2.trans (hb4.mono hb2.size), hb3.trans (hb4.mono hb3.size)⟩
          rw [HT2.out]
          congr 1
          first | omega | (split <;> omega)
        case measure => simp [intOf]; omega
      · obtain rfl : k = ks.length := by omega
        have hi2 := HI ks.length
        have hi3 : (deps (ks.take ks.length) : Int) ≤ 100000 := by omega
        clear HI hi2 ih hx ho h
        go_wp2_with fail
        go_ret
        exact ⟨by rw [← HD.out]; rfl, hb2⟩

end Rx
end Go.Proofs.YtaakeecliehjgaaGreatDoor
