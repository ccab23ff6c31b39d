/-
  Whole patterns of chapter 3: parts, whole.
  The kids of a pattern; how deep it is.
-/
import Derived.Test.YtkhoccjfkkfipaaGreatDoorP32
namespace Go.Proofs.YtkhoccjfkkfipaaGreatDoor
open Go.RowKit
namespace Rx

theorem patLoop_step (g : Nat → Nat) (N : Nat) (A : Nat → Option (Data × Nat)) (f i : Nat) (ts : List Data) : patLoop g N A (f + 1) i ts = if g i = 124 then (match partAt g N A (i + 1) with
      | none => none
      | some (t, j) => patLoop g N A f j (ts ++ [t])) else some (ts, i) := rfl

/-- A list of one. -/
theorem pats_single {w1 : World} {B : Nat} {t : Data} {v : Value} (hv : PatIs w1 t (Iv B w1.heap.size) v) (hB : B ≤ w1.heap.size) : Pats (w1.alloc (.cells #[v] 179)) B [t] (.slice (some ⟨w1.heap.size, 0, none⟩) 1 1) := by
  refine ⟨[v], Iv B w1.heap.size, ⟨rfl, .inr ⟨w1.heap.size, 1, #[v], rfl, hB, heap_alloc_last w1 _, Nat.le_refl _, by decide, rfl, rfl⟩⟩, ?_, ?_⟩
  · simp only [PatsIs]
    exact ⟨v, [], rfl, pat_frame (fun k hk => Below.heap_alloc _ _ _ hk.2) (fun _ h => h) t v hv, rfl⟩
  · intro k hk
    have := hk.2
    exact ⟨hk.1, by simp; omega, by simp [Value.ownBlock]; omega⟩

theorem iParts {p : Nat} {s : ByteArray} {a : Addr} {m : Nat} {A : Nat → Option (Data × Nat)} (hs : s.size ≤ 1000) (hin : ∀ i t j, partAt (gOf s) s.size A i = some (t, j) → i ≤ j ∧ (i ≤ s.size → j ≤ s.size))
    (hA : Parses 165 p s a m (partAt (gOf s) s.size A)) : Parses 151 p s a m (patAt (gOf s) s.size A) := by
  intro i w h hi hm
  obtain ⟨R, hR⟩ : ∃ R, R = patAt (gOf s) s.size A i := ⟨_, rfl⟩
  rw [← hR]
  unfold patAt at hR
  have hpw := h.lt
  have hew := h.elt
  rcases hq : partAt (gOf s) s.size A i with _ | ⟨t0, j0⟩
  · rw [hq] at hR
    have HR : Hid (R = none) := hR
    clear hR
    go_enter Tryz.func151, Tryz.ntmps151
    go_wp2_with (go_at_call 165; refine (hA i w h hi hm).mono ?_; intro e w1 h1; obtain ⟨rfl, hg1⟩ := reads_none h1 hq)
    refine ⟨rfl, ?_⟩
    rw [HR.out]
    exact ⟨rfl, hg1⟩
  rw [hq] at hR
  obtain ⟨j1, j2⟩ := hin i t0 j0 hq
  have j2 := j2 hi
  obtain ⟨RS, hRS⟩ : ∃ RS, patLoop (gOf s) s.size A (s.size + 1) j0 [t0] = RS := ⟨_, rfl⟩
  have HL : Hid (patLoop (gOf s) s.size A (s.size + 1) j0 [t0] = RS) := hRS
  have HR : Hid (R = patEnd RS) := by show _ = _; rw [hR, ← hRS]
  clear hR hRS
  obtain ⟨i0, hi0, hz0, hz1, hz2⟩ := info_parts Tryz.info179r
  go_enter Tryz.func151, Tryz.ntmps151
  go_wp2_with (go_at_call 165; refine (hA i w h hi hm).mono ?_; intro e w1 h1; obtain ⟨v0, rfl, hv0, h2, hg1⟩ := reads_some h1 hq; obtain ⟨T0, x0, rfl⟩ := pat_iface hv0)
  have hP0 := pats_single hv0 hg1.size
  have hr0 : Rd p s a j0 (w1.alloc (.cells #[.iface T0 x0] 179)) := h2.grown (World.grownBy_alloc _ _ none) (by simp) (by simp)
  go_loopw [3] (fun v wr => ∃ k ts f, Rd p s a k wr ∧ m ≤ k ∧ k ≤ s.size ∧ 1 ≤ ts.length ∧ ts.length ≤ k + 1 ∧ Pats wr w.heap.size ts v ∧ s.size < f + k ∧ patLoop (gOf s) s.size A f k ts = RS ∧ w.grownBy wr (some p)) (fun _ wr => s.size - posOf p wr)
  case atStart => exact ⟨j0, [t0], s.size + 1, hr0, by omega, j2, by simp, by simp, hP0, by omega, HL.out, hg1.trans (World.grownBy_alloc _ _ _)⟩
  case round =>
    clear h HL hi hm hP0 hr0 h1 hv0 h2 hg1
    obtain ⟨k, ts, f, hr, hmk, hk, hlen1, hlen, hPs, hf, hR, hg⟩ := hrel
    obtain ⟨f, rfl⟩ : ∃ f', f = f' + 1 := ⟨f - 1, by omega⟩
    rw [patLoop_step] at hR
    have HP : Hid (posOf p wr = k) := posOf_is hr
    by_cases hor : gOf s k = 124
    · rw [if_pos hor] at hR
      have hkl := in_of (s := s) (i := k) (by omega)
      have e1 : decide (gOf s k = 124) = true := decide_eq_true hor
      rcases hq2 : partAt (gOf s) s.size A (k + 1) with _ | ⟨t, j⟩
      · rw [hq2] at hR
        have HR2 : Hid (R = none) := by show _ = _; rw [HR.out, ← hR]; rfl
        clear hR HR hPs
        go_wp2_with (first | (go_at_call 166; refine (iTakeIfC hr hk hs 124 124 (by omega) (by omega)).mono ?_; rintro e wa ⟨rfl, ha, ga⟩; rw [if_pos hor] at ha) | (go_at_call 165; refine (hA (k + 1) _ ha (by omega) (by omega)).mono ?_; intro e w2 h1; obtain ⟨rfl, hg1⟩ := reads_none h1 hq2))
        refine ⟨rfl, ?_⟩
        rw [HR2.out]
        exact ⟨rfl, (hg.trans ga).trans hg1⟩
      · rw [hq2] at hR
        have HR2 : Hid (patLoop (gOf s) s.size A f j (ts ++ [t]) = RS) := hR
        obtain ⟨k1, k2⟩ := hin (k + 1) t j hq2
        have k2 := k2 hkl
        obtain ⟨xs, S, hown, hps, hS⟩ := hPs
        have hsz := hg.size
        have hl1 : (ts.length : Int) ≤ 1001 := by omega
        clear hR HR hlen1
        go_wp2_with (first | (go_at_call 166; refine (iTakeIfC hr hk hs 124 124 (by omega) (by omega)).mono ?_; rintro e wa ⟨rfl, ha, ga⟩; rw [if_pos hor] at ha) | (go_at_call 165; refine (hA (k + 1) _ ha (by omega) (by omega)).mono ?_; intro e w2 h1; obtain ⟨v1, rfl, hv1, h2, hg1⟩ := reads_some h1 hq2; obtain ⟨T1, x1, rfl⟩ := pat_iface hv1; have hown1 := owns_grown hown (ga.trans hg1) hpw; have hsz1 := (ga.trans hg1).size) | (at_builtin; refine wpList_append_own_at _ rfl _ _ 219 rfl w.heap.size 179 i0 .nilIface 1 16 Tryz.underlying219 hi0 hz0 hz1 hz2 rfl (by decide) _ _ _ rfl (hown1.alloc _) ⟨w2.heap.size, 0, none⟩ 1 1 [.iface T1 x1] rfl rfl (cell_one_new _ _ _) (by simp [Value.oneCell']) (by unfold maxLen; omega) (by omega) (by simp; omega) ?_; intro v' w3 hown3 hgr3 _ hb3))
        have hg1' := ga.trans hg1
        have hown0 : ∀ b, (Value.ownBlock u3) = some b → w.heap.size ≤ b := fun b hb => (hown.lt b hb).1
        have hr3 : Rd p s a j w3 := (h2.grown (World.grownBy_alloc _ _ none) (by simp) (by simp)).grown hgr3 (fun e => by have := hown0 _ e; omega) (fun e => by have := hown0 _ e; omega)
        have hv1' : PatIs w2 t (Iv wr.heap.size w2.heap.size) (.iface T1 x1) := pat_frame (fun _ _ => rfl) (fun b hb => ⟨Nat.le_trans ga.size hb.1, hb.2⟩) t _ hv1
        go_roundw
        case rel => exact ⟨j, ts ++ [t], f, hr3, by omega, k2, by simp, by simp; omega, pats_append hown hps hS hsz hpw hg1' hv1' hown3 hgr3 hb3, by omega, HR2.out, grown_own (hg.trans (hg1'.trans (World.grownBy_alloc _ _ _))) hgr3 hown0⟩
        case measure => rw [HP.out, posOf_is hr3]; omega
    · rw [if_neg hor] at hR
      have HR2 : Hid (R = some (orOf ts, k)) := by show _ = _; rw [HR.out, ← hR]; rfl
      have e1 : decide (gOf s k = 124) = false := decide_eq_false hor
      clear hR HR
      rcases ts with _ | ⟨t1, _ | ⟨t2, ts⟩⟩
      · simp at hlen1
      · obtain ⟨ao, cap, rfl⟩ := pats_len' hPs
        obtain ⟨x, b, hx, hb, hc⟩ := pats_head hPs
        have hao := ao_of hPs hb
        subst hao
        have hbb : w.heap.size ≤ b := by
          obtain ⟨xs, S, hown, _⟩ := hPs
          exact (hown.lt b hb).1
        clear hPs hlen1 hlen
        go_wp2_with (go_at_call 166; refine (iTakeIfC hr hk hs 124 124 (by omega) (by omega)).mono ?_; rintro e wa ⟨rfl, ha, ga⟩; rw [if_neg hor] at ha; have hc2 := ga.cell hc (by simp; omega))
        go_ret
        rw [HR2.out]
        exact ⟨_, rfl, pat_grown hx ga hpw (Nat.le_refl _) (Nat.le_refl _) ga.size, ha, hg.trans ga⟩
      · obtain ⟨ao, cap, rfl⟩ := pats_len' hPs
        have hx := (pats_pat hPs).2
        obtain ⟨n, hn⟩ : ∃ n, n = (t1 :: t2 :: ts).length := ⟨_, rfl⟩
        rw [← hn] at hx ⊢
        have n1 : ((n : Int) == 1) = false := by rw [hn]; simp; omega
        clear hn hlen hlen1 hPs
        go_wp2_with (go_at_call 166; refine (iTakeIfC hr hk hs 124 124 (by omega) (by omega)).mono ?_; rintro e wa ⟨rfl, ha, ga⟩; rw [if_neg hor] at ha)
        go_ret
        rw [HR2.out]
        exact ⟨_, rfl, pat_grown hx ga hpw (Nat.le_refl _) (Nat.le_refl _) ga.size, ha, hg.trans ga⟩

/-- Brackets as deep as there is room for. -/
theorem iPat {p : Nat} {s : ByteArray} {a : Addr} (hs : s.size ≤ 1000) : ∀ n, Parses 151 p s a (s.size + 1 - n) (patN (gOf s) s.size n) := by
  intro n
  induction n with
  | zero => intro i w _ hi hm; omega
  | succ n ih =>
    have hAn := atomN_in (g := gOf s) (N := s.size) gOf_end (n + 1)
    have hpn := fun i t j (h : patN (gOf s) s.size n i = some (t, j)) => patN_in (g := gOf s) gOf_end h
    have h1 : Parses 181 p s a (s.size + 1 - (n + 1)) (atomN (gOf s) s.size (n + 1)) := by
      refine iAtom hs hpn ?_
      intro i w h hi hm
      exact ih i w h hi (by omega)
    have h2 := iPiece hs hAn h1
    have h3 := iPart hs (fun i t j h => pieceAt_in gOf_end hAn h) h2
    exact iParts hs (fun i t j h => partAt_in gOf_end hAn h) h3

/-- The whole text. -/
def endOf (s : ByteArray) (r : Option (Data × Nat)) : Option (Data × Nat) := match r with
  | none => none
  | some (t, j) => if j = s.size then some (t, j) else none

theorem iWhole {p : Nat} {s : ByteArray} {a : Addr} {w : World} (hs : s.size ≤ 1000) (h : Rd p s a 0 w) (n : Nat) (hn : s.size < n) :
    Calls Tryz.prog 130 #[.pointer (some ⟨p, 0, none⟩)] w fun e w' => Reads p s a w (endOf s (patN (gOf s) s.size n 0)) e w' := by
  obtain ⟨R, hR⟩ : ∃ R, R = endOf s (patN (gOf s) s.size n 0) := ⟨_, rfl⟩
  rw [← hR]
  unfold endOf at hR
  rcases hq : patN (gOf s) s.size n 0 with _ | ⟨t, j⟩
  · rw [hq] at hR
    have HR : Hid (R = none) := hR
    clear hR
    go_enter Tryz.func130, Tryz.ntmps130
    go_wp2_with (go_at_call 151; refine (iPat hs n 0 w h (by omega) (by omega)).mono ?_; intro e w1 h1; obtain ⟨rfl, hg1⟩ := reads_none h1 hq)
    refine ⟨rfl, ?_⟩
    rw [HR.out]
    exact ⟨rfl, hg1⟩
  · rw [hq] at hR
    have hj := (patN_in (g := gOf s) gOf_end hq).2 (by omega)
    by_cases he : j = s.size
    · have HR : Hid (R = some (t, j)) := by show _ = _; rw [hR]; simp [he]
      have e1 : decide (gOf s j = 256) = true := decide_eq_true (gOf_out (by omega))
      clear hR he
      go_enter Tryz.func130, Tryz.ntmps130
      go_wp2_with (first | (go_at_call 151; refine (iPat hs n 0 w h (by omega) (by omega)).mono ?_; intro e w1 h1; obtain ⟨v, rfl, hv, h2, hg1⟩ := reads_some h1 hq) | (go_at_call 152; refine (iAtEnd h2 hj).mono ?_; rintro e wa ⟨rfl, na, rfl⟩))
      go_ret
      rw [HR.out]
      exact ⟨_, rfl, pat_same hv rfl, h2.drewN _, grown_drewN hg1 _⟩
    · have HR : Hid (R = none) := by show _ = _; rw [hR]; simp [he]
      have e1 : decide (gOf s j = 256) = false := decide_eq_false (by have := gOf_lt (s := s) (i := j) (by omega); omega)
      clear hR
      go_enter Tryz.func130, Tryz.ntmps130
      go_wp2_with (first | (go_at_call 151; refine (iPat hs n 0 w h (by omega) (by omega)).mono ?_; intro e w1 h1; obtain ⟨v, rfl, hv, h2, hg1⟩ := reads_some h1 hq; have c2 := h2.err) | (go_at_call 152; refine (iAtEnd h2 hj).mono ?_; rintro e wa ⟨rfl, na, rfl⟩))
      refine ⟨rfl, ?_⟩
      rw [HR.out]
      exact ⟨rfl, grown_drewN hg1 _⟩

end Rx
end Go.Proofs.YtkhoccjfkkfipaaGreatDoor
namespace Go.Proofs.YtkhoccjfkkfipaaGreatDoor
open Go.RowKit
namespace Rx

theorem hit_inRow (x : Value) (w : World) : (Instr.typeAssert (.iface 220 x) 179 220 true).run Tryz.prog w = .ok (.tuple #[x, .bool true]) w := by
  simp [Instr.typeAssert, run_underlying Tryz.underlying220, go_sem, Result.andThen]
theorem miss_inRow (t : Nat) (ht : t ≠ 220) (x : Value) (w : World) : (Instr.typeAssert (.iface t x) 179 220 true).run Tryz.prog w = .ok (.tuple #[.slice none 0 0, .bool false]) w := by
  have hz : (zeroValue 220).run Tryz.prog w = .ok (.slice none 0 0) w := by kernel_rfl
  simp [Instr.typeAssert, run_underlying Tryz.underlying220, go_sem, Result.andThen, ht, hz]
theorem hit_oneOf (x : Value) (w : World) : (Instr.typeAssert (.iface 219 x) 179 219 true).run Tryz.prog w = .ok (.tuple #[x, .bool true]) w := by
  simp [Instr.typeAssert, run_underlying Tryz.underlying219, go_sem, Result.andThen]
theorem miss_oneOf (t : Nat) (ht : t ≠ 219) (x : Value) (w : World) : (Instr.typeAssert (.iface t x) 179 219 true).run Tryz.prog w = .ok (.tuple #[.slice none 0 0, .bool false]) w := by
  have hz : (zeroValue 219).run Tryz.prog w = .ok (.slice none 0 0) w := by kernel_rfl
  simp [Instr.typeAssert, run_underlying Tryz.underlying219, go_sem, Result.andThen, ht, hz]
theorem hit_anyOften (x : Value) (w : World) : (Instr.typeAssert (.iface 222 x) 179 222 true).run Tryz.prog w = .ok (.tuple #[x, .bool true]) w := by
  simp [Instr.typeAssert, run_underlying Tryz.underlying222, go_sem, Result.andThen]
theorem miss_anyOften (t : Nat) (ht : t ≠ 222) (x : Value) (w : World) : (Instr.typeAssert (.iface t x) 179 222 true).run Tryz.prog w = .ok (.tuple #[.agg #[.nilIface], .bool false]) w := by
  have hz : (zeroValue 222).run Tryz.prog w = .ok (.agg #[.nilIface]) w := by kernel_rfl
  simp [Instr.typeAssert, run_underlying Tryz.underlying222, go_sem, Result.andThen, ht, hz]
theorem hit_onceOften (x : Value) (w : World) : (Instr.typeAssert (.iface 223 x) 179 223 true).run Tryz.prog w = .ok (.tuple #[x, .bool true]) w := by
  simp [Instr.typeAssert, run_underlying Tryz.underlying223, go_sem, Result.andThen]
theorem miss_onceOften (t : Nat) (ht : t ≠ 223) (x : Value) (w : World) : (Instr.typeAssert (.iface t x) 179 223 true).run Tryz.prog w = .ok (.tuple #[.agg #[.nilIface], .bool false]) w := by
  have hz : (zeroValue 223).run Tryz.prog w = .ok (.agg #[.nilIface]) w := by kernel_rfl
  simp [Instr.typeAssert, run_underlying Tryz.underlying223, go_sem, Result.andThen, ht, hz]
theorem hit_onceMost (x : Value) (w : World) : (Instr.typeAssert (.iface 224 x) 179 224 true).run Tryz.prog w = .ok (.tuple #[x, .bool true]) w := by
  simp [Instr.typeAssert, run_underlying Tryz.underlying224, go_sem, Result.andThen]
theorem miss_onceMost (t : Nat) (ht : t ≠ 224) (x : Value) (w : World) : (Instr.typeAssert (.iface t x) 179 224 true).run Tryz.prog w = .ok (.tuple #[.agg #[.nilIface], .bool false]) w := by
  have hz : (zeroValue 224).run Tryz.prog w = .ok (.agg #[.nilIface]) w := by kernel_rfl
  simp [Instr.typeAssert, run_underlying Tryz.underlying224, go_sem, Result.andThen, ht, hz]
theorem hit_oneByte (x : Value) (w : World) : (Instr.typeAssert (.iface 202 x) 179 202 true).run Tryz.prog w = .ok (.tuple #[x, .bool true]) w := by
  simp [Instr.typeAssert, run_underlying Tryz.underlying202, go_sem, Result.andThen]
theorem miss_oneByte (t : Nat) (ht : t ≠ 202) (x : Value) (w : World) : (Instr.typeAssert (.iface t x) 179 202 true).run Tryz.prog w = .ok (.tuple #[.int .u8 0, .bool false]) w := by
  have hz : (zeroValue 202).run Tryz.prog w = .ok (.int .u8 0) w := by kernel_rfl
  simp [Instr.typeAssert, run_underlying Tryz.underlying202, go_sem, Result.andThen, ht, hz]
theorem hit_byteSet (x : Value) (w : World) : (Instr.typeAssert (.iface 204 x) 179 204 true).run Tryz.prog w = .ok (.tuple #[x, .bool true]) w := by
  simp [Instr.typeAssert, run_underlying Tryz.underlying204, go_sem, Result.andThen]
theorem miss_byteSet (t : Nat) (ht : t ≠ 204) (x : Value) (w : World) : (Instr.typeAssert (.iface t x) 179 204 true).run Tryz.prog w = .ok (.tuple #[.agg #[.string ⟨#[]⟩, .bool false], .bool false]) w := by
  have hz : (zeroValue 204).run Tryz.prog w = .ok (.agg #[.string ⟨#[]⟩, .bool false]) w := by kernel_rfl
  simp [Instr.typeAssert, run_underlying Tryz.underlying204, go_sem, Result.andThen, ht, hz]

/-- The kids' slice. -/
def KidsAre (N : Nat) (w : World) (ks : List Data) (S : Nat → Prop) (u : Value) : Prop := ∃ xs, w.ownsRow 0 179 1 u ks.length xs ∧ (∀ g, u.ownBlock = some g → S g ∨ N ≤ g) ∧ PatsIs w ks S xs

theorem owns_slice {w : World} {B e size n : Nat} {v : Value} {xs : List Value} (ho : w.ownsRow B e size v n xs) : ∃ ao cap, v = .slice ao n cap := by
  rcases ho.2 with ⟨rfl, hn⟩ | ⟨g, cap, cur, rfl, _⟩
  · rw [hn]; exact ⟨_, _, rfl⟩
  · exact ⟨_, _, rfl⟩

theorem owns_at {w : World} {B e n k cap : Nat} {ao : Option Addr} {xs : List Value} {x : Value} (ho : w.ownsRow B e 1 (.slice ao n cap) n xs) (hk : k < n) (hx : xs[k]? = some x) : ∃ g, ao = some ⟨g, 0, none⟩ ∧ g < w.heap.size ∧ w.cell? ⟨g, k, none⟩ = some x := by
  rcases ho.2 with ⟨h, hn⟩ | ⟨g, cap', cur, h, _⟩
  · omega
  · simp only [Value.slice.injEq] at h
    obtain ⟨rfl, _, rfl⟩ := h
    have := ho.cells (g := g) rfl k x hx
    refine ⟨g, rfl, (ho.lt g rfl).2, ?_⟩
    have hadd : (⟨g, 0, none⟩ : Addr).add k = ⟨g, k, none⟩ := by unfold Addr.add; split <;> simp_all
    rw [← hadd]
    exact this

theorem kids_none (N : Nat) (w : World) (S : Nat → Prop) : KidsAre N w [] S (.slice none 0 0) := ⟨[], World.ownsRow_nil _ _ _ _, fun g h => by simp [Value.ownBlock] at h, by simp only [PatsIs]⟩

theorem kids_one {w : World} {ks : List Data} {S : Nat → Prop} {x : Value} {o : Obj} (hx : PatsIs w ks S [x]) (hS : ∀ k, S k → k < w.heap.size) :
    KidsAre w.heap.size ((w.alloc o).alloc (.cells #[x] 179)) ks S (.slice (some ⟨w.heap.size + 1, 0, none⟩) 1 1) := by
  have hsz : (w.alloc o).heap.size = w.heap.size + 1 := by simp
  rw [← hsz]
  have hl := pats_len hx
  simp at hl
  refine ⟨[x], ?_, fun g hg => ?_, pats_frame (fun k hk => ?_) (fun _ h => h) hx⟩
  · rw [← hl]
    exact ⟨rfl, .inr ⟨_, 1, #[x], rfl, Nat.zero_le _, heap_alloc_last _ _, Nat.le_refl _, by decide, rfl, rfl⟩⟩
  · simp only [Value.ownBlock, Option.some.injEq] at hg
    subst hg
    exact .inr (by omega)
  · have := hS k hk
    rw [Below.heap_alloc _ _ _ (by simp; omega), Below.heap_alloc _ _ _ this]

theorem iKidsOf {w : World} {op c : Nat} {s : List UInt8} {no : Bool} {ks : List Data} {S : Nat → Prop} {v : Value} (h : PatIs w (nd op c s no ks) S v) (hS : ∀ k, S k → k < w.heap.size) :
    Calls Tryz.prog 153 #[v] w fun e w' => ∃ u, e = .returned u ∧ Below w.heap.size w w' ∧ KidsAre w.heap.size w' ks S u := by
  rw [pat_nd] at h
  rcases h with ⟨rfl, h⟩ | ⟨_, _, _, x, hx, h⟩ | ⟨_, _, _, u, xs, ho, hg, hx, h⟩
  · rcases h with h | h | h | h | h | h
    · obtain ⟨_, _, _, _, rfl⟩ := h
      have a_inRow := miss_inRow 202 (by decide) (.int .u8 c)
      have a_oneOf := miss_oneOf 202 (by decide) (.int .u8 c)
      have a_anyOften := miss_anyOften 202 (by decide) (.int .u8 c)
      have a_onceOften := miss_onceOften 202 (by decide) (.int .u8 c)
      have a_onceMost := miss_onceMost 202 (by decide) (.int .u8 c)
      go_enter Tryz.func153, Tryz.ntmps153
      go_wp2_with fail
      go_ret
      exact ⟨_, rfl, Below.refl _ _, kids_none _ _ _⟩
    · obtain ⟨_, _, _, _, rfl⟩ := h
      have a_inRow := miss_inRow 259 (by decide) (.agg #[])
      have a_oneOf := miss_oneOf 259 (by decide) (.agg #[])
      have a_anyOften := miss_anyOften 259 (by decide) (.agg #[])
      have a_onceOften := miss_onceOften 259 (by decide) (.agg #[])
      have a_onceMost := miss_onceMost 259 (by decide) (.agg #[])
      go_enter Tryz.func153, Tryz.ntmps153
      go_wp2_with fail
      go_ret
      exact ⟨_, rfl, Below.refl _ _, kids_none _ _ _⟩
    · obtain ⟨_, _, rfl⟩ := h
      have a_inRow := miss_inRow 204 (by decide) (.agg #[.string ⟨s.toArray⟩, .bool no])
      have a_oneOf := miss_oneOf 204 (by decide) (.agg #[.string ⟨s.toArray⟩, .bool no])
      have a_anyOften := miss_anyOften 204 (by decide) (.agg #[.string ⟨s.toArray⟩, .bool no])
      have a_onceOften := miss_onceOften 204 (by decide) (.agg #[.string ⟨s.toArray⟩, .bool no])
      have a_onceMost := miss_onceMost 204 (by decide) (.agg #[.string ⟨s.toArray⟩, .bool no])
      go_enter Tryz.func153, Tryz.ntmps153
      go_wp2_with fail
      go_ret
      exact ⟨_, rfl, Below.refl _ _, kids_none _ _ _⟩
    · obtain ⟨_, _, _, _, rfl⟩ := h
      have a_inRow := miss_inRow 260 (by decide) (.agg #[])
      have a_oneOf := miss_oneOf 260 (by decide) (.agg #[])
      have a_anyOften := miss_anyOften 260 (by decide) (.agg #[])
      have a_onceOften := miss_onceOften 260 (by decide) (.agg #[])
      have a_onceMost := miss_onceMost 260 (by decide) (.agg #[])
      go_enter Tryz.func153, Tryz.ntmps153
      go_wp2_with fail
      go_ret
      exact ⟨_, rfl, Below.refl _ _, kids_none _ _ _⟩
    · obtain ⟨_, _, _, _, rfl⟩ := h
      have a_inRow := miss_inRow 261 (by decide) (.agg #[])
      have a_oneOf := miss_oneOf 261 (by decide) (.agg #[])
      have a_anyOften := miss_anyOften 261 (by decide) (.agg #[])
      have a_onceOften := miss_onceOften 261 (by decide) (.agg #[])
      have a_onceMost := miss_onceMost 261 (by decide) (.agg #[])
      go_enter Tryz.func153, Tryz.ntmps153
      go_wp2_with fail
      go_ret
      exact ⟨_, rfl, Below.refl _ _, kids_none _ _ _⟩
    · obtain ⟨_, _, _, _, rfl⟩ := h
      have a_inRow := miss_inRow 244 (by decide) (.agg #[])
      have a_oneOf := miss_oneOf 244 (by decide) (.agg #[])
      have a_anyOften := miss_anyOften 244 (by decide) (.agg #[])
      have a_onceOften := miss_onceOften 244 (by decide) (.agg #[])
      have a_onceMost := miss_onceMost 244 (by decide) (.agg #[])
      go_enter Tryz.func153, Tryz.ntmps153
      go_wp2_with fail
      go_ret
      exact ⟨_, rfl, Below.refl _ _, kids_none _ _ _⟩
  · obtain ⟨T0, x0, rfl⟩ : ∃ T x0, x = .iface T x0 := by
      rcases ks with _ | ⟨k, ks⟩
      · simp only [PatsIs] at hx; simp at hx
      · simp only [PatsIs] at hx
        obtain ⟨y, ys, hy, h1, _⟩ := hx
        simp at hy
        obtain ⟨rfl, _⟩ := hy
        exact pat_iface h1
    rcases h with h | h | h
    · obtain ⟨_, rfl⟩ := h
      have a_inRow := miss_inRow 222 (by decide) (.agg #[.iface T0 x0])
      have a_oneOf := miss_oneOf 222 (by decide) (.agg #[.iface T0 x0])
      have a_anyOften := hit_anyOften (.agg #[.iface T0 x0])
      go_enter Tryz.func153, Tryz.ntmps153
      go_wp2_with fail
      go_ret
      exact ⟨_, rfl, ((Below.refl _ w).alloc (Nat.le_refl _) _).alloc (by simp) _, kids_one hx hS⟩
    · obtain ⟨_, rfl⟩ := h
      have a_inRow := miss_inRow 223 (by decide) (.agg #[.iface T0 x0])
      have a_oneOf := miss_oneOf 223 (by decide) (.agg #[.iface T0 x0])
      have a_anyOften := miss_anyOften 223 (by decide) (.agg #[.iface T0 x0])
      have a_onceOften := hit_onceOften (.agg #[.iface T0 x0])
      go_enter Tryz.func153, Tryz.ntmps153
      go_wp2_with fail
      go_ret
      exact ⟨_, rfl, ((Below.refl _ w).alloc (Nat.le_refl _) _).alloc (by simp) _, kids_one hx hS⟩
    · obtain ⟨_, rfl⟩ := h
      have a_inRow := miss_inRow 224 (by decide) (.agg #[.iface T0 x0])
      have a_oneOf := miss_oneOf 224 (by decide) (.agg #[.iface T0 x0])
      have a_anyOften := miss_anyOften 224 (by decide) (.agg #[.iface T0 x0])
      have a_onceOften := miss_onceOften 224 (by decide) (.agg #[.iface T0 x0])
      have a_onceMost := hit_onceMost (.agg #[.iface T0 x0])
      go_enter Tryz.func153, Tryz.ntmps153
      go_wp2_with fail
      go_ret
      exact ⟨_, rfl, ((Below.refl _ w).alloc (Nat.le_refl _) _).alloc (by simp) _, kids_one hx hS⟩
  · rcases h with h | h
    · obtain ⟨_, rfl⟩ := h
      have a_inRow := hit_inRow (u)
      go_enter Tryz.func153, Tryz.ntmps153
      go_wp2_with fail
      go_ret
      exact ⟨_, rfl, Below.refl _ _, xs, ho, fun g h => .inl (hg g h), hx⟩
    · obtain ⟨_, rfl⟩ := h
      have a_inRow := miss_inRow 219 (by decide) (u)
      have a_oneOf := hit_oneOf (u)
      go_enter Tryz.func153, Tryz.ntmps153
      go_wp2_with fail
      go_ret
      exact ⟨_, rfl, Below.refl _ _, xs, ho, fun g h => .inl (hg g h), hx⟩

theorem pats_at {w : World} : ∀ {ts : List Data} {S : Nat → Prop} {xs : List Value} {i : Nat} {t : Data}, PatsIs w ts S xs → ts[i]? = some t → ∃ x, xs[i]? = some x ∧ PatIs w t S x
  | [], S, xs, i, t, h, hi => by simp at hi
  | t' :: ts, S, xs, 0, t, h, hi => by
    simp only [PatsIs] at h
    obtain ⟨x, ys, rfl, h1, _⟩ := h
    simp at hi
    subst hi
    exact ⟨x, rfl, h1⟩
  | t' :: ts, S, xs, i + 1, t, h, hi => by
    simp only [PatsIs] at h
    obtain ⟨x, ys, rfl, _, h2⟩ := h
    simp at hi
    obtain ⟨y, h3, h4⟩ := pats_at h2 hi
    exact ⟨y, by simpa using h3, h4⟩

theorem deps_take (ts : List Data) : ∀ i t, ts[i]? = some t → deps (ts.take (i + 1)) = max (deps (ts.take i)) (dep t) := by
  induction ts with
  | nil => intro i t h; simp at h
  | cons t' ts ih =>
    intro i t h
    cases i with
    | zero => simp at h; subst h; simp [deps]
    | succ i =>
      simp at h
      have := ih i t h
      simp only [List.take_succ_cons, deps]
      omega

theorem deps_le (ts : List Data) : ∀ i, deps (ts.take i) ≤ deps ts := by
  induction ts with
  | nil => intro i; simp
  | cons t' ts ih => intro i; cases i with
    | zero => simp [deps]
    | succ i => have := ih i; simp [deps]; omega

theorem dep_cnt : ∀ t : Data, dep t ≤ cnt t := by
  intro t
  induction t using rex_ind with
  | h ks lab ih =>
    have : ∀ l : List Data, (∀ t ∈ l, dep t ≤ cnt t) → deps l ≤ cnts l := by
      intro l
      induction l with
      | nil => intro _; simp [deps]
      | cons a l ihl =>
        intro h
        have h1 := h a (by simp)
        have h2 := ihl (fun t ht => h t (by simp [ht]))
        simp [deps, cnts]; omega
    have := this ks ih
    simp [dep, cnt]; omega
  | h1 t ht => cases t <;> simp_all [dep, cnt]

/-- How deep a pattern is. -/
theorem iDepthOf : ∀ (d : Nat) (t : Data) (S : Nat → Prop) (v : Value) (w : World), dep t ≤ d → cnt t ≤ 100000 → PatIs w t S v → (∀ k, S k → k < w.heap.size) →
    Calls Tryz.prog 131 #[v] w fun e w' => e = .returned (.int .i64 (dep t)) ∧ Below w.heap.size w w' := by
  intro d
  induction d with
  | zero => intro t S v w hd _ h; obtain ⟨op, c, s, no, ks, rfl⟩ := pat_node h; rw [dep_nd] at hd; omega
  | succ d ih =>
    intro t S v w hd hc h hS
    obtain ⟨op, c, s, no, ks, rfl⟩ := pat_node h
    rw [dep_nd] at hd ⊢
    rw [cnt_nd] at hc
    have hkl := cnts_len ks
    have hdc : deps ks ≤ 100000 := by have := dep_cnt (nd op c s no ks); rw [dep_nd, cnt_nd] at this; omega
    have HD : Hid (deps (ks.take ks.length) = deps ks) := by show _ = _; rw [List.take_length]
    have HI := fun i => deps_le ks i
    go_enter Tryz.func131, Tryz.ntmps131
    go_wp2_with (go_at_call 153; refine (iKidsOf h hS).mono ?_; rintro e w1 ⟨u, rfl, hb1, xs, ho, hu, hx⟩; obtain ⟨ao, cap, rfl⟩ := owns_slice ho)
    go_loopw [3, 9] (fun mo i wr => ∃ k : Nat, k ≤ ks.length ∧ i = .int .i64 k ∧ mo = .int .i64 (deps (ks.take k)) ∧ Below w.heap.size w wr ∧ Below w1.heap.size w1 wr) (fun _ i _ => ks.length - (intOf i).toNat)
    case atStart => exact ⟨0, Nat.zero_le _, rfl, rfl, hb1, Below.refl _ _⟩
    case round =>
      obtain ⟨k, hk, rfl, rfl, hb2, hb3⟩ := hrel
      by_cases hkl2 : k < ks.length
      · have hki : ks[k]? = some ks[k] := List.getElem?_eq_getElem hkl2
        obtain ⟨x, hx1, hx2⟩ := pats_at hx hki
        obtain ⟨g, rfl, hgl, hcell⟩ := owns_at ho hkl2 hx1
        have hcell2 := (hb3.cell (p := ⟨g, k, none⟩) hgl).trans hcell
        have hm : ks[k] ∈ ks := List.getElem_mem hkl2
        have d1 := deps_mem hm
        have d2 := cnts_mem hm
        have HT := deps_take ks k ks[k] hki
        have hS1 : ∀ b, S b → b < w1.heap.size := fun b hb => Nat.lt_of_lt_of_le (hS b hb) hb1.size
        have hx3 : PatIs wr ks[k] S x := pat_frame (fun b hb => hb3.block b (hS1 b hb)) (fun _ h => h) _ _ hx2
        have hd1 : (dep ks[k] : Int) ≤ 100000 := by omega
        have hi1 := HI k
        have hi2 : (deps (ks.take k) : Int) ≤ 100000 := by omega
        have call := ih ks[k] S x wr (by omega) (by omega) hx3 (fun b hb => Nat.lt_of_lt_of_le (hS1 b hb) hb3.size)
        have HT2 : Hid (deps (ks.take (k + 1)) = max (deps (ks.take k)) (dep ks[k])) := HT
        clear hx hx1 hx2 hx3 hki hm HT HI hi1 ih d1 d2 h
        generalize dep ks[k] = D at *
        generalize deps (ks.take k) = M at *
        go_wp2_with (go_at_call 131; refine call.mono ?_; rintro e w2 ⟨rfl, hb4⟩)
        go_roundw
        case rel =>
          refine ⟨k + 1, by omega, by go_num, ?_, hb2.trans (hb4.mono hb2.size), hb3.trans (hb4.mono hb3.size)⟩
          rw [HT2.out]
          congr 1
          first | omega | (split <;> omega)
        case measure => simp [intOf]; omega
      · obtain rfl : k = ks.length := by omega
        have hi2 := HI ks.length
        have hi3 : (deps (ks.take ks.length) : Int) ≤ 100000 := by omega
        clear HI hi2 ih hx ho h
        go_wp2_with fail
        go_ret
        exact ⟨by rw [← HD.out]; rfl, hb2⟩

end Rx
end Go.Proofs.YtkhoccjfkkfipaaGreatDoor
