/-
  The laws' eqRex: two Rex that tell the same.
  The specification's l3Deep.
  The specification's cursor over a pattern: l3Now.
  The specification's parser: how it tells a pattern; an atom of a cursor that is bad already.
-/
import Derived.Test.YtkhoccjfkkfipaaGreatDoorP35
namespace Go.Proofs.YtkhoccjfkkfipaaGreatDoor
open Go.RowKit
namespace Rx

theorem rexs_at {w : World} : ∀ {ts : List Data} {S : Nat → Prop} {xs : List Value} {i : Nat} {t : Data}, RexsIs w ts S xs → ts[i]? = some t → ∃ (S1 : Nat → Prop) (a b c d u : Value), xs[i * 5]? = some a ∧ xs[i * 5 + 1]? = some b ∧ xs[i * 5 + 2]? = some c ∧ xs[i * 5 + 3]? = some d ∧ xs[i * 5 + 4]? = some u ∧ RexIs w t S1 [a, b, c, d, u] ∧ ∀ k, S1 k → S k
  | [], S, xs, i, t, h, hi => by simp at hi
  | t' :: ts, S, xs, 0, t, h, hi => by
    simp only [RexsIs] at h
    obtain ⟨S1, S2, c1, c2, rfl, h1, _, h3, _⟩ := h
    simp at hi
    subst hi
    have hl := rex_len h1
    match c1, hl with
    | [a, b, c, d, u], _ => exact ⟨S1, a, b, c, d, u, by simp, by simp, by simp, by simp, by simp, h1, fun k hk => (h3 k hk).1⟩
  | t' :: ts, S, xs, i + 1, t, h, hi => by
    simp only [RexsIs] at h
    obtain ⟨S1, S2, c1, c2, rfl, h1, h2, _, h4⟩ := h
    simp at hi
    have hl := rex_len h1
    obtain ⟨S3, a, b, c, d, u, e1, e2, e3, e4, e5, h5, h6⟩ := rexs_at h2 hi
    have sh : ∀ j, (c1 ++ c2)[(i + 1) * 5 + j]? = c2[i * 5 + j]? := fun j => by
      rw [List.getElem?_append_right (by omega)]
      congr 1
      omega
    exact ⟨S3, a, b, c, d, u, (sh 0).trans e1, (sh 1).trans e2, (sh 2).trans e3, (sh 3).trans e4, (sh 4).trans e5, h5, fun k hk => h4 k (h6 k hk)⟩

theorem row_cells {w : World} {B e n k cap : Nat} {ao : Option Addr} {xs : List Value} (ho : w.ownsRow B e 5 (.slice ao n cap) n xs) (hk : k < n) : ∃ g, ao = some ⟨g, 0, none⟩ ∧ g < w.heap.size ∧ ∀ j x, xs[j]? = some x → w.cell? ⟨g, j, none⟩ = some x := by
  rcases ho.2 with ⟨h, hn⟩ | ⟨g, cap', cur, h, _⟩
  · omega
  · simp only [Value.slice.injEq] at h
    obtain ⟨rfl, _, rfl⟩ := h
    refine ⟨g, rfl, (ho.lt g rfl).2, fun j x hx => ?_⟩
    have := ho.cells (g := g) rfl j x hx
    have hadd : (⟨g, 0, none⟩ : Addr).add j = ⟨g, j, none⟩ := by unfold Addr.add; split <;> simp_all
    rw [← hadd]
    exact this


end Rx
end Go.Proofs.YtkhoccjfkkfipaaGreatDoor
namespace Go.Proofs.YtkhoccjfkkfipaaGreatDoor
open Go.RowKit
namespace Rx

theorem sMax (a b : Nat) (w : World) : Calls Tryz.prog 139 #[.int .i64 a, .int .i64 b] w fun e w' => e = .returned (.int .i64 (max a b : Nat)) ∧ w' = w := by
  by_cases h : b < a
  · have h' : (b : Int) < a := by omega
    have HM : Hid (max a b = a) := by show _ = _; omega
    go_enter Tryz.func139, Tryz.ntmps139
    go_wp2_with fail
    go_ret
    exact ⟨by rw [HM.out]; rfl, rfl⟩
  · have h' : (a : Int) ≤ b := by omega
    have HM : Hid (max a b = b) := by show _ = _; omega
    clear h
    go_enter Tryz.func139, Tryz.ntmps139
    go_wp2_with fail
    go_ret
    exact ⟨by rw [HM.out]; rfl, rfl⟩

def DeepOk (t : Data) : Prop := ∀ (w : World) (S : Nat → Prop) (a b c d u : Value), RexIs w t S [a, b, c, d, u] → (∀ k, S k → k < w.heap.size) →
  Calls Tryz.prog 122 #[.agg #[a, b, c, d, u]] w fun e w' => e = .returned (.int .i64 (dep t)) ∧ Below w.heap.size w w'

theorem sDeep : ∀ (n : Nat) (t : Data), dep t ≤ n → cnt t ≤ 100000 → DeepOk t := by
  intro n
  induction n with
  | zero => intro t hd _ w S a b c d u h; obtain ⟨op, c, s, no, ks, rfl⟩ := rex_node h; rw [dep_nd] at hd; omega
  | succ n ih =>
    intro t hd hc w S a b c d u h hS
    obtain ⟨op, cc, s, no, ks, rfl⟩ := rex_node h
    rw [dep_nd] at hd ⊢
    rw [cnt_nd] at hc
    rw [rex_nd] at h
    obtain ⟨v, xs, he, ho, hg, hx⟩ := h
    simp at he
    obtain ⟨rfl, rfl, rfl, rfl, rfl⟩ := he
    have hlen := cnts_len ks
    have hnI : (ks.length : Int) ≤ 100000 := by omega
    have hdc : deps ks ≤ 100000 := by have := dep_cnt (nd op cc s no ks); rw [dep_nd, cnt_nd] at this; omega
    have HD : Hid (deps (ks.take ks.length) = deps ks) := by show _ = _; rw [List.take_length]
    have HI := fun i => deps_le ks i
    have hkids : ∀ t ∈ ks, DeepOk t := fun t ht => ih t (by have := deps_mem ht; omega) (by have := cnts_mem ht; omega)
    obtain ⟨ao, cap, rfl⟩ := owns_slice ho
    obtain ⟨o1, ho1⟩ : ∃ o1, o1 = Obj.cells #[.int .i64 op, .int .i64 cc, .string ⟨s.toArray⟩, .bool no, .slice ao ks.length cap] 149 := ⟨_, rfl⟩
    have hb0 : Below w.heap.size w (w.alloc o1) := (Below.refl _ w).alloc (Nat.le_refl _) _
    have hv0 : Var (w.alloc o1) w.heap.size (.int .i64 op) (.int .i64 cc) (.string ⟨s.toArray⟩) (.bool no) (.slice ao ks.length cap) := by rw [ho1]; exact heap_alloc_last _ _
    subst ho1
    clear ih
    go_enter Tryz.func122, Tryz.ntmps122
    go_wp2_with fail
    go_loopw [3, 4] (fun mo i wr => ∃ k : Nat, k ≤ ks.length ∧ i = .int .i64 k ∧ mo = .int .i64 (deps (ks.take k)) ∧ Below w.heap.size w wr ∧ Var wr w.heap.size (.int .i64 op) (.int .i64 cc) (.string ⟨s.toArray⟩) (.bool no) (.slice ao ks.length cap)) (fun _ i _ => ks.length - (intOf i).toNat)
    case atStart => exact ⟨0, Nat.zero_le _, rfl, rfl, hb0, hv0⟩
    case round =>
      obtain ⟨k, hkn, rfl, rfl, hb, hV⟩ := hrel
      have v4 := hV.cell.2.2.2.2
      by_cases hkl : k < ks.length
      · have hki : ks[k]? = some ks[k] := List.getElem?_eq_getElem hkl
        obtain ⟨T1, a, b, c, d, u, x0, x1, x2, x3, x4, hr1, hs1⟩ := rexs_at hx hki
        obtain ⟨g, rfl, hg', hc'⟩ := row_cells ho hkl
        have cl : ∀ j x, xs[j]? = some x → wr.cell? ⟨g, j, none⟩ = some x := fun j x hx => (hb.cell (p := ⟨g, j, none⟩) hg').trans (hc' j x hx)
        have p0 := cl _ _ x0
        have p1 := cl _ _ x1
        have p2 := cl _ _ x2
        have p3 := cl _ _ x3
        have p4 := cl _ _ x4
        have call := hkids ks[k] (List.getElem_mem hkl) wr T1 a b c d u (rex_frame _ _ _ (fun j hj => hb.block j (hS j (hs1 j hj).1)) hr1) (fun j hj => Nat.lt_of_lt_of_le (hS j (hs1 j hj).1) hb.size)
        have hm : ks[k] ∈ ks := List.getElem_mem hkl
        have d1 := deps_mem hm
        have HT2 : Hid (deps (ks.take (k + 1)) = max (deps (ks.take k)) (dep ks[k])) := deps_take ks k ks[k] hki
        have hi1 := HI k
        have hd1 : (dep ks[k] : Int) ≤ 100000 := by omega
        have hi2 : (deps (ks.take k) : Int) ≤ 100000 := by omega
        have hlt := hV.lt
        clear x0 x1 x2 x3 x4 hc' cl hr1 hs1 hx ho hki hkids hm d1 HI hi1 HD hdc hd hc
        generalize dep ks[k] = D at *
        generalize deps (ks.take k) = M at *
        go_wp2_with (first | (go_at_call 122; refine call.mono ?_; rintro e w2 ⟨rfl, hb2⟩) | (go_at_call 139; refine (sMax M D _).mono ?_; rintro e w3 ⟨rfl, hw⟩; have hw := hw.symm; subst hw))
        go_roundw
        case rel => exact ⟨k + 1, by omega, by go_num, by rw [HT2.out], hb.trans (hb2.mono hb.size), hV.kept (hb2.block _ hlt)⟩
        case measure => simp [intOf]; omega
      · obtain rfl : k = ks.length := by omega
        have hi2 := HI ks.length
        have hi3 : (deps (ks.take ks.length) : Int) ≤ 100000 := by omega
        clear HI hi2 hx ho hkids
        go_wp2_with fail
        go_ret
        exact ⟨by rw [← HD.out]; rfl, hb⟩

end Rx
end Go.Proofs.YtkhoccjfkkfipaaGreatDoor
namespace Go.Proofs.YtkhoccjfkkfipaaGreatDoor
open Go.RowKit
namespace Rx

/-- The cursor at block p, at place i of s; whether it is none. -/
structure Cs (p : Nat) (s : ByteArray) (i : Int) (bad : Bool) (w : World) : Prop where
  text : w.cell? ⟨p, 0, none⟩ = some (.string s)
  pos : w.cell? ⟨p, 1, none⟩ = some (.int .i64 i)
  bad : w.cell? ⟨p, 2, none⟩ = some (.bool bad)
  fr1 : w.frozen? ⟨p, 1, none⟩ = false
  fr2 : w.frozen? ⟨p, 2, none⟩ = false

theorem Cs.lt {p : Nat} {s : ByteArray} {i : Int} {b : Bool} {w : World} (h : Cs p s i b w) : p < w.heap.size := World.block_lt_of_cell? w _ h.text
theorem Cs.kept {p : Nat} {s : ByteArray} {i : Int} {b : Bool} {w w' : World} (h : Cs p s i b w) (h1 : w'.heap[p]? = w.heap[p]?) : Cs p s i b w' :=
  ⟨(World.cell?_of_block h1).trans h.text, (World.cell?_of_block h1).trans h.pos, (World.cell?_of_block h1).trans h.bad, (World.frozen?_of_block h1).trans h.fr1, (World.frozen?_of_block h1).trans h.fr2⟩
theorem Cs.grown {p : Nat} {s : ByteArray} {i : Int} {b : Bool} {w w' : World} {row : Option Nat} (h : Cs p s i b w) (hg : w.grownBy w' row) (h1 : row ≠ some p) : Cs p s i b w' := h.kept (hg.block _ h.lt fun e => h1 e.symm)
theorem Cs.drewN {p : Nat} {s : ByteArray} {i : Int} {b : Bool} {w : World} (h : Cs p s i b w) (n : Nat) : Cs p s i b (w.drewN n) := ⟨h.text, h.pos, h.bad, h.fr1, h.fr2⟩
theorem Cs.alloc {p : Nat} {s : ByteArray} {i : Int} {b : Bool} {w : World} (h : Cs p s i b w) (o : Obj) : Cs p s i b (w.alloc o) := h.grown (World.grownBy_alloc _ _ none) (by simp)
theorem Cs.set {p : Nat} {s : ByteArray} {i : Int} {b : Bool} {w : World} (h : Cs p s i b w) (j : Int) : Cs p s j b (w.setCell ⟨p, 1, none⟩ (.int .i64 j)) := by
  refine ⟨?_, ?_, ?_, ?_, ?_⟩
  · rw [World.cell?_setCell_other _ _ _ _ (by simp)]; exact h.text
  · exact World.cell?_setCell_same _ _ _ h.pos
  · rw [World.cell?_setCell_other _ _ _ _ (by simp)]; exact h.bad
  · simpa using h.fr1
  · simpa using h.fr2
theorem Cs.spoil {p : Nat} {s : ByteArray} {i : Int} {b : Bool} {w : World} (h : Cs p s i b w) (x : Bool) : Cs p s i x (w.setCell ⟨p, 2, none⟩ (.bool x)) := by
  refine ⟨?_, ?_, ?_, ?_, ?_⟩
  · rw [World.cell?_setCell_other _ _ _ _ (by simp)]; exact h.text
  · rw [World.cell?_setCell_other _ _ _ _ (by simp)]; exact h.pos
  · exact World.cell?_setCell_same _ _ _ h.bad
  · simpa using h.fr1
  · simpa using h.fr2

/-- What l3Now answers. -/
def nowV (s : ByteArray) (i : Int) (bad : Bool) (b : Nat) : Bool := !bad && (decide (0 ≤ i) && decide (gOf s i.toNat = b))

theorem nowV_bad (s : ByteArray) (i : Int) (b : Nat) : nowV s i true b = false := rfl
theorem nowV_good (s : ByteArray) (i b : Nat) : nowV s i false b = decide (gOf s i = b) := by simp [nowV]

theorem sNow {p : Nat} {s : ByteArray} {i : Nat} {w : World} (h : Cs p s i false w) (hi : i ≤ s.size) (b : Nat) (c : Int) (hb : b < 256) (hc : c = b) :
    Calls Tryz.prog 138 #[.pointer (some ⟨p, 0, none⟩), .int .u8 c] w fun e w' => e = .returned (.bool (decide (gOf s i = b))) ∧ ∃ n, w' = w.drewN n := by
  subst hc
  have h1 := h.text
  have h2 := h.pos
  have h3 := h.bad
  rcases Nat.lt_or_ge i s.size with hq | hq
  · have H : Hid (gOf s i = s[i].toNat) := gOf_in hq
    go_enter Tryz.func138, Tryz.ntmps138
    go_wp2
    go_quiet (fail)
    go_wp2
    go_ret
    exact ⟨by rw [H.out]; exact congrArg (fun x => Ending.returned (Value.bool x)) (nat_eqb _ _), _, rfl⟩
  · have e1 : gOf s i = 256 := gOf_out hq
    have e2 : decide (256 = b) = false := decide_eq_false (by omega)
    have e3 : decide ((i : Int) < s.size) = false := decide_eq_false (by omega)
    have e4 : decide (i < s.size) = false := decide_eq_false (by omega)
    have e5 : ¬ i < s.size := by omega
    rw [e1, e2]
    clear e1 e2 hq
    go_enter Tryz.func138, Tryz.ntmps138
    go_wp2
    go_quiet (fail)
    go_wp2
    go_ret
    exact ⟨rfl, _, rfl⟩

theorem sNowBad {p : Nat} {s : ByteArray} {i : Int} {w : World} (h : Cs p s i true w) (c : Int) :
    Calls Tryz.prog 138 #[.pointer (some ⟨p, 0, none⟩), .int .u8 c] w fun e w' => e = .returned (.bool false) ∧ ∃ n, w' = w.drewN n := by
  have h3 := h.bad
  go_enter Tryz.func138, Tryz.ntmps138
  go_wp2
  go_quiet (fail)
  go_wp2
  go_ret
  exact ⟨rfl, _, rfl⟩

end Rx
end Go.Proofs.YtkhoccjfkkfipaaGreatDoor
namespace Go.Proofs.YtkhoccjfkkfipaaGreatDoor
open Go.RowKit
namespace Rx

/-- Five cells of a Rex, whatever they hold. -/
def Five (a b c d u : Value) : Prop := ∃ (x y : Int) (z : ByteArray) (f : Bool) (ao : Option Addr) (n cap : Nat), a = .int .i64 x ∧ b = .int .i64 y ∧ c = .string z ∧ d = .bool f ∧ u = .slice ao n cap

theorem five_of {w : World} {t : Data} {S : Nat → Prop} {a b c d u : Value} (h : RexIs w t S [a, b, c, d, u]) : Five a b c d u := by
  obtain ⟨op, cc, s, no, ao, n, cap, h⟩ := rex_cells h
  exact ⟨op, cc, ⟨s.toArray⟩, no, ao, n, cap, h⟩

/-- How the specification's functions tell: what is none leaves a bad cursor. -/
def Tells (p : Nat) (s : ByteArray) (w : World) (r : Option (Data × Nat)) (e : Ending) (w' : World) : Prop := match r with
  | none => ∃ (a b c d u : Value) (i : Int), e = .returned (.agg #[a, b, c, d, u]) ∧ Five a b c d u ∧ Cs p s i true w' ∧ w.grownBy w' (some p)
  | some (t, j) => ∃ a b c d u, e = .returned (.agg #[a, b, c, d, u]) ∧ RexIs w' t (Iv w.heap.size w'.heap.size) [a, b, c, d, u] ∧ Cs p s j false w' ∧ w.grownBy w' (some p)

theorem Five.zero : Five (.int .i64 0) (.int .i64 0) (.string ⟨#[]⟩) (.bool false) (.slice none 0 0) := ⟨0, 0, _, false, none, 0, 0, rfl, rfl, rfl, rfl, rfl⟩

/-- A Rex put into a result's variable. -/
def put5 (W : World) (B : Nat) (a b c d u : Value) : World := ((((W.setCell ⟨B, 0, none⟩ a).setCell ⟨B, 1, none⟩ b).setCell ⟨B, 2, none⟩ c).setCell ⟨B, 3, none⟩ d).setCell ⟨B, 4, none⟩ u
theorem put5_var {W : World} {B : Nat} {a0 b0 c0 d0 u0 : Value} (h : Var W B a0 b0 c0 d0 u0) (a b c d u : Value) : Var (put5 W B a b c d u) B a b c d u := ((((h.set0 a).set1 b).set2 c).set3 d).set4 u
theorem put5_block (W : World) {B j : Nat} (h : j ≠ B) (a b c d u : Value) : (put5 W B a b c d u).heap[j]? = W.heap[j]? := by
  unfold put5
  rw [Below.heap_setCell _ _ _ _ h, Below.heap_setCell _ _ _ _ h, Below.heap_setCell _ _ _ _ h, Below.heap_setCell _ _ _ _ h, Below.heap_setCell _ _ _ _ h]
theorem put5_size (W : World) (B : Nat) (a b c d u : Value) : (put5 W B a b c d u).heap.size = W.heap.size := by simp [put5]
theorem put5_grown {w W : World} {B : Nat} {row : Option Nat} (h : w.grownBy W row) (hB : w.heap.size ≤ B) (a b c d u : Value) : w.grownBy (put5 W B a b c d u) row :=
  grown_set_new (grown_set_new (grown_set_new (grown_set_new (grown_set_new h (x := ⟨B, 0, none⟩) hB a) (x := ⟨B, 1, none⟩) hB b) (x := ⟨B, 2, none⟩) hB c) (x := ⟨B, 3, none⟩) hB d) (x := ⟨B, 4, none⟩) hB u

/-- A cursor that is bad stays so. -/
theorem sAtomBad {p : Nat} {s : ByteArray} {i : Int} {w : World} (h : Cs p s i true w) (deep : Int) :
    Calls Tryz.prog 172 #[.pointer (some ⟨p, 0, none⟩), .int .i64 deep] w fun e w' => Tells p s w none e w' := by
  obtain ⟨o1, ho1⟩ : ∃ o1, o1 = Obj.cells #[.int .i64 0, .int .i64 0, .string ⟨#[]⟩, .bool false, .slice none 0 0] 149 := ⟨_, rfl⟩
  have hV : Var (w.alloc o1) w.heap.size (.int .i64 0) (.int .i64 0) (.string ⟨#[]⟩) (.bool false) (.slice none 0 0) := by rw [ho1]; exact heap_alloc_last _ _
  have h1 := h.alloc o1
  have c2 := h1.bad
  have f2 := h1.fr2
  have hp := h.lt
  subst ho1
  go_enter Tryz.func172, Tryz.ntmps172
  go_wp2_with fail
  go_quiet (fail)
  go_wp2_with fail
  have hg : w.grownBy (((w.alloc (.cells #[.int .i64 0, .int .i64 0, .string ⟨#[]⟩, .bool false, .slice none 0 0] 149)).drewN nq).setCell ⟨p, 2, none⟩ (.bool true)) (some p) := (grown_drewN (World.grownBy_alloc w _ _) nq).trans (grown_set _ ⟨p, 2, none⟩ _)
  have hC : Cs p s i true (((w.alloc (.cells #[.int .i64 0, .int .i64 0, .string ⟨#[]⟩, .bool false, .slice none 0 0] 149)).drewN nq).setCell ⟨p, 2, none⟩ (.bool true)) := (h1.drewN nq).spoil true
  have hV2 : Var (((w.alloc (.cells #[.int .i64 0, .int .i64 0, .string ⟨#[]⟩, .bool false, .slice none 0 0] 149)).drewN nq).setCell ⟨p, 2, none⟩ (.bool true)) w.heap.size _ _ _ _ _ := Var.kept (w := w.alloc _) hV (Below.heap_setCell _ ⟨p, 2, none⟩ _ _ (show w.heap.size ≠ p by omega))
  have hF := (put5_var hV2 (.int .i64 0) (.int .i64 0) (.string ⟨#[]⟩) (.bool false) (.slice none 0 0)).cell
  refine bodyPost_ret (v := .agg #[.int .i64 0, .int .i64 0, .string ⟨#[]⟩, .bool false, .slice none 0 0]) ?_ rfl ⟨_, _, _, _, _, i, rfl, Five.zero, hC.kept (put5_block _ (by omega) _ _ _ _ _), put5_grown hg (Nat.le_refl _) _ _ _ _ _⟩
  have x0 := hF.1
  have x1 := hF.2.1
  have x2 := hF.2.2.1
  have x3 := hF.2.2.2.1
  have x4 := hF.2.2.2.2
  clear hF hC hV2 hg hV h1 c2 f2
  unfold put5 at x0 x1 x2 x3 x4
  simp [results, Tryz.results172, go_sem, x0, x1, x2, x3, x4]

end Rx
end Go.Proofs.YtkhoccjfkkfipaaGreatDoor
