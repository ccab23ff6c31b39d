/-
  A pattern told as a Rex.
-/
import Derived.Test.YtkhoccjfkkfipaaGreatDoorP33
import Derived.Deep.CutRange
import Derived.Deep.RegionLaw
import Derived.Deep.CutBlock
import Derived.Deep.DeepCutAuto
import Derived.Deep.LoopGhost
namespace Go.Proofs.YtkhoccjfkkfipaaGreatDoor
open Go.RowKit
namespace Rx

theorem step_call {P : Program} {ops : Array Oper} {o : Oper} {a : Act} {w : World} {K : Act → World → Prop} {Q : Exit → Act → World → Prop} {E : Prop}
    (hg : o.guard = none) (f x : Nat) (t : TypeId) (hop : o.op = Op.call { callee := Callee.value (.func f), args := #[.tmp x], argTypes := #[t] }) (v : Value) (hx : a.eval (.tmp x) = v)
    (hcf : ∀ vs w, (callFunc f vs).run P w = .ok (.enter f vs) w)
    (hc : Calls P f #[v] w fun e w' => ∃ v, e = .returned v ∧ K (a.put o.dst v) w') :
    if Region.wanted o (yielded ops a.tmps) = true then Oper.wp P o a w K Q else E := by
  have hw : Region.wanted o (yielded ops a.tmps) = true := by simp [Region.wanted, hg]
  rw [if_pos hw]
  unfold Oper.wp
  simp [Act.eval] at hx
  simp [execOp, hop, resolve, invoke, hcf, go_sem, hx]
  refine hc.mono ?_
  rintro e w' ⟨v, rfl, hk⟩
  exact hk

theorem step_append_own {P : Program} {ops : Array Oper} {o : Oper} {a : Act} {w : World} {K : Act → World → Prop} {Q : Exit → Act → World → Prop} {E : Prop} (hgd : o.guard = none) (s x : Operand) (t : TypeId)
    (ho : o.op = .call { callee := .builtin .append, args := #[s, x], argTypes := #[t, t] })
    (base : Nat) (e : TypeId) (i : TypeInfo) (z : Value) (size bytes : Nat) (ht : P.underlying t = some (.slice e)) (hi : P.info? e = some i) (hz : i.zero = some z)
    (hsize : i.size = size) (hby : i.bytes = bytes) (hzs : z.cells.size = size) (hsz : 0 < size)
    (v : Value) (n : Nat) (xs : List Value) (hs : a.eval s = v) (hown : w.ownsRow base e size v n xs)
    (ad : Addr) (m c : Nat) (news : List Value) (hx : a.eval x = .slice (some ad) m c) (hl : news.length = m * size) (hnews : ∀ j u, news[j]? = some u → w.cell? (ad.add j) = some u) (h1 : ∀ u ∈ news, u.oneCell' = true)
    (h63 : n + m ≤ maxLen) (hbytes : (n + m) * bytes ≤ 140737488355328) (hbase : base ≤ w.heap.size)
    (hK : ∀ v' w', w'.ownsRow base e size v' (n + m) (xs ++ news) → w.grownBy w' v.ownBlock → (v'.ownBlock = v.ownBlock ∨ v'.ownBlock = some w.heap.size) → K (a.put o.dst v') w') :
    if Region.wanted o (yielded ops a.tmps) = true then Oper.wp P o a w K Q else E := by
  have hw : Region.wanted o (yielded ops a.tmps) = true := by simp [Region.wanted, hgd]
  rw [if_pos hw]
  obtain ⟨v', w', hr, h2, h3, h4, h5⟩ := run_append_own_at (P := P) w base t o.type e i z size bytes ht hi hz hsize hby hzs hsz v n xs hown ad m c news hl hnews h1 h63 hbytes hbase
  unfold Oper.wp execOp
  simp only [ho, resolve, invoke, builtin, Sem.run_bind, Sem.run_pure, Result.andThen_ok, List.map_toArray, List.map_cons, List.map_nil, hs, hx, hr]
  exact hK _ _ h2 h3 h5

theorem op_oneByte (v : Value) (w : World) : Calls Tryz.prog 216 #[v] w fun e w' => e = .returned (.int .i64 1) ∧ Below w.heap.size w w' := by
  go_enter Tryz.func216, Tryz.ntmps216
  go_wp2
  go_ret
  exact ⟨rfl, by first | exact Below.refl _ _ | exact (Below.refl _ w).alloc (Nat.le_refl _) _⟩
theorem op_anyByte (w : World) : Calls Tryz.prog 237 #[.agg #[]] w fun e w' => e = .returned (.int .i64 2) ∧ Below w.heap.size w w' := by
  go_enter Tryz.func237, Tryz.ntmps237
  go_wp2
  go_ret
  exact ⟨rfl, by first | exact Below.refl _ _ | exact (Below.refl _ w).alloc (Nat.le_refl _) _⟩
theorem op_byteSet (x y : Value) (w : World) : Calls Tryz.prog 217 #[.agg #[x, y]] w fun e w' => e = .returned (.int .i64 3) ∧ Below w.heap.size w w' := by
  go_enter Tryz.func217, Tryz.ntmps217
  go_wp2
  go_ret
  exact ⟨rfl, by first | exact Below.refl _ _ | exact (Below.refl _ w).alloc (Nat.le_refl _) _⟩
theorem op_textStart (w : World) : Calls Tryz.prog 238 #[.agg #[]] w fun e w' => e = .returned (.int .i64 4) ∧ Below w.heap.size w w' := by
  go_enter Tryz.func238, Tryz.ntmps238
  go_wp2
  go_ret
  exact ⟨rfl, by first | exact Below.refl _ _ | exact (Below.refl _ w).alloc (Nat.le_refl _) _⟩
theorem op_textEnd (w : World) : Calls Tryz.prog 239 #[.agg #[]] w fun e w' => e = .returned (.int .i64 5) ∧ Below w.heap.size w w' := by
  go_enter Tryz.func239, Tryz.ntmps239
  go_wp2
  go_ret
  exact ⟨rfl, by first | exact Below.refl _ _ | exact (Below.refl _ w).alloc (Nat.le_refl _) _⟩
theorem op_inRow (v : Value) (w : World) : Calls Tryz.prog 219 #[v] w fun e w' => e = .returned (.int .i64 6) ∧ Below w.heap.size w w' := by
  go_enter Tryz.func219, Tryz.ntmps219
  go_wp2
  go_ret
  exact ⟨rfl, by first | exact Below.refl _ _ | exact (Below.refl _ w).alloc (Nat.le_refl _) _⟩
theorem op_oneOf (v : Value) (w : World) : Calls Tryz.prog 218 #[v] w fun e w' => e = .returned (.int .i64 7) ∧ Below w.heap.size w w' := by
  go_enter Tryz.func218, Tryz.ntmps218
  go_wp2
  go_ret
  exact ⟨rfl, by first | exact Below.refl _ _ | exact (Below.refl _ w).alloc (Nat.le_refl _) _⟩
theorem op_anyOften (x : Value) (w : World) : Calls Tryz.prog 220 #[.agg #[x]] w fun e w' => e = .returned (.int .i64 8) ∧ Below w.heap.size w w' := by
  go_enter Tryz.func220, Tryz.ntmps220
  go_wp2
  go_ret
  exact ⟨rfl, by first | exact Below.refl _ _ | exact (Below.refl _ w).alloc (Nat.le_refl _) _⟩
theorem op_onceOften (x : Value) (w : World) : Calls Tryz.prog 221 #[.agg #[x]] w fun e w' => e = .returned (.int .i64 9) ∧ Below w.heap.size w w' := by
  go_enter Tryz.func221, Tryz.ntmps221
  go_wp2
  go_ret
  exact ⟨rfl, by first | exact Below.refl _ _ | exact (Below.refl _ w).alloc (Nat.le_refl _) _⟩
theorem op_onceMost (x : Value) (w : World) : Calls Tryz.prog 222 #[.agg #[x]] w fun e w' => e = .returned (.int .i64 10) ∧ Below w.heap.size w w' := by
  go_enter Tryz.func222, Tryz.ntmps222
  go_wp2
  go_ret
  exact ⟨rfl, by first | exact Below.refl _ _ | exact (Below.refl _ w).alloc (Nat.le_refl _) _⟩
theorem op_nothing (w : World) : Calls Tryz.prog 235 #[.agg #[]] w fun e w' => e = .returned (.int .i64 11) ∧ Below w.heap.size w w' := by
  go_enter Tryz.func235, Tryz.ntmps235
  go_wp2
  go_ret
  exact ⟨rfl, by first | exact Below.refl _ _ | exact (Below.refl _ w).alloc (Nat.le_refl _) _⟩
theorem meth_oneByte (x : Value) (w : World) : (Go.method 406 202 x "loop.example/g00289/impl.op").run Tryz.prog w = .ok (216, x) w := by kernel_rfl
theorem meth_anyByte (x : Value) (w : World) : (Go.method 406 259 x "loop.example/g00289/impl.op").run Tryz.prog w = .ok (237, x) w := by kernel_rfl
theorem meth_byteSet (x : Value) (w : World) : (Go.method 406 204 x "loop.example/g00289/impl.op").run Tryz.prog w = .ok (217, x) w := by kernel_rfl
theorem meth_textStart (x : Value) (w : World) : (Go.method 406 260 x "loop.example/g00289/impl.op").run Tryz.prog w = .ok (238, x) w := by kernel_rfl
theorem meth_textEnd (x : Value) (w : World) : (Go.method 406 261 x "loop.example/g00289/impl.op").run Tryz.prog w = .ok (239, x) w := by kernel_rfl
theorem meth_inRow (x : Value) (w : World) : (Go.method 406 220 x "loop.example/g00289/impl.op").run Tryz.prog w = .ok (219, x) w := by kernel_rfl
theorem meth_oneOf (x : Value) (w : World) : (Go.method 406 219 x "loop.example/g00289/impl.op").run Tryz.prog w = .ok (218, x) w := by kernel_rfl
theorem meth_anyOften (x : Value) (w : World) : (Go.method 406 222 x "loop.example/g00289/impl.op").run Tryz.prog w = .ok (220, x) w := by kernel_rfl
theorem meth_onceOften (x : Value) (w : World) : (Go.method 406 223 x "loop.example/g00289/impl.op").run Tryz.prog w = .ok (221, x) w := by kernel_rfl
theorem meth_onceMost (x : Value) (w : World) : (Go.method 406 224 x "loop.example/g00289/impl.op").run Tryz.prog w = .ok (222, x) w := by kernel_rfl
theorem meth_nothing (x : Value) (w : World) : (Go.method 406 244 x "loop.example/g00289/impl.op").run Tryz.prog w = .ok (235, x) w := by kernel_rfl

theorem enter_rexOf (vs : Array Value) (w : World) : (callFunc 132 vs).run Tryz.prog w = .ok (.enter 132 vs) w := by kernel_rfl

theorem Tryz.info149r : (Tryz.prog.info? 149).map (fun i => (i.zero, i.size, i.bytes)) = some (some (.agg #[.int .i64 0, .int .i64 0, .string ⟨#[]⟩, .bool false, .slice none 0 0]), 5, 64) := by kernel_rfl

/-- The cells of a Rex in a variable. -/
def Var (w : World) (q : Nat) (a b c d u : Value) : Prop := w.heap[q]? = some (.cells #[a, b, c, d, u] 149 (0, 0))

theorem Var.cell {w : World} {q : Nat} {a b c d u : Value} (h : Var w q a b c d u) : w.cell? ⟨q, 0, none⟩ = some a ∧ w.cell? ⟨q, 1, none⟩ = some b ∧ w.cell? ⟨q, 2, none⟩ = some c ∧ w.cell? ⟨q, 3, none⟩ = some d ∧ w.cell? ⟨q, 4, none⟩ = some u := by
  refine ⟨?_, ?_, ?_, ?_, ?_⟩ <;> (rw [cell_of_row w q _ _ _ _ h]; rfl)
theorem Var.frozen {w : World} {q : Nat} {a b c d u : Value} (h : Var w q a b c d u) (k : Nat) : w.frozen? ⟨q, k, none⟩ = false := by
  unfold Var at h
  simp [World.frozen?, h]
theorem Var.lt {w : World} {q : Nat} {a b c d u : Value} (h : Var w q a b c d u) : q < w.heap.size := World.block_lt_of_cell? w _ h.cell.1
theorem Var.kept {w w' : World} {q : Nat} {a b c d u : Value} (h : Var w q a b c d u) (hw : w'.heap[q]? = w.heap[q]?) : Var w' q a b c d u := hw.trans h

theorem Var.set0 {w : World} {q : Nat} {a b c d u : Value} (h : Var w q a b c d u) (x : Value) : Var (w.setCell ⟨q, 0, none⟩ x) q x b c d u := by
  unfold Var at h ⊢
  simp [World.setCell, Array.getElem?_modify, h]
theorem Var.set1 {w : World} {q : Nat} {a b c d u : Value} (h : Var w q a b c d u) (x : Value) : Var (w.setCell ⟨q, 1, none⟩ x) q a x c d u := by
  unfold Var at h ⊢
  simp [World.setCell, Array.getElem?_modify, h]
theorem Var.set2 {w : World} {q : Nat} {a b c d u : Value} (h : Var w q a b c d u) (x : Value) : Var (w.setCell ⟨q, 2, none⟩ x) q a b x d u := by
  unfold Var at h ⊢
  simp [World.setCell, Array.getElem?_modify, h]
theorem Var.set3 {w : World} {q : Nat} {a b c d u : Value} (h : Var w q a b c d u) (x : Value) : Var (w.setCell ⟨q, 3, none⟩ x) q a b c x u := by
  unfold Var at h ⊢
  simp [World.setCell, Array.getElem?_modify, h]
theorem Var.set4 {w : World} {q : Nat} {a b c d u : Value} (h : Var w q a b c d u) (x : Value) : Var (w.setCell ⟨q, 4, none⟩ x) q a b c d x := by
  unfold Var at h ⊢
  simp [World.setCell, Array.getElem?_modify, h]

theorem head_facts {w w1 : World} {a b c d u : Value} (hb : Below (w.heap.size + 1) (w.alloc (.cells #[a, b, c, d, u] 149)) w1) {a' b' c' d' u' : Value} :
    ∃ q, Value.pointer (some ⟨w1.heap.size, 0, none⟩) = .pointer (some ⟨q, 0, none⟩) ∧ w.heap.size < q ∧ Var (w1.alloc (.cells #[a', b', c', d', u'] 149)) q a' b' c' d' u' ∧ Var (w1.alloc (.cells #[a', b', c', d', u'] 149)) w.heap.size a b c d u ∧ Below w.heap.size w (w1.alloc (.cells #[a', b', c', d', u'] 149)) := by
  have h1 := hb.size
  simp at h1
  refine ⟨_, rfl, by omega, heap_alloc_last _ _, ?_, ?_⟩
  · unfold Var
    rw [Below.heap_alloc _ _ _ (by omega), hb.block _ (by omega), heap_alloc_last]
  · exact (((Below.refl _ w).alloc (Nat.le_refl _) _).trans (hb.mono (by omega))).alloc (by omega) _

theorem rex_cells {w : World} {t : Data} {S : Nat → Prop} {a b c d u : Value} (h : RexIs w t S [a, b, c, d, u]) : ∃ (op cc : Nat) (s : List UInt8) (no : Bool) (ao : Option Addr) (n cap : Nat), a = .int .i64 op ∧ b = .int .i64 cc ∧ c = .string ⟨s.toArray⟩ ∧ d = .bool no ∧ u = .slice ao n cap := by
  obtain ⟨op, c', s, no, ks, rfl⟩ := rex_node h
  rw [rex_nd] at h
  obtain ⟨v, xs, hc, ho, _⟩ := h
  simp at hc
  obtain ⟨rfl, rfl, rfl, rfl, rfl⟩ := hc
  obtain ⟨ao, cap, rfl⟩ := owns_slice ho
  exact ⟨_, _, _, _, _, _, _, rfl, rfl, rfl, rfl, rfl⟩

theorem cell_five_new (w : World) (a b c d u : Value) : ∀ j x, [a, b, c, d, u][j]? = some x → (w.alloc (.cells #[a, b, c, d, u] 149)).cell? ((⟨w.heap.size, 0, none⟩ : Addr).add j) = some x := by
  intro j x hj
  have hadd : (⟨w.heap.size, 0, none⟩ : Addr).add j = ⟨w.heap.size, j, none⟩ := by unfold Addr.add; split <;> simp_all
  rw [hadd, cell_of_row _ _ j _ _ (0, 0) (heap_alloc_last w _)]
  simpa using hj

theorem kids_set {w : World} {B q : Nat} {ts : List Data} {v : Value} (h : Kids w B ts v) (hq : q < B) (n : Nat) (x : Value) : Kids (w.setCell ⟨q, n, none⟩ x) B ts v := by
  obtain ⟨xs, S, ho, hk, hS⟩ := h
  refine ⟨xs, S, owns_same ho fun g hg => Below.heap_setCell _ _ _ _ ?_, rexs_frame (fun k hk => Below.heap_setCell _ _ _ _ ?_) hk, fun k hk => ⟨(hS k hk).1, by simpa using (hS k hk).2.1, (hS k hk).2.2⟩⟩
  · have := (ho.lt g hg).1; show g ≠ q; omega
  · have := (hS k hk).1; show k ≠ q; omega

/-- How a Rex comes back. -/
def RexRet (t : Data) (w : World) (e : Ending) (w' : World) : Prop :=
  ∃ a b c d u, e = .returned (.agg #[a, b, c, d, u]) ∧ Below w.heap.size w w' ∧ RexIs w' t (Iv w.heap.size w'.heap.size) [a, b, c, d, u]

set_option maxHeartbeats 8000000 in
set_option maxRecDepth 100000 in
theorem iRexOf : ∀ (dd : Nat) (t : Data) (S : Nat → Prop) (v : Value) (w : World), dep t ≤ dd → cnt t ≤ 100000 → PatIs w t S v → (∀ k, S k → k < w.heap.size) →
    Calls Tryz.prog 132 #[v] w fun e w' => RexRet t w e w' := by
  intro dd
  induction dd with
  | zero => intro t S v w hd _ h; obtain ⟨op, c, s, no, ks, rfl⟩ := pat_node h; rw [dep_nd] at hd; omega
  | succ dd ih =>
    intro t S v w hd hc h hS
    obtain ⟨op, c, s, no, ks, rfl⟩ := pat_node h
    rw [dep_nd] at hd
    rw [cnt_nd] at hc
    have hkl := cnts_len ks
    have hh := pat_nd.1 h
    go_enter Tryz.func132, Tryz.ntmps132
    go_upto_region 1 with fail
    go_cut [3] (fun v3 wx => ∃ q, v3 = .pointer (some ⟨q, 0, none⟩) ∧ w.heap.size < q ∧ Var wx q (.int .i64 op) (.int .i64 0) (.string ⟨#[]⟩) (.bool false) (.slice none 0 0) ∧ Var wx w.heap.size (.int .i64 0) (.int .i64 0) (.string ⟨#[]⟩) (.bool false) (.slice none 0 0) ∧ Below w.heap.size w wx)
    case first =>
      clear ih hd hc hkl h hS
      rcases hh with ⟨rfl, hh⟩ | ⟨rfl, rfl, rfl, x, hx, hh⟩ | ⟨rfl, rfl, rfl, u, xs, ho, hg, hx, hh⟩
      · rcases hh with hh | hh | hh | hh | hh | hh
        · obtain ⟨rfl, _, rfl, rfl, rfl⟩ := hh
          have m0 := meth_oneByte (.int .u8 c)
          go_wp2_with (go_at_call 216; refine (op_oneByte _ _).mono ?_; rintro e w1 ⟨rfl, hb1⟩)
          go_meet
          case rel => exact head_facts (by simpa using hb1)
        · obtain ⟨rfl, rfl, rfl, rfl, rfl⟩ := hh
          have m0 := meth_anyByte (.agg #[])
          go_wp2_with (go_at_call 237; refine (op_anyByte _).mono ?_; rintro e w1 ⟨rfl, hb1⟩)
          go_meet
          case rel => exact head_facts (by simpa using hb1)
        · obtain ⟨rfl, rfl, rfl⟩ := hh
          have m0 := meth_byteSet (.agg #[.string ⟨s.toArray⟩, .bool no])
          go_wp2_with (go_at_call 217; refine (op_byteSet _ _ _).mono ?_; rintro e w1 ⟨rfl, hb1⟩)
          go_meet
          case rel => exact head_facts (by simpa using hb1)
        · obtain ⟨rfl, rfl, rfl, rfl, rfl⟩ := hh
          have m0 := meth_textStart (.agg #[])
          go_wp2_with (go_at_call 238; refine (op_textStart _).mono ?_; rintro e w1 ⟨rfl, hb1⟩)
          go_meet
          case rel => exact head_facts (by simpa using hb1)
        · obtain ⟨rfl, rfl, rfl, rfl, rfl⟩ := hh
          have m0 := meth_textEnd (.agg #[])
          go_wp2_with (go_at_call 239; refine (op_textEnd _).mono ?_; rintro e w1 ⟨rfl, hb1⟩)
          go_meet
          case rel => exact head_facts (by simpa using hb1)
        · obtain ⟨rfl, rfl, rfl, rfl, rfl⟩ := hh
          have m0 := meth_nothing (.agg #[])
          go_wp2_with (go_at_call 235; refine (op_nothing _).mono ?_; rintro e w1 ⟨rfl, hb1⟩)
          go_meet
          case rel => exact head_facts (by simpa using hb1)
      · rcases hh with hh | hh | hh
        · obtain ⟨rfl, rfl⟩ := hh
          have m0 := meth_anyOften (.agg #[x])
          go_wp2_with (go_at_call 220; refine (op_anyOften _ _).mono ?_; rintro e w1 ⟨rfl, hb1⟩)
          go_meet
          case rel => exact head_facts (by simpa using hb1)
        · obtain ⟨rfl, rfl⟩ := hh
          have m0 := meth_onceOften (.agg #[x])
          go_wp2_with (go_at_call 221; refine (op_onceOften _ _).mono ?_; rintro e w1 ⟨rfl, hb1⟩)
          go_meet
          case rel => exact head_facts (by simpa using hb1)
        · obtain ⟨rfl, rfl⟩ := hh
          have m0 := meth_onceMost (.agg #[x])
          go_wp2_with (go_at_call 222; refine (op_onceMost _ _).mono ?_; rintro e w1 ⟨rfl, hb1⟩)
          go_meet
          case rel => exact head_facts (by simpa using hb1)
      · rcases hh with hh | hh
        · obtain ⟨rfl, rfl⟩ := hh
          have m0 := meth_inRow (u)
          go_wp2_with (go_at_call 219; refine (op_inRow _ _).mono ?_; rintro e w1 ⟨rfl, hb1⟩)
          go_meet
          case rel => exact head_facts (by simpa using hb1)
        · obtain ⟨rfl, rfl⟩ := hh
          have m0 := meth_oneOf (u)
          go_wp2_with (go_at_call 218; refine (op_oneOf _ _).mono ?_; rintro e w1 ⟨rfl, hb1⟩)
          go_meet
          case rel => exact head_facts (by simpa using hb1)
    case rest =>
      obtain ⟨q, rfl, hq, hV, hZ, hb⟩ := hcut
      go_upto_block 0 with fail
      go_cut [] (fun wx => Var wx q (.int .i64 op) (.int .i64 c) (.string ⟨s.toArray⟩) (.bool no) (.slice none 0 0) ∧ Var wx w.heap.size (.int .i64 0) (.int .i64 0) (.string ⟨#[]⟩) (.bool false) (.slice none 0 0) ∧ Below w.heap.size w wx)
      case first =>
        clear ih hd hc hkl h hS
        rcases hh with ⟨rfl, hh⟩ | ⟨rfl, rfl, rfl, x, hx, hh⟩ | ⟨rfl, rfl, rfl, u, xs, ho, hg, hx, hh⟩
        · rcases hh with hh | hh | hh | hh | hh | hh
          · obtain ⟨rfl, _, rfl, rfl, rfl⟩ := hh
            have m1 := hit_oneByte (.int .u8 c)
            have hcc := hV.cell
            have hc1 := hcc.2.1
            have hf1 := hV.frozen 1
            clear hcc
            go_wp2_with fail
            go_meet
            case rel => exact ⟨hV.set1 _, hZ.kept (Below.heap_setCell _ _ _ _ (by simp; omega)), hb.setCell (by simp; omega) _⟩
          · obtain ⟨rfl, rfl, rfl, rfl, rfl⟩ := hh
            have m1 := miss_oneByte 259 (by decide) (.agg #[])
            have m2 := miss_byteSet 259 (by decide) (.agg #[])
            go_wp2_with fail
            go_meet
            case rel => exact ⟨hV, hZ, hb⟩
          · obtain ⟨rfl, rfl, rfl⟩ := hh
            have m1 := miss_oneByte 204 (by decide) (.agg #[.string ⟨s.toArray⟩, .bool no])
            have m2 := hit_byteSet (.agg #[.string ⟨s.toArray⟩, .bool no])
            have hW := hV.kept (Below.heap_alloc wc (.cells #[.string ⟨s.toArray⟩, .bool no] 204) q hV.lt)
            have c2 := hW.cell.2.2.1
            have c3 := hW.cell.2.2.2.1
            have f2 := hW.frozen 2
            have f3 := hW.frozen 3
            go_wp2_with fail
            go_region
            go_wp2_with fail
            go_meet
            case rel =>
              have hZ1 := hZ.kept (Below.heap_alloc wc (.cells #[.string ⟨s.toArray⟩, .bool no] 204) w.heap.size hZ.lt)
              have hqw : w.heap.size ≠ q := by omega
              refine ⟨(hW.set2 _).set3 _, (hZ1.kept (Below.heap_setCell _ ⟨q, 2, none⟩ _ _ hqw)).kept (Below.heap_setCell _ ⟨q, 3, none⟩ _ _ hqw), ?_⟩
              exact (((hb.alloc (Nat.le_of_lt hZ.lt) _).setCell (p := ⟨q, 2, none⟩) (Nat.le_of_lt hq) _).setCell (p := ⟨q, 3, none⟩) (Nat.le_of_lt hq) _).drew
          · obtain ⟨rfl, rfl, rfl, rfl, rfl⟩ := hh
            have m1 := miss_oneByte 260 (by decide) (.agg #[])
            have m2 := miss_byteSet 260 (by decide) (.agg #[])
            go_wp2_with fail
            go_meet
            case rel => exact ⟨hV, hZ, hb⟩
          · obtain ⟨rfl, rfl, rfl, rfl, rfl⟩ := hh
            have m1 := miss_oneByte 261 (by decide) (.agg #[])
            have m2 := miss_byteSet 261 (by decide) (.agg #[])
            go_wp2_with fail
            go_meet
            case rel => exact ⟨hV, hZ, hb⟩
          · obtain ⟨rfl, rfl, rfl, rfl, rfl⟩ := hh
            have m1 := miss_oneByte 244 (by decide) (.agg #[])
            have m2 := miss_byteSet 244 (by decide) (.agg #[])
            go_wp2_with fail
            go_meet
            case rel => exact ⟨hV, hZ, hb⟩
        · rcases hh with hh | hh | hh
          · obtain ⟨rfl, rfl⟩ := hh
            have m1 := miss_oneByte 222 (by decide) (.agg #[x])
            have m2 := miss_byteSet 222 (by decide) (.agg #[x])
            go_wp2_with fail
            go_meet
            case rel => exact ⟨hV, hZ, hb⟩
          · obtain ⟨rfl, rfl⟩ := hh
            have m1 := miss_oneByte 223 (by decide) (.agg #[x])
            have m2 := miss_byteSet 223 (by decide) (.agg #[x])
            go_wp2_with fail
            go_meet
            case rel => exact ⟨hV, hZ, hb⟩
          · obtain ⟨rfl, rfl⟩ := hh
            have m1 := miss_oneByte 224 (by decide) (.agg #[x])
            have m2 := miss_byteSet 224 (by decide) (.agg #[x])
            go_wp2_with fail
            go_meet
            case rel => exact ⟨hV, hZ, hb⟩
        · rcases hh with hh | hh
          · obtain ⟨rfl, rfl⟩ := hh
            have m1 := miss_oneByte 220 (by decide) (u)
            have m2 := miss_byteSet 220 (by decide) (u)
            go_wp2_with fail
            go_meet
            case rel => exact ⟨hV, hZ, hb⟩
          · obtain ⟨rfl, rfl⟩ := hh
            have m1 := miss_oneByte 219 (by decide) (u)
            have m2 := miss_byteSet 219 (by decide) (u)
            go_wp2_with fail
            go_meet
            case rel => exact ⟨hV, hZ, hb⟩
      case rest =>
        clear hV hZ hb hh
        obtain ⟨hV, hZ, hb⟩ := hcut
        have hS2 : ∀ k, S k → k < wc.heap.size := fun k hk => Nat.lt_of_lt_of_le (hS k hk) hb.size
        have h2 : PatIs wc (nd op c s no ks) S v := pat_frame (fun k hk => hb.block k (hS k hk)) (fun _ h => h) _ _ h
        have hqc := hV.lt
        have hzc := hZ.lt
        clear h
        go_wp2_with (go_at_call 153; refine (iKidsOf h2 hS2).mono ?_; rintro e w1 ⟨u1, rfl, hb1, xs, ho, hu1, hx⟩; obtain ⟨ao, cap, rfl⟩ := owns_slice ho)
        have hV1 := hV.kept (hb1.block q hqc)
        have hZ1 := hZ.kept (hb1.block _ hzc)
        have hb01 := hb.trans (hb1.mono (Nat.le_of_lt hzc))
        have hS3 : ∀ k, S k → k < w1.heap.size := fun k hk => Nat.lt_of_lt_of_le (hS2 k hk) hb1.size
        have hsz1 := hb1.size
        clear hV hZ hb hb1 h2 hS2
        obtain ⟨i0, hi0, hz0, hz1, hz2⟩ := info_parts Tryz.info149r
        go_loopw [30] (fun i wr => ∃ (k : Nat) (u : Value), k ≤ ks.length ∧ i = .int .i64 k ∧ Var wr q (.int .i64 op) (.int .i64 c) (.string ⟨s.toArray⟩) (.bool no) u ∧ Kids wr w1.heap.size (ks.take k) u ∧ Var wr w.heap.size (.int .i64 0) (.int .i64 0) (.string ⟨#[]⟩) (.bool false) (.slice none 0 0) ∧ Below w.heap.size w wr ∧ w1.grownBy wr (some q)) (fun i _ => ks.length - (intOf i).toNat)
        case atStart => exact ⟨0, _, Nat.zero_le _, rfl, hV1, kids_nil _ _, hZ1, hb01, World.grownBy.refl _ _⟩
        case round =>
          obtain ⟨k, u, hk, rfl, hV, hK, hZ, hb, hg⟩ := hrel
          clear hV1 hZ1 hb01
          by_cases hkl2 : k < ks.length
          · have hki : ks[k]? = some ks[k] := List.getElem?_eq_getElem hkl2
            obtain ⟨x, hx1, hx2⟩ := pats_at hx hki
            obtain ⟨g, rfl, hgl, hcell⟩ := owns_at ho hkl2 hx1
            have hm : ks[k] ∈ ks := List.getElem_mem hkl2
            have d1 := deps_mem hm
            have d2 := cnts_mem hm
            have hgq : g ≠ q := by
              rcases hu1 g rfl with h | h
              · have := hS g h; omega
              · omega
            have hcell2 := hg.cell hcell (by simpa using hgq)
            have hsub : ∀ j, S j → j < w1.heap.size ∧ j ≠ q := fun j hj => ⟨hS3 j hj, by have := hS j hj; omega⟩
            have hx3 : PatIs wr.drew ks[k] S x := pat_same (pat_frame (w := w1) (fun j hj => hg.block j (hsub j hj).1 (by have := (hsub j hj).2; simpa using this)) (fun _ h => h) _ _ hx2) rfl
            have call := ih ks[k] S x wr.drew (by omega) (by omega) hx3 (fun j hj => Nat.lt_of_lt_of_le (hS3 j hj) hg.size)
            have c4 := hV.cell.2.2.2.2
            obtain ⟨ys, S', hown, hks, hS'⟩ := hK
            have hlt : (ks.take k).length = k := by simp; omega
            rw [hlt] at hown
            have hgs := hg.size
            have hqlt : q < w1.heap.size := by omega
            have hk64 : Hid ((k + 1) * 64 ≤ 140737488355328) := by show _ ≤ _; omega
            have hkm : Hid (k + 1 ≤ maxLen) := by show _ ≤ _; unfold maxLen; omega
            have hqr : q < wr.heap.size := by omega
            have hownq : ∀ b, u.ownBlock = some b → w1.heap.size ≤ b := fun b hb => (hown.lt b hb).1
            clear hx hx1 hx2 hx3 hki hm ih ho
            go_wp2_with fail
            go_region_law (first
              | (refine step_call rfl 132 36 179 rfl x (by simp [Act.eval, Act.put]) enter_rexOf ?_; refine call.mono ?_; rintro e w3 ⟨a3, b3, c3, d3, u3', rfl, hb3, hr3⟩; refine ⟨_, rfl, ?_⟩; have hV3 := hV.kept (hb3.block q hqr); have c43 := hV3.cell.2.2.2.2; have c43' := fun o => (hV3.kept (Below.heap_alloc w3 o q hV3.lt)).cell.2.2.2.2; have hown3 := owns_same hown (fun b hb => hb3.block b (hown.lt b hb).2); have hsz3 : wr.heap.size ≤ w3.heap.size := hb3.size; obtain ⟨op3, cc3, ss3, no3, ao3, n3, cap3, rfl, rfl, rfl, rfl, rfl⟩ := rex_cells hr3)
              | (refine step_append_own rfl (.tmp 35) (.tmp 38) 147 rfl w1.heap.size 149 i0 _ 5 64 Tryz.underlying147 hi0 hz0 hz1 hz2 rfl (by decide) u k ys (by simp [Act.eval]) (hown3.alloc _) ⟨w3.heap.size, 0, none⟩ 1 1 [.int .i64 op3, .int .i64 cc3, .string ⟨ss3.toArray⟩, .bool no3, .slice ao3 n3 cap3] (by simp [Act.eval]) rfl (cell_five_new _ _ _ _ _ _) (by simp [Value.oneCell']) hkm.out hk64.out (by simp; omega) ?_; intro v4 w4 hown4 hgr4 hb4; have hV4 := (hV3.kept (Below.heap_alloc w3 _ q hV3.lt)).kept (hgr4.block q (by simp; omega) (fun e => by have := hownq q e.symm; omega)); have c44 := hV4.cell.2.2.2.2; have f44 := hV4.frozen 4; obtain ⟨ao4, cap4, rfl⟩ := owns_slice hown4))
            all_goals go_wp2_with fail
            all_goals go_roundw
            all_goals try (simp only [intOf]; omega)
            all_goals (
              have hlw : w1.heap.size ≤ (w3.alloc (.cells #[.int .i64 op3, .int .i64 cc3, .string ⟨ss3.toArray⟩, .bool no3, .slice ao3 n3 cap3] 149)).heap.size := by simp; omega
              have hgA : w1.grownBy (w3.alloc (.cells #[.int .i64 op3, .int .i64 cc3, .string ⟨ss3.toArray⟩, .bool no3, .slice ao3 n3 cap3] 149)) (some q) := (hg.trans (grown_of_below (w := wr) ⟨hb3.os, hb3.tape, hb3.output, hb3.size, hb3.block⟩ _)).trans (World.grownBy_alloc _ _ _)
              have hbA : Below w.heap.size w (w3.alloc (.cells #[.int .i64 op3, .int .i64 cc3, .string ⟨ss3.toArray⟩, .bool no3, .slice ao3 n3 cap3] 149)) := (hb.trans (Below.mono (w := wr) (B := wr.heap.size) ⟨hb3.os, hb3.tape, hb3.output, hb3.size, hb3.block⟩ hb.size)).alloc (by omega) _
              have hZA := (hZ.kept (w' := w3) (hb3.block _ (show w.heap.size < wr.heap.size by omega))).kept (Below.heap_alloc w3 (.cells #[.int .i64 op3, .int .i64 cc3, .string ⟨ss3.toArray⟩, .bool no3, .slice ao3 n3 cap3] 149) w.heap.size (by omega))
              have hZ4 := hZA.kept (hgr4.block _ (by simp; omega) (fun e => by have := hownq _ e.symm; omega))
              have htk : ks.take (k + 1) = ks.take k ++ [ks[k]] := by rw [List.take_add_one, List.getElem?_eq_getElem hkl2]; rfl
              have hKn := kids_snoc (w := wr) (w1 := w3) (w2 := w4) hks hS' hgs hr3 hsz3 (fun j _ h2 _ => hb3.block j h2) (fun j hj => (hown.lt j hj).2) (by rw [hlt]; exact hown4) (Nat.le_trans (by simp) hgr4.size) (fun j h1 h2 => (hgr4.block j (by simp; omega) (Ne.symm h2)).trans (Below.heap_alloc _ _ _ h1)) (hb4.imp id fun h => ⟨_, h, by simp⟩)
              refine ⟨k + 1, _, by omega, by go_num, hV4.set4 _, ?_, hZ4.kept (Below.heap_setCell _ ⟨q, 4, none⟩ _ _ (show w.heap.size ≠ q by omega)), (hbA.grown hgr4 (by simp; omega) (fun j hj => by have := hownq j hj; omega)).setCell (p := ⟨q, 4, none⟩) (Nat.le_of_lt hq) _, (grown_own hgA hgr4 hownq).trans (grown_set w4 ⟨q, 4, none⟩ _)⟩
              rw [htk]
              exact kids_set hKn hqlt 4 _)
          · obtain rfl : k = ks.length := by omega
            rw [List.take_length] at hK
            have hcs := hV.cell
            have c0 := hcs.1
            have c1 := hcs.2.1
            have c2 := hcs.2.2.1
            have c3 := hcs.2.2.2.1
            have c4 := hcs.2.2.2.2
            have hzs := hZ.cell
            have z0 := hzs.1
            have z1 := hzs.2.1
            have z2 := hzs.2.2.1
            have z3 := hzs.2.2.2.1
            have z4 := hzs.2.2.2.2
            have y0 := hZ.frozen 0
            have y1 := hZ.frozen 1
            have y2 := hZ.frozen 2
            have y3 := hZ.frozen 3
            have y4 := hZ.frozen 4
            have hR := kids_rex hK op c s no
            obtain ⟨ao2, cap2, rfl⟩ : ∃ ao2 cap2, u = .slice ao2 ks.length cap2 := by
              obtain ⟨ys, S', ho', _⟩ := hK
              exact owns_slice ho'
            clear hcs hzs ho hx hK ih
            go_wp2_with fail
            have hF := ((((hZ.set0 (.int .i64 op)).set1 (.int .i64 c)).set2 (.string ⟨s.toArray⟩)).set3 (.bool no)).set4 (.slice ao2 ks.length cap2)
            have hFc := hF.cell
            have x0 := hFc.1
            have x1 := hFc.2.1
            have x2 := hFc.2.2.1
            have x3 := hFc.2.2.2.1
            have x4 := hFc.2.2.2.2
            have hbF : ∀ (n : Nat) (x : Value) (W : World), Below w.heap.size w W → Below w.heap.size w (W.setCell ⟨w.heap.size, n, none⟩ x) := fun n x W hW => hW.setCell (p := ⟨w.heap.size, n, none⟩) (Nat.le_refl _) x
            have hbn : ∀ (n : Nat) (x : Value) (W : World) (j : Nat), j ≠ w.heap.size → (W.setCell ⟨w.heap.size, n, none⟩ x).heap[j]? = W.heap[j]? := fun n x W j hj => Below.heap_setCell W ⟨w.heap.size, n, none⟩ x j hj
            have hgs := hg.size
            refine bodyPost_ret (v := .agg #[.int .i64 op, .int .i64 c, .string ⟨s.toArray⟩, .bool no, .slice ao2 ks.length cap2]) ?_ rfl ⟨_, _, _, _, _, rfl, hbF _ _ _ (hbF _ _ _ (hbF _ _ _ (hbF _ _ _ (hbF _ _ _ hb)))), rex_mono (rex_frame _ _ _ (fun j hj => ?_) hR) fun j hj => ⟨?_, ?_⟩⟩
            · clear hR hFc hF c0 c1 c2 c3 c4 z0 z1 z2 z3 z4 y0 y1 y2 y3 y4 hbF hbn hgs
              simp [results, Tryz.results132, go_sem, x0, x1, x2, x3, x4]
            · have h1 := hj.1
              rw [hbn _ _ _ _ (by omega), hbn _ _ _ _ (by omega), hbn _ _ _ _ (by omega), hbn _ _ _ _ (by omega), hbn _ _ _ _ (by omega)]
            · have := hj.1; omega
            · have := hj.2; simpa using this

end Rx
end Go.Proofs.YtkhoccjfkkfipaaGreatDoor
