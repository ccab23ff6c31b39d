/-
  errors.As at what is amiss: it is told.
  What a tidy program tells of its nodes; the specification's reasons as plain functions.
-/
import Derived.Test.YtjdohfdkkppnpaaGreatDoorP34
namespace Go.Proofs.YtjdohfdkkppnpaaGreatDoor
open Go.RowKit Go.Extern.Stop Go.Stop Go.Extern
namespace Ck

theorem rls (v x : Value) : ReflectliteValue.set #[v, x] = (do
    let (some (dst, a, fl), some (src, b, _)) := (← ReflectliteValue.parts v, ← ReflectliteValue.parts x)
      | unsupported (.noEntry "extern/(internal/reflectlite.Value).Set.zeroValue")
    if fl / ReflectliteValue.flagAddr % 2 == 0 then unsupported (.noEntry "extern/(internal/reflectlite.Value).Set.unaddressable")
    let val ← loadVar src b
    if ← Rtype.directlyAssignable dst src then storeVar dst a val
    else if ← Rtype.implements dst src then
      if (← Rtype.kind src) == 20 then
        match val with
        | .nilIface => unsupported (.noEntry "extern/reflectlite: a nil value of one interface type handed on as a value of another")
        | _ => storeVar dst a val
      else storeVar dst a (.iface src val)
    else panicString ("reflectlite.Set: value of type " ++ (← Rtype.spelt src) ++ " is not assignable to type " ++ (← Rtype.spelt dst))
    pure (.tuple #[])) := rfl
theorem sizeS (w : World) : (sizeOf 56).run Tryz.prog w = .ok 2 w := by kernel_rfl
theorem Tryz.setS (t b : Nat) (x y : Int) (o0 o1 : Value) (W : World) (hx : W.cell? ⟨b, 0, none⟩ = some (.int .i64 x)) (hy : W.cell? ⟨b, 1, none⟩ = some (.int .i64 y)) (h0 : W.cell? ⟨t, 0, none⟩ = some o0) (h1 : W.cell? ⟨t, 1, none⟩ = some o1) (hf : ∀ i, W.frozen? ⟨t, i, none⟩ = false) :
    (ReflectliteValue.set #[.agg #[.pointer (some ⟨10, 56, none⟩), .pointer (some ⟨t, 0, none⟩), .int .u64 409], .agg #[.pointer (some ⟨10, 56, none⟩), .pointer (some ⟨b, 0, none⟩), .int .u64 153]]).run Tryz.prog W
      = .ok (.tuple #[]) ((W.setCell ⟨t, 0, none⟩ (.int .i64 x)).setCell ⟨t, 1, none⟩ (.int .i64 y)) := by
  rw [rls]
  simp only [Sem.run_bind, Tryz.partsSa, Tryz.partsS, Result.andThen]
  simp [ReflectliteValue.flagAddr, loadVar, isAgg, underlying, Tryz.underlying56, Result.andThen, Tryz.directS, storeVar, Value.cells, storeCells, Addr.add]
  have hl : (loadCells ⟨b, 0, none⟩ 2).run Tryz.prog W = .ok #[.int .i64 x, .int .i64 y] W := by simp [go_sem, hx, hy]
  rw [hl]
  have h1' : (W.setCell ⟨t, 0, none⟩ (.int .i64 x)).cell? ⟨t, 1, none⟩ = some o1 := by rw [World.cell?_setCell_other _ _ _ _ (by simp)]; exact h1
  have hs : (storeCells ⟨t, 0, none⟩ [.int .i64 x, .int .i64 y]).run Tryz.prog W = .ok () ((W.setCell ⟨t, 0, none⟩ (.int .i64 x)).setCell ⟨t, 1, none⟩ (.int .i64 y)) := by
    simp [go_sem, storeCells, Addr.add, h0, h1', hf]
  simp [hs]

theorem Tryz.methodKind (h : Value) (w : World) : (Go.method 357 127 (.agg #[h]) "Kind").run Tryz.prog w = .ok (201, h) w := by kernel_rfl
theorem Tryz.methodElem (h : Value) (w : World) : (Go.method 357 127 (.agg #[h]) "Elem").run Tryz.prog w = .ok (211, .agg #[h]) w := by kernel_rfl
theorem Tryz.methodImplements (h : Value) (w : World) : (Go.method 357 127 (.agg #[h]) "Implements").run Tryz.prog w = .ok (212, .agg #[h]) w := by kernel_rfl
theorem Tryz.methodAssignableTo (h : Value) (w : World) : (Go.method 357 127 (.agg #[h]) "AssignableTo").run Tryz.prog w = .ok (209, .agg #[h]) w := by kernel_rfl

set_option maxHeartbeats 4000000 in
set_option maxRecDepth 100000 in
theorem as_hit (x y : Int) (t : Nat) (o0 o1 : Value) (w : World) (hg : w.cell? ⟨0, 0, none⟩ = some (.iface 127 (.agg #[.pointer (some ⟨10, 59, none⟩)]))) (ht : w.heap[t]? = some (.cells #[o0, o1] 56 (0, 0))) :
    Calls Tryz.prog 32 #[.iface 56 (.agg #[.int .i64 x, .int .i64 y]), .iface 60 (.pointer (some ⟨t, 0, none⟩))] w fun ev w' => ev = .returned (.bool true) ∧ w'.cell? ⟨t, 0, none⟩ = some (.int .i64 x) ∧ w'.os = w.os ∧ w'.tape = w.tape ∧ w'.output = w.output ∧ w.heap.size ≤ w'.heap.size ∧ ∀ k, k < w.heap.size → k ≠ t → w'.heap[k]? = w.heap[k]? := by
  have h46 := @run_callFunc_extern Tryz.prog 62 _ (fun args => ReflectliteValue.unpack (args.getD 0 (.tuple #[]))) Tryz.func62 (by kernel_rfl) (by kernel_rfl) (by kernel_rfl) (by kernel_rfl)
  have h47 := @run_callFunc_extern Tryz.prog 63 _ (ReflectliteValue.methodAny (ReflectliteValue.valueError "reflectlite.Value.Type" 0) (fun t _ _ _ => ReflectliteType.toType t)) Tryz.func63 (by kernel_rfl) (by kernel_rfl) (by kernel_rfl) (by kernel_rfl)
  have h48 := @run_callFunc_extern Tryz.prog 64 _ (ReflectliteValue.method (ReflectliteValue.valueError "reflectlite.Value.IsNil" 0) ReflectliteValue.isNil) Tryz.func64 (by kernel_rfl) (by kernel_rfl) (by kernel_rfl) (by kernel_rfl)
  have hkn := @run_callFunc_extern Tryz.prog 201 _ (ReflectliteType.abiMethod fun t => do pure (.int .u8 (← Rtype.kind t))) Tryz.func201 (by kernel_rfl) (by kernel_rfl) (by kernel_rfl) (by kernel_rfl)
  have hel := @run_callFunc_extern Tryz.prog 211 _ (ReflectliteType.method ReflectliteType.elem) Tryz.func211 (by kernel_rfl) (by kernel_rfl) (by kernel_rfl) (by kernel_rfl)
  have him := @run_callFunc_extern Tryz.prog 212 _ (ReflectliteType.relation "Implements" ReflectliteType.implements_) Tryz.func212 (by kernel_rfl) (by kernel_rfl) (by kernel_rfl) (by kernel_rfl)
  have hto := @run_callFunc_extern Tryz.prog 98 _ ReflectliteType.typeOf Tryz.func98 (by kernel_rfl) (by kernel_rfl) (by kernel_rfl) (by kernel_rfl)
  have has := @run_callFunc_extern Tryz.prog 209 _ (ReflectliteType.relation "AssignableTo" ReflectliteType.assignableTo) Tryz.func209 (by kernel_rfl) (by kernel_rfl) (by kernel_rfl) (by kernel_rfl)
  have hve := @run_callFunc_extern Tryz.prog 99 _ (ReflectliteValue.method (ReflectliteValue.valueError "reflectlite.Value.Elem" 0) ReflectliteValue.elem) Tryz.func99 (by kernel_rfl) (by kernel_rfl) (by kernel_rfl) (by kernel_rfl)
  have hst := @run_callFunc_extern Tryz.prog 100 _ ReflectliteValue.set Tryz.func100 (by kernel_rfl) (by kernel_rfl) (by kernel_rfl) (by kernel_rfl)
  have z1 := Tryz.typeOfS
  have z2 := Tryz.methodAssignableTo
  have z3 := Tryz.assignableS
  have z4 := Tryz.valueOfS
  have z5 := Tryz.valueOfP
  have z6 := Tryz.typeP
  have z7 := Tryz.methodKind
  have z8 := Tryz.methodElem
  have z9 := Tryz.methodImplements
  have y1 := Tryz.kindP
  have y2 := Tryz.kindS
  have y3 := Tryz.elemT
  have y4 := Tryz.implementsS
  obtain ⟨a1, ha1⟩ : ∃ a1, a1 = Obj.cells #[.pointer (some ⟨t, 0, none⟩)] 60 := ⟨_, rfl⟩
  obtain ⟨a2, ha2⟩ : ∃ a2, a2 = Obj.cells #[.pointer (some ⟨10, 60, none⟩), .pointer (some ⟨w.heap.size, 0, none⟩), .int .u64 150] 90 := ⟨_, rfl⟩
  obtain ⟨a4, ha4⟩ : ∃ a4, a4 = Obj.cells #[.int .i64 x, .int .i64 y] 56 := ⟨_, rfl⟩
  have hb : Below w.heap.size w ((((w.alloc a1).alloc a2).alloc a2).alloc a4) := ((((Below.refl _ w).alloc (Nat.le_refl _) _).alloc (by simp) _).alloc (by simp; omega) _).alloc (by simp; omega) _
  have hb2 : Below w.heap.size w ((w.alloc a1).alloc a2) := ((Below.refl _ w).alloc (Nat.le_refl _) _).alloc (by simp) _
  have p1 : ∀ w' : World, w'.heap[w.heap.size]? = some a1 → w'.cell? ⟨w.heap.size, 0, none⟩ = some (.pointer (some ⟨t, 0, none⟩)) := fun w' h => by unfold World.cell?; simp only [h]; rw [ha1]; rfl
  have n1 : (w.alloc a1).heap[w.heap.size]? = some a1 := Nd.heap_new w a1
  have n2 : ((w.alloc a1).alloc a2).heap[w.heap.size]? = some a1 := (Below.heap_alloc _ _ _ (by simp)).trans n1
  have n3 : (((w.alloc a1).alloc a2).alloc a2).heap[w.heap.size]? = some a1 := (Below.heap_alloc _ _ _ (by simp; omega)).trans n2
  have x1 := Tryz.isNilP ⟨w.heap.size, 0, none⟩ ⟨t, 0, none⟩ _ (p1 _ n2)
  have x2 := Tryz.elemV ⟨w.heap.size, 0, none⟩ ⟨t, 0, none⟩ _ (p1 _ n3)
  have hgl := World.block_lt_of_cell? _ _ hg
  have g2 := (hb2.cell (p := ⟨0, 0, none⟩) hgl).trans hg
  have htl := Nd.heap_lt ht
  have t4 : ((((w.alloc a1).alloc a2).alloc a2).alloc a4).heap[t]? = some (.cells #[o0, o1] 56 (0, 0)) := (hb.block t htl).trans ht
  have n4 : ((((w.alloc a1).alloc a2).alloc a2).alloc a4).heap[w.heap.size + 1 + 1 + 1]? = some a4 := by have := Nd.heap_new (((w.alloc a1).alloc a2).alloc a2) a4; simpa only [World.size_alloc] using this
  have x3 := Tryz.setS t (w.heap.size + 1 + 1 + 1) x y o0 o1 ((((w.alloc a1).alloc a2).alloc a2).alloc a4) (by unfold World.cell?; simp only [n4]; rw [ha4]; rfl) (by unfold World.cell?; simp only [n4]; rw [ha4]; rfl) (by simp [World.cell?, t4]) (by simp [World.cell?, t4]) (fun i => by simp [World.frozen?, t4])
  have hfin : ∀ w' : World, w' = (((((w.alloc a1).alloc a2).alloc a2).alloc a4).setCell ⟨t, 0, none⟩ (.int .i64 x)).setCell ⟨t, 1, none⟩ (.int .i64 y) → w'.cell? ⟨t, 0, none⟩ = some (.int .i64 x) ∧ w'.os = w.os ∧ w'.tape = w.tape ∧ w'.output = w.output ∧ w.heap.size ≤ w'.heap.size ∧ ∀ k, k < w.heap.size → k ≠ t → w'.heap[k]? = w.heap[k]? := by
    rintro w' rfl
    refine ⟨?_, hb.os, hb.tape, hb.output, by have := hb.size; simp at this ⊢; omega, fun k hk hne => ?_⟩
    · rw [World.cell?_setCell_other _ _ _ _ (by simp)]
      exact World.cell?_setCell_same' _ _ _ (by simp [World.cell?, t4])
    · rw [Below.heap_setCell _ _ _ _ hne, Below.heap_setCell _ _ _ _ hne, hb.block k hk]
  subst ha1 ha2 ha4
  clear hb hb2 p1 n1 n2 n3 n4 t4 hg ht
  go_enter Tryz.func32, Tryz.ntmps32
  go_wp2
  refine wp_loop_rounds 1 ?_
  rw [rounds_succ]
  go_wp2
  go_ret
  exact ⟨rfl, hfin _ rfl⟩
end Ck
end Go.Proofs.YtjdohfdkkppnpaaGreatDoor

namespace Go.Proofs.YtjdohfdkkppnpaaGreatDoor
namespace Ck
open Nd Ty

theorem all_sub {t : Data} (h : allB t = true) : ∀ x ∈ subs t, nodeB x = true := by
  induction t using tree_ind with
  | h ks lab ih =>
    rw [allB, Bool.and_eq_true, alls_all, List.all_eq_true] at h
    intro x hx
    rw [subs, List.mem_cons] at hx
    rcases hx with rfl | hx
    · exact h.1
    · obtain ⟨t, ht, hx⟩ := mem_subsL.1 hx
      exact ih t ht (h.2 t ht) x hx
  | h1 t ht =>
    cases t <;> simp [allB] at h
    exact absurd rfl (ht _ _)
/-- A node of a tidy rule. -/
def Fine (t : Data) : Prop := nodeB t = true ∨ (opOf t = 0 ∧ kidsOf t = [])
theorem tidy_sub {rs : List Ru} (h : tidyB rs = true) {t : Data} (ht : SubR rs t) : Fine t := by
  obtain ⟨r, hr, hs⟩ := ht
  have h1 := List.all_eq_true.1 h r hr
  simp only [ruleB, Bool.and_eq_true] at h1
  obtain ⟨⟨-, h2⟩, h3⟩ := h1
  rcases hs with hs | hs
  · split at h3
    · simp only [zeroB, Bool.and_eq_true, decide_eq_true_eq] at h3
      rw [subs_kids, h3.2] at hs
      simp only [subsL, List.mem_singleton] at hs
      subst hs
      exact .inr ⟨h3.1.1.1, h3.2⟩
    · split at h3
      · simp only [Bool.and_eq_true, treeB] at h3
        exact .inl (all_sub h3.2.2 t hs)
      · cases h3
  · simp only [treeB, Bool.and_eq_true] at h2
    exact .inl (all_sub h2.2 t hs)
theorem just_len : ∀ {ps : List (Int → Bool)} {xs : List Int}, justB ps xs = true → xs.length = ps.length
  | [], [], _ => rfl
  | [], _ :: _, h => by simp [justB] at h
  | _ :: _, [], h => by simp [justB] at h
  | p :: ps, x :: xs, h => by
    simp only [justB, Bool.and_eq_true] at h
    simp [just_len h.2]
theorem fine_fits {t : Data} (h : Fine t) (ho : opOf t = 21) : (kidsOf t).length = 2 := by
  rcases h with h | h
  · simp only [nodeB, Bool.and_eq_true] at h
    have := h.2
    rw [ho] at this
    have := just_len (ps := [eB, eB]) (xs := (kidsOf t).map opOf) (by simpa [kindB] using this)
    simpa using this
  · omega
theorem fine_rex {t : Data} (h : Fine t) (ho : opOf t = 3) : kidsOf t = [] := by
  rcases h with h | h
  · simp only [nodeB, Bool.and_eq_true] at h
    have := h.2
    rw [ho] at this
    have := just_len (ps := []) (xs := (kidsOf t).map opOf) (by simpa [kindB] using this)
    simpa using this
  · exact h.2
theorem sub_self (t : Data) : t ∈ subs t := by rw [subs_kids]; simp
theorem sub_kid {t k x : Data} (hk : k ∈ kidsOf t) (hx : x ∈ subs k) : x ∈ subs t := by rw [subs_kids]; exact List.mem_cons_of_mem _ (mem_subsL.2 ⟨k, hk, hx⟩)

mutual
/-- A tree asks of a line. -/
def lineT : Data → Bool
  | .slice ks lab => decide (opOf (.slice ks lab) = 6 ∨ opOf (.slice ks lab) = 7 ∨ opOf (.slice ks lab) = 8 ∨ opOf (.slice ks lab) = 33 ∨ opOf (.slice ks lab) = 3) || lineK (opOf (.slice ks lab)) 0 ks
  | _ => false
def lineK : Int → Nat → List Data → Bool
  | _, _, [] => false
  | op, i, t :: ts => (!(decide (op = 21) && decide (i = 1) && decide (opOf t = 3)) && lineT t) || lineK op (i + 1) ts
end
mutual
def argsT : Data → Bool
  | .slice ks lab => !argsB (.slice ks lab) && argsTs ks
  | _ => true
def argsTs : List Data → Bool
  | [] => true
  | t :: ts => argsT t && argsTs ts
end
mutual
def rexT : Data → Bool
  | .slice ks lab => if opOf (.slice ks lab) = 3 then okRex (txtOf (.slice ks lab)) else !rexN (.slice ks lab) && rexTs ks
  | _ => true
def rexTs : List Data → Bool
  | [] => true
  | t :: ts => rexT t && rexTs ts
end

theorem argsTs_all : ∀ ts : List Data, argsTs ts = ts.all argsT
  | [] => rfl
  | t :: ts => by simp [argsTs, argsTs_all ts]
theorem rexTs_all : ∀ ts : List Data, rexTs ts = ts.all rexT
  | [] => rfl
  | t :: ts => by simp [rexTs, rexTs_all ts]
def Node (t : Data) : Prop := ∃ op n s ks, t = nd op n s ks

theorem args_iff {t : Data} (hN : ∀ x ∈ subs t, Node x) : argsT t = true ↔ ∀ x ∈ subs t, argsB x = false := by
  induction t using tree_ind with
  | h ks lab ih =>
    rw [argsT, Bool.and_eq_true, argsTs_all, List.all_eq_true, subs]
    simp only [List.mem_cons, forall_eq_or_imp, Bool.not_eq_true']
    refine and_congr Iff.rfl ⟨fun h x hx => ?_, fun h k hk => ?_⟩
    · obtain ⟨k, hk, hx⟩ := mem_subsL.1 hx
      exact (ih k hk (fun x hx => hN x (sub_kid (t := .slice ks lab) hk hx))).1 (h k hk) x hx
    · exact (ih k hk (fun x hx => hN x (sub_kid (t := .slice ks lab) hk hx))).2 fun x hx => h x (mem_subsL.2 ⟨k, hk, hx⟩)
  | h1 t ht =>
    obtain ⟨op, n, s, ks, rfl⟩ := hN _ (sub_self t)
    exact absurd rfl (ht _ _)
theorem rex_iff {t : Data} (hN : ∀ x ∈ subs t, Node x ∧ Fine x) : rexT t = true ↔ ∀ x ∈ subs t, rexN x = false := by
  induction t using tree_ind with
  | h ks lab ih =>
    by_cases h3 : opOf (.slice ks lab) = 3
    · have hk : ks = [] := fine_rex (hN _ (sub_self _)).2 h3
      subst hk
      rw [rexT, if_pos h3]
      simp [subs, subsL, rexN, h3]
    · rw [rexT, if_neg h3, Bool.and_eq_true, rexTs_all, List.all_eq_true, subs]
      simp only [List.mem_cons, forall_eq_or_imp, Bool.not_eq_true']
      refine and_congr Iff.rfl ⟨fun h x hx => ?_, fun h k hk => ?_⟩
      · obtain ⟨k, hk, hx⟩ := mem_subsL.1 hx
        exact (ih k hk (fun x hx => hN x (sub_kid (t := .slice ks lab) hk hx))).1 (h k hk) x hx
      · exact (ih k hk (fun x hx => hN x (sub_kid (t := .slice ks lab) hk hx))).2 fun x hx => h x (mem_subsL.2 ⟨k, hk, hx⟩)
  | h1 t ht =>
    obtain ⟨⟨op, n, s, ks, rfl⟩, -⟩ := hN _ (sub_self t)
    exact absurd rfl (ht _ _)

theorem lineK_iff (op : Int) : ∀ (ks : List Data) (i : Nat), lineK op i ks = true ↔ ∃ j k, ks[j]? = some k ∧ ¬ (op = 21 ∧ i + j = 1 ∧ opOf k = 3) ∧ lineT k = true
  | [], i => by simp [lineK]
  | t :: ts, i => by
    rw [lineK, Bool.or_eq_true, lineK_iff op ts (i + 1)]
    simp only [Bool.and_eq_true, Bool.not_eq_true', Bool.and_eq_false_iff, decide_eq_false_iff_not]
    constructor
    · rintro (⟨h1, h2⟩ | ⟨j, k, h1, h2, h3⟩)
      · exact ⟨0, t, rfl, fun h => by rcases h1 with (h1 | h1) | h1 <;> simp_all, h2⟩
      · exact ⟨j + 1, k, by simpa using h1, fun h => h2 ⟨h.1, by omega, h.2.2⟩, h3⟩
    · rintro ⟨j, k, h1, h2, h3⟩
      cases j with
      | zero =>
        simp at h1
        subst h1
        refine .inl ⟨?_, h3⟩
        by_cases a : op = 21
        · by_cases b : i = 1
          · exact .inr fun h => h2 ⟨a, by omega, h⟩
          · exact .inl (.inr b)
        · exact .inl (.inl a)
      | succ j => exact .inr ⟨j, k, by simpa using h1, fun h => h2 ⟨h.1, by omega, h.2.2⟩, h3⟩
theorem needK_iff (op : Int) : ∀ (ks : List Data) (i : Nat), needK op i ks = true ↔ ∃ j k, ks[j]? = some k ∧ ¬ (op = 21 ∧ i + j = 1) ∧ opOf k = 3
  | [], i => by simp [needK]
  | t :: ts, i => by
    rw [needK, Bool.or_eq_true, needK_iff op ts (i + 1)]
    simp only [Bool.and_eq_true, Bool.not_eq_true', Bool.and_eq_false_iff, decide_eq_false_iff_not, decide_eq_true_eq]
    constructor
    · rintro (⟨h1, h2⟩ | ⟨j, k, h1, h2, h3⟩)
      · exact ⟨0, t, rfl, fun h => by rcases h2 with h2 | h2 <;> omega, h1⟩
      · exact ⟨j + 1, k, by simpa using h1, fun h => h2 ⟨h.1, by omega⟩, h3⟩
    · rintro ⟨j, k, h1, h2, h3⟩
      cases j with
      | zero =>
        simp at h1
        subst h1
        refine .inl ⟨h3, ?_⟩
        by_cases a : op = 21
        · exact .inr fun b => h2 ⟨a, by omega⟩
        · exact .inl a
      | succ j => exact .inr ⟨j, k, by simpa using h1, fun h => h2 ⟨h.1, by omega⟩, h3⟩

theorem line_iff {t : Data} (hN : ∀ x ∈ subs t, Node x ∧ Fine x) (h3 : opOf t ≠ 3) : lineT t = true ↔ ∃ x ∈ subs t, needN x = true := by
  induction t using tree_ind with
  | h ks lab ih =>
    have hk : kidsOf (.slice ks lab) = ks := rfl
    rw [lineT, Bool.or_eq_true, decide_eq_true_eq, lineK_iff]
    have hneed : needN (.slice ks lab) = true ↔ (opOf (.slice ks lab) = 6 ∨ opOf (.slice ks lab) = 7 ∨ opOf (.slice ks lab) = 8 ∨ opOf (.slice ks lab) = 33) ∨ ∃ j k, ks[j]? = some k ∧ ¬ (opOf (.slice ks lab) = 21 ∧ 0 + j = 1) ∧ opOf k = 3 := by
      rw [needN, Bool.or_eq_true, decide_eq_true_eq, hk, needK_iff]
    constructor
    · rintro (h | ⟨j, k, h1, h2, hl⟩)
      · exact ⟨_, sub_self _, hneed.2 (.inl (by omega))⟩
      · have hkm : k ∈ ks := List.mem_of_getElem? h1
        by_cases hk3 : opOf k = 3
        · exact ⟨_, sub_self _, hneed.2 (.inr ⟨j, k, h1, fun h => h2 ⟨h.1, h.2, hk3⟩, hk3⟩)⟩
        · obtain ⟨x, hx, hn⟩ := (ih k hkm (fun x hx => hN x (sub_kid (t := .slice ks lab) hkm hx)) hk3).1 hl
          exact ⟨x, sub_kid (t := .slice ks lab) hkm hx, hn⟩
    · rintro ⟨x, hx, hn⟩
      rw [subs, List.mem_cons] at hx
      rcases hx with rfl | hx
      · rcases hneed.1 hn with h | ⟨j, k, h1, h2, hk3⟩
        · exact .inl (by omega)
        · refine .inr ⟨j, k, h1, fun h => h2 ⟨h.1, h.2.1⟩, ?_⟩
          have hkm : k ∈ ks := List.mem_of_getElem? h1
          obtain ⟨op, n, s, kk, rfl⟩ := (hN k (sub_kid (t := .slice ks lab) hkm (sub_self k))).1
          unfold nd
          rw [lineT, Bool.or_eq_true, decide_eq_true_eq]
          exact .inl (.inr (.inr (.inr (.inr hk3))))
      · obtain ⟨k, hkm, hx⟩ := mem_subsL.1 hx
        obtain ⟨j, hj⟩ := List.getElem?_of_mem hkm
        by_cases hk3 : opOf k = 3
        · have hkk := fine_rex (hN k (sub_kid (t := .slice ks lab) hkm (sub_self k))).2 hk3
          rw [subs_kids, hkk] at hx
          simp only [subsL, List.mem_singleton] at hx
          subst hx
          simp [needN, hk3, hkk, needK] at hn
        · exact .inr ⟨j, k, hj, fun h => hk3 h.2.2, (ih k hkm (fun x hx => hN x (sub_kid (t := .slice ks lab) hkm hx)) hk3).2 ⟨x, hx, hn⟩⟩
  | h1 t ht =>
    obtain ⟨⟨op, n, s, ks, rfl⟩, -⟩ := hN _ (sub_self t)
    exact absurd rfl (ht _ _)

end Ck
end Go.Proofs.YtjdohfdkkppnpaaGreatDoor

