/-
  The program's finders of what is not tidy, and of BEGIN.
  errors.As at what is amiss, and at nothing.
-/
import Derived.Test.YtjdohfdkkppnpaaGreatDoorP25
import Derived.Test.YtjdohfdkkppnpaaGreatDoorP33
import Derived.Test.YtjdohfdkkppnpaaGreatDoorP02
import Derived.LaidEql
import Derived.Stop.Asserts
import Derived.RowKitTokens
namespace Go.Proofs.YtjdohfdkkppnpaaGreatDoor
open Go.RowKit
namespace Ck
open Nd Ty

def needP (rs : List Ru) : Prop := ∃ t ∈ allOf (rs.take 1), needN t = true
def badBegin (rs : List Ru) : Prop := ∃ (i : Nat) (r : Ru), rs[i]? = some r ∧ r.1 = 1 ∧ (0 < i ∨ needP rs)

theorem row_one {w : World} {B g n cap : Nat} {xs : List Value} (h : w.ownsRow B 41 9 (.slice (some ⟨g, 0, none⟩) n cap) n xs) (hn : 1 ≤ n) : w.ownsRow B 41 9 (.slice (some ⟨g, 0, none⟩) 1 cap) 1 (xs.take 9) := by
  have hl := h.1
  refine ⟨by rw [List.length_take, hl]; omega, .inr ?_⟩
  rcases h.2 with ⟨e, _⟩ | ⟨g', cap', cur, hv, hB, hg, h1, h2, h3, h4⟩
  · simp at e
  · simp only [Value.slice.injEq, Option.some.injEq, Addr.mk.injEq] at hv
    obtain ⟨⟨rfl, _, _⟩, _, rfl⟩ := hv
    refine ⟨g, cap, cur, rfl, hB, hg, by omega, h2, h3, ?_⟩
    rw [← h4, List.take_take]
    congr 1
    omega

section
variable {rs : List Ru} {w : World} {S : Nat → Prop} {v : Value} {xs : List Value} {B : Nat}

set_option maxHeartbeats 1000000 in
set_option maxRecDepth 100000 in
theorem iTidyF (hS : Sen w) (hsz : sizR rs ≤ 1048576) (hlt : ∀ k, S k → k < w.heap.size) (ho : w.ownsRow B 41 9 v rs.length xs) (hR : RulesIs w S rs xs) : Calls Tryz.prog 26 #[v] w (Found 1 (tidyB rs = false) w) := by
  obtain ⟨ao, cap, rfl⟩ := owns_slice ho
  have bn : (rs.length : Int) ≤ 1048576 := by have := sizR_len rs; omega
  obtain ⟨P, hP⟩ : ∃ P : Prop, P = (tidyB rs = false) := ⟨_, rfl⟩
  rw [← hP]
  have HP : Hid (P = (tidyB rs = false)) := hP
  clear hP
  go_enter Tryz.func26, Tryz.ntmps26
  go_wp2_with fail
  go_loopw [7] (fun i wr => ∃ k : Nat, k ≤ rs.length ∧ i = .int .i64 k ∧ tidyB rs = tidyB (rs.drop k) ∧ Below w.heap.size w wr) (fun i _ => rs.length - (intOf i).toNat)
  case atStart => exact ⟨0, Nat.zero_le _, rfl, rfl, Below.refl _ _⟩
  case round =>
    obtain ⟨k, hkn, rfl, hall, hb⟩ := hrel
    by_cases hkl : k < rs.length
    · have hki : rs[k]? = some rs[k] := List.getElem?_eq_getElem hkl
      obtain ⟨p0, p1, p2, p3, b0, b1, b2, b3, e0, e1, e2, e3, e4, e5, e6, e7, e8, hp, hbd⟩ := rules_at hR hki
      obtain ⟨g, rfl, hg, hc⟩ := row_cells ho hkl
      have cc : ∀ j x, xs[j]? = some x → wr.cell? ⟨g, j, none⟩ = some x := fun j x hx => (hb.cell (p := ⟨g, j, none⟩) hg).trans (hc j x hx)
      have c0 := cc _ _ e0
      have c1 := cc _ _ e1
      have c2 := cc _ _ e2
      have c3 := cc _ _ e3
      have c4 := cc _ _ e4
      have c5 := cc _ _ e5
      have c6 := cc _ _ e6
      have c7 := cc _ _ e7
      have c8 := cc _ _ e8
      have hszr := sizR_mem (List.getElem_mem hkl)
      have hbo : ∀ o, Below w.heap.size w (wr.alloc o) := fun o => hb.alloc hb.size _
      have call : ∀ o, Calls Tryz.prog 44 #[.agg #[.int .i64 rs[k].1, p0, p1, p2, p3, b0, b1, b2, b3]] (wr.alloc o) fun e w' => e = .returned (.bool (ruleB rs[k])) ∧ Below (wr.alloc o).heap.size (wr.alloc o) w' := fun o =>
        iRuleTidy (hS.later (hbo o)) (by omega) (by omega) (fun j hj => Nat.lt_of_lt_of_le (hlt j hj) (hbo o).size) (node_frame _ _ _ (fun j hj => (hbo o).block j (hlt j hj)) hp) (node_frame _ _ _ (fun j hj => (hbo o).block j (hlt j hj)) hbd)
      obtain ⟨pop, pn, ps, pao, pcap, pxs, -, rfl, rfl, rfl, rfl, -, -, -⟩ := node_form hp
      obtain ⟨bop, bn', bs, bao, bcap, bxs, -, rfl, rfl, rfl, rfl, -, -, -⟩ := node_form hbd
      have bk : (k : Int) < rs.length := by omega
      rw [List.drop_eq_getElem_cons hkl] at hall
      have HA : Hid (tidyB rs = (ruleB rs[k] && tidyB (rs.drop (k + 1)))) := hall.trans rfl
      clear hR ho hki hall e0 e1 e2 e3 e4 e5 e6 e7 e8 hp hbd hc cc hS hlt hszr hsz
      generalize ruleB rs[k] = Q at *
      generalize (kidsOf rs[k].2.1).length = pL at *
      generalize (kidsOf rs[k].2.2).length = bL at *
      generalize rs[k].1 = kd at *
      cases Q
      · go_wp2_with (go_at_call 44; refine (call _).mono ?_; rintro e w2 ⟨rfl, hb2⟩)
        go_ret
        exact Found.some ((hbo _).trans (hb2.mono (hbo _).size)) k (by rw [HP.out, HA.out]; rfl)
      · go_wp2_with (go_at_call 44; refine (call _).mono ?_; rintro e w2 ⟨rfl, hb2⟩)
        go_roundw
        case rel => exact ⟨k + 1, hkl, by go_num, HA.out, (hbo _).trans (hb2.mono (hbo _).size)⟩
        case measure => simp [intOf]; omega
    · obtain rfl : k = rs.length := by omega
      rw [List.drop_length] at hall
      have H : Hid (tidyB rs = true) := hall
      clear hall
      go_wp2_with fail
      go_ret
      exact Found.nil hb (by rw [HP.out, H.out]; simp)

set_option maxHeartbeats 1000000 in
set_option maxRecDepth 100000 in
theorem iBeginF (hsz : sizR rs ≤ 1048576) (ho : w.ownsRow B 41 9 v rs.length xs) (hr : RulesAp w rs S xs) : Calls Tryz.prog 27 #[v] w (Found 2 (badBegin rs) w) := by
  obtain ⟨ao, cap, rfl⟩ := owns_slice ho
  have hlen := sizR_len rs
  have bn : (rs.length : Int) ≤ 1048576 := by omega
  obtain ⟨P, hP⟩ : ∃ P : Prop, P = badBegin rs := ⟨_, rfl⟩
  rw [← hP]
  have HP : Hid (P = badBegin rs) := hP
  clear hP
  have hap := ap_cells hr
  have hR := ap_is hap
  have hltS : ∀ k, (S k ∧ Cellsy w k) → k < w.heap.size := fun k hk => by obtain ⟨cur, hc⟩ := hk.2; exact heap_lt hc
  go_enter Tryz.func27, Tryz.ntmps27
  go_wp2_with fail
  go_loopw [8] (fun i wr => ∃ k : Nat, k ≤ rs.length ∧ i = .int .i64 k ∧ (∀ (i : Nat) (r : Ru), i < k → rs[i]? = some r → ¬ (r.1 = 1 ∧ (0 < i ∨ needP rs))) ∧ Below w.heap.size w wr) (fun i _ => rs.length - (intOf i).toNat)
  case atStart => exact ⟨0, Nat.zero_le _, rfl, fun i r h => by omega, Below.refl _ _⟩
  case round =>
    obtain ⟨k, hkn, rfl, hall, hb⟩ := hrel
    by_cases hkl : k < rs.length
    · have hki : rs[k]? = some rs[k] := List.getElem?_eq_getElem hkl
      obtain ⟨p0, p1, p2, p3, b0, b1, b2, b3, e0, e1, e2, e3, e4, e5, e6, e7, e8, hp, hbd⟩ := rules_at hR hki
      obtain ⟨g, rfl, hg, hc⟩ := row_cells ho hkl
      have cc : ∀ j x, xs[j]? = some x → wr.cell? ⟨g, j, none⟩ = some x := fun j x hx => (hb.cell (p := ⟨g, j, none⟩) hg).trans (hc j x hx)
      have c0 := cc _ _ e0
      have c1 := cc _ _ e1
      have c2 := cc _ _ e2
      have c3 := cc _ _ e3
      have c4 := cc _ _ e4
      have c5 := cc _ _ e5
      have c6 := cc _ _ e6
      have c7 := cc _ _ e7
      have c8 := cc _ _ e8
      obtain ⟨pop, pn, ps, pao, pcap, pxs, -, rfl, rfl, rfl, rfl, -, -, -⟩ := node_form hp
      obtain ⟨bop, bn', bs, bao, bcap, bxs, -, rfl, rfl, rfl, rfl, -, -, -⟩ := node_form hbd
      have bk : (k : Int) < rs.length := by omega
      have hbo : ∀ o, Below w.heap.size w (wr.alloc o) := fun o => hb.alloc hb.size _
      have hnext : ¬ (rs[k].1 = 1 ∧ (0 < k ∨ needP rs)) → ∀ (i : Nat) (r : Ru), i < k + 1 → rs[i]? = some r → ¬ (r.1 = 1 ∧ (0 < i ∨ needP rs)) := fun hno i r hi hr => by
        by_cases hik : i = k
        · subst hik; rw [hki] at hr; cases hr; exact hno
        · exact hall i r (by omega) hr
      have hbad : rs[k].1 = 1 ∧ (0 < k ∨ needP rs) → P := fun h => by rw [HP.out]; exact ⟨k, _, hki, h⟩
      have hcap : rs.length ≤ cap := by
        rcases ho.2 with ⟨e, _⟩ | ⟨g', cap', cur, e, _, _, hc, _⟩
        · simp at e
        · simp only [Value.slice.injEq] at e
          omega
      have hcI : (rs.length : Int) ≤ cap := by omega
      have call : k = 0 → ∀ w', Below w.heap.size w w' → Calls Tryz.prog 50 #[.slice (some ⟨g, 0, none⟩) 1 cap, .int .i64 2, .func (.func 51) #[] #[]] w' fun e w'' => Found 2 (needP rs) w' e w'' := by
        rintro - w' hb'
        have hr1 : (rs.take 1).length = 1 := by rw [List.length_take]; omega
        have ho1 := row_one (owns_same (w' := w') ho fun b hb => hb'.block b (ho.lt b hb).2) (by omega)
        have hapw := ap_frame (w' := w') (fun k hk => hb'.block k (hltS k hk)) hap
        have hap1 : RulesAp w' (rs.take 1) (fun k => S k ∧ Cellsy w k) (xs.take 9) := by
          cases rs with
          | nil => simp at hkl
          | cons r rest =>
            obtain ⟨q0, q1, q2, q3, d0, d1, d2, d3, c, Sp, Sb, Sr, rfl, h1, h2, h3, k1, k2, k3⟩ := hapw
            exact ⟨q0, q1, q2, q3, d0, d1, d2, d3, [], Sp, Sb, fun _ => False, rfl, h1, h2, rfl, fun k hk => ⟨(k1 k hk).1, (k1 k hk).2.1, id⟩, fun k hk => ⟨(k2 k hk).1, id⟩, fun k hk => hk.elim⟩
        have hsz1 : sizR (rs.take 1) ≤ 1048576 := by have := sizR_append (rs.take 1) (rs.drop 1); rw [List.take_append_drop] at this; omega
        have := iAmissWhere (rs := rs.take 1) (code := 2) (ao := some ⟨g, 0, none⟩) (cap := cap) (w := w') hsz1 (by rw [hr1]; exact ho1) hap1 (fun k hk => hk.elim) (asksNeeds w' (rs.take 1)) (enters_of Tryz.func51 (by kernel_rfl) rfl) trivial
        rw [hr1] at this
        refine this.mono ?_
        rintro e w'' ⟨hF, hres⟩
        exact found_of (any_last needN (allOf (rs.take 1))) (fr_none hF) hres
      have HN : Hid (¬ (rs[k].1 = 1 ∧ (0 < k ∨ needP rs)) → ∀ (i : Nat) (r : Ru), i < k + 1 → rs[i]? = some r → ¬ (r.1 = 1 ∧ (0 < i ∨ needP rs))) := hnext
      have HB : Hid (rs[k].1 = 1 ∧ (0 < k ∨ needP rs) → P) := hbad
      clear hR ho hki hall e0 e1 e2 e3 e4 e5 e6 e7 e8 hp hbd hc cc hr hap hnext hbad hcap hltS
      generalize (kidsOf rs[k].2.1).length = pL at *
      generalize (kidsOf rs[k].2.2).length = bL at *
      generalize rs[k].1 = kd at *
      by_cases h1 : kd = 1
      · subst h1
        by_cases hk0 : k = 0
        · have call' := call hk0
          subst hk0
          clear call
          have HN2 : Hid (¬ needP rs → ∀ (i : Nat) (r : Ru), i < 0 + 1 → rs[i]? = some r → ¬ (r.1 = 1 ∧ (0 < i ∨ needP rs))) := fun hno => HN.out fun h => h.2.elim (fun h => by omega) hno
          have HB2 : Hid (needP rs → P) := fun h => HB.out ⟨rfl, .inr h⟩
          clear HN HB
          generalize needP rs = NP at *
          go_wp2_with (go_at_call 50; refine hold ?_)
          refine (call' _ (hbo _)).mono ?_
          rintro e w2 ⟨⟨hn, hn'⟩ | ⟨⟨r, rfl⟩, hp⟩, hB⟩
          · subst hn
            have hB2 := (hbo _).trans (hB.mono (hbo _).size)
            clear call' hB
            go_wp2_with fail
            go_roundw
            case rel => exact ⟨0 + 1, hkl, by go_num, HN2.out hn', hB2⟩
            case measure => simp [intOf]; omega
          · have hB2 := (hbo _).trans (hB.mono (hbo _).size)
            clear call' hB
            go_wp2_with fail
            go_ret
            exact Found.some hB2 r (HB2.out hp)
        · have hki2 : (0 : Int) < k := by omega
          have HB2 : Hid P := HB.out ⟨rfl, .inl (by omega)⟩
          clear call HN HB hk0
          go_wp2_with fail
          go_ret
          exact Found.some (hbo _) k HB2.out
      · have e1 : (kd == 1) = false := by simpa using h1
        have HN2 : Hid (∀ (i : Nat) (r : Ru), i < k + 1 → rs[i]? = some r → ¬ (r.1 = 1 ∧ (0 < i ∨ needP rs))) := HN.out fun h => h1 h.1
        clear call HN HB h1
        go_wp2_with fail
        go_roundw
        case rel => exact ⟨k + 1, hkl, by go_num, HN2.out, hbo _⟩
        case measure => simp [intOf]; omega
    · obtain rfl : k = rs.length := by omega
      have H : Hid (¬ P) := by
        show ¬ P
        rw [HP.out]
        rintro ⟨i, r, h1, h2⟩
        exact hall i r ((List.getElem?_eq_some_iff.1 h1).1) h1 h2
      clear hall
      go_wp2_with fail
      go_ret
      exact Found.nil hb H.out
end

end Ck
end Go.Proofs.YtjdohfdkkppnpaaGreatDoor

namespace Go.Proofs.YtjdohfdkkppnpaaGreatDoor
open Go.RowKit Go.Extern.Stop Go.Stop Go.Extern
namespace Ck

theorem as_nil (t : Value) (w : World) : Calls Tryz.prog 32 #[.nilIface, t] w fun e w' => e = .returned (.bool false) ∧ w' = w := by
  go_enter Tryz.func32, Tryz.ntmps32
  go_wp2
  go_ret
  exact ⟨rfl, rfl⟩

theorem Tryz.valueOfP (t : Addr) (w : World) : (ReflectliteValue.unpack (.iface 60 (.pointer (some t)))).run Tryz.prog w = .ok (.agg #[.pointer (some ⟨10, 60, none⟩), .pointer (some ⟨w.heap.size, 0, none⟩), .int .u64 150]) (w.alloc (.cells #[.pointer (some t)] 60)) := by kernel_rfl
theorem Tryz.typeP (a : Addr) (w : World) : (ReflectliteValue.methodAny (ReflectliteValue.valueError "reflectlite.Value.Type" 0) (fun t _ _ _ => ReflectliteType.toType t) #[.agg #[.pointer (some ⟨10, 60, none⟩), .pointer (some a), .int .u64 150]]).run Tryz.prog w = .ok (.iface 127 (.agg #[.pointer (some ⟨10, 60, none⟩)])) w := by kernel_rfl
theorem Tryz.kindP (w : World) : ((ReflectliteType.abiMethod fun t => (fun a : Nat => Value.int IntKind.u8 (a : Int)) <$> Rtype.kind t) #[.pointer (some ⟨10, 60, none⟩)]).run Tryz.prog w = .ok (.int .u8 22) w := by kernel_rfl
theorem Tryz.kindS (w : World) : ((ReflectliteType.abiMethod fun t => (fun a : Nat => Value.int IntKind.u8 (a : Int)) <$> Rtype.kind t) #[.pointer (some ⟨10, 56, none⟩)]).run Tryz.prog w = .ok (.int .u8 25) w := by kernel_rfl
theorem rlm (z : Sem Value) (f : TypeId → Addr → Nat → Nat → Sem Value) (v : Value) : ReflectliteValue.method z f #[v] = (do match ← ReflectliteValue.parts v with | none => z | some (t, a, fl) => f t a fl (fl % 32)) := rfl
theorem Tryz.partsP (a : Addr) (w : World) : (ReflectliteValue.parts (.agg #[.pointer (some ⟨10, 60, none⟩), .pointer (some a), .int .u64 150])).run Tryz.prog w = .ok (some (60, a, 150)) w := by kernel_rfl
theorem Tryz.isNilP (a p : Addr) (W : World) (ha : W.cell? a = some (.pointer (some p))) : (ReflectliteValue.method (ReflectliteValue.valueError "reflectlite.Value.IsNil" 0) ReflectliteValue.isNil #[.agg #[.pointer (some ⟨10, 60, none⟩), .pointer (some a), .int .u64 150]]).run Tryz.prog W = .ok (.bool false) W := by
  rw [rlm]
  simp only [Sem.run_bind, Tryz.partsP, Result.andThen]
  simp [ReflectliteValue.isNil, loadVar, isAgg, underlying, Tryz.underlying60, ha, Result.andThen]
theorem Tryz.elemT (w : World) : (ReflectliteType.method ReflectliteType.elem #[.agg #[.pointer (some ⟨10, 60, none⟩)]]).run Tryz.prog w = .ok (.iface 127 (.agg #[.pointer (some ⟨10, 56, none⟩)])) w := by kernel_rfl
theorem Tryz.implementsS (w : World) : (ReflectliteType.relation "Implements" ReflectliteType.implements_ #[.agg #[.pointer (some ⟨10, 56, none⟩)], .iface 127 (.agg #[.pointer (some ⟨10, 59, none⟩)])]).run Tryz.prog w = .ok (.bool true) w := by kernel_rfl
theorem Tryz.typeOfS (v : Value) (w : World) : (ReflectliteType.typeOf #[.iface 56 v]).run Tryz.prog w = .ok (.iface 127 (.agg #[.pointer (some ⟨10, 56, none⟩)])) w := by kernel_rfl
theorem Tryz.assignableS (w : World) : (ReflectliteType.relation "AssignableTo" ReflectliteType.assignableTo #[.agg #[.pointer (some ⟨10, 56, none⟩)], .iface 127 (.agg #[.pointer (some ⟨10, 56, none⟩)])]).run Tryz.prog w = .ok (.bool true) w := by kernel_rfl
theorem Tryz.valueOfS (x y : Int) (w : World) : (ReflectliteValue.unpack (.iface 56 (.agg #[.int .i64 x, .int .i64 y]))).run Tryz.prog w = .ok (.agg #[.pointer (some ⟨10, 56, none⟩), .pointer (some ⟨w.heap.size, 0, none⟩), .int .u64 153]) (w.alloc (.cells #[.int .i64 x, .int .i64 y] 56)) := by kernel_rfl
theorem Tryz.elemOfP (w : World) : (Rtype.elem? 60).run Tryz.prog w = .ok (some 56) w := by kernel_rfl
theorem Tryz.mkS (p : Addr) (w : World) : (ReflectliteValue.mk 56 p ReflectliteValue.flagAddr).run Tryz.prog w = .ok (.agg #[.pointer (some ⟨10, 56, none⟩), .pointer (some p), .int .u64 409]) w := by kernel_rfl
theorem Tryz.elemV (a p : Addr) (W : World) (ha : W.cell? a = some (.pointer (some p))) : (ReflectliteValue.method (ReflectliteValue.valueError "reflectlite.Value.Elem" 0) ReflectliteValue.elem #[.agg #[.pointer (some ⟨10, 60, none⟩), .pointer (some a), .int .u64 150]]).run Tryz.prog W = .ok (.agg #[.pointer (some ⟨10, 56, none⟩), .pointer (some p), .int .u64 409]) W := by
  rw [rlm]
  simp only [Sem.run_bind, Tryz.partsP, Result.andThen]
  simp [ReflectliteValue.elem, loadVar, isAgg, underlying, Tryz.underlying60, ha, Result.andThen, Tryz.elemOfP, Tryz.mkS]
theorem Tryz.partsSa (a : Addr) (w : World) : (ReflectliteValue.parts (.agg #[.pointer (some ⟨10, 56, none⟩), .pointer (some a), .int .u64 409])).run Tryz.prog w = .ok (some (56, a, 409)) w := by kernel_rfl
theorem Tryz.partsS (a : Addr) (w : World) : (ReflectliteValue.parts (.agg #[.pointer (some ⟨10, 56, none⟩), .pointer (some a), .int .u64 153])).run Tryz.prog w = .ok (some (56, a, 153)) w := by kernel_rfl
theorem Tryz.directS (w : World) : (Rtype.directlyAssignable 56 56).run Tryz.prog w = .ok true w := by kernel_rfl
end Ck
end Go.Proofs.YtjdohfdkkppnpaaGreatDoor

