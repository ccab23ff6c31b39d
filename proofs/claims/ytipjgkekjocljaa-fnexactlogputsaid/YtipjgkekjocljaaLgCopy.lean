/-
  Entries copied from row to row; a log's copy.
-/
import Derived.Test.YtipjgkekjocljaaLgOkLaw
import Derived.Laws.CopyOwn
namespace Go.Proofs.Ytipjgkekjocljaa
open Go.RowKit
namespace Lg
open Oc (hold Blk heap_new)
open St (fm_len fm_get)
set_option linter.unusedSimpArgs false
set_option linter.unusedVariables false

theorem fm_take {α : Type} {f : α → List Value} {m : Nat} (hm : 0 < m) (hf : ∀ x, (f x).length = m) (vs : List α) (k : Nat) : (vs.flatMap f).take (k * m) = (vs.take k).flatMap f := by
  apply List.ext_getElem?
  intro p
  rw [List.getElem?_take, fm_get hm hf, fm_get hm hf, List.getElem?_take]
  by_cases h : p / m < k
  · rw [if_pos h, if_pos ((Nat.div_lt_iff_lt_mul hm).1 h)]
  · rw [if_neg h, if_neg (fun h' => h ((Nat.div_lt_iff_lt_mul hm).2 h'))]; rfl
theorem fm_drop {α : Type} {f : α → List Value} {m : Nat} (hm : 0 < m) (hf : ∀ x, (f x).length = m) (vs : List α) (k : Nat) : (vs.flatMap f).drop (k * m) = (vs.drop k).flatMap f := by
  apply List.ext_getElem?
  intro p
  have e1 : (k * m + p) / m = k + p / m := by rw [Nat.mul_comm, Nat.mul_add_div hm]
  have e2 : (k * m + p) % m = p % m := by rw [Nat.mul_comm, Nat.mul_add_mod]
  rw [List.getElem?_drop, fm_get hm hf, fm_get hm hf, List.getElem?_drop, e1, e2]

/-- Entries laid over others from place off on. -/
def spl (L : List En) (off : Nat) (M : List En) : List En := L.take off ++ (M ++ L.drop (off + M.length))

theorem RdE.cells {w : World} {ao : Option Addr} {M : List En} (h : RdE w ao M) (hp : 0 < M.length) : ∃ ad : Addr, ao = some ad ∧ ∀ j v, (M.flatMap encE)[j]? = some v → w.cell? (ad.add j) = some v := by
  obtain ⟨b, o, e, _⟩ := h 0 M[0] (List.getElem?_eq_getElem hp)
  refine ⟨⟨b, o, none⟩, e, fun j v hv => ?_⟩
  have hadd : (⟨b, o, none⟩ : Addr).add j = ⟨b, o + j, none⟩ := by unfold Addr.add; split <;> simp_all
  rw [hadd]
  rw [fm_get (m := 4) (by omega) encE_len] at hv
  cases hx : M[j / 4]? with
  | none => rw [hx] at hv; simp at hv
  | some x =>
    rw [hx, Option.bind_some] at hv
    obtain ⟨b', o', e', _, _, c0, c1, c2, c3⟩ := h _ x hx
    rw [e] at e'
    simp only [Option.some.injEq, Addr.mk.injEq, and_true] at e'
    obtain ⟨rfl, rfl⟩ := e'
    have hd := Nat.div_add_mod j 4
    rcases (by omega : j % 4 = 0 ∨ j % 4 = 1 ∨ j % 4 = 2 ∨ j % 4 = 3) with r | r | r | r
    · rw [r] at hv
      simp [encE] at hv
      subst hv
      rw [show o + j = o + j / 4 * 4 by omega]
      exact c0
    · rw [r] at hv
      simp [encE] at hv
      subst hv
      rw [show o + j = o + j / 4 * 4 + 1 by omega]
      exact c1
    · rw [r] at hv
      simp [encE] at hv
      subst hv
      rw [show o + j = o + j / 4 * 4 + 2 by omega]
      exact c2
    · rw [r] at hv
      simp [encE] at hv
      subst hv
      rw [show o + j = o + j / 4 * 4 + 3 by omega]
      exact c3

theorem RdE.take {w : World} {ao : Option Addr} {L : List En} (h : RdE w ao L) (k : Nat) : RdE w ao (L.take k) := fun i v hi => h i v (by
  rw [List.getElem?_take] at hi
  split at hi
  · exact hi
  · simp at hi)

theorem enc_one (M : List En) : ∀ v ∈ M.flatMap encE, v.oneCell' = true := fun v hv => by
  obtain ⟨x, _, hx⟩ := List.mem_flatMap.1 hv
  simp [encE] at hx
  rcases hx with rfl | rfl | rfl | rfl <;> rfl

theorem run_copy_m {P : Program} (w : World) (dT sT ty elem : TypeId) (m g o dLen dCap : Nat) (a : Addr) (sLen sCap : Nat) (cur : Array Value) (t : TypeId) (cs : List Value)
    (hu : P.underlying dT = some (.slice elem)) (hs : (P.info? elem).map (·.size) = some m)
    (hg : w.heap[g]? = some (.cells cur t (0, 0))) (hn : cs.length = Nat.min sLen dLen * m)
    (hsrc : ∀ j v, cs[j]? = some v → w.cell? (a.add j) = some v) (hfit : o + cs.length ≤ cur.size) (h1 : ∀ v ∈ cs, v.oneCell' = true) :
    (Builtin.copy_ #[dT, sT] ty #[.slice (some ⟨g, o, none⟩) dLen dCap, .slice (some a) sLen sCap]).run P w =
      .ok (goInt (Nat.min sLen dLen)) (w.setRow g (cur.toList.take o ++ cs ++ cur.toList.drop (o + cs.length)).toArray) := by
  have hl := run_loadCells_list (P := P) w a cs hsrc
  have hst := run_storeCells_at P g o t cs 0 cur w hg (by simpa using hfit) h1
  cases hq : P.info? elem with
  | none => simp [hq] at hs
  | some i =>
    have hi : i.size = m := by simpa [hq] using hs
    simp [Builtin.copy_, run_underlying hu, Builtin.lenOf, Builtin.firstCells, sizeOf, typeInfo, hq, hi, ← hn, hl, hst]
theorem run_copy_m_none {P : Program} (w : World) (dT sT ty elem : TypeId) (m : Nat) (d a : Option Addr) (dLen dCap sLen sCap : Nat) (hu : P.underlying dT = some (.slice elem)) (hs : (P.info? elem).map (·.size) = some m) (hn : Nat.min sLen dLen = 0) :
    (Builtin.copy_ #[dT, sT] ty #[.slice d dLen dCap, .slice a sLen sCap]).run P w = .ok (goInt 0) w := by
  cases hq : P.info? elem with
  | none => simp [hq] at hs
  | some i =>
    have hl : ∀ (x : Addr), (loadCells x 0).run P w = .ok #[] w := fun x => by simpa using run_loadCells_list (P := P) w x [] (by simp)
    cases d <;> cases a <;> simp [Builtin.copy_, run_underlying hu, Builtin.lenOf, Builtin.firstCells, sizeOf, typeInfo, hq, hn, storeCells, hl]

theorem sizeEntry : (Try.prog.info? 47).map (·.size) = some 4 := by kernel_rfl

theorem wpList_copy_ent {w : World} {ops : Array Oper} {rest : List Oper} {o : Oper} {a : Act} {Q : Exit → Act → World → Prop} (hgd : o.guard = none) (d s : Operand)
    (ho : o.op = .call { callee := .builtin .copy, args := #[d, s], argTypes := #[27, 27] })
    (dp sp : Option Addr) (dLen dCap sLen sCap : Nat) (hd : a.eval d = .slice dp dLen dCap) (hs : a.eval s = .slice sp sLen sCap)
    (g off : Nat) (L : List En) (hR : St.Rows 47 encE w g L) (M : List En) (hn : M.length = Nat.min sLen dLen)
    (hpos : 0 < M.length → dp = some ⟨g, off * 4, none⟩ ∧ RdE w sp M) (hfit : off + M.length ≤ L.length) (B : Nat) (w0 : World) (hb : Below B w0 w) (hBg : B ≤ g)
    (h : ∀ w', Hid (St.Rows 47 encE w' g (spl L off M)) → Below B w0 w' → wpList Try.prog ops Q rest (a.put o.dst (goInt M.length)) w') :
    wpList Try.prog ops Q (o :: rest) a w := by
  refine wpList_plain hgd fun K hK => ?_
  by_cases h0 : M.length = 0
  · obtain rfl : M = [] := List.eq_nil_of_length_eq_zero h0
    have hrun := run_copy_m_none (P := Try.prog) w 27 27 o.type 47 4 dp sp dLen dCap sLen sCap Try.underlying27 sizeEntry (by simpa using hn.symm)
    unfold Oper.wp
    simp [execOp, ho, resolve, invoke, builtin, hd, hs, hrun, Result.andThen]
    exact hK _ _ (h w (show St.Rows _ _ _ _ _ by simpa [spl] using hR) hb)
  · obtain ⟨rfl, hM⟩ := hpos (by omega)
    obtain ⟨ad, rfl, hsrc⟩ := hM.cells (by omega)
    have hml : (M.flatMap encE).length = M.length * 4 := fm_len encE_len M
    have hll : (L.flatMap encE).length = L.length * 4 := fm_len encE_len L
    have hrun := run_copy_m (P := Try.prog) w 27 27 o.type 47 4 g (off * 4) dLen dCap ad sLen sCap (L.flatMap encE).toArray 47 (M.flatMap encE) Try.underlying27 sizeEntry hR (by rw [hml, hn]) hsrc (by rw [List.size_toArray, hml, hll]; omega) (enc_one M)
    rw [← hn] at hrun
    obtain ⟨W2, hW2⟩ : ∃ W2, W2 = w.setRow g (((L.flatMap encE).toArray.toList.take (off * 4) ++ M.flatMap encE ++ (L.flatMap encE).toArray.toList.drop (off * 4 + (M.flatMap encE).length)).toArray) := ⟨_, rfl⟩
    rw [← hW2] at hrun
    have hB2 : Below B w0 W2 := by rw [hW2]; exact below_setRow hb hBg _
    have hR2 : St.Rows 47 encE W2 g (spl L off M) := by
      have := setRow_heap w g _ (((L.flatMap encE).toArray.toList.take (off * 4) ++ M.flatMap encE ++ (L.flatMap encE).toArray.toList.drop (off * 4 + (M.flatMap encE).length)).toArray) 47 _ hR
      rw [← hW2, List.toList_toArray, hml, show off * 4 + M.length * 4 = (off + M.length) * 4 by omega, fm_take (by omega) encE_len, fm_drop (by omega) encE_len, ← List.flatMap_append, ← List.flatMap_append] at this
      rw [show (spl L off M) = L.take off ++ M ++ L.drop (off + M.length) by simp [spl]]
      exact this
    clear hW2
    unfold Oper.wp
    simp [execOp, ho, resolve, invoke, builtin, hd, hs, hrun, Result.andThen]
    exact hK _ _ (h _ (show Hid _ from hR2) hB2)

theorem spl_all {L M : List En} (h : L.length = M.length) : spl L 0 M = M := by
  unfold spl
  rw [List.take_zero, List.nil_append, Nat.zero_add, ← h, List.drop_length, List.append_nil]

theorem iOf (b t : Int) (ao : Option Addr) (n c : Nat) (w : World) :
    Calls Try.prog 25 #[aggL b t ao n c] w fun e w' => e = .returned (.agg #[.int .i64 b, .slice ao n c]) ∧ Below w.heap.size w w' := by
  go_enter Try.func25, Try.ntmps25
  go_wp2_with fail
  refine bodyPost_ret (v := .agg #[.int .i64 b, .slice ao n c]) ?_ rfl ⟨rfl, ?_⟩
  · simp [results, Try.results25, go_sem]
  · repeat (first | refine Below.setCell ?_ (by simp <;> omega) _ | refine Below.alloc ?_ (by simp <;> omega) _)
    exact Below.refl _ _

set_option maxRecDepth 100000 in
theorem iTail {ao : Option Addr} {cap : Nat} {vs : List En} {b : Int} {w : World} (hA : RdE w ao vs) (hn : vs.length ≤ 1048576) (hc : vs.length ≤ cap) (hcm : cap ≤ 1048576) :
    Calls Try.prog 44 #[.agg #[.int .i64 b, .slice ao vs.length cap], .int .i64 0] w fun e w' => ∃ g, e = .returned (.slice (some ⟨g, 0, none⟩) vs.length vs.length) ∧ w.heap.size ≤ g ∧ St.Rows 47 encE w' g vs ∧ Below w.heap.size w w' := by
  have hmk := make_entries vs.length (by omega)
  have bn : (vs.length : Int) ≤ 1048576 := by omega
  have bc : (vs.length : Int) ≤ cap := by omega
  have bm : (cap : Int) ≤ 1048576 := by omega
  have hb0 := box w (.cells #[.int .i64 b, .slice ao vs.length cap] 52)
  have hb1 := hb0.alloc hb0.size (.cells ((List.replicate vs.length zeroE).flatMap encE).toArray 47)
  have HA : Hid (RdE w ao vs) := hA
  have HR : Hid (St.Rows 47 encE ((w.alloc (.cells #[.int .i64 b, .slice ao vs.length cap] 52)).alloc (.cells ((List.replicate vs.length zeroE).flatMap encE).toArray 47)) (w.heap.size + 1) (List.replicate vs.length zeroE)) := by
    have := heap_new (w.alloc (.cells #[.int .i64 b, .slice ao vs.length cap] 52)) (.cells ((List.replicate vs.length zeroE).flatMap encE).toArray 47)
    rw [World.size_alloc] at this
    exact this
  clear hA
  go_enter Try.func44, Try.ntmps44
  go_wp2_with (refine wpList_copy_ent rfl (.tmp 12) (.tmp 16) rfl _ _ _ _ _ _ rfl rfl (w.heap.size + 1) 0 (List.replicate vs.length zeroE) HR.out vs (Nat.min_self _).symm (fun hp => ⟨rfl, HA.out.below hb1⟩) (by simp) w.heap.size w hb1 (by omega) ?_; intro w3 HR3 hb3)
  go_ret
  refine ⟨_, rfl, by omega, ?_, hb3⟩
  have := HR3.out
  rwa [spl_all (by simp)] at this

end Lg
end Go.Proofs.Ytipjgkekjocljaa
