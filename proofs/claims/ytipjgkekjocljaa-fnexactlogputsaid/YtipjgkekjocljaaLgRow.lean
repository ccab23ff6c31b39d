/-
  Rows of entries that a call owns: what is appended to them; a log's copy, the specification's.
-/
import Derived.Test.YtipjgkekjocljaaLgCopy
import Derived.Laws.AppendOwn
import Derived.Laws.OwnMore
import Derived.Maps.AppendAt
import Derived.Deep.OwnRows
import Derived.Deep.RegionLaw
namespace Go.Proofs.Ytipjgkekjocljaa
open Go.RowKit
namespace Lg
open Oc (hold Blk heap_new)
open St (fm_len fm_get)
set_option linter.unusedSimpArgs false
set_option linter.unusedVariables false

/-- Entries that the call owns, in blocks from B on. -/
def ERow (B : Nat) (w : World) (ao : Option Addr) (cap : Nat) (L : List En) : Prop := w.ownsRow B 47 4 (.slice ao L.length cap) L.length (L.flatMap encE)
theorem ERow.new (w : World) {B : Nat} (hB : B ≤ w.heap.size) : ERow B (w.alloc (.cells #[] 47)) (some ⟨w.heap.size, 0, none⟩) 0 [] := World.ownsRow_made w #[] 0 hB (by unfold maxLen; omega) rfl
theorem ERow.lt {B : Nat} {w : World} {ao : Option Addr} {cap : Nat} {L : List En} (h : ERow B w ao cap L) {a : Addr} (ha : ao = some a) : B ≤ a.block ∧ a.block < w.heap.size := World.ownsRow.lt h a.block (by rw [ha]; rfl)
theorem ERow.same {B : Nat} {w w' : World} {ao : Option Addr} {cap : Nat} {L : List En} (h : ERow B w ao cap L) (hb : ∀ a, ao = some a → w'.heap[a.block]? = w.heap[a.block]?) : ERow B w' ao cap L := by
  obtain ⟨h1, h2⟩ := h
  refine ⟨h1, ?_⟩
  rcases h2 with h2 | ⟨g, c, cur, e, hg, hh, h3⟩
  · exact .inl h2
  · simp only [Value.slice.injEq] at e
    obtain ⟨rfl, _, rfl⟩ := e
    exact .inr ⟨g, cap, cur, rfl, hg, (hb _ rfl).trans hh, h3⟩
theorem ERow.below {B C : Nat} {w w' : World} {ao : Option Addr} {cap : Nat} {L : List En} (h : ERow B w ao cap L) (hb : Below C w w') (hC : w.heap.size ≤ C) : ERow B w' ao cap L :=
  h.same fun a ha => hb.block _ (by have := (h.lt ha).2; omega)
theorem ERow.alloc {B : Nat} {w : World} {ao : Option Addr} {cap : Nat} {L : List En} (h : ERow B w ao cap L) (o : Obj) : ERow B (w.alloc o) ao cap L := World.ownsRow.alloc h o
theorem ERow.form {B n : Nat} {w : World} {v : Value} {xs : List Value} (h : w.ownsRow B 47 4 v n xs) : ∃ ao cap, v = .slice ao n cap := by
  rcases h.2 with ⟨rfl, hn⟩ | ⟨g, cap, cur, rfl, _⟩
  · rw [hn]; exact ⟨_, _, rfl⟩
  · exact ⟨_, _, rfl⟩
theorem ERow.rd {B : Nat} {w : World} {ao : Option Addr} {cap : Nat} {L : List En} (h : ERow B w ao cap L) (hs : ∀ v ∈ L, v.2.2.2.size ≤ maxLen) : RdE w ao L := fun i v hi => by
  have hi2 := (List.getElem?_eq_some_iff.1 hi).1
  rcases h.2 with ⟨_, h0⟩ | ⟨g, c, cur, e, hg, hh, _⟩
  · omega
  · simp only [Value.slice.injEq] at e
    obtain ⟨rfl, _, rfl⟩ := e
    have h2 : w.ownsRow B 47 4 (.slice (some ⟨g, 0, none⟩) L.length cap) L.length (L.flatMap encE) := h
    have hc : ∀ j x, j < 4 → (encE v)[j]? = some x → w.cell? ⟨g, i * 4 + j, none⟩ = some x := fun j x hj hx => by
      rw [h2.cellAt (i * 4 + j) (by omega), fm_get (m := 4) (by omega) encE_len]
      have d1 : (i * 4 + j) / 4 = i := by omega
      have d2 : (i * 4 + j) % 4 = j := by omega
      rw [d1, d2, hi, Option.bind_some, hx]
    refine ⟨g, 0, rfl, (h.lt rfl).2, hs v (List.mem_of_getElem? hi), ?_, ?_, ?_, ?_⟩ <;> rw [Nat.zero_add]
    · exact hc 0 _ (by omega) rfl
    · exact hc 1 _ (by omega) rfl
    · exact hc 2 _ (by omega) rfl
    · exact hc 3 _ (by omega) rfl
/-- What is no row of entries has not turned. -/
def ChE (w w' : World) : Prop := w.heap.size ≤ w'.heap.size ∧ ∀ k, k < w.heap.size → (∀ cur fr, w.heap[k]? ≠ some (.cells cur 47 fr)) → w'.heap[k]? = w.heap[k]?
theorem ChE.refl (w : World) : ChE w w := ⟨Nat.le_refl _, fun _ _ _ => rfl⟩
theorem ChE.trans {a b c : World} (h : ChE a b) (h2 : ChE b c) : ChE a c := ⟨Nat.le_trans h.1 h2.1, fun k hk hn => by
  have e := h.2 k hk hn
  exact (h2.2 k (Nat.lt_of_lt_of_le hk h.1) (fun cur fr => by rw [e]; exact hn cur fr)).trans e⟩
theorem ChE.of_below {w w' : World} (h : Below w.heap.size w w') : ChE w w' := ⟨h.size, fun k hk _ => h.block k hk⟩
theorem ChE.alloc (w : World) (o : Obj) : ChE w (w.alloc o) := ChE.of_below ((Below.refl _ w).alloc (Nat.le_refl _) o)
theorem ChE.grown {B n : Nat} {w w' : World} {v : Value} {xs : List Value} (h : w.ownsRow B 47 4 v n xs) (hg : w.grownBy w' v.ownBlock) : ChE w w' := ⟨hg.size, fun k hk hn => hg.block k hk fun e => by
  rcases h.2 with ⟨rfl, _⟩ | ⟨g, cap, cur, rfl, _, hh, _⟩
  · simp [Value.ownBlock] at e
  · simp only [Value.ownBlock, Option.some.injEq] at e
    subst e
    exact hn cur _ hh⟩
theorem ChE.blk {w w' : World} {T : TypeId} {b : Nat} {xs : List Value} (h : ChE w w') (hk : Blk T w b xs) (hT : T ≠ 47) : Blk T w' b xs := (h.2 b hk.lt (fun cur fr e => by
  unfold Blk at hk
  rw [hk] at e
  simp at e
  exact hT e.2.1)).trans hk

theorem app_run {B : Nat} {w : World} {L M : List En} {ao : Option Addr} {cap c : Nat} {ad : Addr} (hown : ERow B w ao cap L) (hM : RdE w (some ad) M) (room : L.length + M.length ≤ 3000000) (hB : B ≤ w.heap.size) :
    ∃ ao' cap' w', (Builtin.append_ #[27, 27] 27 #[.slice ao L.length cap, .slice (some ad) M.length c]).run Try.prog w = .ok (.slice ao' (L ++ M).length cap') w' ∧ ERow B w' ao' cap' (L ++ M) ∧ Below B w w' ∧ ChE w w' := by
  obtain ⟨i0, hi0, hz0, hz1, hz2⟩ := info_parts infoEntry
  have hml : (M.flatMap encE).length = M.length * 4 := fm_len encE_len M
  have hsrc : ∀ j v, (M.flatMap encE)[j]? = some v → w.cell? (ad.add j) = some v := fun j v hj => by
    by_cases hp : 0 < M.length
    · obtain ⟨ad', e, h⟩ := hM.cells hp
      simp only [Option.some.injEq] at e
      subst e
      exact h j v hj
    · obtain rfl : M = [] := List.eq_nil_of_length_eq_zero (by omega)
      simp at hj
  obtain ⟨v', w', hrun, hown', hgr, _⟩ := run_append_own_at (P := Try.prog) w B 27 27 47 i0 _ 4 40 Try.underlying27 hi0 hz0 hz1 hz2 rfl (by decide) (.slice ao L.length cap) L.length (L.flatMap encE) hown ad M.length c (M.flatMap encE) hml hsrc (enc_one M) (by unfold maxLen; omega) (by omega) hB
  obtain ⟨ao', cap', rfl⟩ := ERow.form hown'
  have hl : (L ++ M).length = L.length + M.length := by simp
  exact ⟨ao', cap', w', by rw [hl]; exact hrun, by unfold ERow; rw [hl, List.flatMap_append]; exact hown', Below.grown (Below.refl B w) hgr hB fun k hk => (World.ownsRow.lt hown k hk).1, ChE.grown hown hgr⟩

theorem app_ent {w : World} {B : Nat} {ops : Array Oper} {rest : List Oper} {o : Oper} {a : Act} {Q : Exit → Act → World → Prop} (hgd : o.guard = none) (s x : Operand) (ho : o.op = .call { callee := .builtin .append, args := #[s, x], argTypes := #[27, 27] }) (hty : o.type = 27)
    (L M : List En) (ao : Option Addr) (ad : Addr) (cap c : Nat) (hs : a.eval s = .slice ao L.length cap) (hx : a.eval x = .slice (some ad) M.length c) (hown : ERow B w ao cap L) (hM : RdE w (some ad) M) (room : L.length + M.length ≤ 3000000) (hB : B ≤ w.heap.size)
    (h : ∀ ao' cap' w', ERow B w' ao' cap' (L ++ M) → Below B w w' → ChE w w' → wpList Try.prog ops Q rest (a.put o.dst (.slice ao' (L ++ M).length cap')) w') : wpList Try.prog ops Q (o :: rest) a w := by
  refine wpList_plain hgd fun K hK => ?_
  obtain ⟨ao', cap', w', hrun, h1, h2, h3⟩ := app_run hown hM room hB
  unfold Oper.wp
  simp only [execOp, ho, resolve, invoke, builtin, Sem.run_bind, Sem.run_pure, Result.andThen_ok, List.map_toArray, List.map_cons, List.map_nil, hs, hx, hty]
  rw [hrun]
  simp only [Result.andThen_ok]
  exact hK _ _ (h ao' cap' w' h1 h2 h3)

/-- An append of entries, one step of a region that draws its order. -/
theorem step_app {ops : Array Oper} {o : Oper} {a : Act} {w : World} {K : Act → World → Prop} {Q : Exit → Act → World → Prop} {E : Prop} {B : Nat}
    (hg : o.guard = none) (s x : Operand) (hop : o.op = Op.call { callee := Callee.builtin Builtin.append, args := #[s, x], argTypes := #[27, 27] }) (hty : o.type = 27)
    (L M : List En) (ao : Option Addr) (ad : Addr) (cap c : Nat) (hs : a.eval s = .slice ao L.length cap) (hx : a.eval x = .slice (some ad) M.length c) (hown : ERow B w ao cap L) (hM : RdE w (some ad) M) (room : L.length + M.length ≤ 3000000) (hB : B ≤ w.heap.size)
    (hK : ∀ ao' cap' w', ERow B w' ao' cap' (L ++ M) → Below B w w' → ChE w w' → K (a.put o.dst (.slice ao' (L ++ M).length cap')) w') : if Region.wanted o (yielded ops a.tmps) = true then Oper.wp Try.prog o a w K Q else E := by
  have hw : Region.wanted o (yielded ops a.tmps) = true := by simp [Region.wanted, hg]
  rw [if_pos hw]
  obtain ⟨ao', cap', w', hrun, h1, h2, h3⟩ := app_run hown hM room hB
  unfold Oper.wp
  simp only [execOp, hop, resolve, invoke, builtin, Sem.run_bind, Sem.run_pure, Result.andThen_ok, List.map_toArray, List.map_cons, List.map_nil, hs, hx, hty]
  rw [hrun]
  simp only [Result.andThen_ok]
  exact hK ao' cap' w' h1 h2 h3

end Lg
end Go.Proofs.Ytipjgkekjocljaa
