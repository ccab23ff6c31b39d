/-
  Names by what they stand for: sets of texts, and what a node brings to them.
-/
import Derived.Test.YtjhkkpjggphnjaaEnKeep
import Derived.Test.YtjhkkpjggphnjaaEnSpec
import Derived.Maps.OwnSet
namespace Go.Proofs.Ytjhkkpjggphnjaa
open Go.RowKit
namespace Ck
open Nd Ty

/-- The set in block b has just the texts of ns. -/
def SetIs (w : World) (b : Nat) (ns : List (List UInt8)) : Prop := w.ownsMap (H := Unit) Try.prog 9 unitElem b ns.length (Maps.setOf (.agg []) (ns.map Lit.string))

theorem SetIs.lt {w : World} {b : Nat} {ns : List (List UInt8)} (h : SetIs w b ns) : b < w.heap.size := World.ownsMap.lt h
theorem SetIs.same {w w' : World} {b : Nat} {ns : List (List UInt8)} (h : SetIs w b ns) (hb : w'.heap[b]? = w.heap[b]?) : SetIs w' b ns := by
  obtain ⟨es, c, h1, h2⟩ := h
  exact ⟨es, c, hb.trans h1, h2⟩
theorem SetIs.not {w : World} {b : Nat} {ns : List (List UInt8)} (h : SetIs w b ns) : ¬ Cellsy w b := by
  obtain ⟨es, c, h1, _⟩ := h
  rintro ⟨cur, h2⟩
  rw [h1] at h2
  cases h2
theorem SetIs.made (w : World) : SetIs (w.alloc (.map #[] 0)) w.heap.size [] := World.ownsMap_made w _ _ _


theorem key_of {s : List UInt8} (hs : s.length ≤ 1048576) : keyOf Try.prog 9 (.string ⟨s.toArray⟩) = some (.string s) := by
  have := WideMaps.keyOf_string_mk (P := Try.prog) (k := 9) Try.underlying9 (s := ⟨s.toArray⟩) (by show s.toArray.size ≤ maxLen; unfold maxLen; simp; omega)
  simpa using this

theorem set_snoc (ns : List (List UInt8)) (s : List UInt8) : (Maps.setOf (H := Unit) (.agg []) (ns.map Lit.string)).put (.string s) (.agg []) = Maps.setOf (.agg []) ((ns ++ [s]).map Lit.string) := by rw [List.map_append, List.map_cons, List.map_nil, Maps.setOf_snoc]

set_option maxHeartbeats 1000000 in
set_option maxRecDepth 100000 in
theorem iTake {w : World} {bv bc : Nat} {vn cn : List (List UInt8)} {op n : Int} {s : List UInt8} {ao : Option Addr} {L cap : Nat} (hv : SetIs w bv vn) (hc : SetIs w bc cn) (hne : bv ≠ bc) (hs : s.length ≤ 1048576) (hl : vn.length ≤ 2500000) (hl2 : cn.length ≤ 2500000) :
    Calls Try.prog 18 #[.agg #[.map (some bv), .map (some bc)], .agg #[.int .i64 op, .int .i64 n, .string ⟨s.toArray⟩, .slice ao L cap]] w fun e w' => (∃ v, e = .returned v) ∧ SetIs w' bv (vn ++ varsT op s) ∧ SetIs w' bc (cn ++ cellsT op s) ∧ Fr (fun k => k = bv ∨ k = bc) w w' := by
  obtain ⟨o1, ho1⟩ : ∃ o1, o1 = Obj.cells #[.map (some bv), .map (some bc)] 49 := ⟨_, rfl⟩
  obtain ⟨o2, ho2⟩ : ∃ o2, o2 = Obj.cells #[.int .i64 op, .int .i64 n, .string ⟨s.toArray⟩, .slice ao L cap] 43 := ⟨_, rfl⟩
  have hb : Below w.heap.size w ((w.alloc o1).alloc o2) := ((Below.refl _ w).alloc (Nat.le_refl _) _).alloc (by simp) _
  have hv2 : SetIs ((w.alloc o1).alloc o2) bv vn := hv.same (hb.block _ hv.lt)
  have hc2 : SetIs ((w.alloc o1).alloc o2) bc cn := hc.same (hb.block _ hc.lt)
  have hvl := hv2.lt
  have hcl := hc2.lt
  have hkey := key_of hs
  have hvn := set_snoc vn s
  have hcn := set_snoc cn s
  have hF0 : Fr (fun k => k = bv ∨ k = bc) w ((w.alloc o1).alloc o2) := fr_below hb
  subst ho1 ho2
  by_cases h4 : op = 4
  · subst h4
    go_enter Try.func18, Try.ntmps18
    go_wp2_with (at_mapUpdate; refine wpList_mapUpdate_own _ rfl _ _ _ 47 rfl 9 59 (Maps.string_keyed Try.underlying9) Try.underlying47 unitElem bv vn.length _ rfl hv2 (by unfold maxLen; omega) _ _ _ rfl rfl hkey _ [] unitElem_mk ?_; intro w1 hown1 hgrow1; rw [hvn] at hown1)
    go_end0
    refine ⟨⟨_, rfl⟩, ?_, ?_, hF0.grown hgrow1 (fun k e => .inr (.inl (by cases e; rfl)))⟩
    · unfold SetIs varsT; rw [if_pos rfl, List.length_append]; exact hown1
    · unfold cellsT; rw [if_neg (by decide), List.append_nil]; exact hc2.same (hgrow1.block bc hcl (fun e => hne (by cases e; rfl)))
  · by_cases h5 : op = 5 ∨ op = 34
    · have e1 : varsT op s = [] := by unfold varsT; rw [if_neg h4]
      have e2 : cellsT op s = [s] := by unfold cellsT; rw [if_pos h5]
      have HE : Hid (varsT op s = [] ∧ cellsT op s = [s]) := ⟨e1, e2⟩
      clear e1 e2
      rcases h5 with rfl | rfl
      all_goals
        go_enter Try.func18, Try.ntmps18
        go_wp2_with (at_mapUpdate; refine wpList_mapUpdate_own _ rfl _ _ _ 47 rfl 9 59 (Maps.string_keyed Try.underlying9) Try.underlying47 unitElem bc cn.length _ rfl hc2 (by unfold maxLen; omega) _ _ _ rfl rfl hkey _ [] unitElem_mk ?_; intro w1 hown1 hgrow1; rw [hcn] at hown1)
        go_end0
        refine ⟨⟨_, rfl⟩, ?_, ?_, hF0.grown hgrow1 (fun k e => .inr (.inr (by cases e; rfl)))⟩
        · rw [HE.out.1, List.append_nil]; exact hv2.same (hgrow1.block bv hvl (fun e => hne (by cases e; rfl)))
        · rw [HE.out.2]; unfold SetIs; rw [List.length_append]; exact hown1
    · have e1 : varsT op s = [] := by unfold varsT; rw [if_neg h4]
      have e2 : cellsT op s = [] := by unfold cellsT; rw [if_neg h5]
      have HE : Hid (varsT op s = [] ∧ cellsT op s = []) := ⟨e1, e2⟩
      simp only [not_or] at h5
      obtain ⟨h5, h6⟩ := h5
      clear e1 e2
      go_enter Try.func18, Try.ntmps18
      go_wp2_with fail
      all_goals (try (go_end0; exact ⟨⟨_, rfl⟩, by rw [HE.out.1, List.append_nil]; exact hv2, by rw [HE.out.2, List.append_nil]; exact hc2, hF0⟩))

end Ck
end Go.Proofs.Ytjhkkpjggphnjaa
