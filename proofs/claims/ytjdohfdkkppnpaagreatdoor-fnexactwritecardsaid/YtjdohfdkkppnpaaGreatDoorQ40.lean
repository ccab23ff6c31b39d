/-
  What is put at the end: a deferred call of the closure.
  What is written of a statement: writeStatement.
-/
import Derived.Test.YtjdohfdkkppnpaaGreatDoorQ29
import Derived.Test.YtjdohfdkkppnpaaGreatDoorQ39
namespace Go.Proofs.YtjdohfdkkppnpaaGreatDoor
open Go.RowKit
namespace Ty
open Nd
set_option linter.unusedSimpArgs false
set_option linter.unusedVariables false

set_option maxRecDepth 100000 in
theorem iPutD {B p : Nat} {L : List UInt8} {w : World} {u0 : FrameMode} (h : Out B p L w) (s : ByteArray) (room : L.length + s.size ≤ 1099511627776) :
    CallsD Tryz.prog 18 #[.string s, .pointer (some ⟨p, 0, none⟩)] u0 w fun e u' w' => u' = u0 ∧ e = .returned (.tuple #[]) ∧ Out B p (L ++ s.data.toList) w' ∧ Ch B p w w' := by
  have hlt := h.lt
  obtain ⟨ao, cap, hBp, hp, hown⟩ := h
  obtain ⟨i0, hi0, hz0, hz1, hz2⟩ := info_parts Tryz.infoByter
  have c0 : w.cell? ⟨p, 0, none⟩ = some (.slice ao L.length cap) := (cell_of_row w p 0 _ _ _ hp).trans rfl
  have hrow : ∀ g, Value.ownBlock (.slice ao L.length cap) = some g → B ≤ g ∧ ∃ cur fr, w.heap[g]? = some (.cells cur 5 fr) := fun g hg => by
    rcases hown.2 with ⟨e, _⟩ | ⟨g', cap', cur, e, hb, hh, _⟩
    · rw [e] at hg; simp [Value.ownBlock] at hg
    · rw [e] at hg; simp [Value.ownBlock] at hg; subst hg; exact ⟨hb, cur, _, hh⟩
  have hne : Value.ownBlock (.slice ao L.length cap) ≠ some p := fun e => by
    obtain ⟨_, cur, fr, e2⟩ := hrow p e
    rw [hp] at e2
    simp at e2
  have R1 : Hid (L.length + s.size ≤ maxLen) := by show _ ≤ _; unfold maxLen; omega
  have R2 : Hid (L.length + s.size ≤ 140737488355328) := by show _ ≤ _; omega
  have R3 : Hid (B ≤ w.heap.size) := by show _ ≤ _; omega
  clear room
  go_enter_d Tryz.func18, Tryz.ntmps18
  go_wp2_with (at_builtin; refine hold ?_)
  refine Lib.wpList_append_own_string _ rfl (.tmp 3) (.tmp 4) 44 9 rfl B 5 i0 Tryz.underlying44 Tryz.underlying9 hi0 hz0 hz1 hz2 (.slice ao L.length cap) L.length _ rfl hown s rfl R1.out R2.out R3.out ?_
  intro v' w' hown' hgr _
  have hb' : w'.heap[p]? = w.heap[p]? := hgr.block p hlt.2 (Ne.symm hne)
  have c1 : w'.cell? ⟨p, 0, none⟩ = some (.slice ao L.length cap) := (World.cell?_of_block hb').trans c0
  have hp' := hb'.trans hp
  have f1 : w'.frozen? ⟨p, 0, none⟩ = false := by simp [World.frozen?, hp']
  obtain ⟨ao', cap', rfl⟩ := owns_slice hown'
  have hll : (L ++ s.data.toList).length = L.length + s.size := by rw [List.length_append]; rfl
  have hrow' : ∀ g, Value.ownBlock (.slice ao' (L.length + s.size) cap') = some g → g ≠ p := fun g hg e => by
    subst e
    rcases hown'.2 with ⟨e, _⟩ | ⟨g', cap2, cur, e, hb, hh, _⟩
    · rw [e] at hg; simp [Value.ownBlock] at hg
    · rw [e] at hg; simp [Value.ownBlock] at hg; subst hg; rw [hp'] at hh; simp at hh
  have HO : Hid (Out B p (L ++ s.data.toList) (w'.setCell ⟨p, 0, none⟩ (.slice ao' (L.length + s.size) cap'))) := by
    refine ⟨ao', cap', hBp, ?_, ?_⟩
    · rw [hll]; simp [World.setCell, Array.getElem?_modify, hp']
    · rw [hll, List.map_append]
      exact owns_same hown' fun g hg => Below.heap_setCell _ _ _ _ (hrow' g hg)
  have HC : Hid (Ch B p w (w'.setCell ⟨p, 0, none⟩ (.slice ao' (L.length + s.size) cap'))) := by
    refine ⟨hgr.os, hgr.tape, hgr.output, Nat.le_trans hgr.size (by simp [World.setCell]), fun k hk => ?_, fun k hk hkp hnb => ?_⟩
    · exact (Below.heap_setCell _ ⟨p, 0, none⟩ _ _ (show k ≠ p by omega)).trans (hgr.block k (by omega) fun e => by have := (hrow k e.symm).1; omega)
    · exact (Below.heap_setCell _ ⟨p, 0, none⟩ _ _ hkp).trans (hgr.block k hk fun e => by
        obtain ⟨_, cur, fr, h2⟩ := hrow k e.symm
        exact hnb cur fr h2)
  clear hown hown' hgr hrow hrow' hp hp' hb' hll
  go_wp2_with fail
  refine bodyPost_end (v := .tuple #[]) ?_ rfl ⟨rfl, HO.out, HC.out⟩
  simp [results, Tryz.results18, go_sem]

/-- The end of a function that has deferred one text. -/
theorem leave_put {B p : Nat} {L : List UInt8} {w : World} {fn : Func} {tmps : Array Value} {R : Ending → World → Prop} (s : List UInt8) (h : Out B p L w) (room : L.length + s.length ≤ 1099511627776) (hr : ∀ w, (results fn tmps).run Tryz.prog w = .ok (.tuple #[]) w)
    (hR : ∀ w', Out B p (L ++ s) w' → Ch B p w w' → R (.returned (.tuple #[])) w') :
    Leaves Tryz.prog fn tmps R [{ target := .fn (.func 18) #[.pointer (some ⟨p, 0, none⟩)], args := #[.string ⟨s.toArray⟩] }] .returning w := by
  refine leaves_cons (f := 18) (args := #[.string ⟨s.toArray⟩, .pointer (some ⟨p, 0, none⟩)]) (by simp) (by simp [invoke, enterPut]) ?_
  refine (iPutD (u0 := .returning) h ⟨s.toArray⟩ room).mono ?_
  rintro e u' w' ⟨rfl, rfl, hO, hC⟩
  exact ⟨_, hr w', hR w' hO hC⟩

end Ty
end Go.Proofs.YtjdohfdkkppnpaaGreatDoor

namespace Go.Proofs.YtjdohfdkkppnpaaGreatDoor
open Go.RowKit
namespace Ty
open Nd
set_option linter.unusedSimpArgs false
set_option linter.unusedVariables false

set_option maxHeartbeats 2000000 in
set_option maxRecDepth 100000 in
theorem iStBlock {W0 : World} {t : Data} (hop : opOf t = 29) (hx : WOk W0 46 stT stT t) : WOk W0 88 lineT lineT t := by
  intro p L w a b c u hA hb hO room
  have cx := fun L w' => hx p L w' _ _ _ _ hA
  have hT : lineT t = stT t ++ [10] := rfl
  rw [hT] at room ⊢
  obtain ⟨ao, cap, rfl, rfl, rfl, rfl, hK, -⟩ := arg_open hA
  have hk := fun oo ho => wk_new (a := .int .i64 (opOf t)) (b := .int .i64 (numOf t)) (c := .string ⟨(txtOf t).toArray⟩) (u := .slice ao (kidsOf t).length cap) hb hO oo ho
  have RM : Hid (L.length + (stT t ++ [10]).length ≤ 1099511627776) := room
  clear hA hK hx room hT
  generalize numOf t = n at *
  generalize stT t = X at *
  generalize txtOf t = s at *
  generalize (kidsOf t).length = xL at *
  unfold PutV at *
  have h := hop
  all_goals
    rw [h] at hk cx ⊢
    go_enter_defers Tryz.func88, Tryz.ntmps88
    have hk := hk _ rfl
    go_wp2_with (first
      | (go_at_call 46; refine (cx _ _ hk.bel hk.out ?_).mono ?_; (have := RM.out; simp only [List.length_append, List.length_cons, List.length_nil] at this ⊢; omega); rintro e w2 ⟨rfl, hO2, hC2⟩; have hk := hk.step hO2 hC2))
    refine leave_put [10] hk.out (by have := RM.out; simp only [List.length_append, List.length_cons, List.length_nil] at this ⊢; omega) (fun w => by simp [results, Tryz.results88]) fun w' hO3 hC3 => ⟨rfl, ?_, hk.ch.trans hC3⟩
    simpa [List.append_assoc] using hO3

set_option maxHeartbeats 2000000 in
set_option maxRecDepth 100000 in
theorem iStBranch {W0 : World} {t : Data} (hop : opOf t = 31 ∨ opOf t = 32) (hx : WOk W0 111 stT stT t) : WOk W0 88 lineT lineT t := by
  intro p L w a b c u hA hb hO room
  have cx := fun L w' => hx p L w' _ _ _ _ hA
  have hT : lineT t = stT t ++ [10] := rfl
  rw [hT] at room ⊢
  obtain ⟨ao, cap, rfl, rfl, rfl, rfl, hK, -⟩ := arg_open hA
  have hk := fun oo ho => wk_new (a := .int .i64 (opOf t)) (b := .int .i64 (numOf t)) (c := .string ⟨(txtOf t).toArray⟩) (u := .slice ao (kidsOf t).length cap) hb hO oo ho
  have RM : Hid (L.length + (stT t ++ [10]).length ≤ 1099511627776) := room
  clear hA hK hx room hT
  generalize numOf t = n at *
  generalize stT t = X at *
  generalize txtOf t = s at *
  generalize (kidsOf t).length = xL at *
  unfold PutV at *
  rcases hop with h | h
  all_goals
    rw [h] at hk cx ⊢
    go_enter_defers Tryz.func88, Tryz.ntmps88
    have hk := hk _ rfl
    go_wp2_with (first
      | (go_at_call 111; refine (cx _ _ hk.bel hk.out ?_).mono ?_; (have := RM.out; simp only [List.length_append, List.length_cons, List.length_nil] at this ⊢; omega); rintro e w2 ⟨rfl, hO2, hC2⟩; have hk := hk.step hO2 hC2))
    refine leave_put [10] hk.out (by have := RM.out; simp only [List.length_append, List.length_cons, List.length_nil] at this ⊢; omega) (fun w => by simp [results, Tryz.results88]) fun w' hO3 hC3 => ⟨rfl, ?_, hk.ch.trans hC3⟩
    simpa [List.append_assoc] using hO3

set_option maxHeartbeats 2000000 in
set_option maxRecDepth 100000 in
theorem iStPlain {W0 : World} {t : Data} (hop : opOf t = 30 ∨ opOf t = 33 ∨ opOf t = 34 ∨ opOf t = 35) (hx : WOk W0 112 plainT plainT t) : WOk W0 88 lineT lineT t := by
  intro p L w a b c u hA hb hO room
  have cx := fun L w' => hx p L w' _ _ _ _ hA
  have hT : lineT t = plainT t ++ [59] ++ [10] := by
    unfold lineT
    rw [tree_nodes hA, stT_nd]
    have h2 : plainT (nd (opOf t) (numOf t) (txtOf t) (kidsOf t)) = plainT t := by rw [← tree_nodes hA]
    rw [h2]
    unfold stK plainT cellT
    rcases hop with h | h | h | h
    · rw [h]
      by_cases he : esT (kidsOf t) = []
      · simp [he]
      · simp [he]
    · rw [h]; simp
    · rw [h]; simp
    · rw [h]; simp
  rw [hT] at room ⊢
  obtain ⟨ao, cap, rfl, rfl, rfl, rfl, hK, -⟩ := arg_open hA
  have hk := fun oo ho => wk_new (a := .int .i64 (opOf t)) (b := .int .i64 (numOf t)) (c := .string ⟨(txtOf t).toArray⟩) (u := .slice ao (kidsOf t).length cap) hb hO oo ho
  have RM : Hid (L.length + (plainT t ++ [59] ++ [10]).length ≤ 1099511627776) := room
  clear hA hK hx room hT
  generalize numOf t = n at *
  generalize plainT t = X at *
  generalize txtOf t = s at *
  generalize (kidsOf t).length = xL at *
  unfold PutV at *
  rcases hop with h | h | h | h
  all_goals
    rw [h] at hk cx ⊢
    go_enter_defers Tryz.func88, Tryz.ntmps88
    have hk := hk _ rfl
    go_wp2_with (first
      | (refine put_step hk rfl _ _ _ rfl rfl _ rfl (by have := RM.out; simp only [List.length_append, List.length_cons, List.length_nil] at this ⊢; omega) ?_; intro w2 hk)
      | (go_at_call 112; refine (cx _ _ hk.bel hk.out ?_).mono ?_; (have := RM.out; simp only [List.length_append, List.length_cons, List.length_nil] at this ⊢; omega); rintro e w2 ⟨rfl, hO2, hC2⟩; have hk := hk.step hO2 hC2))
    refine leave_put [10] hk.out (by have := RM.out; simp only [List.length_append, List.length_cons, List.length_nil] at this ⊢; omega) (fun w => by simp [results, Tryz.results88]) fun w' hO3 hC3 => ⟨rfl, ?_, hk.ch.trans hC3⟩
    simpa [List.append_assoc] using hO3

theorem justI {ks : List Data} (h : (justB [eB, blB] (ks.map opOf) || justB [eB, blB, blB] (ks.map opOf)) = true) : (∃ x y, ks = [x, y] ∧ eB (opOf x) = true ∧ opOf y = 29) ∨ ∃ x y z, ks = [x, y, z] ∧ eB (opOf x) = true ∧ opOf y = 29 ∧ opOf z = 29 := by
  match ks, h with
  | [], h => cases h
  | [x], h => simp [justB] at h
  | [x, y], h => simp [justB, blB] at h; exact .inl ⟨x, y, rfl, h.1, h.2⟩
  | [x, y, z], h => simp [justB, blB] at h; exact .inr ⟨x, y, z, rfl, h.1, h.2.1, h.2.2⟩
  | x :: y :: z :: u :: r, h => simp [justB] at h
theorem justW {ks : List Data} (h : justB [eB, blB] (ks.map opOf) = true) : ∃ x y, ks = [x, y] ∧ eB (opOf x) = true ∧ opOf y = 29 := by
  match ks, h with
  | [], h => cases h
  | [x], h => simp [justB] at h
  | [x, y], h => simp [justB, blB] at h; exact ⟨x, y, rfl, h.1, h.2⟩
  | x :: y :: z :: r, h => simp [justB] at h

/-- Statements, and blocks, are written. -/
theorem iStatement {W0 : World} (hG : Gl W0) (t : Data) : allB t = true → stB (opOf t) = true → siz t ≤ 1048576 → WOk W0 88 lineT lineT t ∧ (opOf t = 29 → WOk W0 46 stT stT t) := by
  induction t using tree_ind with
  | h1 t ht =>
    intro hall
    cases t <;> simp [allB] at hall
    exact absurd rfl (ht _ _)
  | h ks lab ih =>
    intro hall hS hsz
    have hkt : kidsOf (.slice ks lab) = ks := rfl
    rw [allB, Bool.and_eq_true] at hall
    obtain ⟨hnode, halls⟩ := hall
    rw [node_eq, Bool.and_eq_true] at hnode
    have hkind : kindB (opOf (.slice ks lab)) ((kidsOf (.slice ks lab)).map opOf) = true := hnode.2
    rw [alls_all, List.all_eq_true] at halls
    have hsk := siz_kids (.slice ks lab)
    have hlenk := len_siz (.slice ks lab)
    have hn : (kidsOf (.slice ks lab)).length ≤ 1048577 := by omega
    rw [hkt] at hsk
    have hke : ∀ x ∈ kidsOf (.slice ks lab), eB (opOf x) = true → WOk W0 45 eT eT x := fun x hx he => iWriteE hG x (halls x hx) he (by have := sizs_mem (show x ∈ ks from hx); omega)
    have hks : ∀ x ∈ kidsOf (.slice ks lab), stB (opOf x) = true → WOk W0 88 lineT lineT x ∧ (opOf x = 29 → WOk W0 46 stT stT x) := fun x hx he => ih x hx (halls x hx) he (by have := sizs_mem (show x ∈ ks from hx); omega)
    have hbl : ∀ x ∈ kidsOf (.slice ks lab), opOf x = 29 → WOk W0 46 stT stT x := fun x hx he => (hks x hx (by rw [he]; rfl)).2 he
    clear ih hnode halls hsk hlenk hsz hkt
    generalize Data.slice ks lab = t at *
    have hw : opOf t = 29 ∨ opOf t = 31 ∨ opOf t = 32 ∨ (opOf t = 30 ∨ opOf t = 33 ∨ opOf t = 34 ∨ opOf t = 35) := by
      simp only [stB, Bool.and_eq_true, decide_eq_true_eq] at hS
      omega
    rcases hw with h | h | h | h
    · have hall : (kidsOf t).all (fun x => stB (opOf x)) = true := by
        have h2 := hkind
        unfold kindB at h2
        rw [if_neg (by omega), if_neg (by omega), if_neg (by omega), if_neg (by omega), if_neg (by omega), if_pos h, List.all_map] at h2
        exact h2
      have hB := iWriteBlock h (fun x hx => (hks x hx (List.all_eq_true.1 hall x hx)).1) hn
      exact ⟨iStBlock h hB, fun _ => hB⟩
    · have h2 := hkind
      unfold kindB at h2
      rw [if_neg (by omega), if_neg (by omega), if_neg (by omega), if_neg (by omega), if_neg (by omega), if_neg (by omega), if_pos h] at h2
      refine ⟨iStBranch (.inl h) ?_, fun e => by omega⟩
      rcases justI h2 with ⟨x, y, e, hx, hy⟩ | ⟨x, y, z, e, hx, hy, hz⟩
      · exact iBranchIf h e (hke x (by rw [e]; simp) hx) (hbl y (by rw [e]; simp) hy)
      · exact iBranchElse h e (hke x (by rw [e]; simp) hx) (hbl y (by rw [e]; simp) hy) (hbl z (by rw [e]; simp) hz)
    · have h2 := hkind
      unfold kindB at h2
      rw [if_neg (by omega), if_neg (by omega), if_neg (by omega), if_neg (by omega), if_neg (by omega), if_neg (by omega), if_neg (by omega), if_pos h] at h2
      refine ⟨iStBranch (.inr h) ?_, fun e => by omega⟩
      obtain ⟨x, y, e, hx, hy⟩ := justW h2
      exact iBranchWhile h e (hke x (by rw [e]; simp) hx) (hbl y (by rw [e]; simp) hy)
    · exact ⟨iStPlain h (iWritePlain h hkind hke hn), fun e => by omega⟩

end Ty
end Go.Proofs.YtjdohfdkkppnpaaGreatDoor

