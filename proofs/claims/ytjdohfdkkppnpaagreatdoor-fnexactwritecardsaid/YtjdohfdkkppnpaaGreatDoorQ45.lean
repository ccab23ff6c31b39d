/-
  The program's Write.
-/
import Derived.Test.YtjdohfdkkppnpaaGreatDoorQ44
namespace Go.Proofs.YtjdohfdkkppnpaaGreatDoor
open Go.RowKit
namespace Ty
open Nd
set_option linter.unusedSimpArgs false
set_option linter.unusedVariables false

theorem Gl.later {W0 w : World} (h : Gl W0) (hb : Below W0.heap.size W0 w) : Gl w :=
  ⟨h.sen.later hb, fun k hk => (hb.cell (World.block_lt_of_cell? _ _ (h.sgn k hk))).trans (h.sgn k hk), tab_later h.tab hb⟩

theorem rulesT_len : ∀ rs : List Ru, (rulesT rs).length ≤ 210 * sizR rs
  | [] => by simp [rulesT]
  | r :: rs => by
    have h1 := rulesT_len rs
    have h2 := ruleT_len r
    unfold rulesT at h1 ⊢
    simp only [List.map_cons, List.flatten_cons, List.length_append, sizR]
    omega
theorem rulesT_take (rs : List Ru) (k : Nat) (r : Ru) (h : rs[k]? = some r) : rulesT (rs.take (k + 1)) = rulesT (rs.take k) ++ ruleT r := by
  rw [List.take_add_one, h]
  simp [rulesT]
theorem sizR_le (rs : List Ru) (k : Nat) : sizR (rs.take k) ≤ sizR rs := by
  have := sizR_append (rs.take k) (rs.drop k)
  rw [List.take_append_drop] at this
  omega

set_option maxHeartbeats 2000000 in
set_option maxRecDepth 100000 in
theorem iWrite {w : World} {rs : List Ru} {S : Nat → Prop} {v : Value} {xs : List Value} {B : Nat} (hG : Gl w) (hsz : sizR rs ≤ 1048576) (hlt : ∀ k, S k → k < w.heap.size) (ho : w.ownsRow B 41 9 v rs.length xs) (hR : RulesIs w S rs xs) :
    Calls Tryz.prog 8 #[v] w fun e w' => e = .returned (.string ⟨(writeT rs).toArray⟩) ∧ Below w.heap.size w w' := by
  have cT := iTidy hG.sen hsz hlt ho hR
  obtain ⟨ao, cap, rfl⟩ := owns_slice ho
  have bn : (rs.length : Int) ≤ 1048576 := by have := sizR_len rs; omega
  rcases hT : tidyB rs with _ | _
  · rw [hT] at cT
    have HW : Hid (writeT rs = []) := by show _ = _; unfold writeT; rw [hT]; rfl
    clear hR ho hT
    generalize writeT rs = T at *
    go_enter Tryz.func8, Tryz.ntmps8
    go_wp2_with (go_at_call 17; refine cT.mono ?_; rintro e w1 ⟨rfl, hb1⟩)
    go_ret
    exact ⟨by rw [HW.out]; rfl, hb1⟩
  · rw [hT] at cT
    have hrs : ∀ r ∈ rs, ruleB r = true := List.all_eq_true.1 hT
    have HW : Hid (writeT rs = rulesT rs) := by show _ = _; unfold writeT; rw [hT]; rfl
    have HE : Hid (rulesT (rs.take rs.length) = rulesT rs) := by show _ = _; rw [List.take_length]
    clear hT
    generalize writeT rs = T at *
    go_enter Tryz.func8, Tryz.ntmps8
    go_wp2_with (go_at_call 17; refine hold ?_)
    refine cT.mono ?_
    rintro e w1 ⟨rfl, hb1⟩
    have hG1 := hG.later hb1
    have hO1 : ∀ o, o = Obj.cells #[.slice none 0 0] 44 → Out w1.heap.size w1.heap.size [] (w1.alloc o) := fun o ho => ⟨none, 0, Nat.le_refl _, by rw [ho]; exact heap_new _ _, World.ownsRow_nil _ _ _ _⟩
    have hal : ∀ o, Below w1.heap.size w1 (w1.alloc o) := fun o => (Below.refl _ _).alloc (Nat.le_refl _) _
    have hRk : ∀ (k : Nat) r, rs[k]? = some r → ∃ (g : Nat) (p0 p1 p2 p3 b0 b1 b2 b3 : Value), ao = some ⟨g, 0, none⟩ ∧ ArgIs w1 r.2.1 [p0, p1, p2, p3] ∧ ArgIs w1 r.2.2 [b0, b1, b2, b3] ∧ siz r.2.1 ≤ 1048576 ∧ siz r.2.2 ≤ 1048576 ∧ ∀ w', Below w1.heap.size w1 w' →
        w'.cell? ⟨g, k * 9, none⟩ = some (.int .i64 r.1) ∧ w'.cell? ⟨g, k * 9 + 1, none⟩ = some p0 ∧ w'.cell? ⟨g, k * 9 + 1 + 1, none⟩ = some p1 ∧ w'.cell? ⟨g, k * 9 + 1 + 2, none⟩ = some p2 ∧ w'.cell? ⟨g, k * 9 + 1 + 3, none⟩ = some p3 ∧ w'.cell? ⟨g, k * 9 + 5, none⟩ = some b0 ∧ w'.cell? ⟨g, k * 9 + 5 + 1, none⟩ = some b1 ∧ w'.cell? ⟨g, k * 9 + 5 + 2, none⟩ = some b2 ∧ w'.cell? ⟨g, k * 9 + 5 + 3, none⟩ = some b3 := by
      intro k r hki
      have hkl : k < rs.length := (List.getElem?_eq_some_iff.1 hki).1
      obtain ⟨p0, p1, p2, p3, b0, b1, b2, b3, e0, e1, e2, e3, e4, e5, e6, e7, e8, hp, hbd⟩ := rules_at hR hki
      obtain ⟨g, hao, hg, hc⟩ := row_cells ho hkl
      have hszr := sizR_mem (List.mem_of_getElem? hki)
      have cc : ∀ w', Below w1.heap.size w1 w' → ∀ j x, xs[j]? = some x → w'.cell? ⟨g, j, none⟩ = some x := fun w' h j x hx => ((hb1.trans (h.mono hb1.size)).cell (p := ⟨g, j, none⟩) hg).trans (hc j x hx)
      exact ⟨g, p0, p1, p2, p3, b0, b1, b2, b3, hao, arg_of_node _ (by omega) _ _ (node_frame _ _ _ (fun j hj => hb1.block j (hlt j hj)) hp), arg_of_node _ (by omega) _ _ (node_frame _ _ _ (fun j hj => hb1.block j (hlt j hj)) hbd), by omega, by omega, fun w' h => ⟨cc w' h _ _ e0, cc w' h _ _ e1, cc w' h _ _ e2, cc w' h _ _ e3, cc w' h _ _ e4, cc w' h _ _ e5, cc w' h _ _ e6, cc w' h _ _ e7, cc w' h _ _ e8⟩⟩
    clear cT hR ho hlt hG
    go_wp2_with fail
    go_loopw [13] (fun i wr => ∃ k : Nat, k ≤ rs.length ∧ i = .int .i64 k ∧ Below w1.heap.size w1 wr ∧ Out w1.heap.size w1.heap.size (rulesT (rs.take k)) wr) (fun i _ => rs.length - (intOf i).toNat)
    case atStart => exact ⟨0, Nat.zero_le _, rfl, hal _, by simpa [rulesT] using hO1 _ rfl⟩
    case round =>
      obtain ⟨k, hkn, rfl, hb, hO⟩ := hrel
      by_cases hkl : k < rs.length
      · obtain ⟨r, hki⟩ : ∃ r, rs[k]? = some r := ⟨rs[k], List.getElem?_eq_getElem hkl⟩
        obtain ⟨g, p0, p1, p2, p3, b0, b1, b2, b3, rfl, hap, hab, hsp, hsb, hcl⟩ := hRk k r hki
        have hht := rulesT_take rs k r hki
        have hlen := rulesT_len (rs.take (k + 1))
        have hsl := sizR_le rs (k + 1)
        have RM : (rulesT (rs.take k)).length + (ruleT r).length ≤ 1099511627776 := by
          rw [hht, List.length_append] at hlen
          omega
        have hal2 : ∀ o, Below wr.heap.size wr (wr.alloc o) := fun o => (Below.refl _ _).alloc (Nat.le_refl _) _
        have cr := fun o => iWriteRule hG1 (hrs r (List.mem_of_getElem? hki)) hsp hsb hap hab w1.heap.size (rulesT (rs.take k)) (wr.alloc o) (hb.trans ((hal2 o).mono hb.size)) (hO.kept (hal2 o)) RM
        have hbo := fun o => hb.trans ((hal2 o).mono hb.size)
        obtain ⟨c0, c1, c2, c3, c4, c5, c6, c7, c8⟩ := hcl _ hb
        obtain ⟨pao, pcap, rfl, rfl, rfl, rfl, -, -⟩ := arg_open hap
        obtain ⟨bao, bcap, rfl, rfl, rfl, rfl, -, -⟩ := arg_open hab
        have HT : Hid (rulesT (rs.take (k + 1)) = rulesT (rs.take k) ++ ruleT r) := hht
        have bk : (k : Int) < rs.length := by omega
        clear hki hap hab hsp hsb hcl hht hlen hsl RM hRk hrs
        generalize ruleT r = X at *
        generalize opOf r.2.1 = q1 at *
        generalize numOf r.2.1 = q2 at *
        generalize txtOf r.2.1 = q3 at *
        generalize (kidsOf r.2.1).length = q4 at *
        generalize opOf r.2.2 = q5 at *
        generalize numOf r.2.2 = q6 at *
        generalize txtOf r.2.2 = q7 at *
        generalize (kidsOf r.2.2).length = q8 at *
        generalize r.1 = kd at *
        unfold PutV at *
        go_wp2_with (go_at_call 19; refine (cr _).mono ?_; rintro e w2 ⟨rfl, hO2, hC2⟩; have hb2 := (hbo _).trans hC2.below)
        go_roundw
        case rel => exact ⟨k + 1, hkl, by go_num, hb2, by rw [HT.out]; exact hO2⟩
        case measure => simp [intOf]; omega
      · obtain rfl : k = rs.length := by omega
        rw [HE.out] at hO
        have HB : Hid (Below w.heap.size w wr) := hb1.trans (hb.mono hb1.size)
        clear hRk hrs
        generalize hRT : rulesT rs = R at *
        obtain ⟨ao', cap', _, hp, hown⟩ := hO
        have c0 : wr.cell? ⟨w1.heap.size, 0, none⟩ = some (.slice ao' R.length cap') := (cell_of_row _ _ 0 _ _ _ hp).trans rfl
        have hcc := convL (l := R) hown
        clear hown hp
        go_wp2_with fail
        go_ret
        exact ⟨by rw [HW.out]; rfl, HB.out⟩

end Ty
end Go.Proofs.YtjdohfdkkppnpaaGreatDoor

