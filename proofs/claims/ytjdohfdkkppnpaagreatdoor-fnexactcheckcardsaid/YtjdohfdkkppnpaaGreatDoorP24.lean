/-
  The program's reasons, one function each.
-/
import Derived.Test.YtjdohfdkkppnpaaGreatDoorP17
import Derived.Test.YtjdohfdkkppnpaaGreatDoorP23
namespace Go.Proofs.YtjdohfdkkppnpaaGreatDoor
open Go.RowKit
namespace Ck
open Nd Ty

theorem below_fr {S : Nat → Prop} {a b : World} (h : Below a.heap.size a b) : Fr S a b := fr_below h
theorem op_form {w : World} {t : Data} {S : Nat → Prop} {a b c u : Value} (h : NodeIs w t S [a, b, c, u]) : ∃ ao cap xs, a = .int .i64 (opOf t) ∧ b = .int .i64 (numOf t) ∧ c = .string ⟨(txtOf t).toArray⟩ ∧ u = .slice ao (kidsOf t).length cap ∧ w.ownsRow 0 39 4 (.slice ao (kidsOf t).length cap) (kidsOf t).length xs ∧ NodesIs w (kidsOf t) (fun k => S k ∧ (Value.slice ao (kidsOf t).length cap).ownBlock ≠ some k) xs := by
  obtain ⟨op, n, s, ao, cap, xs, hnd, rfl, rfl, rfl, rfl, ho, _, hx⟩ := node_form h
  refine ⟨ao, cap, xs, ?_, ?_, ?_, rfl, ho, hx⟩ <;> rw [hnd] <;> rfl

set_option maxRecDepth 100000 in
theorem iSoMany (s : List UInt8) (k : Nat) (w : World) : Calls Tryz.prog 59 #[.string ⟨s.toArray⟩, .int .i64 k] w fun e w' => e = .returned (.bool (soMany s k)) ∧ w' = w := by
  have e1 : ((k : Int) == 1) = decide (k = 1) := by by_cases h : k = 1 <;> simp [h] <;> omega
  have e2 : ((k : Int) == 2) = decide (k = 2) := by by_cases h : k = 2 <;> simp [h] <;> omega
  have e3 : ((k : Int) == 3) = decide (k = 3) := by by_cases h : k = 3 <;> simp [h] <;> omega
  by_cases h1 : s = [105, 110, 100, 101, 120]
  · have H : Hid (soMany s k = decide (k = 2)) := by show _ = _; unfold soMany; rw [if_pos h1]
    subst h1
    go_enter Tryz.func59, Tryz.ntmps59
    go_wp2_with fail
    go_ret
    exact ⟨by rw [H.out]; first | rfl | simp [e2], rfl⟩
  · by_cases h2 : s = [115, 117, 98, 115, 116, 114]
    · have H : Hid (soMany s k = (decide (k = 2) || decide (k = 3))) := by show _ = _; unfold soMany; rw [if_neg h1, if_pos h2]
      subst h2
      go_enter Tryz.func59, Tryz.ntmps59
      go_wp2_with fail
      all_goals (go_ret; refine ⟨?_, rfl⟩; rw [H.out]; simp_all)
    · have H : Hid (soMany s k = decide (k = 1)) := by show _ = _; unfold soMany; rw [if_neg h1, if_neg h2]
      have n1 : (s == [105, 110, 100, 101, 120]) = false := by simpa using h1
      have n2 : (s == [115, 117, 98, 115, 116, 114]) = false := by simpa using h2
      clear h1 h2
      go_enter Tryz.func59, Tryz.ntmps59
      go_wp2_with fail
      go_ret
      exact ⟨by rw [H.out]; first | rfl | simp [e1], rfl⟩

set_option maxRecDepth 100000 in
theorem iArgs1 {W : World} {t : Data} {S : Nat → Prop} {a b c u : Value} (h : NodeIs W t S [a, b, c, u]) :
    Calls Tryz.prog 58 #[.agg #[a, b, c, u]] W fun e W' => e = .returned (.bool (argsB t)) ∧ Below W.heap.size W W' := by
  obtain ⟨ao, cap, xs, rfl, rfl, rfl, rfl, -, -⟩ := op_form h
  have call := iSoMany (txtOf t) (kidsOf t).length
  have H : Hid (argsB t = (decide (opOf t = 28) && !soMany (txtOf t) (kidsOf t).length)) := rfl
  have hb : ∀ o, Below W.heap.size W (W.alloc o) := fun o => (Below.refl _ W).alloc (Nat.le_refl _) _
  generalize argsB t = R at *
  generalize soMany (txtOf t) (kidsOf t).length = Q at *
  by_cases h28 : opOf t = 28
  · have H2 : Hid (R = !Q) := by show _ = _; rw [H.out]; simp [h28]
    clear H
    rw [h28]
    go_enter Tryz.func58, Tryz.ntmps58
    go_wp2_with (go_at_call 59; refine (call _).mono ?_; rintro e w2 ⟨rfl, rfl⟩)
    go_ret
    exact ⟨by rw [H2.out]; rfl, hb _⟩
  · have e1 : (opOf t == 28) = false := by simpa using h28
    have H2 : Hid (R = false) := by show _ = _; rw [H.out]; simp [h28]
    clear h28 H
    go_enter Tryz.func58, Tryz.ntmps58
    go_wp2_with fail
    go_ret
    exact ⟨by rw [H2.out]; rfl, hb _⟩

/-- The sentinel of chapter 3. -/
def SenP (w : World) : Prop := ∃ a : Addr, w.cell? ⟨1, 0, none⟩ = some (.iface 226 (.pointer (some a)))
theorem SenP.later {w w' : World} (h : SenP w) (hb : Below w.heap.size w w') : SenP w' := by
  obtain ⟨a, hc⟩ := h
  exact ⟨a, (hb.cell (World.block_lt_of_cell? _ _ hc)).trans hc⟩

set_option maxRecDepth 100000 in
theorem iRex1 {W : World} {t : Data} {S : Nat → Prop} {a b c u : Value} (h : NodeIs W t S [a, b, c, u]) (hsz : siz t ≤ 1048576) (hS : SenP W) (h2 : opOf t = 21 → 2 ≤ (kidsOf t).length) :
    Calls Tryz.prog 60 #[.agg #[a, b, c, u]] W fun e W' => e = .returned (.bool (rexN t)) ∧ Below W.heap.size W W' := by
  have hlen := len_siz t
  have htl : (txtOf t).length ≤ 1048576 := by
    obtain ⟨op, n, s, ks, rfl⟩ := node_node h
    rw [siz_nd] at hsz
    show s.length ≤ _
    omega
  obtain ⟨ao, cap, xs, rfl, rfl, rfl, rfl, ho, hx⟩ := op_form h
  have hb : ∀ o, Below W.heap.size W (W.alloc o) := fun o => (Below.refl _ W).alloc (Nat.le_refl _) _
  by_cases h3 : opOf t = 3
  · have H : Hid (rexN t = !okRex (txtOf t)) := by show _ = _; unfold rexN; rw [if_pos h3]
    have call : ∀ w', Below W.heap.size W w' → Calls Tryz.prog 61 #[.string ⟨(txtOf t).toArray⟩] w' fun e w'' => (∃ (rop rc : Int) (rs : ByteArray) (rno : Bool) (rao : Option Addr) (rn rcap : Nat), e = .returned (.tuple #[.agg #[.int .i64 rop, .int .i64 rc, .string rs, .bool rno, .slice rao rn rcap], .bool (okRex (txtOf t))])) ∧ Below w'.heap.size w' w'' := fun w' hb' => by
      obtain ⟨ad, herr⟩ := hS.later hb'
      refine (Rx.iRexParse ⟨(txtOf t).toArray⟩ ad w' herr (by show ((txtOf t).toArray.size : Int) < _; simp; omega)).mono ?_
      intro e w'' hR
      unfold okRex
      unfold Rx.RexOut at hR
      cases hp : Rx.parseV ⟨(txtOf t).toArray⟩ with
      | none => rw [hp] at hR; obtain ⟨rfl, hb''⟩ := hR; exact ⟨⟨_, _, _, _, _, _, _, rfl⟩, hb''⟩
      | some tr =>
        rw [hp] at hR
        obtain ⟨a, b, c, d, u, rfl, hb'', hI⟩ := hR
        obtain ⟨op, cc, st, no, ks, rfl⟩ := Rx.rex_node hI
        rw [Rx.rex_nd] at hI
        obtain ⟨v, ys, he, ho', -⟩ := hI
        simp at he
        obtain ⟨rfl, rfl, rfl, rfl, rfl⟩ := he
        obtain ⟨ao', cap', rfl⟩ := owns_slice ho'
        exact ⟨⟨_, _, _, _, _, _, _, rfl⟩, hb''⟩
    generalize rexN t = R at *
    generalize okRex (txtOf t) = Q at *
    rw [h3] at *
    clear ho hx h2
    go_enter Tryz.func60, Tryz.ntmps60
    go_wp2_with (go_at_call 61; refine (call _ (hb _)).mono ?_; rintro e w2 ⟨⟨rop, rc, rst, rno, rao, rn, rcap, rfl⟩, hb2⟩)
    go_ret
    exact ⟨by rw [H.out]; rfl, ((hb _).trans (hb2.mono (hb _).size)).alloc (Nat.le_trans (hb _).size hb2.size) _⟩
  · have e3 : (opOf t == 3) = false := by simpa using h3
    by_cases h21 : opOf t = 21
    · have hk2 := h2 h21
      have H : Hid (rexN t = decide ((kidsOf t)[1]?.map opOf ≠ some 3)) := by show _ = _; unfold rexN; rw [if_neg h3, if_pos h21]
      have hi : (kidsOf t)[1]? = some (kidsOf t)[1] := List.getElem?_eq_getElem (by omega)
      obtain ⟨S1, y0, y1, y2, y3, c0, c1, c2, c3, hn, -⟩ := nodes_at hx hi
      obtain ⟨g, rfl, hg, hc⟩ := row_cells ho (show 1 < (kidsOf t).length by omega)
      obtain ⟨ao', cap', xs', rfl, rfl, rfl, rfl, -, -⟩ := op_form hn
      have k0 : ∀ o, (W.alloc o).cell? ⟨g, 1 * 4, none⟩ = some (.int .i64 (opOf (kidsOf t)[1])) := fun o => ((hb o).cell (p := ⟨g, 1 * 4, none⟩) hg).trans (hc _ _ c0)
      rw [hi] at H
      have H2 : Hid (rexN t = !(opOf (kidsOf t)[1] == 3)) := by
        show _ = _
        rw [H.out]
        by_cases hq : opOf (kidsOf t)[1] = 3 <;> simp [hq]
      have bl : (2 : Int) ≤ (kidsOf t).length := by omega
      have bl2 : ((kidsOf t).length : Int) ≤ 1048576 := by omega
      simp only [Nat.one_mul] at k0
      generalize opOf (kidsOf t)[1] = o1 at *
      generalize rexN t = R at *
      clear ho hx h2 hn c0 c1 c2 c3 hc H hi e3 h3 hk2 hlen h
      generalize (kidsOf t).length = L at *
      rw [h21]
      have k0' := k0 (.cells #[.int .i64 21, .int .i64 (numOf t), .string ⟨(txtOf t).toArray⟩, .slice (some ⟨g, 0, none⟩) L cap] 39)
      go_enter Tryz.func60, Tryz.ntmps60
      go_wp2_with fail
      go_ret
      exact ⟨by rw [H2.out]; rfl, hb _⟩
    · have H : Hid (rexN t = false) := by show _ = _; unfold rexN; rw [if_neg h3, if_neg h21]
      have e21 : (opOf t == 21) = false := by simpa using h21
      clear h3 h21 h2 ho hx
      generalize rexN t = R at *
      go_enter Tryz.func60, Tryz.ntmps60
      go_wp2_with fail
      go_ret
      exact ⟨by rw [H.out]; rfl, hb _⟩

theorem needK_step (op : Int) (k : Nat) (ks : List Data) (t : Data) (h : ks[k]? = some t) : needK op k (ks.drop k) = ((decide (opOf t = 3) && !(decide (op = 21) && decide (k = 1))) || needK op (k + 1) (ks.drop (k + 1))) := by
  have hl := (List.getElem?_eq_some_iff.1 h).1
  rw [List.drop_eq_getElem_cons hl, needK]
  have : ks[k] = t := by rw [List.getElem?_eq_getElem hl] at h; exact Option.some.inj h
  rw [this]

set_option maxHeartbeats 1000000 in
set_option maxRecDepth 100000 in
theorem iNeeds {W : World} {t : Data} {S : Nat → Prop} {a b c u : Value} (h : NodeIs W t S [a, b, c, u]) (hsz : siz t ≤ 1048576) :
    Calls Tryz.prog 51 #[.agg #[a, b, c, u]] W fun e W' => e = .returned (.bool (needN t)) ∧ Below W.heap.size W W' := by
  have hlen := len_siz t
  obtain ⟨ao, cap, xs, rfl, rfl, rfl, rfl, ho, hx⟩ := op_form h
  have hb : ∀ o, Below W.heap.size W (W.alloc o) := fun o => (Below.refl _ W).alloc (Nat.le_refl _) _
  by_cases h6 : opOf t = 6 ∨ opOf t = 7 ∨ opOf t = 8 ∨ opOf t = 33
  · have H : Hid (needN t = true) := by show _ = _; unfold needN; rw [decide_eq_true h6]; rfl
    generalize needN t = R at *
    clear ho hx
    rcases h6 with h6 | h6 | h6 | h6
    all_goals
      rw [h6] at *
      go_enter Tryz.func51, Tryz.ntmps51
      go_wp2_with fail
      go_ret
      exact ⟨by rw [H.out]; rfl, hb _⟩
  · have H : Hid (needN t = needK (opOf t) 0 (kidsOf t)) := by show _ = _; unfold needN; rw [decide_eq_false h6]; rfl
    simp only [not_or] at h6
    obtain ⟨n6, n7, n8, n33⟩ := h6
    have f6 : (opOf t == 6) = false := by simpa using n6
    have f7 : (opOf t == 7) = false := by simpa using n7
    have f8 : (opOf t == 8) = false := by simpa using n8
    have f33 : (opOf t == 33) = false := by simpa using n33
    have bl : ((kidsOf t).length : Int) ≤ 1048576 := by omega
    clear n6 n7 n8 n33
    generalize needN t = R at *
    obtain ⟨o1, ho1⟩ : ∃ o1, o1 = Obj.cells #[.int .i64 (opOf t), .int .i64 (numOf t), .string ⟨(txtOf t).toArray⟩, .slice ao (kidsOf t).length cap] 39 := ⟨_, rfl⟩
    have hbox : (W.alloc o1).cell? ⟨W.heap.size, 0, none⟩ = some (.int .i64 (opOf t)) := by have hh := heap_new W o1; unfold World.cell?; simp only [hh]; rw [ho1]; rfl
    have hb1 := hb o1
    subst ho1
    go_enter Tryz.func51, Tryz.ntmps51
    go_wp2_with fail
    go_loopw [15] (fun i wr => ∃ k : Nat, k ≤ (kidsOf t).length ∧ i = .int .i64 k ∧ R = needK (opOf t) k ((kidsOf t).drop k) ∧ Below W.heap.size W wr ∧ wr.cell? ⟨W.heap.size, 0, none⟩ = some (.int .i64 (opOf t))) (fun i _ => (kidsOf t).length - (intOf i).toNat)
    case atStart => exact ⟨0, Nat.zero_le _, rfl, by rw [List.drop_zero]; exact H.out, hb1, hbox⟩
    case round =>
      clear hbox hb1 H
      obtain ⟨k, hk, rfl, hR, hbr, hbox⟩ := hrel
      by_cases hkl : k < (kidsOf t).length
      · have hki : (kidsOf t)[k]? = some (kidsOf t)[k] := List.getElem?_eq_getElem hkl
        rw [needK_step _ _ _ _ hki] at hR
        obtain ⟨S1, y0, y1, y2, y3, c0, c1, c2, c3, hn, -⟩ := nodes_at hx hki
        obtain ⟨g, rfl, hg, hc⟩ := row_cells ho hkl
        have cc : ∀ j x, xs[j]? = some x → wr.cell? ⟨g, j, none⟩ = some x := fun j x hx => (hbr.cell (p := ⟨g, j, none⟩) hg).trans (hc j x hx)
        have x0 := cc _ _ c0
        have x1 := cc _ _ c1
        have x2 := cc _ _ c2
        have x3 := cc _ _ c3
        obtain ⟨ao', cap', xs', rfl, rfl, rfl, rfl, -, -⟩ := op_form hn
        have hbs : W.heap.size < wr.heap.size := World.block_lt_of_cell? _ _ hbox
        have hbx2 : ∀ o, (wr.alloc o).cell? ⟨W.heap.size, 0, none⟩ = some (.int .i64 (opOf t)) := fun o => (World.cell?_alloc_lt _ _ ⟨W.heap.size, 0, none⟩ hbs).trans hbox
        have hbr2 : ∀ o, Below W.heap.size W (wr.alloc o) := fun o => hbr.alloc hbr.size _
        have bk : (k : Int) < (kidsOf t).length := by omega
        obtain ⟨N, hN⟩ : ∃ N, N = needK (opOf t) (k + 1) ((kidsOf t).drop (k + 1)) := ⟨_, rfl⟩
        have HNN : Hid (N = needK (opOf t) (k + 1) ((kidsOf t).drop (k + 1))) := hN
        rw [← hN] at hR
        clear hN
        have ek : ((k : Int) == 1) = decide (k = 1) := by by_cases h : k = 1 <;> simp [h] <;> omega
        have HR : Hid (R = ((decide (opOf (kidsOf t)[k] = 3) && !(decide (opOf t = 21) && decide (k = 1))) || N)) := hR
        have hq := hbx2 (.cells #[.int .i64 (opOf (kidsOf t)[k]), .int .i64 (numOf (kidsOf t)[k]), .string ⟨(txtOf (kidsOf t)[k]).toArray⟩, .slice ao' (kidsOf (kidsOf t)[k]).length cap'] 39)
        clear hR hn c0 c1 c2 c3 hc cc hki hbx2 ho hx h
        generalize opOf (kidsOf t)[k] = ok at *
        generalize numOf (kidsOf t)[k] = nk at *
        generalize txtOf (kidsOf t)[k] = tk at *
        generalize (kidsOf (kidsOf t)[k]).length = Lk at *
        by_cases q3 : ok = 3
        · by_cases q21 : opOf t = 21
          · by_cases q1 : k = 1
            · have HN : Hid (R = N) := by show _ = _; rw [HR.out]; simp [q21, q1]
              have ek1 : ((k : Int) == 1) = true := by rw [ek]; simp [q1]
              have et : (opOf t == 21) = true := by simp [q21]
              clear ek HR q21 q1
              subst q3
              go_wp2_with fail
              go_roundw
              case rel => exact ⟨k + 1, hkl, by go_num, HN.out.trans HNN.out, hbr2 _, hq⟩
              case measure => simp [intOf]; omega
            · have HN : Hid (R = true) := by show _ = _; rw [HR.out]; simp [q3, q1]
              have ek1 : ((k : Int) == 1) = false := by rw [ek]; simp [q1]
              have et : (opOf t == 21) = true := by simp [q21]
              clear ek HR q1 q21
              subst q3
              go_wp2_with fail
              go_ret
              exact ⟨by rw [HN.out]; rfl, hbr2 _⟩
          · have HN : Hid (R = true) := by show _ = _; rw [HR.out]; simp [q3, q21]
            have et : (opOf t == 21) = false := by simp [q21]
            clear ek HR q21
            subst q3
            go_wp2_with fail
            go_ret
            exact ⟨by rw [HN.out]; rfl, hbr2 _⟩
        · have HN : Hid (R = N) := by show _ = _; rw [HR.out]; simp [q3]
          have e3 : (ok == 3) = false := by simp [q3]
          clear ek HR q3
          go_wp2_with fail
          go_roundw
          case rel => exact ⟨k + 1, hkl, by go_num, HN.out.trans HNN.out, hbr2 _, hq⟩
          case measure => simp [intOf]; omega
      · obtain rfl : k = (kidsOf t).length := by omega
        rw [List.drop_length] at hR
        have HR : Hid (R = false) := hR
        clear hR
        go_wp2_with fail
        go_ret
        exact ⟨by rw [HR.out]; rfl, hbr⟩

end Ck
end Go.Proofs.YtjdohfdkkppnpaaGreatDoor

