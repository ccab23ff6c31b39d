/-
  What is written of an e: writeE.
-/
import Derived.Test.YtjdohfdkkppnpaaGreatDoorQ33
import Derived.Test.YtjdohfdkkppnpaaGreatDoorQ30
namespace Go.Proofs.YtjdohfdkkppnpaaGreatDoor
open Go.RowKit
namespace Ty
open Nd
set_option linter.unusedSimpArgs false
set_option linter.unusedVariables false

/-- What is laid: the sentinel, the signs, the table of tens. -/
structure Gl (W0 : World) : Prop where
  sen : Sen W0
  sgn : Sgn W0
  tab : Lib.TabIs Tryz.prog W0 "internal/strconv.uint64pow10" .u64 Lib.pow10Tab

theorem just1 {ks : List Data} (h : justB [eB] (ks.map opOf) = true) : ∃ x, ks = [x] ∧ eB (opOf x) = true := by
  match ks, h with
  | [], h => cases h
  | [x], h => simp [justB] at h; exact ⟨x, rfl, h⟩
  | x :: y :: r, h => simp [justB] at h
theorem just2 {ks : List Data} (h : justB [eB, eB] (ks.map opOf) = true) : ∃ x y, ks = [x, y] ∧ eB (opOf x) = true ∧ eB (opOf y) = true := by
  match ks, h with
  | [], h => cases h
  | [x], h => simp [justB] at h
  | [x, y], h => simp [justB] at h; exact ⟨x, y, rfl, h.1, h.2⟩
  | x :: y :: z :: r, h => simp [justB] at h
theorem justS {ks : List Data} (h : justB [setB, eB] (ks.map opOf) = true) : ∃ x y, ks = [x, y] ∧ eB (opOf x) = true ∧ eB (opOf y) = true := by
  match ks, h with
  | [], h => cases h
  | [x], h => simp [justB] at h
  | [x, y], h => simp [justB] at h; exact ⟨x, y, rfl, set_e h.1, h.2⟩
  | x :: y :: z :: r, h => simp [justB] at h

theorem e_ways {op : Int} (h : eB op = true) : op = 1 ∨ op = 2 ∨ op = 3 ∨ op = 4 ∨ op = 5 ∨ op = 6 ∨ op = 7 ∨ op = 8 ∨ op = 28 ∨ (op = 22 ∨ op = 23) ∨ ((9 ≤ op ∧ op ≤ 21) ∨ op = 24 ∨ op = 25) ∨ (op = 26 ∨ op = 27) := by
  simp only [eB, Bool.and_eq_true, decide_eq_true_eq] at h
  omega

theorem tree_nodes {W0 : World} {t : Data} {cs : List Value} (h : ArgIs W0 t cs) : t = nd (opOf t) (numOf t) (txtOf t) (kidsOf t) := by
  obtain ⟨op, n, s, ao, cap, hnd, _⟩ := arg_form h
  rw [hnd]; rfl

set_option maxHeartbeats 4000000 in
set_option maxRecDepth 100000 in
theorem iWriteE {W0 : World} (hG : Gl W0) (t : Data) : allB t = true → eB (opOf t) = true → siz t ≤ 1048576 → WOk W0 45 eT eT t := by
  induction t using tree_ind with
  | h1 t ht =>
    intro _ _ _ p L w a b c u hA
    exact absurd (tree_nodes hA) (ht _ _)
  | h ks lab ih =>
    intro hall hE hsz p L w a b c u hA hb hO room
    have hnd := tree_nodes hA
    have hkk : kidsOf (.slice ks lab) = ks := rfl
    rw [hnd, all_nd, Bool.and_eq_true] at hall
    obtain ⟨hnode, halls⟩ := hall
    rw [← hnd] at hnode
    rw [node_eq, Bool.and_eq_true] at hnode
    have hkind : kindB (opOf (.slice ks lab)) (ks.map opOf) = true := hnode.2
    rw [hkk, alls_all, List.all_eq_true] at halls
    have hsk := siz_kids (.slice ks lab)
    have hlenk := len_siz (.slice ks lab)
    rw [hkk] at hsk hlenk
    replace hlenk : ks.length ≤ 1048577 := by omega
    have hkid : ∀ x ∈ ks, eB (opOf x) = true → WOk W0 45 eT eT x := fun x hx he => ih x hx (halls x hx) he (by have := sizs_mem hx; omega)
    have hsl : (txtOf (.slice ks lab)).length ≤ 1048576 := by have h2 := hsz; rw [hnd, siz_nd] at h2; omega
    have hT : eT (.slice ks lab) = eK (opOf (.slice ks lab)) (numOf (.slice ks lab)) (txtOf (.slice ks lab)) (kop0 ks) (esT ks) := by rw [eT]
    have hkt : kidsOf (.slice ks lab) = ks := rfl
    clear ih hnode halls hsk hkk hsz
    generalize Data.slice ks lab = t at *
    rw [hT] at room ⊢
    have hA0 := hA
    obtain ⟨ao, cap, rfl, rfl, rfl, rfl, hK, -⟩ := arg_open hA
    have hk := fun oo ho => wk_new (a := .int .i64 (opOf t)) (b := .int .i64 (numOf t)) (c := .string ⟨(txtOf t).toArray⟩) (u := .slice ao (kidsOf t).length cap) hb hO oo ho
    rcases e_ways hE with h | h | h | h | h | h | h | h | h | h | h | h
    · have hv : eK (opOf t) (numOf t) (txtOf t) (kop0 ks) (esT ks) = Num.decTextL (numOf t) := by unfold eK; rw [if_pos h]
      rw [hv] at room ⊢
      have RM : Hid (L.length + (Num.decTextL (numOf t)).length ≤ 1099511627776) := room
      have cd : ∀ w', Below W0.heap.size W0 w' → Calls Tryz.prog 82 #[.int .i64 (numOf t)] w' fun e w'' => e = .returned (.string ⟨(Num.decTextL (numOf t)).toArray⟩) ∧ Below w'.heap.size w' w'' := fun w' h => by
        obtain ⟨ad, hc⟩ := hG.sen.later h
        exact iDecText _ ad w' hc (tab_later hG.tab h)
      rw [h] at hk ⊢
      clear hv room hT hkind hkid hA hA0 hK hE hlenk hkt hnd
      generalize numOf t = n at *
      generalize txtOf t = s at *
      generalize (kidsOf t).length = xL at *
      generalize Num.decTextL n = D at *
      go_enter Tryz.func45, Tryz.ntmps45
      have hk := hk _ rfl
      go_wp2_with (first
        | (refine put_step hk rfl _ _ _ rfl rfl _ rfl RM.out ?_; intro w2 hk)
        | (go_at_call 82; refine (cd _ hk.bel).mono ?_; rintro e w2 ⟨rfl, hb2⟩; have hk := hk.more hb2))
      refine bodyPost_end (v := .tuple #[]) ?_ rfl ⟨rfl, hk.out, hk.ch⟩
      simp [results, Tryz.results45]
    · have hv : eK (opOf t) (numOf t) (txtOf t) (kop0 ks) (esT ks) = [34] ++ back [34, 92] (txtOf t) ++ [34] := by unfold eK; rw [if_neg (by omega)]; rw [if_pos h]
      rw [hv] at room ⊢
      have RM : Hid (L.length + ([34] ++ back [34, 92] (txtOf t) ++ [34]).length ≤ 1099511627776) := room
      have cd := fun w' => iMarked ⟨(txtOf t).toArray⟩ [34, 92] hsl w'
      have hbl := back_len [34, 92] (txtOf t)
      have bl : ((back [34, 92] (txtOf t)).length : Int) ≤ 4194304 := by omega
      have hst : (⟨(txtOf t).toArray⟩ : ByteArray).data.toList = txtOf t := rfl
      rw [hst] at cd
      rw [h] at hk ⊢
      clear hv room hT hkind hkid hA hA0 hK hE hlenk hkt hnd hsl hbl hst
      generalize numOf t = n at *
      generalize (kidsOf t).length = xL at *
      generalize back [34, 92] (txtOf t) = D at *
      generalize txtOf t = s at *
      go_enter Tryz.func45, Tryz.ntmps45
      have hk := hk _ rfl
      go_wp2_with (first
        | (refine put_step hk rfl _ _ _ rfl rfl ([34] ++ D ++ [34]) (by simp only [Act.eval]; simp [ba_pre, ba_append]) RM.out ?_; intro w2 hk)
        | (go_at_call 83; refine (cd _).mono ?_; rintro e w2 ⟨rfl, hb2⟩; have hk := hk.more hb2))
      refine bodyPost_end (v := .tuple #[]) ?_ rfl ⟨rfl, hk.out, hk.ch⟩
      simp [results, Tryz.results45]
    · have hv : eK (opOf t) (numOf t) (txtOf t) (kop0 ks) (esT ks) = [40, 47] ++ back [47] (txtOf t) ++ [47, 41] := by unfold eK; rw [if_neg (by omega)]; rw [if_neg (by omega)]; rw [if_pos h]
      rw [hv] at room ⊢
      have RM : Hid (L.length + ([40, 47] ++ back [47] (txtOf t) ++ [47, 41]).length ≤ 1099511627776) := room
      have cd := fun w' => iMarked ⟨(txtOf t).toArray⟩ [47] hsl w'
      have hbl := back_len [47] (txtOf t)
      have bl : ((back [47] (txtOf t)).length : Int) ≤ 4194304 := by omega
      have hst : (⟨(txtOf t).toArray⟩ : ByteArray).data.toList = txtOf t := rfl
      rw [hst] at cd
      rw [h] at hk ⊢
      clear hv room hT hkind hkid hA hA0 hK hE hlenk hkt hnd hsl hbl hst
      generalize numOf t = n at *
      generalize (kidsOf t).length = xL at *
      generalize back [47] (txtOf t) = D at *
      generalize txtOf t = s at *
      go_enter Tryz.func45, Tryz.ntmps45
      have hk := hk _ rfl
      go_wp2_with (first
        | (refine put_step hk rfl _ _ _ rfl rfl ([40, 47] ++ D ++ [47, 41]) (by simp only [Act.eval]; simp [ba_pre, ba_append]) RM.out ?_; intro w2 hk)
        | (go_at_call 83; refine (cd _).mono ?_; rintro e w2 ⟨rfl, hb2⟩; have hk := hk.more hb2))
      refine bodyPost_end (v := .tuple #[]) ?_ rfl ⟨rfl, hk.out, hk.ch⟩
      simp [results, Tryz.results45]
    · have hv : eK (opOf t) (numOf t) (txtOf t) (kop0 ks) (esT ks) = txtOf t := by unfold eK; rw [if_neg (by omega)]; rw [if_neg (by omega)]; rw [if_neg (by omega)]; rw [if_pos h]
      rw [hv] at room ⊢
      have RM : Hid (L.length + (txtOf t : List UInt8).length ≤ 1099511627776) := room
      rw [h] at hk ⊢
      clear hv room hT hkind hkid hA hA0 hK hE hlenk hkt hnd hsl
      generalize numOf t = n at *
      generalize (kidsOf t).length = xL at *
      generalize txtOf t = s at *
      go_enter Tryz.func45, Tryz.ntmps45
      have hk := hk _ rfl
      go_wp2_with (refine put_step hk rfl _ _ _ rfl rfl _ rfl RM.out ?_; intro w2 hk)
      refine bodyPost_end (v := .tuple #[]) ?_ rfl ⟨rfl, hk.out, hk.ch⟩
      simp [results, Tryz.results45]
    · obtain ⟨x, rfl, hex⟩ := just1 (by have h2 := hkind; unfold kindB at h2; rw [if_neg (by omega), if_pos (by omega)] at h2; exact h2)
      have cc := fun L w' => iWriteCell hkt (hkid x (by simp) hex) p L w' _ _ _ _ hA0
      have hv : eK (opOf t) (numOf t) (txtOf t) (kop0 [x]) (esT [x]) = cellT t := by unfold eK cellT; rw [if_neg (by omega)]; rw [if_neg (by omega)]; rw [if_neg (by omega)]; rw [if_neg (by omega)]; rw [if_pos h, hkt]
      rw [hv] at room ⊢
      have RM : Hid (L.length + (cellT t).length ≤ 1099511627776) := room
      rw [h] at hk cc ⊢
      clear hv room hT hkind hkid hA hA0 hK hE hlenk hkt hnd hsl
      generalize numOf t = n at *
      generalize (kidsOf t).length = xL at *
      generalize cellT t = D at *
      generalize txtOf t = s at *
      go_enter Tryz.func45, Tryz.ntmps45
      have hk := hk _ rfl
      go_wp2_with (go_at_call 84; refine (cc _ _ hk.bel hk.out RM.out).mono ?_; rintro e w2 ⟨rfl, hO2, hC2⟩; have hk := hk.step hO2 hC2)
      refine bodyPost_end (v := .tuple #[]) ?_ rfl ⟨rfl, hk.out, hk.ch⟩
      simp [results, Tryz.results45]
    · obtain ⟨x, rfl, hex⟩ := just1 (by have h2 := hkind; unfold kindB at h2; rw [if_neg (by omega), if_pos (by omega)] at h2; exact h2)
      have hv : eK (opOf t) (numOf t) (txtOf t) (kop0 [x]) (esT [x]) = [36] ++ atomT x := by
        unfold eK atomT
        rw [if_neg (by omega)]; rw [if_neg (by omega)]; rw [if_neg (by omega)]; rw [if_neg (by omega)]; rw [if_neg (by omega)]; rw [if_pos h]
        show (if plainOp (opOf x) then [36] ++ eT x else [36] ++ ([40] ++ eT x ++ [41])) = _
        split <;> rfl
      rw [hv] at room ⊢
      have RM : Hid (L.length + ([36] ++ atomT x).length ≤ 1099511627776) := room
      rw [hkt] at hK
      obtain ⟨g, o, x0, x1, x2, x3, rfl, hgl, c0, c1, c2, c3, hax⟩ := args_at hK (show [x][0]? = some x from rfl)
      simp only [Nat.zero_mul, Nat.add_zero] at c0 c1 c2 c3
      have hcl : ∀ w', Below W0.heap.size W0 w' → w'.cell? ⟨g, o, none⟩ = some x0 ∧ w'.cell? ⟨g, o + 1, none⟩ = some x1 ∧ w'.cell? ⟨g, o + 2, none⟩ = some x2 ∧ w'.cell? ⟨g, o + 3, none⟩ = some x3 := fun w' h => ⟨(h.cell (p := ⟨g, o, none⟩) hgl).trans c0, (h.cell (p := ⟨g, o + 1, none⟩) hgl).trans c1, (h.cell (p := ⟨g, o + 2, none⟩) hgl).trans c2, (h.cell (p := ⟨g, o + 3, none⟩) hgl).trans c3⟩
      have cc := fun L w' => iWriteAtom (hkid x (by simp) hex) p L w' _ _ _ _ hax
      obtain ⟨xao, xcap, rfl, rfl, rfl, rfl, -, -⟩ := arg_open hax
      rw [h] at hk ⊢
      have hlen1 : (kidsOf t).length = 1 := by rw [hkt]; rfl
      rw [hlen1] at hk ⊢
      clear hv room hT hkind hkid hA hA0 hK hE hlenk hkt hnd hsl hax hlen1 c0 c1 c2 c3
      generalize numOf t = n at *
      generalize atomT x = D at *
      generalize txtOf t = s at *
      generalize opOf x = xop at *
      generalize numOf x = xn at *
      generalize txtOf x = xs at *
      generalize (kidsOf x).length = xL at *
      go_enter Tryz.func45, Tryz.ntmps45
      have hk := hk _ rfl
      go_wp2_with (first
        | (refine put_step hk rfl _ _ _ rfl rfl _ rfl (by have := RM.out; simp only [List.length_append, List.length_cons, List.length_nil] at this ⊢; omega) ?_; intro w2 hk; obtain ⟨y0, y1, y2, y3⟩ := hk.var.cell; obtain ⟨d0, d1, d2, d3⟩ := hcl _ hk.bel)
        | (go_at_call 85; refine (cc _ _ hk.bel hk.out ?_).mono ?_; (have := RM.out; simp only [List.length_append, List.length_cons, List.length_nil] at this ⊢; omega); rintro e w2 ⟨rfl, hO2, hC2⟩; have hk := hk.step hO2 hC2))
      refine bodyPost_end (v := .tuple #[]) ?_ rfl ⟨rfl, ?_, hk.ch⟩
      · simp [results, Tryz.results45]
      · simpa [List.append_assoc] using hk.out
    · have hv : eK (opOf t) (numOf t) (txtOf t) (kop0 ks) (esT ks) = [78, 82] := by unfold eK; rw [if_neg (by omega)]; rw [if_neg (by omega)]; rw [if_neg (by omega)]; rw [if_neg (by omega)]; rw [if_neg (by omega)]; rw [if_neg (by omega)]; rw [if_pos h]
      rw [hv] at room ⊢
      have RM : Hid (L.length + ([78, 82] : List UInt8).length ≤ 1099511627776) := room
      rw [h] at hk ⊢
      clear hv room hT hkind hkid hA hA0 hK hE hlenk hkt hnd hsl
      generalize numOf t = n at *
      generalize (kidsOf t).length = xL at *
      generalize txtOf t = s at *
      go_enter Tryz.func45, Tryz.ntmps45
      have hk := hk _ rfl
      go_wp2_with (refine put_step hk rfl _ _ _ rfl rfl _ rfl RM.out ?_; intro w2 hk)
      refine bodyPost_end (v := .tuple #[]) ?_ rfl ⟨rfl, hk.out, hk.ch⟩
      simp [results, Tryz.results45]
    · have hv : eK (opOf t) (numOf t) (txtOf t) (kop0 ks) (esT ks) = [78, 70] := by unfold eK; rw [if_neg (by omega)]; rw [if_neg (by omega)]; rw [if_neg (by omega)]; rw [if_neg (by omega)]; rw [if_neg (by omega)]; rw [if_neg (by omega)]; rw [if_neg (by omega)]; rw [if_pos h]
      rw [hv] at room ⊢
      have RM : Hid (L.length + ([78, 70] : List UInt8).length ≤ 1099511627776) := room
      rw [h] at hk ⊢
      clear hv room hT hkind hkid hA hA0 hK hE hlenk hkt hnd hsl
      generalize numOf t = n at *
      generalize (kidsOf t).length = xL at *
      generalize txtOf t = s at *
      go_enter Tryz.func45, Tryz.ntmps45
      have hk := hk _ rfl
      go_wp2_with (refine put_step hk rfl _ _ _ rfl rfl _ rfl RM.out ?_; intro w2 hk)
      refine bodyPost_end (v := .tuple #[]) ?_ rfl ⟨rfl, hk.out, hk.ch⟩
      simp [results, Tryz.results45]
    · have hes : ks.all (fun x => eB (opOf x)) = true := by
        have h2 := hkind
        unfold kindB at h2
        rw [if_neg (by omega)] at h2; rw [if_neg (by omega)] at h2; rw [if_neg (by omega)] at h2; rw [if_neg (by omega)] at h2; rw [if_pos (by omega), List.all_map] at h2
        exact h2
      have cs := fun L w' => iWriteEs (fun x hx => hkid x hx (List.all_eq_true.1 hes x hx)) hlenk p L w' ao cap (by rw [hkt] at hK; exact hK)
      have hv : eK (opOf t) (numOf t) (txtOf t) (kop0 ks) (esT ks) = txtOf t ++ [40] ++ joinE (esT ks) ++ [41] := by unfold eK; rw [if_neg (by omega)]; rw [if_neg (by omega)]; rw [if_neg (by omega)]; rw [if_neg (by omega)]; rw [if_neg (by omega)]; rw [if_neg (by omega)]; rw [if_neg (by omega)]; rw [if_neg (by omega)]; rw [if_pos h]
      rw [hv] at room ⊢
      have RM : Hid (L.length + (txtOf t ++ [40] ++ joinE (esT ks) ++ [41]).length ≤ 1099511627776) := room
      rw [h] at hk ⊢
      rw [hkt] at hk ⊢
      clear hv room hT hkind hkid hA hA0 hK hE hlenk hkt hnd hsl hes
      generalize numOf t = n at *
      generalize joinE (esT ks) = D at *
      generalize txtOf t = s at *
      go_enter Tryz.func45, Tryz.ntmps45
      have hk := hk _ rfl
      go_wp2_with (first
        | (refine put_step hk rfl _ _ _ rfl rfl _ rfl (by have := RM.out; simp only [List.length_append, List.length_cons, List.length_nil] at this ⊢; omega) ?_; intro w2 hk; obtain ⟨y0, y1, y2, y3⟩ := hk.var.cell)
        | (go_at_call 86; refine (cs _ _ hk.bel hk.out ?_).mono ?_; (have := RM.out; simp only [List.length_append, List.length_cons, List.length_nil] at this ⊢; omega); rintro e w2 ⟨rfl, hO2, hC2⟩; have hk := hk.step hO2 hC2; obtain ⟨y0, y1, y2, y3⟩ := hk.var.cell))
      refine bodyPost_end (v := .tuple #[]) ?_ rfl ⟨rfl, ?_, hk.ch⟩
      · simp [results, Tryz.results45]
      · simpa [List.append_assoc] using hk.out
    · obtain ⟨x, hxs, hex⟩ := just1 (by have h2 := hkind; unfold kindB at h2; rw [if_neg (by omega), if_pos (by omega)] at h2; exact h2)
      have cs := fun L w' => iWriteSigned1 hG.sgn (by omega) (by omega) (hkt.trans hxs) (hkid x (by rw [hxs]; simp) hex) p L w' _ _ _ _ hA0
      have hv : eK (opOf t) (numOf t) (txtOf t) (kop0 ks) (esT ks) = [40] ++ signedT t ++ [41] := by
        unfold eK signedT
        rw [if_neg (by omega)]; rw [if_neg (by omega)]; rw [if_neg (by omega)]; rw [if_neg (by omega)]; rw [if_neg (by omega)]; rw [if_neg (by omega)]; rw [if_neg (by omega)]; rw [if_neg (by omega)]; rw [if_neg (by omega)]; rw [if_pos h, hkt, hxs]; rfl
      rw [hv] at room ⊢
      have RM : Hid (L.length + ([40] ++ signedT t ++ [41]).length ≤ 1099511627776) := room
      have n1 : (opOf t == 1) = false := beq_eq_false_iff_ne.2 (by omega)
      have n2 : (opOf t == 2) = false := beq_eq_false_iff_ne.2 (by omega)
      have n3 : (opOf t == 3) = false := beq_eq_false_iff_ne.2 (by omega)
      have n4 : (opOf t == 4) = false := beq_eq_false_iff_ne.2 (by omega)
      have n7 : (opOf t == 7) = false := beq_eq_false_iff_ne.2 (by omega)
      have n8 : (opOf t == 8) = false := beq_eq_false_iff_ne.2 (by omega)
      have n5 : (opOf t == 5) = false := beq_eq_false_iff_ne.2 (by omega)
      have n6 : (opOf t == 6) = false := beq_eq_false_iff_ne.2 (by omega)
      have n28 : (opOf t == 28) = false := beq_eq_false_iff_ne.2 (by omega)
      clear hv room hT hkind hkid hA hA0 hK hE hlenk hkt hnd hsl h
      generalize numOf t = n at *
      generalize signedT t = D at *
      generalize txtOf t = s at *
      generalize opOf t = op at *
      generalize (kidsOf t).length = xL at *
      go_enter Tryz.func45, Tryz.ntmps45
      have hk := hk _ rfl
      go_wp2_with (first
        | (refine put_step hk rfl _ _ _ rfl rfl _ rfl (by have := RM.out; simp only [List.length_append, List.length_cons, List.length_nil] at this ⊢; omega) ?_; intro w2 hk; obtain ⟨y0, y1, y2, y3⟩ := hk.var.cell)
        | (go_at_call 87; refine (cs _ _ hk.bel hk.out ?_).mono ?_; (have := RM.out; simp only [List.length_append, List.length_cons, List.length_nil] at this ⊢; omega); rintro e w2 ⟨rfl, hO2, hC2⟩; have hk := hk.step hO2 hC2; obtain ⟨y0, y1, y2, y3⟩ := hk.var.cell))
      refine bodyPost_end (v := .tuple #[]) ?_ rfl ⟨rfl, ?_, hk.ch⟩
      · simp [results, Tryz.results45]
      · simpa [List.append_assoc] using hk.out
    · obtain ⟨x, y, hxs, hex, hey⟩ := just2 (by have h2 := hkind; unfold kindB at h2; rw [if_neg (by omega), if_neg (by omega), if_pos (by omega)] at h2; exact h2)
      have cs := fun L w' => iWriteSigned2 hG.sgn (by omega) (by omega) (hkt.trans hxs) (hkid x (by rw [hxs]; simp) hex) (hkid y (by rw [hxs]; simp) hey) p L w' _ _ _ _ hA0
      have hv : eK (opOf t) (numOf t) (txtOf t) (kop0 ks) (esT ks) = [40] ++ signedT t ++ [41] := by
        unfold eK signedT
        rw [if_neg (by omega)]; rw [if_neg (by omega)]; rw [if_neg (by omega)]; rw [if_neg (by omega)]; rw [if_neg (by omega)]; rw [if_neg (by omega)]; rw [if_neg (by omega)]; rw [if_neg (by omega)]; rw [if_neg (by omega)]; rw [if_neg (by omega), hkt, hxs]; rfl
      rw [hv] at room ⊢
      have RM : Hid (L.length + ([40] ++ signedT t ++ [41]).length ≤ 1099511627776) := room
      have n1 : (opOf t == 1) = false := beq_eq_false_iff_ne.2 (by omega)
      have n2 : (opOf t == 2) = false := beq_eq_false_iff_ne.2 (by omega)
      have n3 : (opOf t == 3) = false := beq_eq_false_iff_ne.2 (by omega)
      have n4 : (opOf t == 4) = false := beq_eq_false_iff_ne.2 (by omega)
      have n7 : (opOf t == 7) = false := beq_eq_false_iff_ne.2 (by omega)
      have n8 : (opOf t == 8) = false := beq_eq_false_iff_ne.2 (by omega)
      have n5 : (opOf t == 5) = false := beq_eq_false_iff_ne.2 (by omega)
      have n6 : (opOf t == 6) = false := beq_eq_false_iff_ne.2 (by omega)
      have n28 : (opOf t == 28) = false := beq_eq_false_iff_ne.2 (by omega)
      clear hv room hT hkind hkid hA hA0 hK hE hlenk hkt hnd hsl h
      generalize numOf t = n at *
      generalize signedT t = D at *
      generalize txtOf t = s at *
      generalize opOf t = op at *
      generalize (kidsOf t).length = xL at *
      go_enter Tryz.func45, Tryz.ntmps45
      have hk := hk _ rfl
      go_wp2_with (first
        | (refine put_step hk rfl _ _ _ rfl rfl _ rfl (by have := RM.out; simp only [List.length_append, List.length_cons, List.length_nil] at this ⊢; omega) ?_; intro w2 hk; obtain ⟨y0, y1, y2, y3⟩ := hk.var.cell)
        | (go_at_call 87; refine (cs _ _ hk.bel hk.out ?_).mono ?_; (have := RM.out; simp only [List.length_append, List.length_cons, List.length_nil] at this ⊢; omega); rintro e w2 ⟨rfl, hO2, hC2⟩; have hk := hk.step hO2 hC2; obtain ⟨y0, y1, y2, y3⟩ := hk.var.cell))
      refine bodyPost_end (v := .tuple #[]) ?_ rfl ⟨rfl, ?_, hk.ch⟩
      · simp [results, Tryz.results45]
      · simpa [List.append_assoc] using hk.out
    · obtain ⟨x, y, hxs, hex, hey⟩ := justS (by have h2 := hkind; unfold kindB at h2; rw [if_neg (by omega), if_neg (by omega), if_neg (by omega), if_pos (by omega)] at h2; exact h2)
      have cs := fun L w' => iWriteSigned2 hG.sgn (by omega) (by omega) (hkt.trans hxs) (hkid x (by rw [hxs]; simp) hex) (hkid y (by rw [hxs]; simp) hey) p L w' _ _ _ _ hA0
      have hv : eK (opOf t) (numOf t) (txtOf t) (kop0 ks) (esT ks) = [40] ++ signedT t ++ [41] := by
        unfold eK signedT
        rw [if_neg (by omega)]; rw [if_neg (by omega)]; rw [if_neg (by omega)]; rw [if_neg (by omega)]; rw [if_neg (by omega)]; rw [if_neg (by omega)]; rw [if_neg (by omega)]; rw [if_neg (by omega)]; rw [if_neg (by omega)]; rw [if_neg (by omega), hkt, hxs]; rfl
      rw [hv] at room ⊢
      have RM : Hid (L.length + ([40] ++ signedT t ++ [41]).length ≤ 1099511627776) := room
      have n1 : (opOf t == 1) = false := beq_eq_false_iff_ne.2 (by omega)
      have n2 : (opOf t == 2) = false := beq_eq_false_iff_ne.2 (by omega)
      have n3 : (opOf t == 3) = false := beq_eq_false_iff_ne.2 (by omega)
      have n4 : (opOf t == 4) = false := beq_eq_false_iff_ne.2 (by omega)
      have n7 : (opOf t == 7) = false := beq_eq_false_iff_ne.2 (by omega)
      have n8 : (opOf t == 8) = false := beq_eq_false_iff_ne.2 (by omega)
      have n5 : (opOf t == 5) = false := beq_eq_false_iff_ne.2 (by omega)
      have n6 : (opOf t == 6) = false := beq_eq_false_iff_ne.2 (by omega)
      have n28 : (opOf t == 28) = false := beq_eq_false_iff_ne.2 (by omega)
      clear hv room hT hkind hkid hA hA0 hK hE hlenk hkt hnd hsl h
      generalize numOf t = n at *
      generalize signedT t = D at *
      generalize txtOf t = s at *
      generalize opOf t = op at *
      generalize (kidsOf t).length = xL at *
      go_enter Tryz.func45, Tryz.ntmps45
      have hk := hk _ rfl
      go_wp2_with (first
        | (refine put_step hk rfl _ _ _ rfl rfl _ rfl (by have := RM.out; simp only [List.length_append, List.length_cons, List.length_nil] at this ⊢; omega) ?_; intro w2 hk; obtain ⟨y0, y1, y2, y3⟩ := hk.var.cell)
        | (go_at_call 87; refine (cs _ _ hk.bel hk.out ?_).mono ?_; (have := RM.out; simp only [List.length_append, List.length_cons, List.length_nil] at this ⊢; omega); rintro e w2 ⟨rfl, hO2, hC2⟩; have hk := hk.step hO2 hC2; obtain ⟨y0, y1, y2, y3⟩ := hk.var.cell))
      refine bodyPost_end (v := .tuple #[]) ?_ rfl ⟨rfl, ?_, hk.ch⟩
      · simp [results, Tryz.results45]
      · simpa [List.append_assoc] using hk.out

end Ty
end Go.Proofs.YtjdohfdkkppnpaaGreatDoor

