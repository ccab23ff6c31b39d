/-
  The program's Closure.
-/
import Derived.Test.YtnbnbohhbflgaalCloFns
import Derived.Deep.Upon
namespace Go.Proofs.Ytnbnbohhbflgaal
open Go.RowKit
namespace Clo

def scOf (P : Nat → Pl) (begin fin : Bool) (k : Nat) : List Int := nextV (P k).op (P k).a (P k).b k begin fin

theorem newInts_nil {B : Nat} {w : World} {v : Value} {l : List Int} (h : NewInts B w v l) (hl : l = []) : v = .slice none 0 0 := by
  rcases h with h | h
  · exact h.2
  · exact absurd hl h.1
theorem newInts_some {B : Nat} {w : World} {v : Value} {l : List Int} (h : NewInts B w v l) (hl : l ≠ []) : ∃ g, v = .slice (some ⟨g, 0, none⟩) l.length l.length ∧ B ≤ g ∧ Is g l w := by
  rcases h with h | h
  · exact absurd h.1 hl
  · exact h.2
theorem is_news {g : Nat} {l : List Int} {w : World} (h : Is g l w) : ∀ j u, (ints l)[j]? = some u → w.cell? ((⟨g, 0, none⟩ : Addr).add j) = some u := by
  intro j u hj
  have hadd : (⟨g, 0, none⟩ : Addr).add j = ⟨g, j, none⟩ := by unfold Addr.add; split <;> simp_all
  rw [hadd]
  simp only [ints, List.getElem?_map, Option.map_eq_some_iff] at hj
  obtain ⟨x, hx, rfl⟩ := hj
  exact is_cell h hx
theorem ints_one (l : List Int) : ∀ u ∈ ints l, u.oneCell' = true := by
  intro u hu
  simp only [ints, List.mem_map] at hu
  obtain ⟨x, _, rfl⟩ := hu
  simp [Value.oneCell']

theorem owns_base {w : World} {base base' e size n : Nat} {v : Value} {xs : List Value} (h : w.ownsRow base e size v n xs) (hb : base' ≤ base) : w.ownsRow base' e size v n xs := by
  obtain ⟨h1, h2⟩ := h
  refine ⟨h1, ?_⟩
  rcases h2 with h2 | ⟨g, cap, cur, rfl, hg, h3⟩
  · exact .inl h2
  · exact .inr ⟨g, cap, cur, rfl, by omega, h3⟩

/-- The ways that are still to go: the argument's own, or a row of the call's. -/
def WaysAt (B ga : Nat) (ats l : List Int) (v : Value) (w : World) : Prop := (v = .slice (some ⟨ga, 0, none⟩) ats.length ats.length ∧ l = ats) ∨ (w.ownsRow B 3 1 v l.length (ints l) ∧ 0 < l.length)

theorem ways_read {B ga : Nat} {ats l : List Int} {v : Value} {w : World} (h : WaysAt B ga ats l v w) (hI : Is ga ats w) {k : Nat} {x : Int} (hk : l[k]? = some x) : ∃ gv cap, v = .slice (some ⟨gv, 0, none⟩) l.length cap ∧ w.cell? ⟨gv, k, none⟩ = some (.int .i64 x) := by
  rcases h with ⟨rfl, rfl⟩ | ⟨ho, hl⟩
  · exact ⟨ga, _, rfl, is_cell hI hk⟩
  · obtain ⟨gv, cap, rfl, _⟩ := owns_form ho hl
    exact ⟨gv, cap, rfl, owns_cell ho hk⟩
theorem ways_len {B ga : Nat} {ats l : List Int} {v : Value} {w : World} (h : WaysAt B ga ats l v w) : ∃ ao cap, v = .slice ao l.length cap := by
  rcases h with ⟨rfl, rfl⟩ | ⟨ho, hl⟩
  · exact ⟨_, _, rfl⟩
  · exact owns_len ho
theorem ways_kept {B ga : Nat} {ats l : List Int} {v : Value} {w w' : World} (h : WaysAt B ga ats l v w) (hw : ∀ k, B ≤ k → k < w.heap.size → w'.heap[k]? = w.heap[k]?) : WaysAt B ga ats l v w' := by
  rcases h with h | ⟨ho, hl⟩
  · exact .inl h
  · exact .inr ⟨owns_same ho fun g hg => hw g (ho.lt g hg).1 (ho.lt g hg).2, hl⟩

theorem ways_cap {B ga gv cap : Nat} {ats l : List Int} {w : World} (h : WaysAt B ga ats l (.slice (some ⟨gv, 0, none⟩) l.length cap) w) : l.length ≤ cap := by
  rcases h with ⟨h, rfl⟩ | ⟨ho, hl⟩
  · simp at h; omega
  · rcases ho.2 with ⟨h, _⟩ | ⟨g, cap', cur, h, _, _, h1, _⟩
    · simp at h
    · simp at h; omega

theorem wpList_append_nil {P : Program} {ops : Array Oper} {rest : List Oper} {o : Oper} {a : Act} {w : World} {Q : Exit → Act → World → Prop} (hgd : o.guard = none) (s x : Operand) (t : TypeId)
    (ho : o.op = .call { callee := .builtin .append, args := #[s, x], argTypes := #[t, t] }) (e : TypeId) (i : TypeInfo) (ht : P.underlying t = some (.slice e)) (hi : P.info? e = some i)
    (ao : Option Addr) (n cap : Nat) (hs : a.eval s = .slice ao n cap) (hle : n ≤ cap) (hx : a.eval x = .slice none 0 0)
    (h : wpList P ops Q rest (a.put o.dst (.slice ao n cap)) w) : wpList P ops Q (o :: rest) a w := by
  refine wpList_plain hgd fun K hK => ?_
  have hr := run_append_nothing (P := P) w t t o.type e i ht hi ao n cap hle (.slice none 0 0) (Src.ofNil _ ht 0)
  unfold Oper.wp execOp
  simp only [ho, resolve, invoke, builtin, Sem.run_bind, Sem.run_pure, Result.andThen_ok, List.map_toArray, List.map_cons, List.map_nil, hs, hx, hr]
  exact hK _ _ h

set_option maxHeartbeats 2000000 in
set_option maxRecDepth 100000 in
theorem iClosure {g n ga : Nat} {P : Nat → Pl} {ats : List Int} {w : World} (hP : Ps g n P w) (hI : Is ga ats w) (hn : n ≤ 1048576) (hm : ats.length ≤ 1048576) (begin fin : Bool) :
    Calls Try.prog 12 #[.slice (some ⟨g, 0, none⟩) n n, .slice (some ⟨ga, 0, none⟩) ats.length ats.length, .bool begin, .bool fin] w fun e w' =>
      ∃ v M, e = .returned v ∧ IsClos n (scOf P begin fin) ats M ∧ OwnInts w.heap.size w' v (nums M n) ∧ Below w.heap.size w w' := by
  obtain ⟨i0, hi0, hz0, hz1, hz2⟩ := info_parts Try.infoIntr
  have hmk := run_make_row' (P := Try.prog) 45 4 (.bool false) 1 Try.underlying45 Try.infoBoolr rfl .i64 .i64 n (by omega) (by omega)
  have hgl := hP.lt
  have hal := hI.lt
  have bn : (n : Int) ≤ 1048576 := by omega
  have bm : (ats.length : Int) ≤ 1048576 := by omega
  obtain ⟨m, hme⟩ : ∃ m, m = ats.length := ⟨_, rfl⟩
  go_enter Try.func12, Try.ntmps12
  go_wp2_with fail
  go_loopw [10, 11] (fun v i wr => ∃ (k : Nat) (l : List Int) (M : Nat → Bool), i = .int .i64 k ∧ k ≤ l.length ∧ l.length + 2 * open' M n ≤ ats.length + 2 * n ∧ Goes n (scOf P begin fin) ats l k M ∧ Bs w.heap.size n M wr ∧ Below w.heap.size w wr ∧ WaysAt (w.heap.size + 1) ga ats l v wr) (fun _ i _ => ats.length + 2 * n - (intOf i).toNat)
  case atStart =>
    refine ⟨0, ats, fun _ => false, rfl, Nat.zero_le _, ?_, goes_start _ _ _, ?_, (Below.refl _ w).alloc (Nat.le_refl _) _, .inl ⟨rfl, rfl⟩⟩
    · have := open_le (fun _ => false) n; omega
    · rw [bools_made]; exact heap_alloc_last _ _
  case round =>
    obtain ⟨k, l, M, rfl, hk, hT, hG, hB, hb, hW⟩ := hrel
    have hsz := hb.size
    have hPr : Ps g n P wr := hP.kept (hb.block _ hgl)
    have hIr : Is ga ats wr := hI.kept (hb.block _ hal)
    have hql := hB.lt
    have hTl : (l.length : Int) ≤ 4000000 := by omega
    rcases Nat.lt_or_ge k l.length with hkl | hkl
    · have hx : l[k]? = some l[k] := List.getElem?_eq_getElem hkl
      obtain ⟨x, hxe⟩ : ∃ x, x = l[k] := ⟨_, rfl⟩
      rw [← hxe] at hx
      clear hxe
      have hkT : (k : Int) < 4000000 := by omega
      by_cases hin : inN n x
      · obtain ⟨kk, rfl⟩ : ∃ kk : Nat, x = kk := ⟨x.toNat, by have := hin.1; omega⟩
        have hkn : kk < n := by have := hin.2; omega
        have hib : inB n kk = true := inB_iff.2 hin
        have hcM := bs_cell hB hkn
        by_cases hM : M kk = true
        · obtain ⟨gv, cap, rfl, hc⟩ := ways_read hW hIr hx
          have hS := hG.skip hx (.inr (by simpa using hM))
          rw [hM] at hcM
          go_wp2_with (go_at_call 25; refine (iIsPlace _ n _).mono ?_; rintro e w1 ⟨rfl, hw1⟩; have hw1 := hw1.symm; subst hw1)
          go_roundw
          case rel => exact ⟨k + 1, l, M, by go_num, hkl, hT, hS, hB, hb, hW⟩
          case measure => simp [intOf]; omega
        · have hM : M kk = false := by simpa using hM
          rw [hM] at hcM
          have p0 := ps_at hPr hkn 0 (by omega)
          have p1 := ps_at hPr hkn 1 (by omega)
          have p2 := ps_at hPr hkn 2 (by omega)
          have p3 := ps_at hPr hkn 3 (by omega)
          have p4 := ps_at hPr hkn 4 (by omega)
          have p5 := ps_at hPr hkn 5 (by omega)
          simp only [cellP, Nat.add_zero] at p0 p1 p2 p3 p4 p5
          have fz := bs_frozen hB kk
          have hS := hG.step hx hin
          have hO : Hid (open' (mark M kk) n + 1 = open' M n) := open_mark hkn hM
          have hB2 := bs_set hB kk
          have hb3 : Below w.heap.size w (wr.setCell ⟨w.heap.size, kk, none⟩ (.bool true)) := hb.setCell (Nat.le_refl _) _
          have hlen2 : Hid ((scOf P begin fin kk).length ≤ 2) := nextV_len (P kk).op (P kk).a (P kk).b kk begin fin
          simp only [Int.toNat_natCast] at hS
          have HS : Hid (Goes n (scOf P begin fin) ats (l ++ scOf P begin fin kk) (k + 1) (mark M kk)) := hS
          clear hS
          by_cases hnil' : nextV (P kk).op (P kk).a (P kk).b kk begin fin = []
          · obtain ⟨gv, cap, rfl, hc⟩ := ways_read hW hIr hx
            have hlc := ways_cap hW
            have HN : Hid (scOf P begin fin kk = []) := hnil'
            clear hnil'
            go_upto_region 9 with (go_at_call 25; refine (iIsPlace _ n _).mono ?_; rintro e w1 ⟨rfl, hw1⟩; have hw1 := hw1.symm; subst hw1)
            go_wp2_with fail
            refine (iOnward _ _ _ _ _ _ kk begin fin _ (by omega)).mono ?_
            rintro e w2 ⟨v2, rfl, hN, hb2⟩
            obtain rfl := newInts_nil hN HN.out
            clear hN
            go_wp2_with (at_builtin; refine wpList_append_nil rfl _ _ 29 rfl 3 i0 Try.underlying29 hi0 (some ⟨gv, 0, none⟩) l.length cap rfl hlc rfl ?_)
            have hbz := hb2.size
            simp at hbz
            go_roundw
            case rel =>
              refine ⟨k + 1, l, mark M kk, by go_num, hkl, by have := hO.out; omega, ?_, hB2.kept (hb2.block _ (by simp; omega)), hb3.trans (hb2.mono (by simp; omega)), ?_⟩
              · have := HS.out
                rw [HN.out, List.append_nil] at this
                exact this
              · exact ways_kept hW fun b h1 h2 => (hb2.block b (by simp; omega)).trans (Below.heap_setCell _ _ _ _ (by show b ≠ w.heap.size; omega))
            case measure => simp [intOf]; omega
          · have HN : Hid (scOf P begin fin kk ≠ []) := hnil'
            obtain ⟨l2, hl2⟩ : ∃ l2, l2 = scOf P begin fin kk := ⟨_, rfl⟩
            have HL2 : Hid (l2 = scOf P begin fin kk) := hl2
            have hl2a : (l2.length : Int) ≤ 2 := by have := hlen2.out; rw [← hl2] at this; omega
            have hl2b : 0 < (l2.length : Int) := by have := List.length_pos_iff.2 HN.out; rw [← hl2] at this; omega
            rw [← hl2] at HS
            clear hnil' hl2
            rcases hW with ⟨rfl, rfl⟩ | ⟨ho, hl0⟩
            · have hc := is_cell hIr hx
              go_upto_region 9 with (go_at_call 25; refine (iIsPlace _ n _).mono ?_; rintro e w1 ⟨rfl, hw1⟩; have hw1 := hw1.symm; subst hw1)
              go_wp2_with fail
              refine (iOnward _ _ _ _ _ _ kk begin fin _ (by omega)).mono ?_
              rintro e w2 ⟨v2, rfl, hN, hb2⟩
              obtain ⟨g2, hv2, hg2, hI2⟩ := newInts_some hN HN.out
              rw [show nextV (P kk).op (P kk).a (P kk).b kk begin fin = l2 from HL2.out.symm] at hv2 hI2
              subst hv2
              clear hN
              have hI2' : Is ga l w2 := hI.kept ((hb2.block _ (by simp; omega)).trans (hb3.block _ hal))
              have hbz := hb2.size
              simp at hbz
              go_wp2_with (at_builtin; refine wpList_append_grows _ rfl _ _ 29 rfl 3 i0 (.int .i64 0) 1 8 Try.underlying29 hi0 hz0 hz1 hz2 rfl (by decide) (some ⟨ga, 0, none⟩) _ _ (ints l) rfl (by simp) (by simp [ints]) (fun b hb j u hj => by cases hb; exact is_news hI2' j u hj) ⟨g2, 0, none⟩ _ _ (ints l2) rfl (by simp [ints]) (is_news hI2) (ints_one _) (by omega) (by unfold maxLen; omega) (by omega) ?_; intro v' w3 hown' hgrow)
              have hb4 : Below w.heap.size w w2 := hb3.trans (hb2.mono (by simp; omega))
              go_roundw
              case rel =>
                refine ⟨k + 1, l ++ l2, mark M kk, by go_num, by simp; omega, by have := hO.out; simp; omega, HS.out, (hB2.kept (hb2.block _ (by simp; omega))).kept (hgrow.block _ (by omega) (by simp)), hb4.grown hgrow (by omega) (by simp), .inr ⟨?_, by simp; omega⟩⟩
                rw [ints_append, List.length_append]
                exact owns_base hown' (by omega)
              case measure => simp [intOf]; omega
            · obtain ⟨gv, cap, rfl, hgv, _⟩ := owns_form ho hl0
              have hc := owns_cell ho hx
              go_upto_region 9 with (go_at_call 25; refine (iIsPlace _ n _).mono ?_; rintro e w1 ⟨rfl, hw1⟩; have hw1 := hw1.symm; subst hw1)
              go_wp2_with fail
              refine (iOnward _ _ _ _ _ _ kk begin fin _ (by omega)).mono ?_
              rintro e w2 ⟨v2, rfl, hN, hb2⟩
              obtain ⟨g2, hv2, hg2, hI2⟩ := newInts_some hN HN.out
              rw [show nextV (P kk).op (P kk).a (P kk).b kk begin fin = l2 from HL2.out.symm] at hv2 hI2
              subst hv2
              clear hN
              have hbz := hb2.size
              simp at hbz
              have ho2 := owns_same (w' := w2) ho (fun g' hg' => (hb2.block _ (by have := (ho.lt _ hg').2; simp; omega)).trans (Below.heap_setCell _ _ _ _ (by have := (ho.lt _ hg').1; show g' ≠ w.heap.size; omega)))
              go_wp2_with (at_builtin; refine wpList_append_own_at _ rfl _ _ 29 rfl (w.heap.size + 1) 3 i0 (.int .i64 0) 1 8 Try.underlying29 hi0 hz0 hz1 hz2 rfl (by decide) _ _ _ rfl ho2 ⟨g2, 0, none⟩ _ _ (ints l2) rfl (by simp [ints]) (is_news hI2) (ints_one _) (by unfold maxLen; omega) (by omega) (by omega) ?_; intro v' w3 hown' hgrow _ _)
              have hb4 : Below w.heap.size w w2 := hb3.trans (hb2.mono (by simp; omega))
              go_roundw
              case rel =>
                refine ⟨k + 1, l ++ l2, mark M kk, by go_num, by simp; omega, by have := hO.out; simp; omega, HS.out, (hB2.kept (hb2.block _ (by simp; omega))).kept (hgrow.block _ (by omega) (fun e => by have := (ho.lt _ e.symm).1; omega)), hb4.grown hgrow (by omega) (fun b hb => by have := (ho.lt _ hb).1; omega), .inr ⟨?_, by simp; omega⟩⟩
                rw [ints_append, List.length_append]
                exact hown'
              case measure => simp [intOf]; omega
      · have hib : inB n x = false := by cases e : inB n x; · rfl
                                         · exact absurd (inB_iff.1 e) hin
        obtain ⟨gv, cap, rfl, hc⟩ := ways_read hW hIr hx
        have hS := hG.skip hx (.inl hin)
        go_wp2_with (go_at_call 25; refine (iIsPlace _ n _).mono ?_; rintro e w1 ⟨rfl, hw1⟩; have hw1 := hw1.symm; subst hw1)
        go_roundw
        case rel => exact ⟨k + 1, l, M, by go_num, hkl, hT, hS, hB, hb, hW⟩
        case measure => simp [intOf]; omega
    · obtain rfl : k = l.length := by omega
      have hcl := hG.done (Nat.le_refl _)
      obtain ⟨ao, cap, rfl⟩ := ways_len hW
      go_wp2_with (go_at_call 27; refine (iNumbersOf hB hn).mono ?_; rintro e w2 ⟨v2, rfl, ho2, hb2⟩)
      go_ret
      exact ⟨v2, M, rfl, hcl, owns_base ho2 hsz, hb.trans (hb2.mono hsz)⟩

end Clo
end Go.Proofs.Ytnbnbohhbflgaal
