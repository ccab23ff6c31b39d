/-
  The specification's Closure.
-/
import Derived.Test.YtnbnbohhbflgaalCloImpl
namespace Go.Proofs.Ytnbnbohhbflgaal
open Go.RowKit
namespace Clo

/-- A flag in the heap. -/
def flagOf (w : World) (q k : Nat) : Bool := match w.cell? ⟨q, k, none⟩ with
  | some (.bool b) => b
  | _ => false
theorem flag_is {q n : Nat} {M : Nat → Bool} {w : World} (h : Bs q n M w) {k : Nat} (hk : k < n) : flagOf w q k = M k := by unfold flagOf; rw [bs_cell h hk]
theorem open_flags {q n : Nat} {M : Nat → Bool} {w : World} (h : Bs q n M w) : open' (flagOf w q) n = open' M n := by
  unfold open'
  congr 1
  refine List.filter_congr fun k hk => ?_
  rw [flag_is h (List.mem_range.1 hk)]

theorem grown_own {w w2 w3 : World} {row row' : Option Nat} (h : w.grownBy w2 row) (h' : w2.grownBy w3 row') (ho : ∀ k, row' = some k → w.heap.size ≤ k) : w.grownBy w3 row :=
  ⟨h'.os.trans h.os, h'.tape.trans h.tape, h'.output.trans h.output, Nat.le_trans h.size h'.size, fun k hk hne => (h'.block k (Nat.lt_of_lt_of_le hk h.size) fun e => by have := ho k e.symm; omega).trans (h.block k hk hne)⟩

def lenV : Value → Nat
  | .slice _ n _ => n
  | _ => 0

set_option maxHeartbeats 4000000 in
set_option maxRecDepth 100000 in
theorem sClose {g n q j : Nat} {P : Nat → Pl} {ats : List Int} {M : Nat → Bool} {x : Int} {w : World} (hP : Ps g n P w) (hB : Bs q n M w) (hgq : g ≠ q) (hn : n ≤ 1048576) (begin fin : Bool) (hx : ats[j]? = some x) (hp : Piles n (scOf P begin fin) ats [] j M) :
    Calls Try.prog 23 #[.slice (some ⟨g, 0, none⟩) n n, .slice (some ⟨q, 0, none⟩) n n, .int .i64 x, .bool begin, .bool fin] w fun e w' =>
      e = .returned (.tuple #[]) ∧ ∃ M', Piles n (scOf P begin fin) ats [] (j + 1) M' ∧ Bs q n M' w' ∧ w.grownBy w' (some q) := by
  obtain ⟨i0, hi0, hz0, hz1, hz2⟩ := info_parts Try.infoIntr
  have hgl := hP.lt
  have hql := hB.lt
  have bn : (n : Int) ≤ 1048576 := by omega
  have hp1 := hp.push hx
  clear hp hx
  go_enter Try.func23, Try.ntmps23
  go_wp2_with fail
  go_loopw [10] (fun v wr => ∃ (l : List Int) (M' : Nat → Bool) (gv cap : Nat), v = .slice (some ⟨gv, 0, none⟩) l.length cap ∧ wr.ownsRow w.heap.size 3 1 v l.length (ints l) ∧ l.length + 2 * open' M' n ≤ 1 + 2 * n ∧ Piles n (scOf P begin fin) ats l (j + 1) M' ∧ Bs q n M' wr ∧ w.grownBy wr (some q)) (fun v wr => lenV v + 3 * open' (flagOf wr q) n)
  case atStart =>
    refine ⟨[x], M, _, _, rfl, World.ownsRow_lit w #[.int .i64 x] 1 (Nat.le_refl _) (by unfold maxLen; omega) rfl, ?_, hp1, hB.kept (Below.heap_alloc _ _ _ hql), World.grownBy_alloc _ _ _⟩
    have := open_le M n
    simp; omega
  case round =>
    obtain ⟨l, M', gv, cap, rfl, ho, hT, hPl, hBr, hgr⟩ := hrel
    clear hp1 hB
    have hsz := hgr.size
    have hPr : Ps g n P wr := hP.kept (hgr.block _ hgl (by simp; omega))
    have hql' := hBr.lt
    have hgv := ho.lt gv rfl
    have hgvl : w.heap.size ≤ gv := hgv.1
    rcases List.eq_nil_or_concat l with rfl | ⟨l, y, rfl⟩
    · go_wp2_with fail
      refine bodyPost_end (v := .tuple #[]) ?_ rfl ⟨rfl, M', hPl, hBr, hgr⟩
      simp [results, Try.results23]
    · simp only [List.concat_eq_append] at *
      have hlast := owns_cell ho (k := l.length) (x := y) (by simp)
      rw [ints_append, List.length_append, List.length_singleton] at ho
      have hpop := ownsRow_pop (by rw [ints_len]; omega) ho
      rw [List.length_append, List.length_singleton] at hT ⊢
      have hcap : l.length + 1 ≤ cap := by
        rcases ho.2 with ⟨h, _⟩ | ⟨g', cap', cur, h, _, _, h1, _⟩
        · simp at h
        · simp at h; omega
      have hcm : cap ≤ maxLen := by
        rcases ho.2 with ⟨h, _⟩ | ⟨g', cap', cur, h, _, _, _, h1, _⟩
        · simp at h
        · simp at h; omega
      have hlT : (l.length : Int) ≤ 4000000 := by omega
      obtain ⟨m, hm⟩ : ∃ m, m = l.length := ⟨_, rfl⟩
      rw [← hm] at ho hlast hpop hcap hlT hT ⊢
      have Hm : Hid (m = l.length) := hm
      have HF : Hid (open' (flagOf wr q) n = open' M' n) := open_flags hBr
      clear hm
      by_cases hin : inN n y
      · obtain ⟨kk, rfl⟩ : ∃ kk : Nat, y = kk := ⟨y.toNat, by have := hin.1; omega⟩
        have hkn : kk < n := by have := hin.2; omega
        have hcM := bs_cell hBr hkn
        have e1 : decide ((n : Int) ≤ kk) = false := decide_eq_false (by omega)
        have e1' : decide (n ≤ kk) = false := decide_eq_false (by omega)
        have e2 : decide ((kk : Int) < 0) = false := decide_eq_false (by omega)
        by_cases hM : M' kk = true
        · have hS := hPl.skip (.inr (by simpa using hM))
          rw [hM] at hcM
          go_wp2_with fail
          go_roundw
          case rel => exact ⟨l, M', gv, cap, by rw [Hm.out], by rw [← Hm.out]; exact hpop, by rw [← Hm.out]; omega, hS, hBr, hgr⟩
          case measure => simp [lenV]
        · have hM : M' kk = false := by simpa using hM
          rw [hM] at hcM
          have p0 := ps_at hPr hkn 0 (by omega)
          have p1 := ps_at hPr hkn 1 (by omega)
          have p2 := ps_at hPr hkn 2 (by omega)
          have p3 := ps_at hPr hkn 3 (by omega)
          have p4 := ps_at hPr hkn 4 (by omega)
          have p5 := ps_at hPr hkn 5 (by omega)
          simp only [cellP, Nat.add_zero] at p0 p1 p2 p3 p4 p5
          have fz := bs_frozen hBr kk
          have hS := hPl.step hin
          simp only [Int.toNat_natCast] at hS
          have HS : Hid (Piles n (scOf P begin fin) ats (l ++ scOf P begin fin kk) (j + 1) (mark M' kk)) := hS
          have hO : Hid (open' (mark M' kk) n + 1 = open' M' n) := open_mark hkn hM
          have hgs : w.grownBy (wr.setCell ⟨q, kk, none⟩ (.bool true)) (some q) := hgr.trans (grown_set _ ⟨q, kk, none⟩ _)
          have hBs := bs_set hBr kk
          have hqgv : q ≠ gv := by omega
          have hpop2 : (wr.setCell ⟨q, kk, none⟩ (.bool true)).ownsRow w.heap.size 3 1 (.slice (some ⟨gv, 0, none⟩) m cap) m (ints l) := owns_same hpop fun b hb => Below.heap_setCell _ _ _ _ (by simp [Value.ownBlock] at hb; show b ≠ q; omega)
          obtain ⟨op, hop⟩ : ∃ op, op = (P kk).op := ⟨_, rfl⟩
          have HOP : Hid (op = (P kk).op) := hop
          rw [← hop] at p0
          have hnx : Hid (∀ a b, nextV (P kk).op a b kk begin fin = nextV op a b kk begin fin) := fun a b => by rw [hop]
          clear hop hS
          have hgr3 : ∀ o, w.grownBy ((wr.setCell ⟨q, kk, none⟩ (.bool true)).alloc o) (some q) := fun o => hgs.trans (World.grownBy_alloc _ _ _)
          have hB3 : ∀ o, Bs q n (mark M' kk) ((wr.setCell ⟨q, kk, none⟩ (.bool true)).alloc o) := fun o => hBs.kept (Below.heap_alloc _ _ _ (by simp; omega))
          have hpop3 : ∀ o, ((wr.setCell ⟨q, kk, none⟩ (.bool true)).alloc o).ownsRow w.heap.size 3 1 (.slice (some ⟨gv, 0, none⟩) m cap) m (ints l) := fun o => hpop2.alloc o
          by_cases h6 : op = 6
          · subst h6
            have HN : Hid (scOf P begin fin kk = [(P kk).a]) := by show nextV (P kk).op _ _ _ _ _ = _; rw [← HOP.out]; simp [nextV]
            go_wp2_with (at_builtin; refine wpList_append_own_at _ rfl _ _ 29 rfl w.heap.size 3 i0 (.int .i64 0) 1 8 Try.underlying29 hi0 hz0 hz1 hz2 rfl (by decide) _ _ _ rfl ((hpop3 _).alloc _) ⟨wr.heap.size + 1, 0, none⟩ 1 1 (ints [(P kk).a]) rfl rfl (is_news (is_new _ [(P kk).a] (by simp) rfl)) (ints_one _) (by unfold maxLen; omega) (by omega) (by simp; omega) ?_; intro v' w3 hown' hgrow _ _)
            obtain ⟨gv', cap', rfl, hgv', _⟩ := owns_form hown' (by omega)
            have hgr4 : w.grownBy w3 (some q) := grown_own ((hgr3 _).trans (World.grownBy_alloc _ _ _)) hgrow (fun b hb => by cases hb; exact hgvl)
            have hB4 : Bs q n (mark M' kk) w3 := ((hB3 _).kept (Below.heap_alloc _ _ _ (by simp; omega))).kept (hgrow.block _ (by simp; omega) (fun e => hqgv (Option.some.inj e)))
            go_roundw
            case rel =>
              have HS' := HS.out
              rw [HN.out] at HS'
              refine ⟨l ++ [(P kk).a], mark M' kk, gv', cap', by rw [Hm.out]; simp, ?_, by have := hO.out; have := Hm.out; simp; omega, HS', hB4, hgr4⟩
              rw [List.length_append, ints_append, ← Hm.out]
              exact hown'
            case measure => rw [open_flags hB4, HF.out, ← hO.out]; simp only [lenV]; omega
          by_cases h7 : op = 7
          · subst h7
            have HN : Hid (scOf P begin fin kk = [(P kk).a, (P kk).b]) := by show nextV (P kk).op _ _ _ _ _ = _; rw [← HOP.out]; simp [nextV]
            go_wp2_with (at_builtin; refine wpList_append_own_at _ rfl _ _ 29 rfl w.heap.size 3 i0 (.int .i64 0) 1 8 Try.underlying29 hi0 hz0 hz1 hz2 rfl (by decide) _ _ _ rfl ((hpop3 _).alloc _) ⟨wr.heap.size + 1, 0, none⟩ 2 2 (ints [(P kk).a, (P kk).b]) rfl rfl (is_news (is_new _ [(P kk).a, (P kk).b] (by simp) rfl)) (ints_one _) (by unfold maxLen; omega) (by omega) (by simp; omega) ?_; intro v' w3 hown' hgrow _ _)
            obtain ⟨gv', cap', rfl, hgv', _⟩ := owns_form hown' (by omega)
            have hgr4 : w.grownBy w3 (some q) := grown_own ((hgr3 _).trans (World.grownBy_alloc _ _ _)) hgrow (fun b hb => by cases hb; exact hgvl)
            have hB4 : Bs q n (mark M' kk) w3 := ((hB3 _).kept (Below.heap_alloc _ _ _ (by simp; omega))).kept (hgrow.block _ (by simp; omega) (fun e => hqgv (Option.some.inj e)))
            go_roundw
            case rel =>
              have HS' := HS.out
              rw [HN.out] at HS'
              refine ⟨l ++ [(P kk).a, (P kk).b], mark M' kk, gv', cap', by rw [Hm.out]; simp, ?_, by have := hO.out; have := Hm.out; simp; omega, HS', hB4, hgr4⟩
              rw [List.length_append, ints_append, ← Hm.out]
              exact hown'
            case measure => rw [open_flags hB4, HF.out, ← hO.out]; simp only [lenV]; omega
          by_cases h4 : op = 4
          · subst h4
            cases begin with
            | true =>
              have HN : Hid (scOf P true fin kk = [(kk : Int) + 1]) := by show nextV (P kk).op _ _ _ _ _ = _; rw [← HOP.out]; simp [nextV]
              go_wp2_with (at_builtin; refine wpList_append_own_at _ rfl _ _ 29 rfl w.heap.size 3 i0 (.int .i64 0) 1 8 Try.underlying29 hi0 hz0 hz1 hz2 rfl (by decide) _ _ _ rfl ((hpop3 _).alloc _) ⟨wr.heap.size + 1, 0, none⟩ 1 1 (ints [(kk : Int) + 1]) rfl rfl (is_news (is_new _ [(kk : Int) + 1] (by simp) rfl)) (ints_one _) (by unfold maxLen; omega) (by omega) (by simp; omega) ?_; intro v' w3 hown' hgrow _ _)
              obtain ⟨gv', cap', rfl, hgv', _⟩ := owns_form hown' (by omega)
              have hgr4 : w.grownBy w3 (some q) := grown_own ((hgr3 _).trans (World.grownBy_alloc _ _ _)) hgrow (fun b hb => by cases hb; exact hgvl)
              have hB4 : Bs q n (mark M' kk) w3 := ((hB3 _).kept (Below.heap_alloc _ _ _ (by simp; omega))).kept (hgrow.block _ (by simp; omega) (fun e => hqgv (Option.some.inj e)))
              go_roundw
              case rel =>
                have HS' := HS.out
                rw [HN.out] at HS'
                refine ⟨l ++ [(kk : Int) + 1], mark M' kk, gv', cap', by rw [Hm.out]; simp, ?_, by have := hO.out; have := Hm.out; simp; omega, HS', hB4, hgr4⟩
                rw [List.length_append, ints_append, ← Hm.out]
                exact hown'
              case measure => rw [open_flags hB4, HF.out, ← hO.out]; simp only [lenV]; omega
            | false =>
              have HN : Hid (scOf P false fin kk = []) := by show nextV (P kk).op _ _ _ _ _ = _; rw [← HOP.out]; simp [nextV]
              go_wp2_with fail
              go_roundw
              case rel =>
                have HS' := HS.out
                rw [HN.out, List.append_nil] at HS'
                exact ⟨l, mark M' kk, gv, cap, by rw [Hm.out], by rw [← Hm.out]; exact hpop3 _, by have := hO.out; have := Hm.out; omega, HS', hB3 _, hgr3 _⟩
              case measure => rw [open_flags (hB3 _), HF.out, ← hO.out]; simp [lenV]; omega
          by_cases h5 : op = 5
          · subst h5
            cases fin with
            | true =>
              have HN : Hid (scOf P begin true kk = [(kk : Int) + 1]) := by show nextV (P kk).op _ _ _ _ _ = _; rw [← HOP.out]; simp [nextV]
              go_wp2_with (at_builtin; refine wpList_append_own_at _ rfl _ _ 29 rfl w.heap.size 3 i0 (.int .i64 0) 1 8 Try.underlying29 hi0 hz0 hz1 hz2 rfl (by decide) _ _ _ rfl ((hpop3 _).alloc _) ⟨wr.heap.size + 1, 0, none⟩ 1 1 (ints [(kk : Int) + 1]) rfl rfl (is_news (is_new _ [(kk : Int) + 1] (by simp) rfl)) (ints_one _) (by unfold maxLen; omega) (by omega) (by simp; omega) ?_; intro v' w3 hown' hgrow _ _)
              obtain ⟨gv', cap', rfl, hgv', _⟩ := owns_form hown' (by omega)
              have hgr4 : w.grownBy w3 (some q) := grown_own ((hgr3 _).trans (World.grownBy_alloc _ _ _)) hgrow (fun b hb => by cases hb; exact hgvl)
              have hB4 : Bs q n (mark M' kk) w3 := ((hB3 _).kept (Below.heap_alloc _ _ _ (by simp; omega))).kept (hgrow.block _ (by simp; omega) (fun e => hqgv (Option.some.inj e)))
              go_roundw
              case rel =>
                have HS' := HS.out
                rw [HN.out] at HS'
                refine ⟨l ++ [(kk : Int) + 1], mark M' kk, gv', cap', by rw [Hm.out]; simp, ?_, by have := hO.out; have := Hm.out; simp; omega, HS', hB4, hgr4⟩
                rw [List.length_append, ints_append, ← Hm.out]
                exact hown'
              case measure => rw [open_flags hB4, HF.out, ← hO.out]; simp only [lenV]; omega
            | false =>
              have HN : Hid (scOf P begin false kk = []) := by show nextV (P kk).op _ _ _ _ _ = _; rw [← HOP.out]; simp [nextV]
              go_wp2_with fail
              go_roundw
              case rel =>
                have HS' := HS.out
                rw [HN.out, List.append_nil] at HS'
                exact ⟨l, mark M' kk, gv, cap, by rw [Hm.out], by rw [← Hm.out]; exact hpop3 _, by have := hO.out; have := Hm.out; omega, HS', hB3 _, hgr3 _⟩
              case measure => rw [open_flags (hB3 _), HF.out, ← hO.out]; simp [lenV]; omega
          have HN : Hid (scOf P begin fin kk = []) := by show nextV (P kk).op _ _ _ _ _ = _; rw [← HOP.out]; simp [nextV, h4, h5, h6, h7]
          have n4 : (op == 4) = false := by simp [h4]
          have n5 : (op == 5) = false := by simp [h5]
          have n6 : (op == 6) = false := by simp [h6]
          have n7 : (op == 7) = false := by simp [h7]
          go_wp2_with fail
          go_roundw
          case rel =>
            have HS' := HS.out
            rw [HN.out, List.append_nil] at HS'
            exact ⟨l, mark M' kk, gv, cap, by rw [Hm.out], by rw [← Hm.out]; exact hpop3 _, by have := hO.out; have := Hm.out; omega, HS', hB3 _, hgr3 _⟩
          case measure => rw [open_flags (hB3 _), HF.out, ← hO.out]; simp [lenV]; omega
      · have hS := hPl.skip (.inl hin)
        by_cases hy : (n : Int) ≤ y
        · have e1 : decide ((n : Int) ≤ y) = true := decide_eq_true hy
          go_wp2_with fail
          go_roundw
          case rel => exact ⟨l, M', gv, cap, by rw [Hm.out], by rw [← Hm.out]; exact hpop, by rw [← Hm.out]; omega, hS, hBr, hgr⟩
          case measure => simp [lenV]
        · have e1 : decide ((n : Int) ≤ y) = false := decide_eq_false hy
          have e2 : decide (y < 0) = true := decide_eq_true (by unfold inN at hin; omega)
          go_wp2_with fail
          go_roundw
          case rel => exact ⟨l, M', gv, cap, by rw [Hm.out], by rw [← Hm.out]; exact hpop, by rw [← Hm.out]; omega, hS, hBr, hgr⟩
          case measure => simp [lenV]

set_option maxRecDepth 100000 in
theorem sClosure {g n ga : Nat} {P : Nat → Pl} {ats : List Int} {w : World} (hP : Ps g n P w) (hI : Is ga ats w) (hn : n ≤ 1048576) (hm : ats.length ≤ 1048576) (begin fin : Bool) :
    Calls Try.prog 10 #[.slice (some ⟨g, 0, none⟩) n n, .slice (some ⟨ga, 0, none⟩) ats.length ats.length, .bool begin, .bool fin] w fun e w' =>
      ∃ v M, e = .returned v ∧ IsClos n (scOf P begin fin) ats M ∧ OwnInts w.heap.size w' v (nums M n) ∧ Below w.heap.size w w' := by
  have hmk := run_make_row' (P := Try.prog) 45 4 (.bool false) 1 Try.underlying45 Try.infoBoolr rfl .i64 .i64 n (by omega) (by omega)
  have hgl := hP.lt
  have hal := hI.lt
  have bn : (n : Int) ≤ 1048576 := by omega
  have bm : (ats.length : Int) ≤ 1048576 := by omega
  go_enter Try.func10, Try.ntmps10
  go_wp2_with fail
  go_loopw [10] (fun i wr => ∃ (k : Nat) (M : Nat → Bool), i = .int .i64 k ∧ k ≤ ats.length ∧ Piles n (scOf P begin fin) ats [] k M ∧ Bs w.heap.size n M wr ∧ Below w.heap.size w wr) (fun i _ => ats.length - (intOf i).toNat)
  case atStart => exact ⟨0, fun _ => false, rfl, Nat.zero_le _, piles_start _ _ _, by rw [bools_made]; exact heap_alloc_last _ _, (Below.refl _ w).alloc (Nat.le_refl _) _⟩
  case round =>
    obtain ⟨k, M, rfl, hk, hPl, hB, hb⟩ := hrel
    have hsz := hb.size
    have hPr : Ps g n P wr := hP.kept (hb.block _ hgl)
    have hIr : Is ga ats wr := hI.kept (hb.block _ hal)
    have hql := hB.lt
    rcases Nat.lt_or_ge k ats.length with hkl | hkl
    · have hx : ats[k]? = some ats[k] := List.getElem?_eq_getElem hkl
      have hc := is_cell hIr hx
      go_wp2_with (go_at_call 23; refine (sClose hPr hB (by omega) hn begin fin hx hPl).mono ?_; rintro e w2 ⟨rfl, M', hPl2, hB2, hg2⟩)
      go_roundw
      case rel => exact ⟨k + 1, M', by go_num, hkl, hPl2, hB2, hb.grown hg2 hsz (by simp)⟩
      case measure => simp [intOf]; omega
    · obtain rfl : k = ats.length := by omega
      have hcl := hPl.done (Nat.le_refl _)
      go_wp2_with (go_at_call 24; refine (sList hB hn).mono ?_; rintro e w2 ⟨v2, rfl, ho2, hb2⟩)
      go_ret
      exact ⟨v2, M, rfl, hcl, owns_base ho2 hsz, hb.trans (hb2.mono hsz)⟩

end Clo
end Go.Proofs.Ytnbnbohhbflgaal
