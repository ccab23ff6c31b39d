/-
  The program's finders: again and again.
  The program's finders: all of them.
-/
import Derived.Test.YtgdnlmaacnnfiaaGreatDoorQ28
import Derived.Deep.RegionLaw
namespace Go.Proofs.YtgdnlmaacnnfiaaGreatDoor
open Go.RowKit Go.Maps
namespace Mt
open Rx Clo

def sortN (l : List Nat) : List Nat := (sortL (natI l)).map Int.toNat
theorem natI_sortN (l : List Nat) : natI (sortN l) = sortL (natI l) := by
  unfold sortN natI
  rw [List.map_map]
  conv => rhs; rw [← List.map_id (sortL _)]
  apply List.map_congr_left
  intro x hx
  have h2 := (sortL_mem _ x).1 hx
  obtain ⟨y, _, rfl⟩ := List.mem_map.1 h2
  simp
theorem sortN_mem {l : List Nat} {x : Nat} : x ∈ sortN l ↔ x ∈ l := by
  have h2 : ∀ l : List Nat, (x : Int) ∈ natI l ↔ x ∈ l := by
    intro l
    rw [mem_natI]
    constructor
    · rintro ⟨y, h, e⟩; have : x = y := by omega
      subst this; exact h
    · intro h; exact ⟨x, h, rfl⟩
  rw [← h2 (sortN l), natI_sortN, sortL_mem, h2]
theorem sortN_len (l : List Nat) : (sortN l).length = l.length := by unfold sortN; rw [List.length_map, sortL_len, natI_len]
theorem sortN_lt {l : List Nat} (h : l.Nodup) : (sortN l).Pairwise (· < ·) := by
  have h1 := sortL_up (natI l)
  have h2 : (sortL (natI l)).Nodup := by
    have hp : (sortL (natI l)).Perm (natI l) := by unfold sortL; exact List.mergeSort_perm _ _
    refine hp.nodup_iff.2 ?_
    unfold natI List.Nodup
    rw [List.pairwise_map]
    exact h.imp fun hne e => hne (by omega)
  have h3 : (sortL (natI l)).Pairwise (· < ·) := (h1.and h2).imp fun ⟨a, b⟩ => by omega
  rw [← natI_sortN] at h3
  unfold natI at h3
  rw [List.pairwise_map] at h3
  exact h3.imp fun h => by omega
theorem sortN_up {n : Nat} {l : List Nat} (h : l.Nodup) (hn : ∀ x ∈ l, x ≤ n) : Up n (sortN l) := ⟨sortN_lt h, fun x hx => hn x (sortN_mem.1 hx)⟩
theorem nodup_len {n : Nat} {l : List Nat} (h : l.Nodup) (hn : ∀ x ∈ l, x ≤ n) : l.length ≤ n + 1 := by
  rw [← sortN_len l]
  exact (sortN_up h hn).len

theorem nodup_fresh {n : Nat} {A L : List Nat} (h : A.Nodup) (hL : Up n L) : (A ++ fresh A L).Nodup := by
  rw [List.nodup_append]
  refine ⟨h, (hL.1.filter _).imp fun h => by omega, fun a ha b hb e => ?_⟩
  subst e
  exact (fresh_mem.1 hb).2 ha

set_option maxHeartbeats 1000000 in
set_option maxRecDepth 100000 in
theorem askRep {s : ByteArray} (hs : s.size ≤ 1000) {d : Nat} {k : Data} (ih : FinderOk s d k) {v : Value} {m : Nat} {Sl : List Nat} {f : Value} {S1 Qk : Nat → Prop} {L : List Nat} {fv : Value} {w : World} (hR : Rep w v m Sl f) (hK : Fnd s d w k f S1 Qk) (hM1 : Maps S1 w) (hm1 : ¬ S1 m)
    (hnd : Sl.Nodup) (hle : ∀ x ∈ Sl, x ≤ s.size) (hcl : ∀ x, Img s k Qk x → x ∈ Sl ∨ x ∈ L) (hrd : Rd w fv L) (hup : Up s.size L) :
    ∃ cap, v = .func (.func 75) #[] cap ∧ Calls Tryz.prog 75 (#[fv] ++ cap) w fun e w' => ∃ rv R Acc, e = .returned rv ∧ Rd w' rv R ∧ Up s.size R ∧ (L = [] → R = []) ∧ (∀ x, x ∈ R ↔ x ∈ Acc) ∧ Rep w' v m (Sl ++ Acc) f ∧ (Sl ++ Acc).Nodup ∧ (∀ x ∈ Sl ++ Acc, x ≤ s.size) ∧
      Fnd s d w' k f S1 (fun x => Qk x ∨ x ∈ Acc) ∧ Maps S1 w' ∧ (∀ x, Img s k (fun x => Qk x ∨ x ∈ Acc) x → x ∈ Sl ++ Acc) ∧ (∀ x ∈ L, x ∈ Sl ++ Acc) ∧ (∀ P : Nat → Prop, (∀ x ∈ L, P x) → (∀ x, Img s k Qk x → P x) → (∀ a b, P a → Fit (gOf s) s.size k a b → P b) → ∀ x ∈ Acc, P x) ∧ Fr (fun x => S1 x ∨ x = m) w w' := by
  obtain ⟨bm, bk, rfl, hbm, hbk, hseen⟩ := hR
  refine ⟨_, rfl, ?_⟩
  show Calls Tryz.prog 75 #[fv, .pointer (some ⟨bm, 0, none⟩), .pointer (some ⟨bk, 0, none⟩)] w _
  have hMm : Maps (fun x => S1 x ∨ x = m) w := fun x hx => by
    rcases hx with hx | rfl
    · exact hM1 x hx
    · exact hseen.isMap
  have hfv := hrd
  obtain ⟨fao, fcap, rfl, -, -⟩ := rd_form hrd
  go_enter Tryz.func75, Tryz.ntmps75
  go_wp2_with fail
  go_loopw [0, 5] (fun v0 v5 wr => ∃ F Acc : List Nat, Rd wr v0 F ∧ Up s.size F ∧ wr.ownsRow w.heap.size 3 1 v5 Acc.length (ints (natI Acc)) ∧ Seen wr m (Sl ++ Acc) ∧ (Sl ++ Acc).Nodup ∧ (∀ x ∈ Sl ++ Acc, x ≤ s.size) ∧ Fnd s d wr k f S1 (fun x => Qk x ∨ x ∈ Acc) ∧ Maps S1 wr ∧ Fr (fun x => S1 x ∨ x = m) w wr ∧
      (∀ x, Img s k (fun x => Qk x ∨ x ∈ Acc) x → x ∈ Sl ++ Acc ∨ x ∈ F) ∧ (∀ x ∈ L, x ∈ Sl ++ Acc ∨ x ∈ F) ∧ (∀ P : Nat → Prop, (∀ x ∈ L, P x) → (∀ x, Img s k Qk x → P x) → (∀ a b, P a → Fit (gOf s) s.size k a b → P b) → (∀ x ∈ Acc, P x) ∧ ∀ x ∈ F, P x) ∧ (L = [] → F = [] ∧ Acc = [])) (fun v0 v5 _ => 2 * (s.size + 2 - lenW v5) + min (lenW v0) 1)
  case atStart =>
    refine ⟨L, [], hfv, hup, World.ownsRow_nil _ _ _ _, by simpa using hseen, by simpa using hnd, by simpa using hle, by simpa using hK, hM1, Fr.refl _ _, fun x hx => ?_, fun x hx => .inr hx, fun P h1 _ _ => ⟨by simp, h1⟩, fun h => ⟨h, rfl⟩⟩
    rw [List.append_nil]
    exact hcl x (by simpa using hx)
  case round =>
    obtain ⟨F, Acc, hF, hFu, hown, hS, hN, hNl, hKr, hMr, hFr, hC, hLc, hP, hnil⟩ := hrel
    have hF' := hF
    obtain ⟨ja, jc, rfl, -, -⟩ := rd_form hF
    obtain ⟨la, lc, rfl⟩ := owns_len hown
    have hlen := nodup_len hN hNl
    rw [List.length_append] at hlen
    have hFl := hFu.len
    have hMmr : Maps (fun x => S1 x ∨ x = m) wr := fun x hx => by
      rcases hx with hx | rfl
      · exact hMr x hx
      · exact hS.isMap
    have hCr := cells_fr hFr hMm
    have hbm' := hCr _ _ _ _ (by decide) hbm
    have hbk' := hCr _ _ _ _ (by decide) hbk
    have cm : wr.cell? ⟨bm, 0, none⟩ = some (.map (some m)) := by rw [cell_of_row _ _ _ _ _ _ hbm']; rfl
    have hsz := hFr.size
    rcases Nat.eq_zero_or_pos F.length with hF0 | hF0
    · obtain rfl : F = [] := List.eq_nil_of_length_eq_zero hF0
      have hsort := iSort (l := natI Acc) (owns_cast hown (natI_len Acc).symm) (by rw [natI_len]; omega)
      go_wp2_with fail
      refine hsort.mono ?_
      rintro e w1 ⟨rfl, ho1, hg1⟩
      go_wp2_with fail
      go_ret
      have hown0 := owns_cast hown (natI_len Acc).symm
      have hrow : w1.ownsRow w.heap.size 3 1 (.slice la Acc.length lc) (sortN Acc).length (ints (natI (sortN Acc))) := by rw [natI_sortN]; exact owns_cast ho1 (by rw [natI_len, sortN_len])
      have hk1 := maps_own hMmr hown0 hg1
      have hC1 := cells_own hown0 hg1
      refine ⟨_, sortN Acc, Acc, rfl, rd_own hrow, sortN_up (List.nodup_append.1 hN).2.1 (fun x hx => hNl x (by simp [hx])), fun h => by rw [(hnil h).2]; exact List.eq_nil_of_length_eq_zero (sortN_len []), fun x => sortN_mem, ⟨bm, bk, rfl, hC1 _ _ _ _ (by decide) hbm', hC1 _ _ _ _ (by decide) hbk', hS.same (hk1 m (.inr rfl))⟩, hN, hNl,
        fnd_kept hC1 d k f _ _ (fun x hx => hk1 x (.inl hx)) hKr, fun x hx => by obtain ⟨es, c, he⟩ := hMr x hx; exact ⟨es, c, (hk1 x (.inl hx)).trans he⟩, fun x hx => ?_, fun x hx => ?_, fun P h1 h2 h3 => (hP P h1 h2 h3).1, hFr.grown hg1 (fun x hx => (hown0.lt x hx).1)⟩
      · rcases hC x hx with h | h
        · exact h
        · simp at h
      · rcases hLc x hx with h | h
        · exact h
        · simp at h
    · obtain ⟨FF, hFF⟩ : ∃ FF, FF = fresh (Sl ++ Acc) F := ⟨_, rfl⟩
      have hFFu : Up s.size FF := by rw [hFF]; exact fresh_up hFu
      have hFFl := hFFu.len
      have hun := iUnseen hs hS (by rw [List.length_append]; omega) hF' hFu
      rw [← hFF] at hun
      have hpos : (0 : Int) < (F.length : Int) := by omega
      have HFF : Hid (FF = fresh (Sl ++ Acc) F) := hFF
      clear hFF
      go_upto_region 4 with (first | (go_at_call 76; with_reducible refine hun.mono ?_; rintro e w1 ⟨rv, rfl, ho1, hS1, hFr1⟩))
      have hm1' : Maps (fun x => x = m) wr := fun x hx => by subst hx; exact hS.isMap
      have hnm : ∀ g, Value.ownBlock (.slice la Acc.length lc) = some g → g ≠ m := fun g hg e => by
        obtain ⟨cs, hc⟩ := own_tag hown hg
        exact maps_cells hm1' hc e
      have hown1 := Clo.owns_same (w' := w1) hown (fun g hg => hFr1.block g (hown.lt g hg).2 (hnm g hg))
      have hz1 := hFr1.size
      have hrd1 : Rd w1 rv FF := rd_own ho1
      have hC1 : Cells wr w1 := cells_fr hFr1 hm1'
      have hK1 : Fnd s d w1 k f S1 (fun x => Qk x ∨ x ∈ Acc) := fnd_other hFr1 hm1' hMr (fun x hx e => hm1 (e ▸ hx)) hKr
      have hM1' : Maps S1 w1 := fun x hx => by
        obtain ⟨es, c, he⟩ := hMr x hx
        exact ⟨es, c, (hFr1.block x (heap_lt he) (fun e => hm1 (e ▸ hx))).trans he⟩
      go_upto_region 5 with (at_builtin; refine wpList_append_rd _ rfl _ _ rfl w.heap.size _ Acc FF rfl hown1 _ rfl hrd1 (by omega) (by omega) ?_; intro v2 w2 hown2 hgr2 _)
      have hz2 := hgr2.size
      have ho2 := Clo.owns_same (w' := w2) ho1 (fun g hg => hgr2.block g (ho1.lt g hg).2 (fun e => by have h1 := (ho1.lt g hg).1; have h2 := (hown.lt g e.symm).2; omega))
      have hC2 : Cells w1 w2 := cells_own hown1 hgr2
      have hK2 : Fnd s d w2 k f S1 (fun x => Qk x ∨ x ∈ Acc) := fnd_kept hC2 d k f _ _ (maps_own hM1' hown1 hgr2) hK1
      have hM2 : Maps S1 w2 := fun x hx => by
        obtain ⟨es, c, he⟩ := hM1' x hx
        exact ⟨es, c, (maps_own hM1' hown1 hgr2 x hx).trans he⟩
      have hmap1 : Maps (fun x => x = m) w1 := fun x hx => by subst hx; exact hS1.isMap
      have hS2 : Seen w2 m (Sl ++ Acc ++ FF) := hS1.same (maps_own hmap1 hown1 hgr2 m rfl)
      have hbm2 := hC2 _ _ _ _ (by decide) (hC1 _ _ _ _ (by decide) hbm')
      have hbk2 := hC2 _ _ _ _ (by decide) (hC1 _ _ _ _ (by decide) hbk')
      have ck : w2.cell? ⟨bk, 0, none⟩ = some f := by rw [cell_of_row _ _ _ _ _ _ hbk2]; rfl
      have hlA : (Acc ++ FF).length = Acc.length + FF.length := List.length_append
      rw [hlA] at hown2
      obtain ⟨va, vc, rfl⟩ := owns_len hown2
      obtain ⟨ra, rc, rfl⟩ := owns_len ho2
      obtain ⟨fi, capi, rfl, hent, hcall⟩ := ih w2 f S1 _ FF _ hK2 hM2 (rd_own ho2) hFFu
      have hMm2 : Maps (fun x => S1 x ∨ x = m) w2 := fun x hx => by
        rcases hx with hx | rfl
        · exact hM2 x hx
        · exact hS2.isMap
      have hFr2 : Fr (fun x => S1 x ∨ x = m) w w2 := (hFr.trans (hFr1.mono (fun x hx => .inr hx))).grown hgr2 (fun x hx => (hown1.lt x hx).1)
      have hNn : (Sl ++ (Acc ++ FF)).Nodup := by rw [← List.append_assoc, HFF.out]; exact nodup_fresh hN hFu
      have hNn' : ∀ x ∈ Sl ++ (Acc ++ FF), x ≤ s.size := fun x hx => by
        rw [← List.append_assoc] at hx
        rcases List.mem_append.1 hx with h | h
        · exact hNl x h
        · exact hFFu.2 x h
      have hlen2 := nodup_len hNn hNn'
      rw [List.length_append] at hlen2
      have hset : (fun x => (Qk x ∨ x ∈ Acc) ∨ x ∈ FF) = fun x => Qk x ∨ x ∈ Acc ++ FF := by
        funext x
        apply propext
        rw [List.mem_append, or_assoc]
      rw [hset] at hcall
      have hin : ∀ x, x ∈ Sl ++ Acc ∨ x ∈ F → x ∈ Sl ++ (Acc ++ FF) := fun x hx => by
        rw [← List.append_assoc]
        rcases hx with h | h
        · exact List.mem_append.2 (.inl h)
        · by_cases h2 : x ∈ Sl ++ Acc
          · exact List.mem_append.2 (.inl h2)
          · exact List.mem_append.2 (.inr (by rw [HFF.out]; exact fresh_mem.2 ⟨h, h2⟩))
      go_wp2_with (refine wpList_call_fn rfl 16 17 29 rfl fi capi rfl hent _ rfl ?_; refine hcall.mono ?_; rintro e w3 ⟨rv3, R3, rfl, hR3, hU3, hn3, hr1, hr2, hF3, hM3, hFr3⟩; refine ⟨_, rfl, ?_⟩)
      obtain ⟨a3, c3, hv3, -, -⟩ := rd_form hR3
      have hl3 := hU3.len
      go_roundw
      case rel =>
        refine ⟨R3, Acc ++ FF, hR3, hU3, (by rw [hlA]; exact Clo.owns_same hown2 (fun g hg => by
          obtain ⟨cs, hc⟩ := own_tag hown2 hg
          exact hFr3.block g (heap_lt hc) (maps_cells hM2 hc))), ?_, hNn, hNn', hF3, hM3, hFr2.trans (hFr3.mono (fun x hx => .inl hx)), fun x hx => ?_, fun x hx => .inl (hin x (hLc x hx)), fun P p1 p2 p3 => ?_, fun h => ?_⟩
        · rw [← List.append_assoc]
          exact hS2.same (hFr3.block m hS2.lt hm1)
        · rcases hr2 x hx with h | h
          · exact .inr h
          · exact .inl (hin x (hC x h))
        · obtain ⟨q1, q2⟩ := hP P p1 p2 p3
          have q3 : ∀ x ∈ FF, P x := fun x hx => q2 x (by rw [HFF.out] at hx; exact (fresh_mem.1 hx).1)
          refine ⟨fun x hx => ?_, fun x hx => ?_⟩
          · rcases List.mem_append.1 hx with h | h
            · exact q1 x h
            · exact q3 x h
          · obtain ⟨q, hq, hf⟩ := hr1 x hx
            rcases hq with hq | hq
            · exact p2 x ⟨q, hq, hf⟩
            · rcases List.mem_append.1 hq with h | h
              · exact p3 q x (q1 q h) hf
              · exact p3 q x (q3 q h) hf
        · have := (hnil h).1
          rw [this] at hF0
          simp at hF0
      case measure =>
        subst hv3
        simp only [lenW]
        rcases Nat.eq_zero_or_pos FF.length with h0 | h0
        · have hFn : FF = [] := List.eq_nil_of_length_eq_zero h0
          rw [hn3 hFn, hFn]
          simp
          omega
        · rw [List.length_append] at hlen2
          omega

end Mt
end Go.Proofs.YtgdnlmaacnnfiaaGreatDoor

namespace Go.Proofs.YtgdnlmaacnnfiaaGreatDoor
open Go.RowKit Go.Maps
namespace Mt
open Rx Clo

theorem step_call_fn {P : Program} {ops : Array Oper} {o : Oper} {a : Act} {w : World} {K : Act → World → Prop} {Q : Exit → Act → World → Prop} {E : Prop}
    (hg : o.guard = none) (x y : Nat) (t : TypeId) (hop : o.op = Op.call { callee := Callee.value (.tmp x), args := #[.tmp y], argTypes := #[t] })
    (f : Nat) (cap : Array Value) (hx : a.eval (.tmp x) = .func (.func f) #[] cap) (hcf : ∀ vs w, (callFunc f vs).run P w = .ok (.enter f vs) w) (fv : Value) (hy : a.eval (.tmp y) = fv)
    (hc : Calls P f (#[fv] ++ cap) w fun e w' => ∃ v, e = .returned v ∧ K (a.put o.dst v) w') :
    if Region.wanted o (yielded ops a.tmps) = true then Oper.wp P o a w K Q else E := by
  have hw : Region.wanted o (yielded ops a.tmps) = true := by simp [Region.wanted, hg]
  rw [if_pos hw]
  unfold Oper.wp
  simp [Act.eval] at hx hy
  simp [execOp, hop, resolve, invoke, hcf, go_sem, hx, hy]
  refine hc.mono ?_
  rintro e w' ⟨v, rfl, hk⟩
  exact hk

theorem askStar {s : ByteArray} (hs : s.size ≤ 1000) {d : Nat} {k : Data} (ih : FinderOk s d k) {v : Value} {m : Nat} {Sl : List Nat} {f : Value} {S S1 Q : Nat → Prop} {L : List Nat} {fv : Value} {w : World} (hR : Rep w v m Sl f) (hSl : ∀ x, x ∈ Sl ↔ Img s (Rx.one 8 k) Q x) (hnd : Sl.Nodup) (hle : ∀ x ∈ Sl, x ≤ s.size) (hSm : S m) (hS1 : ∀ x, S1 x → S x ∧ x ≠ m)
    (hK : Fnd s d w k f S1 (fun x => x ∈ Sl)) (hM : Maps S w) (hrd : Rd w fv L) (hup : Up s.size L) :
    ∃ cap, v = .func (.func 75) #[] cap ∧ Calls Tryz.prog 75 (#[fv] ++ cap) w fun e w' => Ans s (d + 1) (Rx.one 8 k) v S Q L w e w' := by
  have hM1 : Maps S1 w := maps_sub hM fun x hx => (hS1 x hx).1
  have step : ∀ Q' : Nat → Prop, ∀ a b, Img s (Rx.one 8 k) Q' a → Fit (gOf s) s.size k a b → Img s (Rx.one 8 k) Q' b := by
    rintro Q' a b ⟨q, hq, hf⟩ h
    exact ⟨q, hq, fit_star.2 (star_step (fit_star.1 hf) h)⟩
  obtain ⟨cap, hv, hc⟩ := askRep hs ih hR hK hM1 (fun h => (hS1 m h).2 rfl) hnd hle (fun x hx => by
    obtain ⟨q, hq, hf⟩ := hx
    exact .inl ((hSl x).2 (step Q q x ((hSl q).1 hq) hf))) hrd hup
  refine ⟨cap, hv, hc.mono ?_⟩
  rintro e w' ⟨rv, R, Acc, rfl, hRd, hU, hn, hRA, hR', hN, hNl, hK', hM', hcl, hLc, hP, hFr⟩
  have hsub : ∀ x, S1 x ∨ x = m → S x := fun x hx => hx.elim (fun h => (hS1 x h).1) (fun h => h ▸ hSm)
  have hset : (fun x => x ∈ Sl ∨ x ∈ Acc) = fun x => x ∈ Sl ++ Acc := by funext x; rw [List.mem_append]
  have hM2 : Maps S w' := maps_kid hM (S1 := fun x => S1 x ∨ x = m) (fun x hx => by
    rcases hx with hx | rfl
    · exact hM' x hx
    · obtain ⟨bm, bk, _, _, _, h⟩ := hR'
      exact h.isMap) hFr
  have hiff : ∀ x, x ∈ Sl ++ Acc ↔ Img s (Rx.one 8 k) (fun q => Q q ∨ q ∈ L) x := by
    intro x
    constructor
    · intro hx
      rcases List.mem_append.1 hx with h | h
      · exact img_mono (fun _ h => .inl h) ((hSl x).1 h)
      · exact hP _ (fun y hy => ⟨y, .inr hy, fit_star.2 (star_refl _ _)⟩) (fun y hy => by
          obtain ⟨q, hq, hf⟩ := hy
          exact img_mono (fun _ h => .inl h) (step Q q y ((hSl q).1 hq) hf)) (step _) x h
    · rintro ⟨q, hq, hf⟩
      refine (fit_star.1 hf) (fun x => x ∈ Sl ++ Acc) ?_ (fun a b ha hr => hcl b ⟨a, List.mem_append.1 ha, hr⟩)
      rcases hq with hq | hq
      · exact List.mem_append.2 (.inl ((hSl q).2 ⟨q, hq, fit_star.2 (star_refl _ _)⟩))
      · exact hLc q hq
  refine ⟨rv, R, rfl, hRd, hU, hn, fun x hx => (hiff x).1 (List.mem_append.2 (.inr ((hRA x).1 hx))), fun x hx => ?_, ?_, hM2, hFr.mono hsub⟩
  · rcases List.mem_append.1 ((hiff x).2 hx) with h | h
    · exact .inr ((hSl x).1 h)
    · exact .inl ((hRA x).2 h)
  · rw [Fnd]
    rw [hset] at hK'
    exact .inr (.inr (.inr (.inr (.inr (.inr (.inl ⟨k, m, Sl ++ Acc, f, S1, rfl, hR', hiff, hN, hNl, hSm, hS1, hK'⟩))))))

set_option maxHeartbeats 1000000 in
set_option maxRecDepth 100000 in
theorem askPlus {s : ByteArray} (hs : s.size ≤ 1000) {d : Nat} {k : Data} (ih : FinderOk s d k) {v fr : Value} {m bmore bonce : Nat} {Sl : List Nat} {f : Value} {S S1 Q : Nat → Prop} {L : List Nat} {fv : Value} {w : World}
    (hv : v = .func (.func 49) #[] #[.pointer (some ⟨bmore, 0, none⟩), .pointer (some ⟨bonce, 0, none⟩)]) (hbm : w.heap[bmore]? = some (.cells #[fr] 47 (0, 0))) (hbo : w.heap[bonce]? = some (.cells #[f] 47 (0, 0)))
    (hR : Rep w fr m Sl f) (hSl : ∀ x, x ∈ Sl ↔ Img s (Rx.one 9 k) Q x) (hnd : Sl.Nodup) (hle : ∀ x ∈ Sl, x ≤ s.size) (hSm : S m) (hS1 : ∀ x, S1 x → S x ∧ x ≠ m)
    (hK : Fnd s d w k f S1 (fun x => Q x ∨ x ∈ Sl)) (hM : Maps S w) (hrd : Rd w fv L) (hup : Up s.size L) :
    Calls Tryz.prog 49 #[fv, .pointer (some ⟨bmore, 0, none⟩), .pointer (some ⟨bonce, 0, none⟩)] w fun e w' => Ans s (d + 1) (Rx.one 9 k) v S Q L w e w' := by
  have hM1 : Maps S1 w := maps_sub hM fun x hx => (hS1 x hx).1
  have hm1 : ¬ S1 m := fun h => (hS1 m h).2 rfl
  have step : ∀ Q' : Nat → Prop, ∀ a b, Img s (Rx.one 9 k) Q' a → Fit (gOf s) s.size k a b → Img s (Rx.one 9 k) Q' b := by
    rintro Q' a b ⟨q, hq, hf⟩ h
    obtain ⟨y, h1, h2⟩ := fit_plus.1 hf
    exact ⟨q, hq, fit_plus.2 ⟨y, h1, star_step h2 h⟩⟩
  have one1 : ∀ Q' : Nat → Prop, ∀ x, Img s k Q' x → Img s (Rx.one 9 k) Q' x := by
    rintro Q' x ⟨q, hq, hf⟩
    exact ⟨q, hq, fit_plus.2 ⟨x, hf, star_refl _ _⟩⟩
  obtain ⟨fi, capi, rfl, hent, hcall⟩ := ih w f S1 _ L fv hK hM1 hrd hup
  obtain ⟨rm, rk, rfl, hrm, hrk, hseen⟩ := hR
  have cm : w.cell? ⟨bmore, 0, none⟩ = some (.func (.func 75) #[] #[.pointer (some ⟨rm, 0, none⟩), .pointer (some ⟨rk, 0, none⟩)]) := by rw [cell_of_row _ _ _ _ _ _ hbm]; rfl
  have co : w.cell? ⟨bonce, 0, none⟩ = some (.func (.func fi) #[] capi) := by rw [cell_of_row _ _ _ _ _ _ hbo]; rfl
  have hfv := hrd
  obtain ⟨fao, fcap, rfl, -, -⟩ := rd_form hrd
  have c1 : ∀ wx, (∃ n, wx = w.drewN n) → Calls Tryz.prog fi (#[.slice fao L.length fcap] ++ capi) wx fun e w1 => ∃ r1 l1 p1 R1, e = .returned (.slice r1 l1 p1) ∧ Rd w1 (.slice r1 l1 p1) R1 ∧ Up s.size R1 ∧ (L = [] → R1 = []) ∧ (∀ x, x ∈ R1 → Img s k (fun q => (Q q ∨ q ∈ Sl) ∨ q ∈ L) x) ∧ (∀ x, Img s k (fun q => (Q q ∨ q ∈ Sl) ∨ q ∈ L) x → x ∈ R1 ∨ Img s k (fun q => Q q ∨ q ∈ Sl) x) ∧
      Fnd s d w1 k (.func (.func fi) #[] capi) S1 (fun q => (Q q ∨ q ∈ Sl) ∨ q ∈ L) ∧ Maps S1 w1 ∧ Fr S1 w w1 ∧ w1.cell? ⟨bmore, 0, none⟩ = some (.func (.func 75) #[] #[.pointer (some ⟨rm, 0, none⟩), .pointer (some ⟨rk, 0, none⟩)]) := by
    rintro wx ⟨n, rfl⟩
    obtain ⟨fi', capi', he, _, hc⟩ := ih (w.drewN n) _ S1 _ L _ (fnd_kept (w := w) (w' := w.drewN n) (fun _ _ _ _ _ h => h) d k _ _ _ (fun _ _ => rfl) hK) hM1 (rd_kept hfv (fun _ _ h => h)) hup
    cases he
    refine hc.mono ?_
    rintro e w1 ⟨rv, R, rfl, hR1, hU1, hn1, h1, h2, h3, h4, h5⟩
    have h5' : Fr S1 w w1 := ⟨h5.os, h5.tape, h5.output, h5.size, h5.block⟩
    have hR1' := hR1
    obtain ⟨r1, p1, rfl, -, -⟩ := rd_form hR1
    exact ⟨r1, _, p1, R, rfl, hR1', hU1, hn1, h1, h2, h3, h4, h5', h5'.cell cm (maps_cell hM1 cm)⟩
  have c2 : ∀ w1 r1 l1 p1 R1, Rd w1 (.slice r1 l1 p1) R1 → Up s.size R1 → (L = [] → R1 = []) → (∀ x, x ∈ R1 → Img s k (fun q => (Q q ∨ q ∈ Sl) ∨ q ∈ L) x) → (∀ x, Img s k (fun q => (Q q ∨ q ∈ Sl) ∨ q ∈ L) x → x ∈ R1 ∨ Img s k (fun q => Q q ∨ q ∈ Sl) x) →
      Fnd s d w1 k (.func (.func fi) #[] capi) S1 (fun q => (Q q ∨ q ∈ Sl) ∨ q ∈ L) → Maps S1 w1 → Fr S1 w w1 → ∀ wx, (∃ n, wx = w1.drewN n) → Calls Tryz.prog 75 (#[.slice r1 l1 p1] ++ #[.pointer (some ⟨rm, 0, none⟩), .pointer (some ⟨rk, 0, none⟩)]) wx fun e w2 => Ans s (d + 1) (Rx.one 9 k) v S Q L w e w2 := by
    intro w1 r1 l1 p1 R1 hR1 hU1 hn1 h1 h2 hK1 hM1' hF1 wx hwx
    obtain ⟨n, rfl⟩ := hwx
    have hC1 := cells_fr hF1 hM1
    have hbm1 := hC1 _ _ _ _ (by decide) hbm
    have hbo1 := hC1 _ _ _ _ (by decide) hbo
    have hrm1 := hC1 _ _ _ _ (by decide) hrm
    have hrk1 := hC1 _ _ _ _ (by decide) hrk
    have hs1 : Seen w1 m Sl := hseen.same (hF1.block m hseen.lt hm1)
    have hrep : Rep (w1.drewN n) (.func (.func 75) #[] #[.pointer (some ⟨rm, 0, none⟩), .pointer (some ⟨rk, 0, none⟩)]) m Sl (.func (.func fi) #[] capi) := ⟨rm, rk, rfl, hrm1, hrk1, hs1⟩
    have hQk : ∀ x, Img s k (fun q => Q q ∨ q ∈ Sl) x → x ∈ Sl := by
      rintro x ⟨q, hq | hq, hf⟩
      · exact (hSl x).2 (one1 Q x ⟨q, hq, hf⟩)
      · exact (hSl x).2 (step Q q x ((hSl q).1 hq) hf)
    obtain ⟨cap, hcv, hc⟩ := askRep hs ih hrep (fnd_kept (w := w1) (w' := w1.drewN n) (fun _ _ _ _ _ h => h) d k _ _ _ (fun _ _ => rfl) hK1) hM1' hm1 hnd hle (fun x hx => by
      rcases h2 x hx with h | h
      · exact .inr h
      · exact .inl (hQk x h)) (rd_kept hR1 (fun _ _ h => h)) hU1
    cases hcv
    refine hc.mono ?_
    rintro e w2 ⟨rv, R, Acc, rfl, hRd, hU, hn, hRA, hR', hN, hNl, hK', hM', hcl, hLc, hP, hFr⟩
    have hFr1 : Fr (fun x => S1 x ∨ x = m) w1 w2 := ⟨hFr.os, hFr.tape, hFr.output, hFr.size, hFr.block⟩
    have hMm1 : Maps (fun x => S1 x ∨ x = m) w1 := fun x hx => by
      rcases hx with hx | rfl
      · exact hM1' x hx
      · exact hs1.isMap
    have hFr2 : Fr (fun x => S1 x ∨ x = m) w w2 := (hF1.mono (fun x hx => .inl hx)).trans hFr1
    have hsub : ∀ x, S1 x ∨ x = m → S x := fun x hx => hx.elim (fun h => (hS1 x h).1) (fun h => h ▸ hSm)
    have hC2 := cells_fr hFr1 hMm1
    have hM2 : Maps S w2 := maps_kid hM (S1 := fun x => S1 x ∨ x = m) (fun x hx => by
      rcases hx with hx | rfl
      · exact hM' x hx
      · obtain ⟨bm, bk, _, _, _, h⟩ := hR'
        exact h.isMap) hFr2
    have hiff : ∀ x, x ∈ Sl ++ Acc ↔ Img s (Rx.one 9 k) (fun q => Q q ∨ q ∈ L) x := by
      intro x
      have big : ∀ x, Img s k (fun q => (Q q ∨ q ∈ Sl) ∨ q ∈ L) x → Img s (Rx.one 9 k) (fun q => Q q ∨ q ∈ L) x := by
        rintro x ⟨q, (hq | hq) | hq, hf⟩
        · exact one1 _ x ⟨q, .inl hq, hf⟩
        · exact step _ q x (img_mono (fun _ h => .inl h) ((hSl q).1 hq)) hf
        · exact one1 _ x ⟨q, .inr hq, hf⟩
      constructor
      · intro hx
        rcases List.mem_append.1 hx with h | h
        · exact img_mono (fun _ h => .inl h) ((hSl x).1 h)
        · exact hP _ (fun y hy => big y (h1 y hy)) big (step _) x h
      · rintro ⟨q, hq, hf⟩
        obtain ⟨y, hy, hst⟩ := fit_plus.1 hf
        refine hst (fun x => x ∈ Sl ++ Acc) ?_ (fun a b ha hr => ?_)
        · rcases h2 y ⟨q, hq.elim (fun h => .inl (.inl h)) .inr, hy⟩ with h | h
          · exact hLc y h
          · exact List.mem_append.2 (.inl (hQk y h))
        · refine hcl b ⟨a, ?_, hr⟩
          rcases List.mem_append.1 ha with h | h
          · exact .inl (.inl (.inr h))
          · exact .inr h
    have hset : (fun x => ((Q x ∨ x ∈ Sl) ∨ x ∈ L) ∨ x ∈ Acc) = fun x => (Q x ∨ x ∈ L) ∨ x ∈ Sl ++ Acc := by
      funext x
      apply propext
      rw [List.mem_append]
      constructor
      · rintro (((h | h) | h) | h)
        · exact .inl (.inl h)
        · exact .inr (.inl h)
        · exact .inl (.inr h)
        · exact .inr (.inr h)
      · rintro ((h | h) | (h | h))
        · exact .inl (.inl (.inl h))
        · exact .inl (.inr h)
        · exact .inl (.inl (.inr h))
        · exact .inr h
    rw [hset] at hK'
    refine ⟨rv, R, rfl, hRd, hU, fun h => hn (hn1 h), fun x hx => (hiff x).1 (List.mem_append.2 (.inr ((hRA x).1 hx))), fun x hx => ?_, ?_, hM2, hFr2.mono hsub⟩
    · rcases List.mem_append.1 ((hiff x).2 hx) with h | h
      · exact .inr ((hSl x).1 h)
      · exact .inl ((hRA x).2 h)
    · rw [Fnd]
      exact .inr (.inr (.inr (.inr (.inr (.inr (.inr ⟨k, m, Sl ++ Acc, _, S1, _, bmore, bonce, rfl, hv, hC2 _ _ _ _ (by decide) hbm1, hC2 _ _ _ _ (by decide) hbo1, hR', hiff, hN, hNl, hSm, hS1, hK'⟩))))))
  go_enter Tryz.func49, Tryz.ntmps49
  go_wp2_with fail
  go_region_law (first
    | (refine step_call_fn rfl 6 7 29 rfl fi capi (by simp [Act.eval]) hent (.slice fao L.length fcap) (by simp [Act.eval]) ?_; refine (c1 _ (by first | exact ⟨0, rfl⟩ | exact ⟨1, rfl⟩ | exact ⟨2, rfl⟩ | exact ⟨3, rfl⟩)).mono ?_; rintro e w1 ⟨r1, l1, p1, R1, rfl, hR1, hU1, hn1, h1, h2, hK1, hM1', hF1, cm1⟩; refine ⟨_, rfl, ?_⟩)
    | (refine step_call_fn rfl 5 8 29 rfl 75 #[.pointer (some ⟨rm, 0, none⟩), .pointer (some ⟨rk, 0, none⟩)] (by simp [Act.eval]) enter_rep (.slice r1 l1 p1) (by simp [Act.eval]) ?_; refine (c2 w1 r1 l1 p1 R1 hR1 hU1 hn1 h1 h2 hK1 hM1' hF1 _ (by first | exact ⟨0, rfl⟩ | exact ⟨1, rfl⟩ | exact ⟨2, rfl⟩ | exact ⟨3, rfl⟩)).mono ?_; rintro e w2 hans; obtain ⟨rv, R, rfl, hrest⟩ := hans; refine ⟨_, rfl, ?_⟩))
  all_goals (
    go_wp2_with fail
    go_ret
    exact ⟨rv, R, rfl, hrest⟩)

/-- Every finder of a pattern answers so. -/
theorem finderOk {s : ByteArray} (hs : s.size ≤ 1000) : ∀ (d : Nat) (t : Data), cnt t ≤ 1000 → FinderOk s d t := by
  intro d
  induction d with
  | zero => intro t _ w v S Q L fv h; exact h.elim
  | succ d ih =>
    intro t hc w v S Q L fv h hM hrd hup
    have h0 := h
    rw [Fnd] at h
    rcases h with ⟨rfl, hv⟩ | ⟨rfl, b, hv, h1⟩ | ⟨rfl, hv⟩ | ⟨op, c, ss, no, pv, bp, bs, ho, rfl, hL, hv, h1, h2⟩ | ⟨ks, b, fs, Ss, rfl, hv, hB, hl, hA, hk⟩ | ⟨ks, b, fs, Ss, ht, hv, hB, hl, hA, hk⟩ | ⟨k, m, Sl, f, S1, rfl, hR, h1, h2, h3, h4, h5, h6⟩ | ⟨k, m, Sl, f, S1, fr, bmore, bonce, rfl, hv, e1, e2, hR, h1, h2, h3, h4, h5, h6⟩
    · exact ⟨_, _, hv, enter_f1, askStart hs hv hM hrd hup⟩
    · exact ⟨_, _, hv, enter_f2, askEnd hs hv h1 hM hrd hup⟩
    · exact ⟨_, _, hv, enter_f4, askNone hv hM hrd hup⟩
    · exact ⟨_, _, hv, enter_f5, askByte hs ho hL hv h1 h2 hM hrd hup⟩
    · rw [cnt_nd] at hc
      have hcl := cnts_len ks
      exact ⟨_, _, hv, enter_turn, askTurn (fun k hm => ih k (by have := cnts_mem hm; omega)) (by omega) hv hB hl hA hk hM hrd hup⟩
    · have hks : (∀ k ∈ ks, cnt k ≤ 1000) ∧ ks.length ≤ 1000 := by
        rcases ht with rfl | ⟨k, rfl, rfl⟩
        · rw [cnt_nd] at hc
          have hcl := cnts_len ks
          exact ⟨fun k hm => by have := cnts_mem hm; omega, by omega⟩
        · unfold Rx.one at hc
          rw [cnt_nd] at hc
          simp only [cnts] at hc
          refine ⟨fun k' hm => ?_, by simp⟩
          simp at hm
          rcases hm with rfl | rfl
          · unfold leaf; rw [cnt_nd]; simp [cnts]
          · omega
      exact ⟨_, _, hv, enter_tog, askTog hs (fun k hm => ih k (hks.1 k hm)) hks.2 ht hv hB hl hA hk hM hrd hup⟩
    · unfold Rx.one at hc
      rw [cnt_nd] at hc
      simp only [cnts] at hc
      obtain ⟨cap, hv, hcall⟩ := askStar hs (ih k (by omega)) hR h1 h2 h3 h4 h5 h6 hM hrd hup
      exact ⟨_, _, hv, enter_rep, hcall⟩
    · unfold Rx.one at hc
      rw [cnt_nd] at hc
      simp only [cnts] at hc
      exact ⟨_, _, hv, enter_f3, askPlus hs (ih k (by omega)) hv e1 e2 hR h1 h2 h3 h4 h5 h6 hM hrd hup⟩

end Mt
end Go.Proofs.YtgdnlmaacnnfiaaGreatDoor

