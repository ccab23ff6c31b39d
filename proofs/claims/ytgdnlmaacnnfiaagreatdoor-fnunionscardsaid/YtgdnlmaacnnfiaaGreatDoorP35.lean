/-
  The program's finders: all of them.
-/
import Derived.Test.YtgdnlmaacnnfiaaGreatDoorP34
import Derived.Deep.RegionLaw
namespace Go.Proofs.YtgdnlmaacnnfiaaGreatDoor
open Go.RowKit Go.Maps
namespace Mt
open Rx Clo

theorem step_call_fn {P : Program} {ops : Array Oper} {o : Oper} {a : Act} {w : World} {K : Act → World → Prop} {Q : Exit → Act → World → Prop} {E : Prop}
    (hg : o.guard = none) (x y : Nat) (t : TypeId) (hop : o.op = Op.call { callee := Callee.value (.tmp x), args := #[.tmp y], argTypes := #[t] })
    (f : Nat) (cap : Array Value) (hx : a.eval (.tmp x) = .func (.func f) #[] cap) (hcf : ∀ vs w, (callFunc f vs).run P w = .ok (.enter f vs) w) (fv : Value) (hy : a.eval (.tmp y) = fv)
    (hc : Calls P f (#[fv] ++ cap) w fun e w' => ∃ v, e = .returned v ∧ K (a.put o.dst v) w') :
    if Region.wanted o (yielded ops a.tmps) = true then Oper.wp P o a w K Q else E := by
  have hw : Region.wanted o (yielded ops a.tmps) = true := by simp [Region.wanted, hg]
  rw [if_pos hw]
  unfold Oper.wp
  simp [Act.eval] at hx hy
  simp [execOp, hop, resolve, invoke, hcf, go_sem, hx, hy]
  refine hc.mono ?_
  rintro e w' ⟨v, rfl, hk⟩
  exact hk

theorem askStar {s : ByteArray} (hs : s.size ≤ 1000) {d : Nat} {k : Data} (ih : FinderOk s d k) {v : Value} {m : Nat} {Sl : List Nat} {f : Value} {S S1 Q : Nat → Prop} {L : List Nat} {fv : Value} {w : World} (hR : Rep w v m Sl f) (hSl : ∀ x, x ∈ Sl ↔ Img s (Rx.one 8 k) Q x) (hnd : Sl.Nodup) (hle : ∀ x ∈ Sl, x ≤ s.size) (hSm : S m) (hS1 : ∀ x, S1 x → S x ∧ x ≠ m)
    (hK : Fnd s d w k f S1 (fun x => x ∈ Sl)) (hM : Maps S w) (hrd : Rd w fv L) (hup : Up s.size L) :
    ∃ cap, v = .func (.func 75) #[] cap ∧ Calls Tryz.prog 75 (#[fv] ++ cap) w fun e w' => Ans s (d + 1) (Rx.one 8 k) v S Q L w e w' := by
  have hM1 : Maps S1 w := maps_sub hM fun x hx => (hS1 x hx).1
  have step : ∀ Q' : Nat → Prop, ∀ a b, Img s (Rx.one 8 k) Q' a → Fit (gOf s) s.size k a b → Img s (Rx.one 8 k) Q' b := by
    rintro Q' a b ⟨q, hq, hf⟩ h
    exact ⟨q, hq, fit_star.2 (star_step (fit_star.1 hf) h)⟩
  obtain ⟨cap, hv, hc⟩ := askRep hs ih hR hK hM1 (fun h => (hS1 m h).2 rfl) hnd hle (fun x hx => by
    obtain ⟨q, hq, hf⟩ := hx
    exact .inl ((hSl x).2 (step Q q x ((hSl q).1 hq) hf))) hrd hup
  refine ⟨cap, hv, hc.mono ?_⟩
  rintro e w' ⟨rv, R, Acc, rfl, hRd, hU, hn, hRA, hR', hN, hNl, hK', hM', hcl, hLc, hP, hFr⟩
  have hsub : ∀ x, S1 x ∨ x = m → S x := fun x hx => hx.elim (fun h => (hS1 x h).1) (fun h => h ▸ hSm)
  have hset : (fun x => x ∈ Sl ∨ x ∈ Acc) = fun x => x ∈ Sl ++ Acc := by funext x; rw [List.mem_append]
  have hM2 : Maps S w' := maps_kid hM (S1 := fun x => S1 x ∨ x = m) (fun x hx => by
    rcases hx with hx | rfl
    · exact hM' x hx
    · obtain ⟨bm, bk, _, _, _, h⟩ := hR'
      exact h.isMap) hFr
  have hiff : ∀ x, x ∈ Sl ++ Acc ↔ Img s (Rx.one 8 k) (fun q => Q q ∨ q ∈ L) x := by
    intro x
    constructor
    · intro hx
      rcases List.mem_append.1 hx with h | h
      · exact img_mono (fun _ h => .inl h) ((hSl x).1 h)
      · exact hP _ (fun y hy => ⟨y, .inr hy, fit_star.2 (star_refl _ _)⟩) (fun y hy => by
          obtain ⟨q, hq, hf⟩ := hy
          exact img_mono (fun _ h => .inl h) (step Q q y ((hSl q).1 hq) hf)) (step _) x h
    · rintro ⟨q, hq, hf⟩
      refine (fit_star.1 hf) (fun x => x ∈ Sl ++ Acc) ?_ (fun a b ha hr => hcl b ⟨a, List.mem_append.1 ha, hr⟩)
      rcases hq with hq | hq
      · exact List.mem_append.2 (.inl ((hSl q).2 ⟨q, hq, fit_star.2 (star_refl _ _)⟩))
      · exact hLc q hq
  refine ⟨rv, R, rfl, hRd, hU, hn, fun x hx => (hiff x).1 (List.mem_append.2 (.inr ((hRA x).1 hx))), fun x hx => ?_, ?_, hM2, hFr.mono hsub⟩
  · rcases List.mem_append.1 ((hiff x).2 hx) with h | h
    · exact .inr ((hSl x).1 h)
    · exact .inl ((hRA x).2 h)
  · rw [Fnd]
    rw [hset] at hK'
    exact .inr (.inr (.inr (.inr (.inr (.inr (.inl ⟨k, m, Sl ++ Acc, f, S1, rfl, hR', hiff, hN, hNl, hSm, hS1, hK'⟩))))))

set_option maxHeartbeats 1000000 in
set_option maxRecDepth 100000 in
theorem askPlus {s : ByteArray} (hs : s.size ≤ 1000) {d : Nat} {k : Data} (ih : FinderOk s d k) {v fr : Value} {m bmore bonce : Nat} {Sl : List Nat} {f : Value} {S S1 Q : Nat → Prop} {L : List Nat} {fv : Value} {w : World}
    (hv : v = .func (.func 49) #[] #[.pointer (some ⟨bmore, 0, none⟩), .pointer (some ⟨bonce, 0, none⟩)]) (hbm : w.heap[bmore]? = some (.cells #[fr] 47 (0, 0))) (hbo : w.heap[bonce]? = some (.cells #[f] 47 (0, 0)))
    (hR : Rep w fr m Sl f) (hSl : ∀ x, x ∈ Sl ↔ Img s (Rx.one 9 k) Q x) (hnd : Sl.Nodup) (hle : ∀ x ∈ Sl, x ≤ s.size) (hSm : S m) (hS1 : ∀ x, S1 x → S x ∧ x ≠ m)
    (hK : Fnd s d w k f S1 (fun x => Q x ∨ x ∈ Sl)) (hM : Maps S w) (hrd : Rd w fv L) (hup : Up s.size L) :
    Calls Tryz.prog 49 #[fv, .pointer (some ⟨bmore, 0, none⟩), .pointer (some ⟨bonce, 0, none⟩)] w fun e w' => Ans s (d + 1) (Rx.one 9 k) v S Q L w e w' := by
  have hM1 : Maps S1 w := maps_sub hM fun x hx => (hS1 x hx).1
  have hm1 : ¬ S1 m := fun h => (hS1 m h).2 rfl
  have step : ∀ Q' : Nat → Prop, ∀ a b, Img s (Rx.one 9 k) Q' a → Fit (gOf s) s.size k a b → Img s (Rx.one 9 k) Q' b := by
    rintro Q' a b ⟨q, hq, hf⟩ h
    obtain ⟨y, h1, h2⟩ := fit_plus.1 hf
    exact ⟨q, hq, fit_plus.2 ⟨y, h1, star_step h2 h⟩⟩
  have one1 : ∀ Q' : Nat → Prop, ∀ x, Img s k Q' x → Img s (Rx.one 9 k) Q' x := by
    rintro Q' x ⟨q, hq, hf⟩
    exact ⟨q, hq, fit_plus.2 ⟨x, hf, star_refl _ _⟩⟩
  obtain ⟨fi, capi, rfl, hent, hcall⟩ := ih w f S1 _ L fv hK hM1 hrd hup
  obtain ⟨rm, rk, rfl, hrm, hrk, hseen⟩ := hR
  have cm : w.cell? ⟨bmore, 0, none⟩ = some (.func (.func 75) #[] #[.pointer (some ⟨rm, 0, none⟩), .pointer (some ⟨rk, 0, none⟩)]) := by rw [cell_of_row _ _ _ _ _ _ hbm]; rfl
  have co : w.cell? ⟨bonce, 0, none⟩ = some (.func (.func fi) #[] capi) := by rw [cell_of_row _ _ _ _ _ _ hbo]; rfl
  have hfv := hrd
  obtain ⟨fao, fcap, rfl, -, -⟩ := rd_form hrd
  have c1 : ∀ wx, (∃ n, wx = w.drewN n) → Calls Tryz.prog fi (#[.slice fao L.length fcap] ++ capi) wx fun e w1 => ∃ r1 l1 p1 R1, e = .returned (.slice r1 l1 p1) ∧ Rd w1 (.slice r1 l1 p1) R1 ∧ Up s.size R1 ∧ (L = [] → R1 = []) ∧ (∀ x, x ∈ R1 → Img s k (fun q => (Q q ∨ q ∈ Sl) ∨ q ∈ L) x) ∧ (∀ x, Img s k (fun q => (Q q ∨ q ∈ Sl) ∨ q ∈ L) x → x ∈ R1 ∨ Img s k (fun q => Q q ∨ q ∈ Sl) x) ∧
      Fnd s d w1 k (.func (.func fi) #[] capi) S1 (fun q => (Q q ∨ q ∈ Sl) ∨ q ∈ L) ∧ Maps S1 w1 ∧ Fr S1 w w1 ∧ w1.cell? ⟨bmore, 0, none⟩ = some (.func (.func 75) #[] #[.pointer (some ⟨rm, 0, none⟩), .pointer (some ⟨rk, 0, none⟩)]) := by
    rintro wx ⟨n, rfl⟩
    obtain ⟨fi', capi', he, _, hc⟩ := ih (w.drewN n) _ S1 _ L _ (fnd_kept (w := w) (w' := w.drewN n) (fun _ _ _ _ _ h => h) d k _ _ _ (fun _ _ => rfl) hK) hM1 (rd_kept hfv (fun _ _ h => h)) hup
    cases he
    refine hc.mono ?_
    rintro e w1 ⟨rv, R, rfl, hR1, hU1, hn1, h1, h2, h3, h4, h5⟩
    have h5' : Fr S1 w w1 := ⟨h5.os, h5.tape, h5.output, h5.size, h5.block⟩
    have hR1' := hR1
    obtain ⟨r1, p1, rfl, -, -⟩ := rd_form hR1
    exact ⟨r1, _, p1, R, rfl, hR1', hU1, hn1, h1, h2, h3, h4, h5', h5'.cell cm (maps_cell hM1 cm)⟩
  have c2 : ∀ w1 r1 l1 p1 R1, Rd w1 (.slice r1 l1 p1) R1 → Up s.size R1 → (L = [] → R1 = []) → (∀ x, x ∈ R1 → Img s k (fun q => (Q q ∨ q ∈ Sl) ∨ q ∈ L) x) → (∀ x, Img s k (fun q => (Q q ∨ q ∈ Sl) ∨ q ∈ L) x → x ∈ R1 ∨ Img s k (fun q => Q q ∨ q ∈ Sl) x) →
      Fnd s d w1 k (.func (.func fi) #[] capi) S1 (fun q => (Q q ∨ q ∈ Sl) ∨ q ∈ L) → Maps S1 w1 → Fr S1 w w1 → ∀ wx, (∃ n, wx = w1.drewN n) → Calls Tryz.prog 75 (#[.slice r1 l1 p1] ++ #[.pointer (some ⟨rm, 0, none⟩), .pointer (some ⟨rk, 0, none⟩)]) wx fun e w2 => Ans s (d + 1) (Rx.one 9 k) v S Q L w e w2 := by
    intro w1 r1 l1 p1 R1 hR1 hU1 hn1 h1 h2 hK1 hM1' hF1 wx hwx
    obtain ⟨n, rfl⟩ := hwx
    have hC1 := cells_fr hF1 hM1
    have hbm1 := hC1 _ _ _ _ (by decide) hbm
    have hbo1 := hC1 _ _ _ _ (by decide) hbo
    have hrm1 := hC1 _ _ _ _ (by decide) hrm
    have hrk1 := hC1 _ _ _ _ (by decide) hrk
    have hs1 : Seen w1 m Sl := hseen.same (hF1.block m hseen.lt hm1)
    have hrep : Rep (w1.drewN n) (.func (.func 75) #[] #[.pointer (some ⟨rm, 0, none⟩), .pointer (some ⟨rk, 0, none⟩)]) m Sl (.func (.func fi) #[] capi) := ⟨rm, rk, rfl, hrm1, hrk1, hs1⟩
    have hQk : ∀ x, Img s k (fun q => Q q ∨ q ∈ Sl) x → x ∈ Sl := by
      rintro x ⟨q, hq | hq, hf⟩
      · exact (hSl x).2 (one1 Q x ⟨q, hq, hf⟩)
      · exact (hSl x).2 (step Q q x ((hSl q).1 hq) hf)
    obtain ⟨cap, hcv, hc⟩ := askRep hs ih hrep (fnd_kept (w := w1) (w' := w1.drewN n) (fun _ _ _ _ _ h => h) d k _ _ _ (fun _ _ => rfl) hK1) hM1' hm1 hnd hle (fun x hx => by
      rcases h2 x hx with h | h
      · exact .inr h
      · exact .inl (hQk x h)) (rd_kept hR1 (fun _ _ h => h)) hU1
    cases hcv
    refine hc.mono ?_
    rintro e w2 ⟨rv, R, Acc, rfl, hRd, hU, hn, hRA, hR', hN, hNl, hK', hM', hcl, hLc, hP, hFr⟩
    have hFr1 : Fr (fun x => S1 x ∨ x = m) w1 w2 := ⟨hFr.os, hFr.tape, hFr.output, hFr.size, hFr.block⟩
    have hMm1 : Maps (fun x => S1 x ∨ x = m) w1 := fun x hx => by
      rcases hx with hx | rfl
      · exact hM1' x hx
      · exact hs1.isMap
    have hFr2 : Fr (fun x => S1 x ∨ x = m) w w2 := (hF1.mono (fun x hx => .inl hx)).trans hFr1
    have hsub : ∀ x, S1 x ∨ x = m → S x := fun x hx => hx.elim (fun h => (hS1 x h).1) (fun h => h ▸ hSm)
    have hC2 := cells_fr hFr1 hMm1
    have hM2 : Maps S w2 := maps_kid hM (S1 := fun x => S1 x ∨ x = m) (fun x hx => by
      rcases hx with hx | rfl
      · exact hM' x hx
      · obtain ⟨bm, bk, _, _, _, h⟩ := hR'
        exact h.isMap) hFr2
    have hiff : ∀ x, x ∈ Sl ++ Acc ↔ Img s (Rx.one 9 k) (fun q => Q q ∨ q ∈ L) x := by
      intro x
      have big : ∀ x, Img s k (fun q => (Q q ∨ q ∈ Sl) ∨ q ∈ L) x → Img s (Rx.one 9 k) (fun q => Q q ∨ q ∈ L) x := by
        rintro x ⟨q, (hq | hq) | hq, hf⟩
        · exact one1 _ x ⟨q, .inl hq, hf⟩
        · exact step _ q x (img_mono (fun _ h => .inl h) ((hSl q).1 hq)) hf
        · exact one1 _ x ⟨q, .inr hq, hf⟩
      constructor
      · intro hx
        rcases List.mem_append.1 hx with h | h
        · exact img_mono (fun _ h => .inl h) ((hSl x).1 h)
        · exact hP _ (fun y hy => big y (h1 y hy)) big (step _) x h
      · rintro ⟨q, hq, hf⟩
        obtain ⟨y, hy, hst⟩ := fit_plus.1 hf
        refine hst (fun x => x ∈ Sl ++ Acc) ?_ (fun a b ha hr => ?_)
        · rcases h2 y ⟨q, hq.elim (fun h => .inl (.inl h)) .inr, hy⟩ with h | h
          · exact hLc y h
          · exact List.mem_append.2 (.inl (hQk y h))
        · refine hcl b ⟨a, ?_, hr⟩
          rcases List.mem_append.1 ha with h | h
          · exact .inl (.inl (.inr h))
          · exact .inr h
    have hset : (fun x => ((Q x ∨ x ∈ Sl) ∨ x ∈ L) ∨ x ∈ Acc) = fun x => (Q x ∨ x ∈ L) ∨ x ∈ Sl ++ Acc := by
      funext x
      apply propext
      rw [List.mem_append]
      constructor
      · rintro (((h | h) | h) | h)
        · exact .inl (.inl h)
        · exact .inr (.inl h)
        · exact .inl (.inr h)
        · exact .inr (.inr h)
      · rintro ((h | h) | (h | h))
        · exact .inl (.inl (.inl h))
        · exact .inl (.inr h)
        · exact .inl (.inl (.inr h))
        · exact .inr h
    rw [hset] at hK'
    refine ⟨rv, R, rfl, hRd, hU, fun h => hn (hn1 h), fun x hx => (hiff x).1 (List.mem_append.2 (.inr ((hRA x).1 hx))), fun x hx => ?_, ?_, hM2, hFr2.mono hsub⟩
    · rcases List.mem_append.1 ((hiff x).2 hx) with h | h
      · exact .inr ((hSl x).1 h)
      · exact .inl ((hRA x).2 h)
    · rw [Fnd]
      exact .inr (.inr (.inr (.inr (.inr (.inr (.inr ⟨k, m, Sl ++ Acc, _, S1, _, bmore, bonce, rfl, hv, hC2 _ _ _ _ (by decide) hbm1, hC2 _ _ _ _ (by decide) hbo1, hR', hiff, hN, hNl, hSm, hS1, hK'⟩))))))
  go_enter Tryz.func49, Tryz.ntmps49
  go_wp2_with fail
  go_region_law (first
    | (refine step_call_fn rfl 6 7 29 rfl fi capi (by simp [Act.eval]) hent (.slice fao L.length fcap) (by simp [Act.eval]) ?_; refine (c1 _ (by first | exact ⟨0, rfl⟩ | exact ⟨1, rfl⟩ | exact ⟨2, rfl⟩ | exact ⟨3, rfl⟩)).mono ?_; rintro e w1 ⟨r1, l1, p1, R1, rfl, hR1, hU1, hn1, h1, h2, hK1, hM1', hF1, cm1⟩; refine ⟨_, rfl, ?_⟩)
    | (refine step_call_fn rfl 5 8 29 rfl 75 #[.pointer (some ⟨rm, 0, none⟩), .pointer (some ⟨rk, 0, none⟩)] (by simp [Act.eval]) enter_rep (.slice r1 l1 p1) (by simp [Act.eval]) ?_; refine (c2 w1 r1 l1 p1 R1 hR1 hU1 hn1 h1 h2 hK1 hM1' hF1 _ (by first | exact ⟨0, rfl⟩ | exact ⟨1, rfl⟩ | exact ⟨2, rfl⟩ | exact ⟨3, rfl⟩)).mono ?_; rintro e w2 hans; obtain ⟨rv, R, rfl, hrest⟩ := hans; refine ⟨_, rfl, ?_⟩))
  all_goals (
    go_wp2_with fail
    go_ret
    exact ⟨rv, R, rfl, hrest⟩)

/-- Every finder of a pattern answers so. -/
theorem finderOk {s : ByteArray} (hs : s.size ≤ 1000) : ∀ (d : Nat) (t : Data), cnt t ≤ 1000 → FinderOk s d t := by
  intro d
  induction d with
  | zero => intro t _ w v S Q L fv h; exact h.elim
  | succ d ih =>
    intro t hc w v S Q L fv h hM hrd hup
    have h0 := h
    rw [Fnd] at h
    rcases h with ⟨rfl, hv⟩ | ⟨rfl, b, hv, h1⟩ | ⟨rfl, hv⟩ | ⟨op, c, ss, no, pv, bp, bs, ho, rfl, hL, hv, h1, h2⟩ | ⟨ks, b, fs, Ss, rfl, hv, hB, hl, hA, hk⟩ | ⟨ks, b, fs, Ss, ht, hv, hB, hl, hA, hk⟩ | ⟨k, m, Sl, f, S1, rfl, hR, h1, h2, h3, h4, h5, h6⟩ | ⟨k, m, Sl, f, S1, fr, bmore, bonce, rfl, hv, e1, e2, hR, h1, h2, h3, h4, h5, h6⟩
    · exact ⟨_, _, hv, enter_f1, askStart hs hv hM hrd hup⟩
    · exact ⟨_, _, hv, enter_f2, askEnd hs hv h1 hM hrd hup⟩
    · exact ⟨_, _, hv, enter_f4, askNone hv hM hrd hup⟩
    · exact ⟨_, _, hv, enter_f5, askByte hs ho hL hv h1 h2 hM hrd hup⟩
    · rw [cnt_nd] at hc
      have hcl := cnts_len ks
      exact ⟨_, _, hv, enter_turn, askTurn (fun k hm => ih k (by have := cnts_mem hm; omega)) (by omega) hv hB hl hA hk hM hrd hup⟩
    · have hks : (∀ k ∈ ks, cnt k ≤ 1000) ∧ ks.length ≤ 1000 := by
        rcases ht with rfl | ⟨k, rfl, rfl⟩
        · rw [cnt_nd] at hc
          have hcl := cnts_len ks
          exact ⟨fun k hm => by have := cnts_mem hm; omega, by omega⟩
        · unfold Rx.one at hc
          rw [cnt_nd] at hc
          simp only [cnts] at hc
          refine ⟨fun k' hm => ?_, by simp⟩
          simp at hm
          rcases hm with rfl | rfl
          · unfold leaf; rw [cnt_nd]; simp [cnts]
          · omega
      exact ⟨_, _, hv, enter_tog, askTog hs (fun k hm => ih k (hks.1 k hm)) hks.2 ht hv hB hl hA hk hM hrd hup⟩
    · unfold Rx.one at hc
      rw [cnt_nd] at hc
      simp only [cnts] at hc
      obtain ⟨cap, hv, hcall⟩ := askStar hs (ih k (by omega)) hR h1 h2 h3 h4 h5 h6 hM hrd hup
      exact ⟨_, _, hv, enter_rep, hcall⟩
    · unfold Rx.one at hc
      rw [cnt_nd] at hc
      simp only [cnts] at hc
      exact ⟨_, _, hv, enter_f3, askPlus hs (ih k (by omega)) hv e1 e2 hR h1 h2 h3 h4 h5 h6 hM hrd hup⟩

end Mt
end Go.Proofs.YtgdnlmaacnnfiaaGreatDoor

