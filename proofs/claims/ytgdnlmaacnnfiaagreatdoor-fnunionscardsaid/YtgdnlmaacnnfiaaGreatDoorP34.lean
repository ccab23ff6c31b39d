/-
  The program's finders: kids together.
  The program's finders: again and again.
-/
import Derived.Test.YtgdnlmaacnnfiaaGreatDoorP33
namespace Go.Proofs.YtgdnlmaacnnfiaaGreatDoor
open Go.RowKit Go.Maps
namespace Mt
open Rx Clo

/-- Sorted, each once. -/
def tidyL (l : List Nat) : List Nat := (Lib.compact (sortL (natI l))).map Int.toNat
theorem mem_natI {l : List Nat} {x : Int} : x ∈ natI l ↔ ∃ y, y ∈ l ∧ x = (y : Int) := by
  unfold natI
  rw [List.mem_map]
  constructor
  · rintro ⟨y, h, rfl⟩; exact ⟨y, h, rfl⟩
  · rintro ⟨y, h, rfl⟩; exact ⟨y, h, rfl⟩
theorem natI_tidy (l : List Nat) : natI (tidyL l) = Lib.compact (sortL (natI l)) := by
  obtain ⟨h1, -⟩ := compact_sorted (sortL_up (natI l))
  unfold tidyL natI
  rw [List.map_map]
  conv => rhs; rw [← List.map_id (Lib.compact _)]
  apply List.map_congr_left
  intro x hx
  have h2 := (sortL_mem _ x).1 ((h1 x).1 hx)
  obtain ⟨y, _, rfl⟩ := mem_natI.1 h2
  simp
theorem tidy_mem {l : List Nat} {x : Nat} : x ∈ tidyL l ↔ x ∈ l := by
  obtain ⟨h1, -⟩ := compact_sorted (sortL_up (natI l))
  have h2 : (x : Int) ∈ natI (tidyL l) ↔ x ∈ tidyL l := by
    rw [mem_natI]
    constructor
    · rintro ⟨y, h, e⟩; have : x = y := by omega
      subst this; exact h
    · intro h; exact ⟨x, h, rfl⟩
  rw [← h2, natI_tidy, h1, sortL_mem, mem_natI]
  constructor
  · rintro ⟨y, h, e⟩; have : x = y := by omega
    subst this; exact h
  · intro h; exact ⟨x, h, rfl⟩
theorem tidy_up {n : Nat} {l : List Nat} (h : ∀ x ∈ l, x ≤ n) : Up n (tidyL l) := by
  refine ⟨?_, fun x hx => h x (tidy_mem.1 hx)⟩
  obtain ⟨-, h2⟩ := compact_sorted (sortL_up (natI l))
  rw [← natI_tidy] at h2
  unfold natI at h2
  rw [List.pairwise_map] at h2
  exact h2.imp fun h => by omega

theorem tidy_nil : tidyL [] = [] := by
  rcases h : tidyL [] with _ | ⟨x, l⟩
  · rfl
  · have : x ∈ tidyL [] := by rw [h]; simp
    have := tidy_mem.1 this
    simp at this

theorem owns_cast {w : World} {B T n m : Nat} {v : Value} {xs : List Value} (h : w.ownsRow B T 1 v n xs) (e : n = m) : w.ownsRow B T 1 v m xs := e ▸ h

set_option maxHeartbeats 2000000 in
set_option maxRecDepth 100000 in
theorem askTog {s : ByteArray} (hs : s.size ≤ 1000) {d b : Nat} {t : Data} {ks : List Data} {fs : List Value} {Ss : Nat → Nat → Prop} {v : Value} {S Q : Nat → Prop} {L : List Nat} {fv : Value} {w : World} (ih : ∀ k ∈ ks, FinderOk s d k) (hkl : ks.length ≤ 1000)
    (ht : t = nd 7 0 [] false ks ∨ ∃ k, t = Rx.one 10 k ∧ ks = [leaf 11, k]) (hv : v = .func (.func 72) #[] #[.pointer (some ⟨b, 0, none⟩)]) (hB : Box w b fs) (hl : fs.length = ks.length) (hA : Apart Ss S) (hk : ∀ (i : Nat) k f, ks[i]? = some k → fs[i]? = some f → Fnd s d w k f (Ss i) Q) (hM : Maps S w) (hrd : Rd w fv L) (hup : Up s.size L) :
    Calls Tryz.prog 72 #[fv, .pointer (some ⟨b, 0, none⟩)] w fun e w' => Ans s (d + 1) t v S Q L w e w' := by
  have hImg : ∀ (Q : Nat → Prop) (x : Nat), Img s t Q x ↔ ∃ k, k ∈ ks ∧ Img s k Q x := by
    intro Q x
    rcases ht with rfl | ⟨k, rfl, rfl⟩
    · constructor
      · rintro ⟨q, h1, h2⟩
        obtain ⟨k, h3, h4⟩ := fitOr_mem.1 (fit_or.1 h2)
        exact ⟨k, h3, q, h1, h4⟩
      · rintro ⟨k, h3, q, h1, h4⟩
        exact ⟨q, h1, fit_or.2 (fitOr_mem.2 ⟨k, h3, h4⟩)⟩
    · constructor
      · rintro ⟨q, h1, h2⟩
        rcases fit_may.1 h2 with rfl | h3
        · exact ⟨leaf 11, by simp, x, h1, fit_none.2 rfl⟩
        · exact ⟨k, by simp, q, h1, h3⟩
      · rintro ⟨k', h3, q, h1, h4⟩
        simp at h3
        rcases h3 with rfl | rfl
        · exact ⟨q, h1, fit_may.2 (.inl (fit_none.1 h4))⟩
        · exact ⟨q, h1, fit_may.2 (.inr h4)⟩
  obtain ⟨kv, hb0, hbo⟩ := hB
  have hBox : Box w b fs := ⟨kv, hb0, hbo⟩
  obtain ⟨g, kcap, hkv⟩ : ∃ ao kcap, kv = .slice ao fs.length kcap := by
    rcases hbo.2 with ⟨h0, h1⟩ | ⟨g, cap, cur, h0, _⟩
    · exact ⟨none, 0, by rw [h0, h1]⟩
    · exact ⟨_, _, h0⟩
  subst hkv
  have c0 : w.cell? ⟨b, 0, none⟩ = some (.slice g fs.length kcap) := by rw [cell_of_row _ _ _ _ _ _ hb0]; rfl
  have bl : (fs.length : Int) ≤ 1000 := by omega
  have hfv := hrd
  obtain ⟨fao, fcap, rfl, -, -⟩ := rd_form hrd
  obtain ⟨Q', hQ'⟩ : ∃ Q' : Nat → Prop, Q' = fun q => Q q ∨ q ∈ L := ⟨_, rfl⟩
  go_enter Tryz.func72, Tryz.ntmps72
  go_wp2_with fail
  go_loopw [4, 9] (fun lv i wr => ∃ (j : Nat) (Acc : List Nat), i = .int .i64 j ∧ j ≤ fs.length ∧ wr.ownsRow w.heap.size 3 1 lv Acc.length (ints (natI Acc)) ∧ Acc.length ≤ j * 1001 ∧ (∀ x ∈ Acc, x ≤ s.size) ∧ Fr S w wr ∧ Maps S wr ∧ (L = [] → Acc = []) ∧ (∀ x, x ∈ Acc → ∃ k, k ∈ ks ∧ Img s k Q' x) ∧ (∀ (i : Nat) k, i < j → ks[i]? = some k → ∀ x, Img s k Q' x → x ∈ Acc ∨ Img s k Q x) ∧
      (∀ (i : Nat) k f, ks[i]? = some k → fs[i]? = some f → Fnd s d wr k f (Ss i) (if i < j then Q' else Q))) (fun _ i _ => fs.length - (intOf i).toNat)
  case atStart => exact ⟨0, [], rfl, by omega, World.ownsRow_nil _ _ _ _, by simp, by simp, Fr.refl _ _, hM, fun _ => rfl, by simp, fun i k h => by omega, fun i k f h1 h2 => by simpa using hk i k f h1 h2⟩
  case round =>
    obtain ⟨j, Acc, rfl, hj, hown, hAl, hAn, hF, hMr, hnil, hs1, hs2, hkr⟩ := hrel
    by_cases hjl : j < fs.length
    · have hfj : fs[j]? = some fs[j] := List.getElem?_eq_getElem hjl
      have hkj : ks[j]? = some (ks[j]'(by omega)) := List.getElem?_eq_getElem _
      obtain ⟨f, hfe⟩ : ∃ f, f = fs[j] := ⟨_, rfl⟩
      obtain ⟨k, hke⟩ : ∃ k, k = ks[j]'(by omega) := ⟨_, rfl⟩
      rw [← hfe] at hfj
      rw [← hke] at hkj
      have hkm : k ∈ ks := by rw [hke]; exact List.getElem_mem _
      clear hfe hke
      have hF0 := hkr j k f hkj hfj
      rw [if_neg (Nat.lt_irrefl j)] at hF0
      have hMj : Maps (Ss j) wr := maps_sub hMr (hA.1 j)
      have hrj := rd_fr hfv hF hM
      obtain ⟨fi, capi, rfl, hent, hcall⟩ := ih k hkm wr f (Ss j) Q L _ hF0 hMj hrj hup
      obtain ⟨g0, hg0, hcell⟩ : ∃ g0, g = some ⟨g0, 0, none⟩ ∧ w.cell? ⟨g0, j, none⟩ = some (.func (.func fi) #[] capi) := by
        rcases hbo.2 with ⟨h0, h1⟩ | ⟨g0, cap, cur, h0, _⟩
        · omega
        · cases h0
          have hadd : (⟨g0, 0, none⟩ : Addr).add j = ⟨g0, j, none⟩ := by unfold Addr.add; split <;> simp_all
          exact ⟨g0, rfl, hadd ▸ hbo.cells rfl j _ hfj⟩
      subst hg0
      have hcell' : wr.cell? ⟨g0, j, none⟩ = some (.func (.func fi) #[] capi) := hF.cell hcell (maps_cell hM hcell)
      have bj : (j : Int) < fs.length := by omega
      have hsz := hF.size
      rw [← hQ'] at hcall
      go_wp2_with (first
        | (refine wpList_call_fn rfl 14 15 29 rfl fi capi rfl hent _ rfl ?_; refine hcall.mono ?_; rintro e w1 ⟨rv, R, rfl, hR, hU, hn, hr1, hr2, hF1, hM1, hFr1⟩; refine ⟨_, rfl, ?_⟩; have hUl := hU.len; have hown1 := Clo.owns_same (w' := w1) hown (fun g hg => by
            obtain ⟨cs, hc⟩ := own_tag hown hg
            exact hFr1.block g (heap_lt hc) (maps_cells hMj hc)); have hz1 := hFr1.size)
        | (at_builtin; refine wpList_append_rd _ rfl _ _ rfl w.heap.size _ Acc R rfl hown1 _ rfl hR (by omega) (by omega) ?_; intro v' w2 hown2 hgr2 _))
      go_roundw
      case rel =>
        refine ⟨j + 1, Acc ++ R, by go_num, by omega, hown2, by rw [List.length_append]; omega, fun x hx => ?_, ?_, ?_, fun h => by rw [hnil h, hn h]; rfl, fun x hx => ?_, fun i k' hi hk' x hx => ?_, fun i k' f' h1 h2 => ?_⟩
        · rcases List.mem_append.1 hx with h | h
          · exact hAn x h
          · exact hU.2 x h
        · exact (hF.trans (hFr1.mono (hA.1 j))).grown hgr2 (fun k hk => (hown1.lt k hk).1)
        · have hM2 := maps_kid hMr hM1 hFr1
          intro k hk'
          obtain ⟨es, c, he⟩ := hM2 k hk'
          exact ⟨es, c, (hgr2.block k (heap_lt he) (fun e => by
            obtain ⟨cs, hc⟩ := own_tag hown1 e.symm
            rw [he] at hc
            cases hc)).trans he⟩
        · rcases List.mem_append.1 hx with h | h
          · exact hs1 x h
          · exact ⟨k, hkm, hr1 x h⟩
        · by_cases hij : i = j
          · subst hij
            rw [hkj] at hk'
            cases hk'
            rcases hr2 x hx with h | h
            · exact .inl (List.mem_append.2 (.inr h))
            · exact .inr h
          · rcases hs2 i k' (by omega) hk' x hx with h | h
            · exact .inl (List.mem_append.2 (.inl h))
            · exact .inr h
        · have hM2 := maps_kid hMr hM1 hFr1
          by_cases hij : i = j
          · subst hij
            rw [hkj] at h1
            rw [hfj] at h2
            cases h1
            cases h2
            rw [if_pos (Nat.lt_succ_self _)]
            exact fnd_kept (cells_own hown1 hgr2) d _ _ _ _ (maps_own hM1 hown1 hgr2) (by rw [hQ'] at hF1 ⊢; exact hF1)
          · have h3 := hkr i k' f' h1 h2
            have h4 : (if i < j + 1 then Q' else Q) = (if i < j then Q' else Q) := by
              by_cases h5 : i < j
              · rw [if_pos h5, if_pos (by omega)]
              · rw [if_neg h5, if_neg (by omega)]
            rw [h4]
            exact fnd_kept (cells_own hown1 hgr2) d k' _ _ _ (maps_own (maps_sub hM2 (hA.1 i)) hown1 hgr2) (fnd_other hFr1 hMj (maps_sub hMr (hA.1 i)) (fun x hx hx' => hij (hA.2 i j x hx hx')) h3)
      case measure => simp [intOf]; omega
    · obtain rfl : j = fs.length := by omega
      have hal : Acc.length ≤ 1100000 := by omega
      have hsort := iSort (l := natI Acc) (by rw [natI_len]; exact hown) (by rw [natI_len]; omega)
      go_wp2_with fail
      refine hsort.mono ?_
      rintro e w1 ⟨rfl, ho1, hg1⟩
      have hcomp := iCompact (l := sortL (natI Acc)) (by rw [sortL_len]; exact ho1) (by rw [sortL_len, natI_len]; omega)
      go_wp2_with fail
      refine hcomp.mono ?_
      rintro e w2 ⟨rv, rfl, ho2, hg2⟩
      go_wp2_with fail
      go_ret
      have ho1' := owns_cast ho1 (sortL_len (natI Acc)).symm
      have hown0 := owns_cast hown (natI_len Acc).symm
      have hrow : w2.ownsRow w.heap.size 3 1 rv (tidyL Acc).length (ints (natI (tidyL Acc))) := by rw [natI_tidy, ← natI_len (tidyL Acc), natI_tidy]; exact ho2
      have hk1 := maps_own hMr hown0 hg1
      have hMr1 : Maps S w1 := fun k hk' => by obtain ⟨es, c, he⟩ := hMr k hk'; exact ⟨es, c, (hk1 k hk').trans he⟩
      have hk2 := maps_own hMr1 ho1' hg2
      have hMr2 : Maps S w2 := fun k hk' => by obtain ⟨es, c, he⟩ := hMr1 k hk'; exact ⟨es, c, (hk2 k hk').trans he⟩
      have hFr2 : Fr S w w2 := (hF.grown hg1 (fun k hk' => (hown0.lt k hk').1)).grown hg2 (fun k hk' => (ho1'.lt k hk').1)
      have hC : Cells wr w2 := (cells_own hown0 hg1).trans (cells_own ho1' hg2)
      refine ⟨rv, tidyL Acc, rfl, rd_own hrow, tidy_up hAn, fun h => by rw [hnil h]; exact tidy_nil, fun x hx => ?_, fun x hx => ?_, ?_, hMr2, hFr2⟩
      · obtain ⟨k, h1, h2⟩ := hs1 x (tidy_mem.1 hx)
        exact (hImg _ x).2 ⟨k, h1, by rw [hQ'] at h2; exact h2⟩
      · obtain ⟨k, h1, h2⟩ := (hImg _ x).1 hx
        obtain ⟨i, hi, rfl⟩ := List.getElem_of_mem h1
        rcases hs2 i _ (by omega) (List.getElem?_eq_getElem hi) x (by rw [hQ']; exact h2) with h | h
        · exact .inl (tidy_mem.2 h)
        · exact .inr ((hImg _ x).2 ⟨_, h1, h⟩)
      · rw [Fnd]
        refine .inr (.inr (.inr (.inr (.inr (.inl ⟨ks, b, fs, Ss, ht, hv, box_kept hBox ((cells_fr hF hM).trans hC), hl, hA, fun i k f h1 h2 => ?_⟩)))))
        have h3 := hkr i k f h1 h2
        rw [if_pos (List.getElem?_eq_some_iff.1 h2).1, hQ'] at h3
        exact fnd_kept hC d k f _ _ (fun x hx => (hk2 x (hA.1 i x hx)).trans (hk1 x (hA.1 i x hx))) h3

end Mt
end Go.Proofs.YtgdnlmaacnnfiaaGreatDoor

namespace Go.Proofs.YtgdnlmaacnnfiaaGreatDoor
open Go.RowKit Go.Maps
namespace Mt
open Rx Clo

def sortN (l : List Nat) : List Nat := (sortL (natI l)).map Int.toNat
theorem natI_sortN (l : List Nat) : natI (sortN l) = sortL (natI l) := by
  unfold sortN natI
  rw [List.map_map]
  conv => rhs; rw [← List.map_id (sortL _)]
  apply List.map_congr_left
  intro x hx
  have h2 := (sortL_mem _ x).1 hx
  obtain ⟨y, _, rfl⟩ := List.mem_map.1 h2
  simp
theorem sortN_mem {l : List Nat} {x : Nat} : x ∈ sortN l ↔ x ∈ l := by
  have h2 : ∀ l : List Nat, (x : Int) ∈ natI l ↔ x ∈ l := by
    intro l
    rw [mem_natI]
    constructor
    · rintro ⟨y, h, e⟩; have : x = y := by omega
      subst this; exact h
    · intro h; exact ⟨x, h, rfl⟩
  rw [← h2 (sortN l), natI_sortN, sortL_mem, h2]
theorem sortN_len (l : List Nat) : (sortN l).length = l.length := by unfold sortN; rw [List.length_map, sortL_len, natI_len]
theorem sortN_lt {l : List Nat} (h : l.Nodup) : (sortN l).Pairwise (· < ·) := by
  have h1 := sortL_up (natI l)
  have h2 : (sortL (natI l)).Nodup := by
    have hp : (sortL (natI l)).Perm (natI l) := by unfold sortL; exact List.mergeSort_perm _ _
    refine hp.nodup_iff.2 ?_
    unfold natI List.Nodup
    rw [List.pairwise_map]
    exact h.imp fun hne e => hne (by omega)
  have h3 : (sortL (natI l)).Pairwise (· < ·) := (h1.and h2).imp fun ⟨a, b⟩ => by omega
  rw [← natI_sortN] at h3
  unfold natI at h3
  rw [List.pairwise_map] at h3
  exact h3.imp fun h => by omega
theorem sortN_up {n : Nat} {l : List Nat} (h : l.Nodup) (hn : ∀ x ∈ l, x ≤ n) : Up n (sortN l) := ⟨sortN_lt h, fun x hx => hn x (sortN_mem.1 hx)⟩
theorem nodup_len {n : Nat} {l : List Nat} (h : l.Nodup) (hn : ∀ x ∈ l, x ≤ n) : l.length ≤ n + 1 := by
  rw [← sortN_len l]
  exact (sortN_up h hn).len

theorem nodup_fresh {n : Nat} {A L : List Nat} (h : A.Nodup) (hL : Up n L) : (A ++ fresh A L).Nodup := by
  rw [List.nodup_append]
  refine ⟨h, (hL.1.filter _).imp fun h => by omega, fun a ha b hb e => ?_⟩
  subst e
  exact (fresh_mem.1 hb).2 ha

set_option maxHeartbeats 1000000 in
set_option maxRecDepth 100000 in
theorem askRep {s : ByteArray} (hs : s.size ≤ 1000) {d : Nat} {k : Data} (ih : FinderOk s d k) {v : Value} {m : Nat} {Sl : List Nat} {f : Value} {S1 Qk : Nat → Prop} {L : List Nat} {fv : Value} {w : World} (hR : Rep w v m Sl f) (hK : Fnd s d w k f S1 Qk) (hM1 : Maps S1 w) (hm1 : ¬ S1 m)
    (hnd : Sl.Nodup) (hle : ∀ x ∈ Sl, x ≤ s.size) (hcl : ∀ x, Img s k Qk x → x ∈ Sl ∨ x ∈ L) (hrd : Rd w fv L) (hup : Up s.size L) :
    ∃ cap, v = .func (.func 75) #[] cap ∧ Calls Tryz.prog 75 (#[fv] ++ cap) w fun e w' => ∃ rv R Acc, e = .returned rv ∧ Rd w' rv R ∧ Up s.size R ∧ (L = [] → R = []) ∧ (∀ x, x ∈ R ↔ x ∈ Acc) ∧ Rep w' v m (Sl ++ Acc) f ∧ (Sl ++ Acc).Nodup ∧ (∀ x ∈ Sl ++ Acc, x ≤ s.size) ∧
      Fnd s d w' k f S1 (fun x => Qk x ∨ x ∈ Acc) ∧ Maps S1 w' ∧ (∀ x, Img s k (fun x => Qk x ∨ x ∈ Acc) x → x ∈ Sl ++ Acc) ∧ (∀ x ∈ L, x ∈ Sl ++ Acc) ∧ (∀ P : Nat → Prop, (∀ x ∈ L, P x) → (∀ x, Img s k Qk x → P x) → (∀ a b, P a → Fit (gOf s) s.size k a b → P b) → ∀ x ∈ Acc, P x) ∧ Fr (fun x => S1 x ∨ x = m) w w' := by
  obtain ⟨bm, bk, rfl, hbm, hbk, hseen⟩ := hR
  refine ⟨_, rfl, ?_⟩
  show Calls Tryz.prog 75 #[fv, .pointer (some ⟨bm, 0, none⟩), .pointer (some ⟨bk, 0, none⟩)] w _
  have hMm : Maps (fun x => S1 x ∨ x = m) w := fun x hx => by
    rcases hx with hx | rfl
    · exact hM1 x hx
    · exact hseen.isMap
  have hfv := hrd
  obtain ⟨fao, fcap, rfl, -, -⟩ := rd_form hrd
  go_enter Tryz.func75, Tryz.ntmps75
  go_wp2_with fail
  go_loopw [0, 5] (fun v0 v5 wr => ∃ F Acc : List Nat, Rd wr v0 F ∧ Up s.size F ∧ wr.ownsRow w.heap.size 3 1 v5 Acc.length (ints (natI Acc)) ∧ Seen wr m (Sl ++ Acc) ∧ (Sl ++ Acc).Nodup ∧ (∀ x ∈ Sl ++ Acc, x ≤ s.size) ∧ Fnd s d wr k f S1 (fun x => Qk x ∨ x ∈ Acc) ∧ Maps S1 wr ∧ Fr (fun x => S1 x ∨ x = m) w wr ∧
      (∀ x, Img s k (fun x => Qk x ∨ x ∈ Acc) x → x ∈ Sl ++ Acc ∨ x ∈ F) ∧ (∀ x ∈ L, x ∈ Sl ++ Acc ∨ x ∈ F) ∧ (∀ P : Nat → Prop, (∀ x ∈ L, P x) → (∀ x, Img s k Qk x → P x) → (∀ a b, P a → Fit (gOf s) s.size k a b → P b) → (∀ x ∈ Acc, P x) ∧ ∀ x ∈ F, P x) ∧ (L = [] → F = [] ∧ Acc = [])) (fun v0 v5 _ => 2 * (s.size + 2 - lenW v5) + min (lenW v0) 1)
  case atStart =>
    refine ⟨L, [], hfv, hup, World.ownsRow_nil _ _ _ _, by simpa using hseen, by simpa using hnd, by simpa using hle, by simpa using hK, hM1, Fr.refl _ _, fun x hx => ?_, fun x hx => .inr hx, fun P h1 _ _ => ⟨by simp, h1⟩, fun h => ⟨h, rfl⟩⟩
    rw [List.append_nil]
    exact hcl x (by simpa using hx)
  case round =>
    obtain ⟨F, Acc, hF, hFu, hown, hS, hN, hNl, hKr, hMr, hFr, hC, hLc, hP, hnil⟩ := hrel
    have hF' := hF
    obtain ⟨ja, jc, rfl, -, -⟩ := rd_form hF
    obtain ⟨la, lc, rfl⟩ := owns_len hown
    have hlen := nodup_len hN hNl
    rw [List.length_append] at hlen
    have hFl := hFu.len
    have hMmr : Maps (fun x => S1 x ∨ x = m) wr := fun x hx => by
      rcases hx with hx | rfl
      · exact hMr x hx
      · exact hS.isMap
    have hCr := cells_fr hFr hMm
    have hbm' := hCr _ _ _ _ (by decide) hbm
    have hbk' := hCr _ _ _ _ (by decide) hbk
    have cm : wr.cell? ⟨bm, 0, none⟩ = some (.map (some m)) := by rw [cell_of_row _ _ _ _ _ _ hbm']; rfl
    have hsz := hFr.size
    rcases Nat.eq_zero_or_pos F.length with hF0 | hF0
    · obtain rfl : F = [] := List.eq_nil_of_length_eq_zero hF0
      have hsort := iSort (l := natI Acc) (owns_cast hown (natI_len Acc).symm) (by rw [natI_len]; omega)
      go_wp2_with fail
      refine hsort.mono ?_
      rintro e w1 ⟨rfl, ho1, hg1⟩
      go_wp2_with fail
      go_ret
      have hown0 := owns_cast hown (natI_len Acc).symm
      have hrow : w1.ownsRow w.heap.size 3 1 (.slice la Acc.length lc) (sortN Acc).length (ints (natI (sortN Acc))) := by rw [natI_sortN]; exact owns_cast ho1 (by rw [natI_len, sortN_len])
      have hk1 := maps_own hMmr hown0 hg1
      have hC1 := cells_own hown0 hg1
      refine ⟨_, sortN Acc, Acc, rfl, rd_own hrow, sortN_up (List.nodup_append.1 hN).2.1 (fun x hx => hNl x (by simp [hx])), fun h => by rw [(hnil h).2]; exact List.eq_nil_of_length_eq_zero (sortN_len []), fun x => sortN_mem, ⟨bm, bk, rfl, hC1 _ _ _ _ (by decide) hbm', hC1 _ _ _ _ (by decide) hbk', hS.same (hk1 m (.inr rfl))⟩, hN, hNl,
        fnd_kept hC1 d k f _ _ (fun x hx => hk1 x (.inl hx)) hKr, fun x hx => by obtain ⟨es, c, he⟩ := hMr x hx; exact ⟨es, c, (hk1 x (.inl hx)).trans he⟩, fun x hx => ?_, fun x hx => ?_, fun P h1 h2 h3 => (hP P h1 h2 h3).1, hFr.grown hg1 (fun x hx => (hown0.lt x hx).1)⟩
      · rcases hC x hx with h | h
        · exact h
        · simp at h
      · rcases hLc x hx with h | h
        · exact h
        · simp at h
    · obtain ⟨FF, hFF⟩ : ∃ FF, FF = fresh (Sl ++ Acc) F := ⟨_, rfl⟩
      have hFFu : Up s.size FF := by rw [hFF]; exact fresh_up hFu
      have hFFl := hFFu.len
      have hun := iUnseen hs hS (by rw [List.length_append]; omega) hF' hFu
      rw [← hFF] at hun
      have hpos : (0 : Int) < (F.length : Int) := by omega
      have HFF : Hid (FF = fresh (Sl ++ Acc) F) := hFF
      clear hFF
      go_upto_region 4 with (first | (go_at_call 76; with_reducible refine hun.mono ?_; rintro e w1 ⟨rv, rfl, ho1, hS1, hFr1⟩))
      have hm1' : Maps (fun x => x = m) wr := fun x hx => by subst hx; exact hS.isMap
      have hnm : ∀ g, Value.ownBlock (.slice la Acc.length lc) = some g → g ≠ m := fun g hg e => by
        obtain ⟨cs, hc⟩ := own_tag hown hg
        exact maps_cells hm1' hc e
      have hown1 := Clo.owns_same (w' := w1) hown (fun g hg => hFr1.block g (hown.lt g hg).2 (hnm g hg))
      have hz1 := hFr1.size
      have hrd1 : Rd w1 rv FF := rd_own ho1
      have hC1 : Cells wr w1 := cells_fr hFr1 hm1'
      have hK1 : Fnd s d w1 k f S1 (fun x => Qk x ∨ x ∈ Acc) := fnd_other hFr1 hm1' hMr (fun x hx e => hm1 (e ▸ hx)) hKr
      have hM1' : Maps S1 w1 := fun x hx => by
        obtain ⟨es, c, he⟩ := hMr x hx
        exact ⟨es, c, (hFr1.block x (heap_lt he) (fun e => hm1 (e ▸ hx))).trans he⟩
      go_upto_region 5 with (at_builtin; refine wpList_append_rd _ rfl _ _ rfl w.heap.size _ Acc FF rfl hown1 _ rfl hrd1 (by omega) (by omega) ?_; intro v2 w2 hown2 hgr2 _)
      have hz2 := hgr2.size
      have ho2 := Clo.owns_same (w' := w2) ho1 (fun g hg => hgr2.block g (ho1.lt g hg).2 (fun e => by have h1 := (ho1.lt g hg).1; have h2 := (hown.lt g e.symm).2; omega))
      have hC2 : Cells w1 w2 := cells_own hown1 hgr2
      have hK2 : Fnd s d w2 k f S1 (fun x => Qk x ∨ x ∈ Acc) := fnd_kept hC2 d k f _ _ (maps_own hM1' hown1 hgr2) hK1
      have hM2 : Maps S1 w2 := fun x hx => by
        obtain ⟨es, c, he⟩ := hM1' x hx
        exact ⟨es, c, (maps_own hM1' hown1 hgr2 x hx).trans he⟩
      have hmap1 : Maps (fun x => x = m) w1 := fun x hx => by subst hx; exact hS1.isMap
      have hS2 : Seen w2 m (Sl ++ Acc ++ FF) := hS1.same (maps_own hmap1 hown1 hgr2 m rfl)
      have hbm2 := hC2 _ _ _ _ (by decide) (hC1 _ _ _ _ (by decide) hbm')
      have hbk2 := hC2 _ _ _ _ (by decide) (hC1 _ _ _ _ (by decide) hbk')
      have ck : w2.cell? ⟨bk, 0, none⟩ = some f := by rw [cell_of_row _ _ _ _ _ _ hbk2]; rfl
      have hlA : (Acc ++ FF).length = Acc.length + FF.length := List.length_append
      rw [hlA] at hown2
      obtain ⟨va, vc, rfl⟩ := owns_len hown2
      obtain ⟨ra, rc, rfl⟩ := owns_len ho2
      obtain ⟨fi, capi, rfl, hent, hcall⟩ := ih w2 f S1 _ FF _ hK2 hM2 (rd_own ho2) hFFu
      have hMm2 : Maps (fun x => S1 x ∨ x = m) w2 := fun x hx => by
        rcases hx with hx | rfl
        · exact hM2 x hx
        · exact hS2.isMap
      have hFr2 : Fr (fun x => S1 x ∨ x = m) w w2 := (hFr.trans (hFr1.mono (fun x hx => .inr hx))).grown hgr2 (fun x hx => (hown1.lt x hx).1)
      have hNn : (Sl ++ (Acc ++ FF)).Nodup := by rw [← List.append_assoc, HFF.out]; exact nodup_fresh hN hFu
      have hNn' : ∀ x ∈ Sl ++ (Acc ++ FF), x ≤ s.size := fun x hx => by
        rw [← List.append_assoc] at hx
        rcases List.mem_append.1 hx with h | h
        · exact hNl x h
        · exact hFFu.2 x h
      have hlen2 := nodup_len hNn hNn'
      rw [List.length_append] at hlen2
      have hset : (fun x => (Qk x ∨ x ∈ Acc) ∨ x ∈ FF) = fun x => Qk x ∨ x ∈ Acc ++ FF := by
        funext x
        apply propext
        rw [List.mem_append, or_assoc]
      rw [hset] at hcall
      have hin : ∀ x, x ∈ Sl ++ Acc ∨ x ∈ F → x ∈ Sl ++ (Acc ++ FF) := fun x hx => by
        rw [← List.append_assoc]
        rcases hx with h | h
        · exact List.mem_append.2 (.inl h)
        · by_cases h2 : x ∈ Sl ++ Acc
          · exact List.mem_append.2 (.inl h2)
          · exact List.mem_append.2 (.inr (by rw [HFF.out]; exact fresh_mem.2 ⟨h, h2⟩))
      go_wp2_with (refine wpList_call_fn rfl 16 17 29 rfl fi capi rfl hent _ rfl ?_; refine hcall.mono ?_; rintro e w3 ⟨rv3, R3, rfl, hR3, hU3, hn3, hr1, hr2, hF3, hM3, hFr3⟩; refine ⟨_, rfl, ?_⟩)
      obtain ⟨a3, c3, hv3, -, -⟩ := rd_form hR3
      have hl3 := hU3.len
      go_roundw
      case rel =>
        refine ⟨R3, Acc ++ FF, hR3, hU3, (by rw [hlA]; exact Clo.owns_same hown2 (fun g hg => by
          obtain ⟨cs, hc⟩ := own_tag hown2 hg
          exact hFr3.block g (heap_lt hc) (maps_cells hM2 hc))), ?_, hNn, hNn', hF3, hM3, hFr2.trans (hFr3.mono (fun x hx => .inl hx)), fun x hx => ?_, fun x hx => .inl (hin x (hLc x hx)), fun P p1 p2 p3 => ?_, fun h => ?_⟩
        · rw [← List.append_assoc]
          exact hS2.same (hFr3.block m hS2.lt hm1)
        · rcases hr2 x hx with h | h
          · exact .inr h
          · exact .inl (hin x (hC x h))
        · obtain ⟨q1, q2⟩ := hP P p1 p2 p3
          have q3 : ∀ x ∈ FF, P x := fun x hx => q2 x (by rw [HFF.out] at hx; exact (fresh_mem.1 hx).1)
          refine ⟨fun x hx => ?_, fun x hx => ?_⟩
          · rcases List.mem_append.1 hx with h | h
            · exact q1 x h
            · exact q3 x h
          · obtain ⟨q, hq, hf⟩ := hr1 x hx
            rcases hq with hq | hq
            · exact p2 x ⟨q, hq, hf⟩
            · rcases List.mem_append.1 hq with h | h
              · exact p3 q x (q1 q h) hf
              · exact p3 q x (q3 q h) hf
        · have := (hnil h).1
          rw [this] at hF0
          simp at hF0
      case measure =>
        subst hv3
        simp only [lenW]
        rcases Nat.eq_zero_or_pos FF.length with h0 | h0
        · have hFn : FF = [] := List.eq_nil_of_length_eq_zero h0
          rw [hn3 hFn, hFn]
          simp
          omega
        · rw [List.length_append] at hlen2
          omega

end Mt
end Go.Proofs.YtgdnlmaacnnfiaaGreatDoor

