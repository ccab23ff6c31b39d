/-
  The program's finders: kids one behind the other.
  The program's finders: kids together.
-/
import Derived.Test.YtgdnlmaacnnfiaaGreatDoorQ27
namespace Go.Proofs.YtgdnlmaacnnfiaaGreatDoor
open Go.RowKit Go.Maps
namespace Mt
open Rx Clo

theorem imgC_mono {s : ByteArray} {ks : List Data} {Q Q' : Nat → Prop} (h : ∀ x, Q x → Q' x) {x : Nat} (hx : ImgC s ks Q x) : ImgC s ks Q' x := by
  obtain ⟨q, h1, h2⟩ := hx
  exact ⟨q, h q h1, h2⟩
theorem img_mono {s : ByteArray} {k : Data} {Q Q' : Nat → Prop} (h : ∀ x, Q x → Q' x) {x : Nat} (hx : Img s k Q x) : Img s k Q' x := by
  obtain ⟨q, h1, h2⟩ := hx
  exact ⟨q, h q h1, h2⟩
theorem imgC_succ {s : ByteArray} {ks : List Data} {j : Nat} {k : Data} (h : ks[j]? = some k) (Q : Nat → Prop) (x : Nat) : ImgC s (ks.take (j + 1)) Q x ↔ Img s k (ImgC s (ks.take j) Q) x := by
  have ht : ks.take (j + 1) = ks.take j ++ [k] := by rw [List.take_add_one, h]; rfl
  unfold ImgC Img
  rw [ht]
  constructor
  · rintro ⟨q, hq, hf⟩
    obtain ⟨y, h1, h2⟩ := fitCat_take.1 hf
    exact ⟨y, ⟨q, hq, h1⟩, h2⟩
  · rintro ⟨y, ⟨q, hq, h1⟩, h2⟩
    exact ⟨q, hq, fitCat_take.2 ⟨y, h1, h2⟩⟩
theorem imgC_zero {s : ByteArray} {ks : List Data} {Q : Nat → Prop} {x : Nat} : ImgC s (ks.take 0) Q x ↔ Q x := by
  unfold ImgC
  simp [FitCat]

/-- The states of kids behind a call of one of them. -/
theorem maps_kid {S S1 : Nat → Prop} {w w' : World} (hM : Maps S w) (h1 : Maps S1 w') (hF : Fr S1 w w') : Maps S w' := by
  intro k hk
  by_cases h : S1 k
  · exact h1 k h
  · obtain ⟨es, c, he⟩ := hM k hk
    exact ⟨es, c, (hF.block k (heap_lt he) h).trans he⟩
theorem maps_sub {S S1 : Nat → Prop} {w : World} (hM : Maps S w) (h : ∀ k, S1 k → S k) : Maps S1 w := fun k hk => hM k (h k hk)

theorem fnd_other {s : ByteArray} {S1 S2 Q : Nat → Prop} {w w' : World} {d : Nat} {t : Data} {v : Value} (hF : Fr S1 w w') (hM : Maps S1 w) (hM2 : Maps S2 w) (hd : ∀ k, S2 k → ¬ S1 k) (h : Fnd s d w t v S2 Q) : Fnd s d w' t v S2 Q :=
  fnd_kept (cells_fr hF hM) d t v S2 Q (fun k hk => by
    obtain ⟨es, c, he⟩ := hM2 k hk
    exact hF.block k (heap_lt he) (hd k hk)) h

set_option maxHeartbeats 2000000 in
set_option maxRecDepth 100000 in
theorem askTurn {s : ByteArray} {d b : Nat} {ks : List Data} {fs : List Value} {Ss : Nat → Nat → Prop} {v : Value} {S Q : Nat → Prop} {L : List Nat} {fv : Value} {w : World} (ih : ∀ k ∈ ks, FinderOk s d k) (hkl : ks.length ≤ 100000)
    (hv : v = .func (.func 71) #[] #[.pointer (some ⟨b, 0, none⟩)]) (hB : Box w b fs) (hl : fs.length = ks.length) (hA : Apart Ss S) (hk : ∀ (i : Nat) k f, ks[i]? = some k → fs[i]? = some f → Fnd s d w k f (Ss i) (ImgC s (ks.take i) Q)) (hM : Maps S w) (hrd : Rd w fv L) (hup : Up s.size L) :
    Calls Tryz.prog 71 #[fv, .pointer (some ⟨b, 0, none⟩)] w fun e w' => Ans s (d + 1) (nd 6 0 [] false ks) v S Q L w e w' := by
  obtain ⟨kv, hb0, hbo⟩ := hB
  have hBox : Box w b fs := ⟨kv, hb0, hbo⟩
  obtain ⟨g, kcap, hkv⟩ : ∃ ao kcap, kv = .slice ao fs.length kcap := by
    rcases hbo.2 with ⟨h0, h1⟩ | ⟨g, cap, cur, h0, _⟩
    · exact ⟨none, 0, by rw [h0, h1]⟩
    · exact ⟨_, _, h0⟩
  subst hkv
  have c0 : w.cell? ⟨b, 0, none⟩ = some (.slice g fs.length kcap) := by rw [cell_of_row _ _ _ _ _ _ hb0]; rfl
  have bl : (fs.length : Int) ≤ 100000 := by omega
  have hfv := hrd
  obtain ⟨fao, fcap, rfl, -, -⟩ := rd_form hrd
  obtain ⟨Q', hQ'⟩ : ∃ Q' : Nat → Prop, Q' = fun q => Q q ∨ q ∈ L := ⟨_, rfl⟩
  have hQQ : ∀ x, Q x → Q' x := fun x hx => by rw [hQ']; exact .inl hx
  go_enter Tryz.func71, Tryz.ntmps71
  go_wp2_with fail
  go_loopw [0, 8] (fun fv i wr => ∃ (j : Nat) (Lj : List Nat), i = .int .i64 j ∧ j ≤ fs.length ∧ Rd wr fv Lj ∧ Up s.size Lj ∧ Fr S w wr ∧ Maps S wr ∧ (L = [] → Lj = []) ∧ (∀ x, x ∈ Lj → ImgC s (ks.take j) Q' x) ∧ (∀ x, ImgC s (ks.take j) Q' x → x ∈ Lj ∨ ImgC s (ks.take j) Q x) ∧
      (∀ (i : Nat) k f, ks[i]? = some k → fs[i]? = some f → Fnd s d wr k f (Ss i) (ImgC s (ks.take i) (if i < j then Q' else Q)))) (fun _ i _ => fs.length - (intOf i).toNat)
  case atStart =>
    refine ⟨0, L, rfl, by omega, hfv, hup, Fr.refl _ _, hM, id, fun x hx => imgC_zero.2 (by rw [hQ']; exact .inr hx), fun x hx => ?_, fun i k f h1 h2 => by simpa using hk i k f h1 h2⟩
    have := imgC_zero.1 hx
    rw [hQ'] at this
    rcases this with h | h
    · exact .inr (imgC_zero.2 h)
    · exact .inl h
  case round =>
    obtain ⟨j, Lj, rfl, hj, hrj, huj, hF, hMr, hnil, hs1, hs2, hkr⟩ := hrel
    have hrj' := hrj
    obtain ⟨ja, jc, rfl, -, -⟩ := rd_form hrj
    by_cases hjl : j < fs.length
    · have hfj : fs[j]? = some fs[j] := List.getElem?_eq_getElem hjl
      have hkj : ks[j]? = some (ks[j]'(by omega)) := List.getElem?_eq_getElem _
      obtain ⟨f, hfe⟩ : ∃ f, f = fs[j] := ⟨_, rfl⟩
      obtain ⟨k, hke⟩ : ∃ k, k = ks[j]'(by omega) := ⟨_, rfl⟩
      rw [← hfe] at hfj
      rw [← hke] at hkj
      have hkm : k ∈ ks := by rw [hke]; exact List.getElem_mem _
      clear hfe hke
      have hF0 := hkr j k f hkj hfj
      rw [if_neg (Nat.lt_irrefl j)] at hF0
      have hMj : Maps (Ss j) wr := maps_sub hMr (hA.1 j)
      obtain ⟨fi, capi, rfl, hent, hcall⟩ := ih k hkm wr f (Ss j) (ImgC s (ks.take j) Q) Lj _ hF0 hMj hrj' huj
      obtain ⟨g0, hg0, hcell⟩ : ∃ g0, g = some ⟨g0, 0, none⟩ ∧ w.cell? ⟨g0, j, none⟩ = some (.func (.func fi) #[] capi) := by
        rcases hbo.2 with ⟨h0, h1⟩ | ⟨g0, cap, cur, h0, _⟩
        · omega
        · cases h0
          have hadd : (⟨g0, 0, none⟩ : Addr).add j = ⟨g0, j, none⟩ := by unfold Addr.add; split <;> simp_all
          exact ⟨g0, rfl, hadd ▸ hbo.cells rfl j _ hfj⟩
      subst hg0
      have hcell' : wr.cell? ⟨g0, j, none⟩ = some (.func (.func fi) #[] capi) := hF.cell hcell (maps_cell hM hcell)
      have bj : (j : Int) < fs.length := by omega
      have hcap0 : fs.length ≤ kcap := by
        rcases hbo.2 with ⟨h0, h1⟩ | ⟨g0, cap, cur, h0, _, _, h1, _⟩
        · cases h0
        · cases h0; exact h1
      go_wp2_with (refine wpList_call_fn rfl 12 13 29 rfl fi capi rfl hent _ rfl ?_; refine hcall.mono ?_; rintro e w1 ⟨rv, R, rfl, hR, hU, hn, hr1, hr2, hF1, hM1, hFr1⟩; refine ⟨_, rfl, ?_⟩)
      go_roundw
      case rel =>
        have hset : (fun q => ImgC s (ks.take j) Q q ∨ q ∈ Lj) = ImgC s (ks.take j) Q' := by
          funext x
          apply propext
          constructor
          · rintro (h | h)
            · exact imgC_mono hQQ h
            · exact hs1 x h
          · intro h
            exact (hs2 x h).symm
        rw [hset] at hr1 hr2 hF1
        refine ⟨j + 1, R, by go_num, by omega, hR, hU, hF.trans (hFr1.mono (hA.1 j)), maps_kid hMr hM1 hFr1, fun h => hn (hnil h), fun x hx => (imgC_succ hkj _ x).2 (hr1 x hx), fun x hx => ?_, fun i k' f' h1 h2 => ?_⟩
        · rcases hr2 x ((imgC_succ hkj _ x).1 hx) with h | h
          · exact .inl h
          · exact .inr ((imgC_succ hkj _ x).2 h)
        · by_cases hij : i = j
          · subst hij
            rw [hkj] at h1
            rw [hfj] at h2
            cases h1
            cases h2
            rw [if_pos (Nat.lt_succ_self _)]
            exact hF1
          · have h3 := hkr i k' f' h1 h2
            have h4 : (if i < j + 1 then Q' else Q) = (if i < j then Q' else Q) := by
              by_cases h5 : i < j
              · rw [if_pos h5, if_pos (by omega)]
              · rw [if_neg h5, if_neg (by omega)]
            rw [h4]
            exact fnd_other hFr1 hMj (maps_sub hMr (hA.1 i)) (fun x hx hx' => hij (hA.2 i j x hx hx')) h3
      case measure => simp [intOf]; omega
    · obtain rfl : j = fs.length := by omega
      rw [hl, List.take_length] at hs1 hs2
      go_wp2_with fail
      go_ret
      refine ⟨_, Lj, rfl, hrj', huj, hnil, fun x hx => ?_, fun x hx => ?_, ?_, hMr, hF⟩
      · obtain ⟨q, h1, h2⟩ := hs1 x hx
        exact ⟨q, by rw [hQ'] at h1; exact h1, fit_cat.2 h2⟩
      · obtain ⟨q, h1, h2⟩ := hx
        rcases hs2 x ⟨q, by rw [hQ']; exact h1, fit_cat.1 h2⟩ with h | ⟨q', h3, h4⟩
        · exact .inl h
        · exact .inr ⟨q', h3, fit_cat.2 h4⟩
      · rw [Fnd]
        refine .inr (.inr (.inr (.inr (.inl ⟨ks, b, fs, Ss, rfl, hv, box_kept hBox (cells_fr hF hM), hl, hA, fun i k f h1 h2 => ?_⟩))))
        have h3 := hkr i k f h1 h2
        rw [if_pos (List.getElem?_eq_some_iff.1 h2).1] at h3
        rw [hQ'] at h3
        exact h3

end Mt
end Go.Proofs.YtgdnlmaacnnfiaaGreatDoor

namespace Go.Proofs.YtgdnlmaacnnfiaaGreatDoor
open Go.RowKit Go.Maps
namespace Mt
open Rx Clo

/-- Sorted, each once. -/
def tidyL (l : List Nat) : List Nat := (Lib.compact (sortL (natI l))).map Int.toNat
theorem mem_natI {l : List Nat} {x : Int} : x ∈ natI l ↔ ∃ y, y ∈ l ∧ x = (y : Int) := by
  unfold natI
  rw [List.mem_map]
  constructor
  · rintro ⟨y, h, rfl⟩; exact ⟨y, h, rfl⟩
  · rintro ⟨y, h, rfl⟩; exact ⟨y, h, rfl⟩
theorem natI_tidy (l : List Nat) : natI (tidyL l) = Lib.compact (sortL (natI l)) := by
  obtain ⟨h1, -⟩ := compact_sorted (sortL_up (natI l))
  unfold tidyL natI
  rw [List.map_map]
  conv => rhs; rw [← List.map_id (Lib.compact _)]
  apply List.map_congr_left
  intro x hx
  have h2 := (sortL_mem _ x).1 ((h1 x).1 hx)
  obtain ⟨y, _, rfl⟩ := mem_natI.1 h2
  simp
theorem tidy_mem {l : List Nat} {x : Nat} : x ∈ tidyL l ↔ x ∈ l := by
  obtain ⟨h1, -⟩ := compact_sorted (sortL_up (natI l))
  have h2 : (x : Int) ∈ natI (tidyL l) ↔ x ∈ tidyL l := by
    rw [mem_natI]
    constructor
    · rintro ⟨y, h, e⟩; have : x = y := by omega
      subst this; exact h
    · intro h; exact ⟨x, h, rfl⟩
  rw [← h2, natI_tidy, h1, sortL_mem, mem_natI]
  constructor
  · rintro ⟨y, h, e⟩; have : x = y := by omega
    subst this; exact h
  · intro h; exact ⟨x, h, rfl⟩
theorem tidy_up {n : Nat} {l : List Nat} (h : ∀ x ∈ l, x ≤ n) : Up n (tidyL l) := by
  refine ⟨?_, fun x hx => h x (tidy_mem.1 hx)⟩
  obtain ⟨-, h2⟩ := compact_sorted (sortL_up (natI l))
  rw [← natI_tidy] at h2
  unfold natI at h2
  rw [List.pairwise_map] at h2
  exact h2.imp fun h => by omega

theorem tidy_nil : tidyL [] = [] := by
  rcases h : tidyL [] with _ | ⟨x, l⟩
  · rfl
  · have : x ∈ tidyL [] := by rw [h]; simp
    have := tidy_mem.1 this
    simp at this

theorem owns_cast {w : World} {B T n m : Nat} {v : Value} {xs : List Value} (h : w.ownsRow B T 1 v n xs) (e : n = m) : w.ownsRow B T 1 v m xs := e ▸ h

set_option maxHeartbeats 2000000 in
set_option maxRecDepth 100000 in
theorem askTog {s : ByteArray} (hs : s.size ≤ 1000) {d b : Nat} {t : Data} {ks : List Data} {fs : List Value} {Ss : Nat → Nat → Prop} {v : Value} {S Q : Nat → Prop} {L : List Nat} {fv : Value} {w : World} (ih : ∀ k ∈ ks, FinderOk s d k) (hkl : ks.length ≤ 1000)
    (ht : t = nd 7 0 [] false ks ∨ ∃ k, t = Rx.one 10 k ∧ ks = [leaf 11, k]) (hv : v = .func (.func 72) #[] #[.pointer (some ⟨b, 0, none⟩)]) (hB : Box w b fs) (hl : fs.length = ks.length) (hA : Apart Ss S) (hk : ∀ (i : Nat) k f, ks[i]? = some k → fs[i]? = some f → Fnd s d w k f (Ss i) Q) (hM : Maps S w) (hrd : Rd w fv L) (hup : Up s.size L) :
    Calls Tryz.prog 72 #[fv, .pointer (some ⟨b, 0, none⟩)] w fun e w' => Ans s (d + 1) t v S Q L w e w' := by
  have hImg : ∀ (Q : Nat → Prop) (x : Nat), Img s t Q x ↔ ∃ k, k ∈ ks ∧ Img s k Q x := by
    intro Q x
    rcases ht with rfl | ⟨k, rfl, rfl⟩
    · constructor
      · rintro ⟨q, h1, h2⟩
        obtain ⟨k, h3, h4⟩ := fitOr_mem.1 (fit_or.1 h2)
        exact ⟨k, h3, q, h1, h4⟩
      · rintro ⟨k, h3, q, h1, h4⟩
        exact ⟨q, h1, fit_or.2 (fitOr_mem.2 ⟨k, h3, h4⟩)⟩
    · constructor
      · rintro ⟨q, h1, h2⟩
        rcases fit_may.1 h2 with rfl | h3
        · exact ⟨leaf 11, by simp, x, h1, fit_none.2 rfl⟩
        · exact ⟨k, by simp, q, h1, h3⟩
      · rintro ⟨k', h3, q, h1, h4⟩
        simp at h3
        rcases h3 with rfl | rfl
        · exact ⟨q, h1, fit_may.2 (.inl (fit_none.1 h4))⟩
        · exact ⟨q, h1, fit_may.2 (.inr h4)⟩
  obtain ⟨kv, hb0, hbo⟩ := hB
  have hBox : Box w b fs := ⟨kv, hb0, hbo⟩
  obtain ⟨g, kcap, hkv⟩ : ∃ ao kcap, kv = .slice ao fs.length kcap := by
    rcases hbo.2 with ⟨h0, h1⟩ | ⟨g, cap, cur, h0, _⟩
    · exact ⟨none, 0, by rw [h0, h1]⟩
    · exact ⟨_, _, h0⟩
  subst hkv
  have c0 : w.cell? ⟨b, 0, none⟩ = some (.slice g fs.length kcap) := by rw [cell_of_row _ _ _ _ _ _ hb0]; rfl
  have bl : (fs.length : Int) ≤ 1000 := by omega
  have hfv := hrd
  obtain ⟨fao, fcap, rfl, -, -⟩ := rd_form hrd
  obtain ⟨Q', hQ'⟩ : ∃ Q' : Nat → Prop, Q' = fun q => Q q ∨ q ∈ L := ⟨_, rfl⟩
  go_enter Tryz.func72, Tryz.ntmps72
  go_wp2_with fail
  go_loopw [4, 9] (fun lv i wr => ∃ (j : Nat) (Acc : List Nat), i = .int .i64 j ∧ j ≤ fs.length ∧ wr.ownsRow w.heap.size 3 1 lv Acc.length (ints (natI Acc)) ∧ Acc.length ≤ j * 1001 ∧ (∀ x ∈ Acc, x ≤ s.size) ∧ Fr S w wr ∧ Maps S wr ∧ (L = [] → Acc = []) ∧ (∀ x, x ∈ Acc → ∃ k, k ∈ ks ∧ Img s k Q' x) ∧ (∀ (i : Nat) k, i < j → ks[i]? = some k → ∀ x, Img s k Q' x → x ∈ Acc ∨ Img s k Q x) ∧
      (∀ (i : Nat) k f, ks[i]? = some k → fs[i]? = some f → Fnd s d wr k f (Ss i) (if i < j then Q' else Q))) (fun _ i _ => fs.length - (intOf i).toNat)
  case atStart => exact ⟨0, [], rfl, by omega, World.ownsRow_nil _ _ _ _, by simp, by simp, Fr.refl _ _, hM, fun _ => rfl, by simp, fun i k h => by omega, fun i k f h1 h2 => by simpa using hk i k f h1 h2⟩
  case round =>
    obtain ⟨j, Acc, rfl, hj, hown, hAl, hAn, hF, hMr, hnil, hs1, hs2, hkr⟩ := hrel
    by_cases hjl : j < fs.length
    · have hfj : fs[j]? = some fs[j] := List.getElem?_eq_getElem hjl
      have hkj : ks[j]? = some (ks[j]'(by omega)) := List.getElem?_eq_getElem _
      obtain ⟨f, hfe⟩ : ∃ f, f = fs[j] := ⟨_, rfl⟩
      obtain ⟨k, hke⟩ : ∃ k, k = ks[j]'(by omega) := ⟨_, rfl⟩
      rw [← hfe] at hfj
      rw [← hke] at hkj
      have hkm : k ∈ ks := by rw [hke]; exact List.getElem_mem _
      clear hfe hke
      have hF0 := hkr j k f hkj hfj
      rw [if_neg (Nat.lt_irrefl j)] at hF0
      have hMj : Maps (Ss j) wr := maps_sub hMr (hA.1 j)
      have hrj := rd_fr hfv hF hM
      obtain ⟨fi, capi, rfl, hent, hcall⟩ := ih k hkm wr f (Ss j) Q L _ hF0 hMj hrj hup
      obtain ⟨g0, hg0, hcell⟩ : ∃ g0, g = some ⟨g0, 0, none⟩ ∧ w.cell? ⟨g0, j, none⟩ = some (.func (.func fi) #[] capi) := by
        rcases hbo.2 with ⟨h0, h1⟩ | ⟨g0, cap, cur, h0, _⟩
        · omega
        · cases h0
          have hadd : (⟨g0, 0, none⟩ : Addr).add j = ⟨g0, j, none⟩ := by unfold Addr.add; split <;> simp_all
          exact ⟨g0, rfl, hadd ▸ hbo.cells rfl j _ hfj⟩
      subst hg0
      have hcell' : wr.cell? ⟨g0, j, none⟩ = some (.func (.func fi) #[] capi) := hF.cell hcell (maps_cell hM hcell)
      have bj : (j : Int) < fs.length := by omega
      have hsz := hF.size
      rw [← hQ'] at hcall
      go_wp2_with (first
        | (refine wpList_call_fn rfl 14 15 29 rfl fi capi rfl hent _ rfl ?_; refine hcall.mono ?_; rintro e w1 ⟨rv, R, rfl, hR, hU, hn, hr1, hr2, hF1, hM1, hFr1⟩; refine ⟨_, rfl, ?_⟩; have hUl := hU.len; have hown1 := Clo.owns_same (w' := w1) hown (fun g hg => by
            obtain ⟨cs, hc⟩ := own_tag hown hg
            exact hFr1.block g (heap_lt hc) (maps_cells hMj hc)); have hz1 := hFr1.size)
        | (at_builtin; refine wpList_append_rd _ rfl _ _ rfl w.heap.size _ Acc R rfl hown1 _ rfl hR (by omega) (by omega) ?_; intro v' w2 hown2 hgr2 _))
      go_roundw
      case rel =>
        refine ⟨j + 1, Acc ++ R, by go_num, by omega, hown2, by rw [List.length_append]; omega, fun x hx => ?_, ?_, ?_, fun h => by rw [hnil h, hn h]; rfl, fun x hx => ?_, fun i k' hi hk' x hx => ?_, fun i k' f' h1 h2 => ?_⟩
        · rcases List.mem_append.1 hx with h | h
          · exact hAn x h
          · exact hU.2 x h
        · exact (hF.trans (hFr1.mono (hA.1 j))).grown hgr2 (fun k hk => (hown1.lt k hk).1)
        · have hM2 := maps_kid hMr hM1 hFr1
          intro k hk'
          obtain ⟨es, c, he⟩ := hM2 k hk'
          exact ⟨es, c, (hgr2.block k (heap_lt he) (fun e => by
            obtain ⟨cs, hc⟩ := own_tag hown1 e.symm
            rw [he] at hc
            cases hc)).trans he⟩
        · rcases List.mem_append.1 hx with h | h
          · exact hs1 x h
          · exact ⟨k, hkm, hr1 x h⟩
        · by_cases hij : i = j
          · subst hij
            rw [hkj] at hk'
            cases hk'
            rcases hr2 x hx with h | h
            · exact .inl (List.mem_append.2 (.inr h))
            · exact .inr h
          · rcases hs2 i k' (by omega) hk' x hx with h | h
            · exact .inl (List.mem_append.2 (.inl h))
            · exact .inr h
        · have hM2 := maps_kid hMr hM1 hFr1
          by_cases hij : i = j
          · subst hij
            rw [hkj] at h1
            rw [hfj] at h2
            cases h1
            cases h2
            rw [if_pos (Nat.lt_succ_self _)]
            exact fnd_kept (cells_own hown1 hgr2) d _ _ _ _ (maps_own hM1 hown1 hgr2) (by rw [hQ'] at hF1 ⊢; exact hF1)
          · have h3 := hkr i k' f' h1 h2
            have h4 : (if i < j + 1 then Q' else Q) = (if i < j then Q' else Q) := by
              by_cases h5 : i < j
              · rw [if_pos h5, if_pos (by omega)]
              · rw [if_neg h5, if_neg (by omega)]
            rw [h4]
            exact fnd_kept (cells_own hown1 hgr2) d k' _ _ _ (maps_own (maps_sub hM2 (hA.1 i)) hown1 hgr2) (fnd_other hFr1 hMj (maps_sub hMr (hA.1 i)) (fun x hx hx' => hij (hA.2 i j x hx hx')) h3)
      case measure => simp [intOf]; omega
    · obtain rfl : j = fs.length := by omega
      have hal : Acc.length ≤ 1100000 := by omega
      have hsort := iSort (l := natI Acc) (by rw [natI_len]; exact hown) (by rw [natI_len]; omega)
      go_wp2_with fail
      refine hsort.mono ?_
      rintro e w1 ⟨rfl, ho1, hg1⟩
      have hcomp := iCompact (l := sortL (natI Acc)) (by rw [sortL_len]; exact ho1) (by rw [sortL_len, natI_len]; omega)
      go_wp2_with fail
      refine hcomp.mono ?_
      rintro e w2 ⟨rv, rfl, ho2, hg2⟩
      go_wp2_with fail
      go_ret
      have ho1' := owns_cast ho1 (sortL_len (natI Acc)).symm
      have hown0 := owns_cast hown (natI_len Acc).symm
      have hrow : w2.ownsRow w.heap.size 3 1 rv (tidyL Acc).length (ints (natI (tidyL Acc))) := by rw [natI_tidy, ← natI_len (tidyL Acc), natI_tidy]; exact ho2
      have hk1 := maps_own hMr hown0 hg1
      have hMr1 : Maps S w1 := fun k hk' => by obtain ⟨es, c, he⟩ := hMr k hk'; exact ⟨es, c, (hk1 k hk').trans he⟩
      have hk2 := maps_own hMr1 ho1' hg2
      have hMr2 : Maps S w2 := fun k hk' => by obtain ⟨es, c, he⟩ := hMr1 k hk'; exact ⟨es, c, (hk2 k hk').trans he⟩
      have hFr2 : Fr S w w2 := (hF.grown hg1 (fun k hk' => (hown0.lt k hk').1)).grown hg2 (fun k hk' => (ho1'.lt k hk').1)
      have hC : Cells wr w2 := (cells_own hown0 hg1).trans (cells_own ho1' hg2)
      refine ⟨rv, tidyL Acc, rfl, rd_own hrow, tidy_up hAn, fun h => by rw [hnil h]; exact tidy_nil, fun x hx => ?_, fun x hx => ?_, ?_, hMr2, hFr2⟩
      · obtain ⟨k, h1, h2⟩ := hs1 x (tidy_mem.1 hx)
        exact (hImg _ x).2 ⟨k, h1, by rw [hQ'] at h2; exact h2⟩
      · obtain ⟨k, h1, h2⟩ := (hImg _ x).1 hx
        obtain ⟨i, hi, rfl⟩ := List.getElem_of_mem h1
        rcases hs2 i _ (by omega) (List.getElem?_eq_getElem hi) x (by rw [hQ']; exact h2) with h | h
        · exact .inl (tidy_mem.2 h)
        · exact .inr ((hImg _ x).2 ⟨_, h1, h⟩)
      · rw [Fnd]
        refine .inr (.inr (.inr (.inr (.inr (.inl ⟨ks, b, fs, Ss, ht, hv, box_kept hBox ((cells_fr hF hM).trans hC), hl, hA, fun i k f h1 h2 => ?_⟩)))))
        have h3 := hkr i k f h1 h2
        rw [if_pos (List.getElem?_eq_some_iff.1 h2).1, hQ'] at h3
        exact fnd_kept hC d k f _ _ (fun x hx => (hk2 x (hA.1 i x hx)).trans (hk1 x (hA.1 i x hx))) h3

end Mt
end Go.Proofs.YtgdnlmaacnnfiaaGreatDoor

