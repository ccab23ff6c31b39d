/-
  The program's finders of patterns without kids.
  The program's finders: kids one behind the other.
-/
import Derived.Test.YtgdnlmaacnnfiaaGreatDoorP32
namespace Go.Proofs.YtgdnlmaacnnfiaaGreatDoor
open Go.RowKit Go.Maps
namespace Mt
open Rx Clo

theorem enter_f1 (vs : Array Value) (w : World) : (callFunc 42 vs).run Tryz.prog w = .ok (.enter 42 vs) w := by kernel_rfl
theorem enter_f2 (vs : Array Value) (w : World) : (callFunc 44 vs).run Tryz.prog w = .ok (.enter 44 vs) w := by kernel_rfl
theorem enter_f3 (vs : Array Value) (w : World) : (callFunc 49 vs).run Tryz.prog w = .ok (.enter 49 vs) w := by kernel_rfl
theorem enter_f4 (vs : Array Value) (w : World) : (callFunc 50 vs).run Tryz.prog w = .ok (.enter 50 vs) w := by kernel_rfl
theorem enter_f5 (vs : Array Value) (w : World) : (callFunc 51 vs).run Tryz.prog w = .ok (.enter 51 vs) w := by kernel_rfl
theorem enter_turn (vs : Array Value) (w : World) : (callFunc 71 vs).run Tryz.prog w = .ok (.enter 71 vs) w := by kernel_rfl
theorem enter_tog (vs : Array Value) (w : World) : (callFunc 72 vs).run Tryz.prog w = .ok (.enter 72 vs) w := by kernel_rfl
theorem enter_rep (vs : Array Value) (w : World) : (callFunc 75 vs).run Tryz.prog w = .ok (.enter 75 vs) w := by kernel_rfl

/-- How a finder answers. -/
def Ans (s : ByteArray) (d : Nat) (k : Data) (v : Value) (S Q : Nat → Prop) (L : List Nat) (w : World) (e : Ending) (w' : World) : Prop :=
  ∃ rv R, e = .returned rv ∧ Rd w' rv R ∧ Up s.size R ∧ (L = [] → R = []) ∧ (∀ x, x ∈ R → Img s k (fun q => Q q ∨ q ∈ L) x) ∧ (∀ x, Img s k (fun q => Q q ∨ q ∈ L) x → x ∈ R ∨ Img s k Q x) ∧
      Fnd s d w' k v S (fun q => Q q ∨ q ∈ L) ∧ Maps S w' ∧ Fr S w w'

theorem maps_fr {S : Nat → Prop} {w w' : World} (h : Maps S w) (hb : Below w.heap.size w w') : Maps S w' := fun k hk => by
  obtain ⟨es, c, he⟩ := h k hk
  exact ⟨es, c, (hb.block k (heap_lt he)).trans he⟩

/-- A pattern without kids that tells R of L. -/
theorem ans_leaf {s : ByteArray} {d : Nat} {k : Data} {v : Value} {S Q : Nat → Prop} {L R : List Nat} {rv : Value} {w w' : World} (hrd : Rd w' rv R) (hup : Up s.size R) (hm : ∀ x, x ∈ R ↔ ∃ q, q ∈ L ∧ Fit (gOf s) s.size k q x) (hF : Fnd s d w' k v S (fun q => Q q ∨ q ∈ L)) (hM : Maps S w) (hb : Below w.heap.size w w') : Ans s d k v S Q L w (.returned rv) w' := by
  refine ⟨rv, R, rfl, hrd, hup, fun h => ?_, fun x hx => ?_, fun x hx => ?_, hF, maps_fr hM hb, fr_below hb⟩
  · subst h
    rcases R with _ | ⟨x, R⟩
    · rfl
    · obtain ⟨q, hq, _⟩ := (hm x).1 (by simp)
      simp at hq
  · obtain ⟨q, hq, hf⟩ := (hm x).1 hx
    exact ⟨q, .inr hq, hf⟩
  · obtain ⟨q, hq | hq, hf⟩ := hx
    · exact .inr ⟨q, hq, hf⟩
    · exact .inl ((hm x).2 ⟨q, hq, hf⟩)

theorem askStart {s : ByteArray} (hs : s.size ≤ 1000) {d : Nat} {v : Value} {S Q : Nat → Prop} {L : List Nat} {fv : Value} {w : World} (hv : v = .func (.func 42) #[] #[]) (hM : Maps S w) (hrd : Rd w fv L) (hup : Up s.size L) :
    Calls Tryz.prog 42 #[fv] w fun e w' => Ans s (d + 1) (leaf 4) v S Q L w e w' := by
  have call := iOnlyAt hrd hup hs (Nat.zero_le s.size)
  obtain ⟨ao, cap, rfl, -, -⟩ := rd_form hrd
  go_enter Tryz.func42, Tryz.ntmps42
  go_wp2_with fail
  refine call.mono ?_
  rintro e w1 ⟨rv, R, rfl, hR, hU, hm, hb⟩
  go_wp2_with fail
  go_ret
  refine ans_leaf hR hU (fun x => ?_) (by rw [Fnd]; exact .inl ⟨rfl, hv⟩) hM hb
  rw [hm x]
  simp only [fit_start]
  constructor
  · rintro ⟨h1, rfl⟩; exact ⟨0, h1, rfl, rfl⟩
  · rintro ⟨q, h1, rfl, rfl⟩; exact ⟨h1, rfl⟩

theorem askEnd {s : ByteArray} (hs : s.size ≤ 1000) {d b : Nat} {v : Value} {S Q : Nat → Prop} {L : List Nat} {fv : Value} {w : World} (hv : v = .func (.func 44) #[] #[.pointer (some ⟨b, 0, none⟩)]) (hbx : w.heap[b]? = some (.cells #[.string s] 9 (0, 0))) (hM : Maps S w) (hrd : Rd w fv L) (hup : Up s.size L) :
    Calls Tryz.prog 44 #[fv, .pointer (some ⟨b, 0, none⟩)] w fun e w' => Ans s (d + 1) (leaf 5) v S Q L w e w' := by
  have call := iOnlyAt hrd hup hs (Nat.le_refl s.size)
  obtain ⟨ao, cap, rfl, -, -⟩ := rd_form hrd
  have c0 : w.cell? ⟨b, 0, none⟩ = some (.string s) := by rw [cell_of_row _ _ _ _ _ _ hbx]; rfl
  go_enter Tryz.func44, Tryz.ntmps44
  go_wp2_with fail
  refine call.mono ?_
  rintro e w1 ⟨rv, R, rfl, hR, hU, hm, hb⟩
  go_wp2_with fail
  go_ret
  refine ans_leaf hR hU (fun x => ?_) (by rw [Fnd]; exact .inr (.inl ⟨rfl, b, hv, (hb.block b (heap_lt hbx)).trans hbx⟩)) hM hb
  rw [hm x]
  simp only [fit_end]
  constructor
  · rintro ⟨h1, rfl⟩; exact ⟨s.size, h1, rfl, rfl⟩
  · rintro ⟨q, h1, rfl, rfl⟩; exact ⟨h1, rfl⟩

theorem askNone {s : ByteArray} {d : Nat} {v : Value} {S Q : Nat → Prop} {L : List Nat} {fv : Value} {w : World} (hv : v = .func (.func 50) #[] #[]) (hM : Maps S w) (hrd : Rd w fv L) (hup : Up s.size L) :
    Calls Tryz.prog 50 #[fv] w fun e w' => Ans s (d + 1) (leaf 11) v S Q L w e w' := by
  have hrd' := hrd
  obtain ⟨ao, cap, rfl, -, -⟩ := rd_form hrd
  go_enter Tryz.func50, Tryz.ntmps50
  go_wp2_with fail
  go_ret
  refine ans_leaf hrd' hup (fun x => ?_) (by rw [Fnd]; exact .inr (.inr (.inl ⟨rfl, hv⟩))) hM (Below.refl _ _)
  simp only [fit_none]
  constructor
  · intro h; exact ⟨x, h, rfl⟩
  · rintro ⟨q, h, rfl⟩; exact h

theorem askByte {s : ByteArray} (hs : s.size ≤ 1000) {d bp bs op c : Nat} {ss : List UInt8} {no : Bool} {pv v : Value} {S Q : Nat → Prop} {L : List Nat} {fv : Value} {w : World} (ho : op = 1 ∨ op = 2 ∨ op = 3) (hL : Leaf op c ss no pv)
    (hv : v = .func (.func 51) #[] #[.pointer (some ⟨bp, 0, none⟩), .pointer (some ⟨bs, 0, none⟩)]) (hbp : w.heap[bp]? = some (.cells #[pv] 50 (0, 0))) (hbs : w.heap[bs]? = some (.cells #[.string s] 9 (0, 0))) (hM : Maps S w) (hrd : Rd w fv L) (hup : Up s.size L) :
    Calls Tryz.prog 51 #[fv, .pointer (some ⟨bp, 0, none⟩), .pointer (some ⟨bs, 0, none⟩)] w fun e w' => Ans s (d + 1) (nd op c ss no []) v S Q L w e w' := by
  have call := iBehindByte hL ho s hs hrd hup
  obtain ⟨ao, cap, rfl, -, -⟩ := rd_form hrd
  have c0 : w.cell? ⟨bs, 0, none⟩ = some (.string s) := by rw [cell_of_row _ _ _ _ _ _ hbs]; rfl
  have c1 : w.cell? ⟨bp, 0, none⟩ = some pv := by rw [cell_of_row _ _ _ _ _ _ hbp]; rfl
  obtain ⟨T, y, rfl⟩ : ∃ T y, pv = .iface T y := by
    rcases hL with h | h | h | h | h | h
    · exact ⟨_, _, h.2.2.2.2⟩
    · exact ⟨_, _, h.2.2.2.2⟩
    · exact ⟨_, _, h.2.2⟩
    · exact ⟨_, _, h.2.2.2.2⟩
    · exact ⟨_, _, h.2.2.2.2⟩
    · exact ⟨_, _, h.2.2.2.2⟩
  go_enter Tryz.func51, Tryz.ntmps51
  go_wp2_with fail
  refine call.mono ?_
  rintro e w1 ⟨rv, rfl, hR, hb⟩
  go_wp2_with fail
  go_ret
  refine ans_leaf hR (behind_up hup) (fun x => ?_) (by rw [Fnd]; exact .inr (.inr (.inr (.inl ⟨op, c, ss, no, _, bp, bs, ho, rfl, hL, hv, (hb.block bp (heap_lt hbp)).trans hbp, (hb.block bs (heap_lt hbs)).trans hbs⟩)))) hM hb
  rw [behind_mem]
  simp only [fit_tk ho]
  constructor
  · rintro ⟨i, h1, h2, h3, rfl⟩; exact ⟨i, h1, h2, rfl, h3⟩
  · rintro ⟨i, h1, h2, rfl, h3⟩; exact ⟨i, h1, h2, h3, rfl⟩

end Mt
end Go.Proofs.YtgdnlmaacnnfiaaGreatDoor

namespace Go.Proofs.YtgdnlmaacnnfiaaGreatDoor
open Go.RowKit Go.Maps
namespace Mt
open Rx Clo

theorem imgC_mono {s : ByteArray} {ks : List Data} {Q Q' : Nat → Prop} (h : ∀ x, Q x → Q' x) {x : Nat} (hx : ImgC s ks Q x) : ImgC s ks Q' x := by
  obtain ⟨q, h1, h2⟩ := hx
  exact ⟨q, h q h1, h2⟩
theorem img_mono {s : ByteArray} {k : Data} {Q Q' : Nat → Prop} (h : ∀ x, Q x → Q' x) {x : Nat} (hx : Img s k Q x) : Img s k Q' x := by
  obtain ⟨q, h1, h2⟩ := hx
  exact ⟨q, h q h1, h2⟩
theorem imgC_succ {s : ByteArray} {ks : List Data} {j : Nat} {k : Data} (h : ks[j]? = some k) (Q : Nat → Prop) (x : Nat) : ImgC s (ks.take (j + 1)) Q x ↔ Img s k (ImgC s (ks.take j) Q) x := by
  have ht : ks.take (j + 1) = ks.take j ++ [k] := by rw [List.take_add_one, h]; rfl
  unfold ImgC Img
  rw [ht]
  constructor
  · rintro ⟨q, hq, hf⟩
    obtain ⟨y, h1, h2⟩ := fitCat_take.1 hf
    exact ⟨y, ⟨q, hq, h1⟩, h2⟩
  · rintro ⟨y, ⟨q, hq, h1⟩, h2⟩
    exact ⟨q, hq, fitCat_take.2 ⟨y, h1, h2⟩⟩
theorem imgC_zero {s : ByteArray} {ks : List Data} {Q : Nat → Prop} {x : Nat} : ImgC s (ks.take 0) Q x ↔ Q x := by
  unfold ImgC
  simp [FitCat]

/-- The states of kids behind a call of one of them. -/
theorem maps_kid {S S1 : Nat → Prop} {w w' : World} (hM : Maps S w) (h1 : Maps S1 w') (hF : Fr S1 w w') : Maps S w' := by
  intro k hk
  by_cases h : S1 k
  · exact h1 k h
  · obtain ⟨es, c, he⟩ := hM k hk
    exact ⟨es, c, (hF.block k (heap_lt he) h).trans he⟩
theorem maps_sub {S S1 : Nat → Prop} {w : World} (hM : Maps S w) (h : ∀ k, S1 k → S k) : Maps S1 w := fun k hk => hM k (h k hk)

theorem fnd_other {s : ByteArray} {S1 S2 Q : Nat → Prop} {w w' : World} {d : Nat} {t : Data} {v : Value} (hF : Fr S1 w w') (hM : Maps S1 w) (hM2 : Maps S2 w) (hd : ∀ k, S2 k → ¬ S1 k) (h : Fnd s d w t v S2 Q) : Fnd s d w' t v S2 Q :=
  fnd_kept (cells_fr hF hM) d t v S2 Q (fun k hk => by
    obtain ⟨es, c, he⟩ := hM2 k hk
    exact hF.block k (heap_lt he) (hd k hk)) h

set_option maxHeartbeats 2000000 in
set_option maxRecDepth 100000 in
theorem askTurn {s : ByteArray} {d b : Nat} {ks : List Data} {fs : List Value} {Ss : Nat → Nat → Prop} {v : Value} {S Q : Nat → Prop} {L : List Nat} {fv : Value} {w : World} (ih : ∀ k ∈ ks, FinderOk s d k) (hkl : ks.length ≤ 100000)
    (hv : v = .func (.func 71) #[] #[.pointer (some ⟨b, 0, none⟩)]) (hB : Box w b fs) (hl : fs.length = ks.length) (hA : Apart Ss S) (hk : ∀ (i : Nat) k f, ks[i]? = some k → fs[i]? = some f → Fnd s d w k f (Ss i) (ImgC s (ks.take i) Q)) (hM : Maps S w) (hrd : Rd w fv L) (hup : Up s.size L) :
    Calls Tryz.prog 71 #[fv, .pointer (some ⟨b, 0, none⟩)] w fun e w' => Ans s (d + 1) (nd 6 0 [] false ks) v S Q L w e w' := by
  obtain ⟨kv, hb0, hbo⟩ := hB
  have hBox : Box w b fs := ⟨kv, hb0, hbo⟩
  obtain ⟨g, kcap, hkv⟩ : ∃ ao kcap, kv = .slice ao fs.length kcap := by
    rcases hbo.2 with ⟨h0, h1⟩ | ⟨g, cap, cur, h0, _⟩
    · exact ⟨none, 0, by rw [h0, h1]⟩
    · exact ⟨_, _, h0⟩
  subst hkv
  have c0 : w.cell? ⟨b, 0, none⟩ = some (.slice g fs.length kcap) := by rw [cell_of_row _ _ _ _ _ _ hb0]; rfl
  have bl : (fs.length : Int) ≤ 100000 := by omega
  have hfv := hrd
  obtain ⟨fao, fcap, rfl, -, -⟩ := rd_form hrd
  obtain ⟨Q', hQ'⟩ : ∃ Q' : Nat → Prop, Q' = fun q => Q q ∨ q ∈ L := ⟨_, rfl⟩
  have hQQ : ∀ x, Q x → Q' x := fun x hx => by rw [hQ']; exact .inl hx
  go_enter Tryz.func71, Tryz.ntmps71
  go_wp2_with fail
  go_loopw [0, 8] (fun fv i wr => ∃ (j : Nat) (Lj : List Nat), i = .int .i64 j ∧ j ≤ fs.length ∧ Rd wr fv Lj ∧ Up s.size Lj ∧ Fr S w wr ∧ Maps S wr ∧ (L = [] → Lj = []) ∧ (∀ x, x ∈ Lj → ImgC s (ks.take j) Q' x) ∧ (∀ x, ImgC s (ks.take j) Q' x → x ∈ Lj ∨ ImgC s (ks.take j) Q x) ∧
      (∀ (i : Nat) k f, ks[i]? = some k → fs[i]? = some f → Fnd s d wr k f (Ss i) (ImgC s (ks.take i) (if i < j then Q' else Q)))) (fun _ i _ => fs.length - (intOf i).toNat)
  case atStart =>
    refine ⟨0, L, rfl, by omega, hfv, hup, Fr.refl _ _, hM, id, fun x hx => imgC_zero.2 (by rw [hQ']; exact .inr hx), fun x hx => ?_, fun i k f h1 h2 => by simpa using hk i k f h1 h2⟩
    have := imgC_zero.1 hx
    rw [hQ'] at this
    rcases this with h | h
    · exact .inr (imgC_zero.2 h)
    · exact .inl h
  case round =>
    obtain ⟨j, Lj, rfl, hj, hrj, huj, hF, hMr, hnil, hs1, hs2, hkr⟩ := hrel
    have hrj' := hrj
    obtain ⟨ja, jc, rfl, -, -⟩ := rd_form hrj
    by_cases hjl : j < fs.length
    · have hfj : fs[j]? = some fs[j] := List.getElem?_eq_getElem hjl
      have hkj : ks[j]? = some (ks[j]'(by omega)) := List.getElem?_eq_getElem _
      obtain ⟨f, hfe⟩ : ∃ f, f = fs[j] := ⟨_, rfl⟩
      obtain ⟨k, hke⟩ : ∃ k, k = ks[j]'(by omega) := ⟨_, rfl⟩
      rw [← hfe] at hfj
      rw [← hke] at hkj
      have hkm : k ∈ ks := by rw [hke]; exact List.getElem_mem _
      clear hfe hke
      have hF0 := hkr j k f hkj hfj
      rw [if_neg (Nat.lt_irrefl j)] at hF0
      have hMj : Maps (Ss j) wr := maps_sub hMr (hA.1 j)
      obtain ⟨fi, capi, rfl, hent, hcall⟩ := ih k hkm wr f (Ss j) (ImgC s (ks.take j) Q) Lj _ hF0 hMj hrj' huj
      obtain ⟨g0, hg0, hcell⟩ : ∃ g0, g = some ⟨g0, 0, none⟩ ∧ w.cell? ⟨g0, j, none⟩ = some (.func (.func fi) #[] capi) := by
        rcases hbo.2 with ⟨h0, h1⟩ | ⟨g0, cap, cur, h0, _⟩
        · omega
        · cases h0
          have hadd : (⟨g0, 0, none⟩ : Addr).add j = ⟨g0, j, none⟩ := by unfold Addr.add; split <;> simp_all
          exact ⟨g0, rfl, hadd ▸ hbo.cells rfl j _ hfj⟩
      subst hg0
      have hcell' : wr.cell? ⟨g0, j, none⟩ = some (.func (.func fi) #[] capi) := hF.cell hcell (maps_cell hM hcell)
      have bj : (j : Int) < fs.length := by omega
      have hcap0 : fs.length ≤ kcap := by
        rcases hbo.2 with ⟨h0, h1⟩ | ⟨g0, cap, cur, h0, _, _, h1, _⟩
        · cases h0
        · cases h0; exact h1
      go_wp2_with (refine wpList_call_fn rfl 12 13 29 rfl fi capi rfl hent _ rfl ?_; refine hcall.mono ?_; rintro e w1 ⟨rv, R, rfl, hR, hU, hn, hr1, hr2, hF1, hM1, hFr1⟩; refine ⟨_, rfl, ?_⟩)
      go_roundw
      case rel =>
        have hset : (fun q => ImgC s (ks.take j) Q q ∨ q ∈ Lj) = ImgC s (ks.take j) Q' := by
          funext x
          apply propext
          constructor
          · rintro (h | h)
            · exact imgC_mono hQQ h
            · exact hs1 x h
          · intro h
            exact (hs2 x h).symm
        rw [hset] at hr1 hr2 hF1
        refine ⟨j + 1, R, by go_num, by omega, hR, hU, hF.trans (hFr1.mono (hA.1 j)), maps_kid hMr hM1 hFr1, fun h => hn (hnil h), fun x hx => (imgC_succ hkj _ x).2 (hr1 x hx), fun x hx => ?_, fun i k' f' h1 h2 => ?_⟩
        · rcases hr2 x ((imgC_succ hkj _ x).1 hx) with h | h
          · exact .inl h
          · exact .inr ((imgC_succ hkj _ x).2 h)
        · by_cases hij : i = j
          · subst hij
            rw [hkj] at h1
            rw [hfj] at h2
            cases h1
            cases h2
            rw [if_pos (Nat.lt_succ_self _)]
            exact hF1
          · have h3 := hkr i k' f' h1 h2
            have h4 : (if i < j + 1 then Q' else Q) = (if i < j then Q' else Q) := by
              by_cases h5 : i < j
              · rw [if_pos h5, if_pos (by omega)]
              · rw [if_neg h5, if_neg (by omega)]
            rw [h4]
            exact fnd_other hFr1 hMj (maps_sub hMr (hA.1 i)) (fun x hx hx' => hij (hA.2 i j x hx hx')) h3
      case measure => simp [intOf]; omega
    · obtain rfl : j = fs.length := by omega
      rw [hl, List.take_length] at hs1 hs2
      go_wp2_with fail
      go_ret
      refine ⟨_, Lj, rfl, hrj', huj, hnil, fun x hx => ?_, fun x hx => ?_, ?_, hMr, hF⟩
      · obtain ⟨q, h1, h2⟩ := hs1 x hx
        exact ⟨q, by rw [hQ'] at h1; exact h1, fit_cat.2 h2⟩
      · obtain ⟨q, h1, h2⟩ := hx
        rcases hs2 x ⟨q, by rw [hQ']; exact h1, fit_cat.1 h2⟩ with h | ⟨q', h3, h4⟩
        · exact .inl h
        · exact .inr ⟨q', h3, fit_cat.2 h4⟩
      · rw [Fnd]
        refine .inr (.inr (.inr (.inr (.inl ⟨ks, b, fs, Ss, rfl, hv, box_kept hBox (cells_fr hF hM), hl, hA, fun i k f h1 h2 => ?_⟩))))
        have h3 := hkr i k f h1 h2
        rw [if_pos (List.getElem?_eq_some_iff.1 h2).1] at h3
        rw [hQ'] at h3
        exact h3

end Mt
end Go.Proofs.YtgdnlmaacnnfiaaGreatDoor

