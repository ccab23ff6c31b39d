/-
  The forms, sorted by their codes, in a row of their own.
  The form of a code is found by halves.
-/
import Derived.Test.YtkhoccjfkkfipaaGreatDoorP15
namespace Go.Proofs.YtkhoccjfkkfipaaGreatDoor
open Go.RowKit
namespace Oc
open St (Vl)

theorem iSortF (g cap : Nat) (L : List Fm) (w : World) (hH : Sort.HoldsK encF 4 w g 0 L.toArray) (hg : g < w.heap.size) (hsz : L.length ≤ 36) :
    Calls Tryz.prog 108 #[.slice (some ⟨g, 0, none⟩) L.length cap, .func (.func 109) #[] #[]] w fun e w' => e = .returned (.tuple #[]) ∧
      ∃ d' n os, Sort.PermIn 0 L.length L.toArray d' ∧ Sort.SortedIn (ltOf fun x y : Fm => Lib.compareInt x.1 y.1) 0 L.length d' ∧ w' = sortWorldK encF 4 w g 0 n d' os := by
  have eg : ∀ args w, (callFunc 109 args).run Tryz.prog w = .ok (.enter 109 args) w := enters_of Tryz.func109 (by kernel_rfl) rfl
  have hl : CmpLays Tryz.prog 109 #[] encF 4 (fun x y : Fm => Lib.compareInt x.1 y.1) g 0 L.toArray.size w := fun _ _ _ _ x y => iCmp x y _
  have hcon := AnyQ.slices_SortFunc Tryz.sortForm 4 Tryz.isAgg137 Tryz.sizeOf137 encF (fun _ => rfl) (fun x v hv => by simp [encF] at hv; rcases hv with rfl | rfl | rfl | rfl <;> rfl) (fun x y : Fm => Lib.compareInt x.1 y.1) swoCode 109 #[] g 0 cap L.toArray w eg hl hH hg (by simp; omega)
  change Calls Tryz.prog 108 _ _ _ at hcon
  simp only [List.size_toArray] at hcon
  exact hcon

theorem perm_of {L : List Fm} {d : Array Fm} (hp : Sort.PermIn 0 L.length L.toArray d) (hs : Sort.SortedIn (ltOf fun x y : Fm => Lib.compareInt x.1 y.1) 0 L.length d) (hL : L.Perm tbl) : d.toList = tbl := by
  obtain ⟨h1, _, h3⟩ := hp
  simp only [List.size_toArray] at h1
  have e1 : d.extract 0 L.length = d := by rw [← h1]; simp
  have e2 : L.toArray.extract 0 L.length = L.toArray := by simp
  rw [e1, e2] at h3
  refine sorted_is (h3.trans hL) (List.pairwise_iff_getElem.2 fun i j hi hj hij => ?_)
  have := hs i j (Nat.zero_le _) hij (by simpa [h1] using hj)
  rw [ltCode] at this
  simp only [Array.length_toList] at hi hj
  rw [getElem!_pos d i hi, getElem!_pos d j hj] at this
  simpa using this

theorem rdF_sorted {w : World} {g n : Nat} {os : Array Obj} {L : List Fm} {d : Array Fm} (hH : Sort.HoldsK encF 4 w g 0 L.toArray) (hg : g < w.heap.size) (hl : d.size = L.length) (hd : d.toList = tbl) : RdF (sortWorldK encF 4 w g 0 n d os) g := by
  have hds : d.size = 36 := by rw [← Array.length_toList, hd, tbl_len]
  unfold Sort.HoldsK at hH
  have hg' : g < (Sort.putRowK encF 4 (Sort.ahead w n) g 0 d).heap.size := by simpa [Sort.putRowK, Sort.putRow, Sort.mapBlock, Sort.ahead] using hg
  have key : ∀ t, t < 144 → (sortWorldK encF 4 w g 0 n d os).cell? ⟨g, t, none⟩ = some ((encF d[t / 4]!)[t % 4]!) := by
    intro t ht
    have h1 : (sortWorldK encF 4 w g 0 n d os).heap[g]? = (Sort.putRowK encF 4 (Sort.ahead w n) g 0 d).heap[g]? := Sort.heap_grow_old _ _ hg'
    have h2 : (Sort.putRow id (Sort.ahead w n) g 0 (Sort.flatK encF 4 d)).cell? ⟨g, 0 + t, none⟩ = some (id (Sort.flatK encF 4 d)[t]!) := Sort.cell?_putRow id (Sort.ahead w n) g 0 (Sort.flatK encF 4 L.toArray) (Sort.flatK encF 4 d) hH (by simp [hl]) t (by simp [hds]; omega)
    rw [Nat.zero_add, Sort.get_flatK _ _ _ _ (by rw [hds]; omega)] at h2
    have h3 : (sortWorldK encF 4 w g 0 n d os).cell? ⟨g, t, none⟩ = (Sort.putRow id (Sort.ahead w n) g 0 (Sort.flatK encF 4 d)).cell? ⟨g, t, none⟩ := by
      simp only [World.cell?]
      rw [h1]
      rfl
    rw [h3, h2]
    rfl
  refine ⟨by simp only [sortWorldK, Sort.grow, Array.size_append]; omega, fun i f hi => ?_⟩
  have hil : i < 36 := by have := (List.getElem?_eq_some_iff.1 hi).1; rwa [tbl_len] at this
  have hdi : d[i]! = f := by
    rw [getElem!_pos d i (by omega)]
    rw [← hd] at hi
    simp only [Array.getElem?_toList] at hi
    exact (Array.getElem?_eq_some_iff.1 hi).2
  have k : ∀ j, j < 4 → (sortWorldK encF 4 w g 0 n d os).cell? ⟨g, i * 4 + j, none⟩ = some ((encF f)[j]!) := fun j hj => by
    have := key (i * 4 + j) (by omega)
    rwa [show (i * 4 + j) / 4 = i by omega, show (i * 4 + j) % 4 = j by omega, hdi] at this
  exact ⟨k 0 (by omega), k 1 (by omega), k 2 (by omega), k 3 (by omega)⟩

theorem grown_sorted {w : World} {g n : Nat} {os : Array Obj} (d : Array Fm) : w.grownBy (sortWorldK encF 4 w g 0 n d os) (some g) := by
  refine ⟨rfl, rfl, rfl, by simp [sortWorldK, Sort.grow, Sort.putRowK, Sort.putRow, Sort.mapBlock, Sort.ahead], fun k hk hne => ?_⟩
  unfold sortWorldK
  rw [Sort.heap_grow_old _ _ (by simpa [Sort.putRowK, Sort.putRow, Sort.mapBlock, Sort.ahead] using hk)]
  have : g ≠ k := fun e => hne (by rw [e])
  simp [Sort.putRowK, Sort.putRow, Sort.mapBlock, Sort.ahead, Array.getElem?_modify, this]

theorem holds_of {w : World} {g : Nat} {cur : Array Value} {e : TypeId} {L : List Fm} (hb : w.heap[g]? = some (.cells cur e (0, 0))) (ht : cur.toList.take (L.length * 4) = L.flatMap encF) : Sort.HoldsK encF 4 w g 0 L.toArray := by
  intro j hj
  have hj' : j < L.length * 4 := by simpa using hj
  refine ⟨?_, by simp [World.frozen?, hb]⟩
  have h1 : (cur.toList.take (L.length * 4))[j]? = (L.flatMap encF)[j]? := by rw [ht]
  have hd : j / 4 < L.length := by omega
  rw [List.getElem?_take_of_lt hj', St.fm_get (m := 4) (by omega) encF_len, List.getElem?_eq_getElem hd, Option.bind_some] at h1
  have hm : j % 4 < (encF L[j / 4]).length := by rw [encF_len]; omega
  rw [List.getElem?_eq_getElem hm] at h1
  rw [Sort.get_flatK _ _ _ _ (by simpa using hj')]
  simp only [World.cell?, hb, Nat.zero_add]
  rw [getElem!_pos L.toArray (j / 4) (by simpa using hd)]
  simp only [List.getElem_toArray, id]
  rw [getElem!_pos (encF L[j / 4]) (j % 4) hm]
  simpa using h1

theorem infoForm : (Tryz.prog.info? 137).map (fun i => (i.zero, i.size, i.bytes)) = some (some (.agg #[.int .i64 0, .int .i64 0, .int .i64 0, .string ⟨#[]⟩]), 4, 40) := by kernel_rfl
theorem cells_new (W : World) (xs : List Value) (T : TypeId) : ∀ j u, xs[j]? = some u → (W.alloc (.cells xs.toArray T)).cell? ((⟨W.heap.size, 0, none⟩ : Addr).add j) = some u := by
  intro j u hj
  have h := heap_new W (.cells xs.toArray T)
  have hadd : (⟨W.heap.size, 0, none⟩ : Addr).add j = ⟨W.heap.size, j, none⟩ := by unfold Addr.add; split <;> simp_all
  rw [hadd]
  simp only [World.cell?, h]
  simpa using hj

set_option maxHeartbeats 1000000 in
set_option maxRecDepth 100000 in
theorem iSorted (w : World) : Calls Tryz.prog 92 #[] w fun e w' => ∃ g cap, e = .returned (.slice (some ⟨g, 0, none⟩) 36 cap) ∧ RdF w' g ∧ Below w.heap.size w w' := by
  obtain ⟨i0, hi0, hz0, hz1, hz2⟩ := info_parts infoForm
  have cF := fun w => iForms w
  go_enter Tryz.func92, Tryz.ntmps92
  go_wp2_with (first
    | (go_at_call 107; refine (cF _).mono ?_; rintro e w1 ⟨rfl, hM1, hB1, hs1⟩; have hM := hM1.all; clear hM1)
    | (at_range; refine wpList_range_own _ rfl _ 155 rfl 9 137 keyS Tryz.underlying155 Rf w.heap.size 36 _ rfl hM ?_; intro w0 hrg0 hg0 hs0))
  go_frame
  clear cF hM
  have hB0 := hB1.grown hg0 hB1.size (fun j hj => by cases hj)
  go_loopw [1] (fun v wr => ∃ (left : Lit → Bool) (cnt : Nat) (L : List Fm), wr.ranges Tryz.prog 9 Rf w.heap.size w1.heap.size 36 (dR tbl.reverse) left cnt ∧ wr.ownsRow w1.heap.size 137 4 v L.length (L.flatMap encF) ∧ Came left L ∧ Below w.heap.size w wr ∧ w1.heap.size ≤ wr.heap.size)
    (fun _ wr => wr.rangeLeft w.heap.size w1.heap.size)
  case atStart => exact ⟨_, _, [], hrg0, World.ownsRow_nil _ _ _ _, Came.start, hB0, by omega⟩
  case round =>
    clear hrg0 hg0 hs0 hB0
    obtain ⟨left, cnt, L, hrg, hrow, hC, hnx, hsz⟩ := hrel
    go_wp2_with (at_next; refine wpList_next_ranges _ rfl _ rfl 9 keyS Rf encStr mkV (fun key kl hk => by obtain ⟨x, hx, _⟩ := Maps.keyOf_str Tryz.underlying9 hk; exact ⟨x, hx⟩) Rf_inv w.heap.size w1.heap.size 36 _ _ _ rfl hrg ?_ ?_)
    · intro _ hl0
      have hp := hC.perm hl0
      have hL : L.length = 36 := by rw [hp.length_eq, tbl_len]
      rcases hrow.2 with ⟨_, hn⟩ | ⟨g, cap, cur, rfl, hbase, hb, h1, h2, h3, h4⟩
      · omega
      have hH := holds_of hb h4
      have hgl : g < wr.heap.size := (Array.getElem?_eq_some_iff.1 hb).1
      have hc := iSortF g cap L wr hH hgl hC.len
      have HL : Hid (L.length = 36) := hL
      clear hL hb h1 h2 h3 h4 hrow hrg
      go_wp2_with (go_at_call 108; refine hc.mono ?_; rintro e w2 ⟨rfl, d', n, os, hpm, hsd, rfl⟩)
      go_ret
      have hd := perm_of hpm hsd hp
      refine ⟨g, cap, by first | rfl | (rw [HL.out]; rfl), rdF_sorted hH hgl (by simpa using hpm.1) hd, hnx.grown (grown_sorted d') hnx.size (fun j hj => by cases hj; omega)⟩
    · intro x c0 c1 c2 kl yd yp w2 cnt2 hkey hlk hv hat hrg2 hlt hg2 hs2 hen
      obtain ⟨x', ex, rfl, _⟩ := Maps.keyOf_str Tryz.underlying9 hkey
      obtain rfl : x = x' := encStr_inj ex
      rw [Rf_mk] at hv
      cases hv
      have hrow2 := hrow.kept hg2 (Or.inr (row_ne_iter hrow hrg).symm)
      have hC2 := hC.step hlk hat
      have hln := hC.len
      have hnx2 := hnx.grown hg2 hnx.size (fun j hj => by cases hj; omega)
      have hsz2 := Nat.le_trans hsz hg2.size
      simp only [mkV, encStr] at hen
      clear hs2 hg2 hC hkey ex hat hlk
      go_wp2_with (at_builtin; refine hold ?_)
      have hr3 := (hrow2.alloc (.cells (encF (c0, c1, c2, x)).toArray 137)).alloc (.cells (encF (c0, c1, c2, x)).toArray 137)
      have hq3 := (hrg2.alloc (.cells (encF (c0, c1, c2, x)).toArray 137)).alloc (.cells (encF (c0, c1, c2, x)).toArray 137)
      have hnew := cells_new (w2.alloc (.cells (encF (c0, c1, c2, x)).toArray 137)) (encF (c0, c1, c2, x)) 137
      rw [World.size_alloc] at hnew
      have hsz3 : w1.heap.size ≤ ((w2.alloc (.cells (encF (c0, c1, c2, x)).toArray 137)).alloc (.cells (encF (c0, c1, c2, x)).toArray 137)).heap.size := by simp; omega
      have hb3 : Below w.heap.size w ((w2.alloc (.cells (encF (c0, c1, c2, x)).toArray 137)).alloc (.cells (encF (c0, c1, c2, x)).toArray 137)) := (hnx2.alloc hnx2.size _).alloc (by have := hnx2.size; simp; omega) _
      refine wpList_append_own _ rfl _ _ 131 rfl w1.heap.size 137 i0 _ 4 40 Tryz.underlying131 hi0 hz0 hz1 hz2 rfl (by decide) u1 L.length (L.flatMap encF) rfl hr3 ⟨w2.heap.size + 1, 0, none⟩ 1 1 (encF (c0, c1, c2, x)) rfl rfl hnew (by simp [encF, Value.oneCell']) (by unfold maxLen; omega) (by omega) hsz3 ?_
      intro v' w3 hown' hg3 _
      have hrg3 := hq3.kept hg3 (row_ne_low hr3 hs1) (row_ne_iter hr3 hq3)
      have hb4 := hb3.grown hg3 hb3.size (fun j hj => by have := (hr3.lt j hj).1; omega)
      have hsz4 := Nat.le_trans hsz3 hg3.size
      have HN : Hid (w3.ranges Tryz.prog 9 Rf w.heap.size w1.heap.size 36 (dR tbl.reverse) (fun z => left z && !z.sameKey (.string x)) cnt2 ∧ w3.ownsRow w1.heap.size 137 4 v' (L ++ [(c0, c1, c2, x)]).length ((L ++ [(c0, c1, c2, x)]).flatMap encF) ∧ Came (fun z => left z && !z.sameKey (.string x)) (L ++ [(c0, c1, c2, x)]) ∧ Below w.heap.size w w3 ∧ w1.heap.size ≤ w3.heap.size) :=
        ⟨hrg3, by simpa using hown', hC2, hb4, hsz4⟩
      have HR : Hid (w3.rangeLeft w.heap.size w1.heap.size < wr.rangeLeft w.heap.size w1.heap.size) := by show _ < _; rw [hrg3.left_eq, hrg.left_eq]; exact hlt
      clear hr3 hq3 hnew hsz3 hb3 hown' hg3 hrg3 hb4 hsz4 hC2 hrow hrow2 hrg hrg2 hnx2 hsz2 hnx hlt
      go_wp2_with fail
      go_roundw
      case rel => exact ⟨_, cnt2, _, HN.out⟩
      case measure => exact HR.out

end Oc
end Go.Proofs.YtkhoccjfkkfipaaGreatDoor
namespace Go.Proofs.YtkhoccjfkkfipaaGreatDoor
open Go.RowKit
namespace Oc
open St (Vl)

theorem iCmpT (f : Fm) (c : Int) (W : World) : Calls Tryz.prog 112 #[.agg #[.int .i64 f.1, .int .i64 f.2.1, .int .i64 f.2.2.1, .string ⟨f.2.2.2.toArray⟩], .int .i64 c] W fun e w' => e = .returned (.int .i64 (Lib.compareInt f.1 c)) ∧ Below W.heap.size W w' := by
  have hcon := fun W' => AnyG.cmp_Compare_int Tryz.cmpInt f.1 c W'
  change ∀ W', Calls Tryz.prog 110 _ _ _ at hcon
  generalize Lib.compareInt f.1 c = r at hcon ⊢
  go_enter Tryz.func112, Tryz.ntmps112
  go_wp2_with (go_at_call 110; refine (hcon _).mono ?_; rintro e w' ⟨rfl, rfl⟩)
  go_ret
  exact ⟨rfl, (Below.refl _ W).alloc (Nat.le_refl _) _⟩

theorem cmp_lt (x y : Int) : (Lib.compareInt x y < 0 ↔ x < y) ∧ (Lib.compareInt x y = 0 ↔ x = y) := by
  unfold Lib.compareInt
  by_cases h1 : x < y
  · simp [h1]; omega
  · by_cases h2 : y < x
    · simp [h1, h2]; omega
    · simp [h1, h2]; omega

theorem eCmpT (args : Array Value) (w : World) : (callFunc 112 args).run Tryz.prog w = .ok (.enter 112 args) w := enters_of Tryz.func112 (by kernel_rfl) rfl args w

set_option maxHeartbeats 1000000 in
set_option maxRecDepth 100000 in
theorem iSearch {g cap : Nat} {w : World} (h : RdF w g) (c : Int) :
    Calls Tryz.prog 111 #[.slice (some ⟨g, 0, none⟩) 36 cap, .int .i64 c, .func (.func 112) #[] #[]] w fun e w' => ∃ i : Nat, e = .returned (.tuple #[.int .i64 i, .bool (codeB c)]) ∧ (codeB c = true → i = (c - 1).toNat) ∧ Below w.heap.size w w' := by
  have eg := eCmpT
  go_enter Tryz.func111, Tryz.ntmps111
  go_wp2_with fail
  go_loopw [9, 10] (fun i j wr => ∃ lo hi : Nat, i = .int .i64 lo ∧ j = .int .i64 hi ∧ lo ≤ hi ∧ hi ≤ 36 ∧ Hid ((lo = 0 ∨ (lo : Int) < c) ∧ (hi = 36 ∨ c ≤ (hi : Int) + 1)) ∧ Below w.heap.size w wr) (fun i j _ => (intOf j).toNat - (intOf i).toNat)
  case atStart => exact ⟨0, 36, rfl, rfl, by omega, by omega, (⟨.inl rfl, .inl rfl⟩ : ((0 : Nat) = 0 ∨ ((0 : Nat) : Int) < c) ∧ ((36 : Nat) = 36 ∨ c ≤ ((36 : Nat) : Int) + 1)), Below.refl _ _⟩
  case round =>
    obtain ⟨lo, hi, rfl, rfl, hlh, hin, I, hb⟩ := hrel
    by_cases hlt : lo < hi
    · obtain ⟨f, hf⟩ : ∃ f, tbl[(lo + hi) / 2]? = some f := ⟨_, List.getElem?_eq_getElem (by rw [tbl_len]; omega)⟩
      obtain ⟨c0, c1, c2, c3⟩ := (h.below hb).2 _ f hf
      have hfc := tbl_code hf
      have hc := iCmpT f c wr
      have hr := cmp_lt f.1 c
      generalize Lib.compareInt f.1 c = r at hc hr
      have HF : Hid (f.1 = (((lo + hi) / 2 : Nat) : Int) + 1) := hfc
      have HR : Hid ((r < 0 ↔ f.1 < c) ∧ (r = 0 ↔ f.1 = c)) := hr
      clear hfc hr hf h
      by_cases hr0 : r < 0
      · go_wp2_with (go_at_call 112; refine hc.mono ?_; rintro e w2 ⟨rfl, hb2⟩)
        go_roundw
        case rel =>
          have h1 := HR.out.1.1 hr0
          have h2 := HF.out
          have I2 : Hid (((lo + hi) / 2 + 1 = 0 ∨ (((lo + hi) / 2 + 1 : Nat) : Int) < c) ∧ (hi = 36 ∨ c ≤ (hi : Int) + 1)) := ⟨.inr (by omega), I.out.2⟩
          exact ⟨(lo + hi) / 2 + 1, hi, by rw [show ((lo : Int) + (hi : Int)) / 2 + 1 = (((lo + hi) / 2 + 1 : Nat) : Int) by omega], rfl, by omega, hin, I2, hb.trans (hb2.mono hb.size)⟩
        case measure => simp [intOf]; omega
      · go_wp2_with (go_at_call 112; refine hc.mono ?_; rintro e w2 ⟨rfl, hb2⟩)
        go_roundw
        case rel =>
          have h1 : ¬ f.1 < c := fun h => by have := HR.out.1.2 h; omega
          have h2 := HF.out
          have I2 : Hid ((lo = 0 ∨ (lo : Int) < c) ∧ ((lo + hi) / 2 = 36 ∨ c ≤ (((lo + hi) / 2 : Nat) : Int) + 1)) := ⟨I.out.1, .inr (by omega)⟩
          exact ⟨lo, (lo + hi) / 2, rfl, by rw [show ((lo : Int) + (hi : Int)) / 2 = (((lo + hi) / 2 : Nat) : Int) by omega], by omega, by omega, I2, hb.trans (hb2.mono hb.size)⟩
        case measure => simp [intOf]; omega
    · obtain rfl : lo = hi := by omega
      by_cases hn : lo < 36
      · obtain ⟨f, hf⟩ : ∃ f, tbl[lo]? = some f := ⟨_, List.getElem?_eq_getElem (by rw [tbl_len]; omega)⟩
        obtain ⟨c0, c1, c2, c3⟩ := (h.below hb).2 _ f hf
        have hfc := tbl_code hf
        have hc := iCmpT f c wr
        have hr := cmp_lt f.1 c
        generalize Lib.compareInt f.1 c = r at hc hr
        have HF : Hid (f.1 = (lo : Int) + 1 ∧ ((r < 0 ↔ f.1 < c) ∧ (r = 0 ↔ f.1 = c))) := ⟨hfc, hr⟩
        clear hfc hr hf h
        by_cases hr0 : r = 0
        · have HC : Hid (codeB c = true) := by
            obtain ⟨h1, h2, h3⟩ := HF.out
            have := h3.1 hr0
            show codeB c = true
            unfold codeB
            simp only [decide_eq_true_eq]
            omega
          go_wp2_with (go_at_call 112; refine hc.mono ?_; rintro e w2 ⟨rfl, hb2⟩)
          go_ret2
          refine ⟨lo, by rw [HC.out]; simp, fun _ => ?_, hb.trans (hb2.mono hb.size)⟩
          obtain ⟨h1, h2, h3⟩ := HF.out
          have := h3.1 hr0
          omega
        · have HC : Hid (codeB c = false) := by
            obtain ⟨h1, h2, h3⟩ := HF.out
            have h4 : f.1 ≠ c := fun h => hr0 (h3.2 h)
            obtain ⟨h5, h6⟩ := I.out
            show codeB c = false
            unfold codeB
            simp only [decide_eq_false_iff_not]
            omega
          go_wp2_with (go_at_call 112; refine hc.mono ?_; rintro e w2 ⟨rfl, hb2⟩)
          go_ret2
          exact ⟨lo, by rw [HC.out]; simp [hr0], (fun h => by rw [HC.out] at h; cases h), hb.trans (hb2.mono hb.size)⟩
      · obtain rfl : lo = 36 := by omega
        have HC : Hid (codeB c = false) := by
          obtain ⟨h5, h6⟩ := I.out
          show codeB c = false
          unfold codeB
          simp only [decide_eq_false_iff_not]
          omega
        clear h
        go_wp2_with fail
        go_ret2
        exact ⟨36, by rw [HC.out]; rfl, (fun h => by rw [HC.out] at h; cases h), hb⟩

theorem ret_form {fn : Func} {K J : Nat} {R : Ending → World → Prop} {a : Act} {W : World} {B : Nat} {v0 v1 v2 v3 b : Value} (hf : fn.results = #[.cell K 137, .tmp J]) (ht : a.tmps[K]? = some (.pointer (some ⟨B, 0, none⟩))) (hj : a.tmps[J]? = some b) (hd : a.defers = [])
    (hV : Blk 137 W B [v0, v1, v2, v3]) (hR : R (.returned (.tuple #[.agg #[v0, v1, v2, v3], b])) W) : bodyPost Tryz.prog fn R .ret a W := by
  have x0 := hV.cell 0 rfl
  have x1 := hV.cell 1 rfl
  have x2 := hV.cell 2 rfl
  have x3 := hV.cell 3 rfl
  refine bodyPost_ret ?_ hd hR
  simp [results, hf, ht, hj, go_sem, x0, x1, x2, x3]

set_option maxHeartbeats 1000000 in
theorem iFormOf {g cap : Nat} {w : World} (h : RdF w g) (c : Int) :
    Calls Tryz.prog 95 #[.slice (some ⟨g, 0, none⟩) 36 cap, .int .i64 c] w fun e w' => e = .returned (.tuple #[.agg #[.int .i64 (formAt c).1, .int .i64 (formAt c).2.1, .int .i64 (formAt c).2.2.1, .string ⟨(formAt c).2.2.2.toArray⟩], .bool (codeB c)]) ∧ Below w.heap.size w w' := by
  have hb0 : ∀ o, Below w.heap.size w (w.alloc o) := fun o => (Below.refl _ w).alloc (Nat.le_refl _) o
  have cs := fun o => iSearch (cap := cap) (h.below (hb0 o)) c
  have kB := Blk.new 137 w [.int .i64 0, .int .i64 0, .int .i64 0, .string ⟨#[]⟩]
  cases hc : codeB c
  · rw [hc] at cs
    have e : formAt c = zeroF := by unfold formAt; rw [hc]; rfl
    rw [e]
    go_enter Tryz.func95, Tryz.ntmps95
    go_wp2_with (go_at_call 111; refine (cs _).mono ?_; rintro e w2 ⟨i, rfl, -, hb2⟩; have kB2 := kB.below hb2; have q0 := kB2.cell 0 rfl; have q1 := kB2.cell 1 rfl; have q2 := kB2.cell 2 rfl; have q3 := kB2.cell 3 rfl; have fz := kB2.frozen)
    refine ret_form Tryz.results95 rfl rfl rfl ((((kB2.set 0 _).set 1 _).set 2 _).set 3 _) ⟨rfl, ?_⟩
    have B2 := (hb0 _).trans (hb2.mono (hb0 _).size)
    exact (((B2.setCell (Nat.le_refl _) _).setCell (Nat.le_refl _) _).setCell (Nat.le_refl _) _).setCell (Nat.le_refl _) _
  · rw [hc] at cs
    obtain ⟨-, -, hf⟩ := form_kinds hc
    have hi0 : (c - 1).toNat < 36 := by have := (List.getElem?_eq_some_iff.1 hf).1; rwa [tbl_len] at this
    obtain ⟨I, hI⟩ : ∃ I, I = (c - 1).toNat := ⟨_, rfl⟩
    rw [← hI] at cs hf hi0
    have R2 := fun w2 (hw : Below w.heap.size w w2) => (h.below hw).2 I (formAt c) hf
    generalize formAt c = F at *
    clear hI hf h
    go_enter Tryz.func95, Tryz.ntmps95
    go_wp2_with (go_at_call 111; refine (cs _).mono ?_; rintro e w2 ⟨i, rfl, hi, hb2⟩; have hi := hi rfl; subst hi; have kB2 := kB.below hb2; have q0 := kB2.cell 0 rfl; have q1 := kB2.cell 1 rfl; have q2 := kB2.cell 2 rfl; have q3 := kB2.cell 3 rfl; have fz := kB2.frozen; have B2 := (hb0 _).trans (hb2.mono (hb0 _).size); obtain ⟨r0, r1, r2, r3⟩ := R2 _ B2)
    refine ret_form Tryz.results95 rfl rfl rfl ((((kB2.set 0 _).set 1 _).set 2 _).set 3 _) ⟨rfl, ?_⟩
    exact (((B2.setCell (Nat.le_refl _) _).setCell (Nat.le_refl _) _).setCell (Nat.le_refl _) _).setCell (Nat.le_refl _) _

end Oc
end Go.Proofs.YtkhoccjfkkfipaaGreatDoor
