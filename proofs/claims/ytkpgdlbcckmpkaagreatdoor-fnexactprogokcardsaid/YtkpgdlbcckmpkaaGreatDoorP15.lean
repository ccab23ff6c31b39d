/-
  The forms, sorted by their codes, in a row of their own.
-/
import Derived.Test.YtkpgdlbcckmpkaaGreatDoorP14
namespace Go.Proofs.YtkpgdlbcckmpkaaGreatDoor
open Go.RowKit
namespace Oc
open St (Vl)

theorem iSortF (g cap : Nat) (L : List Fm) (w : World) (hH : Sort.HoldsK encF 4 w g 0 L.toArray) (hg : g < w.heap.size) (hsz : L.length ≤ 36) :
    Calls Tryz.prog 43 #[.slice (some ⟨g, 0, none⟩) L.length cap, .func (.func 44) #[] #[]] w fun e w' => e = .returned (.tuple #[]) ∧
      ∃ d' n os, Sort.PermIn 0 L.length L.toArray d' ∧ Sort.SortedIn (ltOf fun x y : Fm => Lib.compareInt x.1 y.1) 0 L.length d' ∧ w' = sortWorldK encF 4 w g 0 n d' os := by
  have eg : ∀ args w, (callFunc 44 args).run Tryz.prog w = .ok (.enter 44 args) w := enters_of Tryz.func44 (by kernel_rfl) rfl
  have hl : CmpLays Tryz.prog 44 #[] encF 4 (fun x y : Fm => Lib.compareInt x.1 y.1) g 0 L.toArray.size w := fun _ _ _ _ x y => iCmp x y _
  have hcon := AnyQ.slices_SortFunc Tryz.sortForm 4 Tryz.isAgg63 Tryz.sizeOf63 encF (fun _ => rfl) (fun x v hv => by simp [encF] at hv; rcases hv with rfl | rfl | rfl | rfl <;> rfl) (fun x y : Fm => Lib.compareInt x.1 y.1) swoCode 44 #[] g 0 cap L.toArray w eg hl hH hg (by simp; omega)
  change Calls Tryz.prog 43 _ _ _ at hcon
  simp only [List.size_toArray] at hcon
  exact hcon

theorem perm_of {L : List Fm} {d : Array Fm} (hp : Sort.PermIn 0 L.length L.toArray d) (hs : Sort.SortedIn (ltOf fun x y : Fm => Lib.compareInt x.1 y.1) 0 L.length d) (hL : L.Perm tbl) : d.toList = tbl := by
  obtain ⟨h1, _, h3⟩ := hp
  simp only [List.size_toArray] at h1
  have e1 : d.extract 0 L.length = d := by rw [← h1]; simp
  have e2 : L.toArray.extract 0 L.length = L.toArray := by simp
  rw [e1, e2] at h3
  refine sorted_is (h3.trans hL) (List.pairwise_iff_getElem.2 fun i j hi hj hij => ?_)
  have := hs i j (Nat.zero_le _) hij (by simpa [h1] using hj)
  rw [ltCode] at this
  simp only [Array.length_toList] at hi hj
  rw [getElem!_pos d i hi, getElem!_pos d j hj] at this
  simpa using this

theorem rdF_sorted {w : World} {g n : Nat} {os : Array Obj} {L : List Fm} {d : Array Fm} (hH : Sort.HoldsK encF 4 w g 0 L.toArray) (hg : g < w.heap.size) (hl : d.size = L.length) (hd : d.toList = tbl) : RdF (sortWorldK encF 4 w g 0 n d os) g := by
  have hds : d.size = 36 := by rw [← Array.length_toList, hd, tbl_len]
  unfold Sort.HoldsK at hH
  have hg' : g < (Sort.putRowK encF 4 (Sort.ahead w n) g 0 d).heap.size := by simpa [Sort.putRowK, Sort.putRow, Sort.mapBlock, Sort.ahead] using hg
  have key : ∀ t, t < 144 → (sortWorldK encF 4 w g 0 n d os).cell? ⟨g, t, none⟩ = some ((encF d[t / 4]!)[t % 4]!) := by
    intro t ht
    have h1 : (sortWorldK encF 4 w g 0 n d os).heap[g]? = (Sort.putRowK encF 4 (Sort.ahead w n) g 0 d).heap[g]? := Sort.heap_grow_old _ _ hg'
    have h2 : (Sort.putRow id (Sort.ahead w n) g 0 (Sort.flatK encF 4 d)).cell? ⟨g, 0 + t, none⟩ = some (id (Sort.flatK encF 4 d)[t]!) := Sort.cell?_putRow id (Sort.ahead w n) g 0 (Sort.flatK encF 4 L.toArray) (Sort.flatK encF 4 d) hH (by simp [hl]) t (by simp [hds]; omega)
    rw [Nat.zero_add, Sort.get_flatK _ _ _ _ (by rw [hds]; omega)] at h2
    have h3 : (sortWorldK encF 4 w g 0 n d os).cell? ⟨g, t, none⟩ = (Sort.putRow id (Sort.ahead w n) g 0 (Sort.flatK encF 4 d)).cell? ⟨g, t, none⟩ := by
      simp only [World.cell?]
      rw [h1]
      rfl
    rw [h3, h2]
    rfl
  refine ⟨by simp only [sortWorldK, Sort.grow, Array.size_append]; omega, fun i f hi => ?_⟩
  have hil : i < 36 := by have := (List.getElem?_eq_some_iff.1 hi).1; rwa [tbl_len] at this
  have hdi : d[i]! = f := by
    rw [getElem!_pos d i (by omega)]
    rw [← hd] at hi
    simp only [Array.getElem?_toList] at hi
    exact (Array.getElem?_eq_some_iff.1 hi).2
  have k : ∀ j, j < 4 → (sortWorldK encF 4 w g 0 n d os).cell? ⟨g, i * 4 + j, none⟩ = some ((encF f)[j]!) := fun j hj => by
    have := key (i * 4 + j) (by omega)
    rwa [show (i * 4 + j) / 4 = i by omega, show (i * 4 + j) % 4 = j by omega, hdi] at this
  exact ⟨k 0 (by omega), k 1 (by omega), k 2 (by omega), k 3 (by omega)⟩

theorem grown_sorted {w : World} {g n : Nat} {os : Array Obj} (d : Array Fm) : w.grownBy (sortWorldK encF 4 w g 0 n d os) (some g) := by
  refine ⟨rfl, rfl, rfl, by simp [sortWorldK, Sort.grow, Sort.putRowK, Sort.putRow, Sort.mapBlock, Sort.ahead], fun k hk hne => ?_⟩
  unfold sortWorldK
  rw [Sort.heap_grow_old _ _ (by simpa [Sort.putRowK, Sort.putRow, Sort.mapBlock, Sort.ahead] using hk)]
  have : g ≠ k := fun e => hne (by rw [e])
  simp [Sort.putRowK, Sort.putRow, Sort.mapBlock, Sort.ahead, Array.getElem?_modify, this]

theorem holds_of {w : World} {g : Nat} {cur : Array Value} {e : TypeId} {L : List Fm} (hb : w.heap[g]? = some (.cells cur e (0, 0))) (ht : cur.toList.take (L.length * 4) = L.flatMap encF) : Sort.HoldsK encF 4 w g 0 L.toArray := by
  intro j hj
  have hj' : j < L.length * 4 := by simpa using hj
  refine ⟨?_, by simp [World.frozen?, hb]⟩
  have h1 : (cur.toList.take (L.length * 4))[j]? = (L.flatMap encF)[j]? := by rw [ht]
  have hd : j / 4 < L.length := by omega
  rw [List.getElem?_take_of_lt hj', St.fm_get (m := 4) (by omega) encF_len, List.getElem?_eq_getElem hd, Option.bind_some] at h1
  have hm : j % 4 < (encF L[j / 4]).length := by rw [encF_len]; omega
  rw [List.getElem?_eq_getElem hm] at h1
  rw [Sort.get_flatK _ _ _ _ (by simpa using hj')]
  simp only [World.cell?, hb, Nat.zero_add]
  rw [getElem!_pos L.toArray (j / 4) (by simpa using hd)]
  simp only [List.getElem_toArray, id]
  rw [getElem!_pos (encF L[j / 4]) (j % 4) hm]
  simpa using h1

theorem infoForm : (Tryz.prog.info? 63).map (fun i => (i.zero, i.size, i.bytes)) = some (some (.agg #[.int .i64 0, .int .i64 0, .int .i64 0, .string ⟨#[]⟩]), 4, 40) := by kernel_rfl
theorem cells_new (W : World) (xs : List Value) (T : TypeId) : ∀ j u, xs[j]? = some u → (W.alloc (.cells xs.toArray T)).cell? ((⟨W.heap.size, 0, none⟩ : Addr).add j) = some u := by
  intro j u hj
  have h := heap_new W (.cells xs.toArray T)
  have hadd : (⟨W.heap.size, 0, none⟩ : Addr).add j = ⟨W.heap.size, j, none⟩ := by unfold Addr.add; split <;> simp_all
  rw [hadd]
  simp only [World.cell?, h]
  simpa using hj

set_option maxHeartbeats 1000000 in
set_option maxRecDepth 100000 in
theorem iSorted (w : World) : Calls Tryz.prog 30 #[] w fun e w' => ∃ g cap, e = .returned (.slice (some ⟨g, 0, none⟩) 36 cap) ∧ RdF w' g ∧ Below w.heap.size w w' := by
  obtain ⟨i0, hi0, hz0, hz1, hz2⟩ := info_parts infoForm
  have cF := fun w => iForms w
  go_enter Tryz.func30, Tryz.ntmps30
  go_wp2_with (first
    | (go_at_call 42; refine (cF _).mono ?_; rintro e w1 ⟨rfl, hM1, hB1, hs1⟩; have hM := hM1.all; clear hM1)
    | (at_range; refine wpList_range_own _ rfl _ 78 rfl 9 63 keyS Tryz.underlying78 Rf w.heap.size 36 _ rfl hM ?_; intro w0 hrg0 hg0 hs0))
  go_frame
  clear cF hM
  have hB0 := hB1.grown hg0 hB1.size (fun j hj => by cases hj)
  go_loopw [1] (fun v wr => ∃ (left : Lit → Bool) (cnt : Nat) (L : List Fm), wr.ranges Tryz.prog 9 Rf w.heap.size w1.heap.size 36 (dR tbl.reverse) left cnt ∧ wr.ownsRow w1.heap.size 63 4 v L.length (L.flatMap encF) ∧ Came left L ∧ Below w.heap.size w wr ∧ w1.heap.size ≤ wr.heap.size)
    (fun _ wr => wr.rangeLeft w.heap.size w1.heap.size)
  case atStart => exact ⟨_, _, [], hrg0, World.ownsRow_nil _ _ _ _, Came.start, hB0, by omega⟩
  case round =>
    clear hrg0 hg0 hs0 hB0
    obtain ⟨left, cnt, L, hrg, hrow, hC, hnx, hsz⟩ := hrel
    go_wp2_with (at_next; refine wpList_next_ranges _ rfl _ rfl 9 keyS Rf encStr mkV (fun key kl hk => by obtain ⟨x, hx, _⟩ := Maps.keyOf_str Tryz.underlying9 hk; exact ⟨x, hx⟩) Rf_inv w.heap.size w1.heap.size 36 _ _ _ rfl hrg ?_ ?_)
    · intro _ hl0
      have hp := hC.perm hl0
      have hL : L.length = 36 := by rw [hp.length_eq, tbl_len]
      rcases hrow.2 with ⟨_, hn⟩ | ⟨g, cap, cur, rfl, hbase, hb, h1, h2, h3, h4⟩
      · omega
      have hH := holds_of hb h4
      have hgl : g < wr.heap.size := (Array.getElem?_eq_some_iff.1 hb).1
      have hc := iSortF g cap L wr hH hgl hC.len
      have HL : Hid (L.length = 36) := hL
      clear hL hb h1 h2 h3 h4 hrow hrg
      go_wp2_with (go_at_call 43; refine hc.mono ?_; rintro e w2 ⟨rfl, d', n, os, hpm, hsd, rfl⟩)
      go_ret
      have hd := perm_of hpm hsd hp
      refine ⟨g, cap, by first | rfl | (rw [HL.out]; rfl), rdF_sorted hH hgl (by simpa using hpm.1) hd, hnx.grown (grown_sorted d') hnx.size (fun j hj => by cases hj; omega)⟩
    · intro x c0 c1 c2 kl yd yp w2 cnt2 hkey hlk hv hat hrg2 hlt hg2 hs2 hen
      obtain ⟨x', ex, rfl, _⟩ := Maps.keyOf_str Tryz.underlying9 hkey
      obtain rfl : x = x' := encStr_inj ex
      rw [Rf_mk] at hv
      cases hv
      have hrow2 := hrow.kept hg2 (Or.inr (row_ne_iter hrow hrg).symm)
      have hC2 := hC.step hlk hat
      have hln := hC.len
      have hnx2 := hnx.grown hg2 hnx.size (fun j hj => by cases hj; omega)
      have hsz2 := Nat.le_trans hsz hg2.size
      simp only [mkV, encStr] at hen
      clear hs2 hg2 hC hkey ex hat hlk
      go_wp2_with (at_builtin; refine hold ?_)
      have hr3 := (hrow2.alloc (.cells (encF (c0, c1, c2, x)).toArray 63)).alloc (.cells (encF (c0, c1, c2, x)).toArray 63)
      have hq3 := (hrg2.alloc (.cells (encF (c0, c1, c2, x)).toArray 63)).alloc (.cells (encF (c0, c1, c2, x)).toArray 63)
      have hnew := cells_new (w2.alloc (.cells (encF (c0, c1, c2, x)).toArray 63)) (encF (c0, c1, c2, x)) 63
      rw [World.size_alloc] at hnew
      have hsz3 : w1.heap.size ≤ ((w2.alloc (.cells (encF (c0, c1, c2, x)).toArray 63)).alloc (.cells (encF (c0, c1, c2, x)).toArray 63)).heap.size := by simp; omega
      have hb3 : Below w.heap.size w ((w2.alloc (.cells (encF (c0, c1, c2, x)).toArray 63)).alloc (.cells (encF (c0, c1, c2, x)).toArray 63)) := (hnx2.alloc hnx2.size _).alloc (by have := hnx2.size; simp; omega) _
      refine wpList_append_own _ rfl _ _ 57 rfl w1.heap.size 63 i0 _ 4 40 Tryz.underlying57 hi0 hz0 hz1 hz2 rfl (by decide) u1 L.length (L.flatMap encF) rfl hr3 ⟨w2.heap.size + 1, 0, none⟩ 1 1 (encF (c0, c1, c2, x)) rfl rfl hnew (by simp [encF, Value.oneCell']) (by unfold maxLen; omega) (by omega) hsz3 ?_
      intro v' w3 hown' hg3 _
      have hrg3 := hq3.kept hg3 (row_ne_low hr3 hs1) (row_ne_iter hr3 hq3)
      have hb4 := hb3.grown hg3 hb3.size (fun j hj => by have := (hr3.lt j hj).1; omega)
      have hsz4 := Nat.le_trans hsz3 hg3.size
      have HN : Hid (w3.ranges Tryz.prog 9 Rf w.heap.size w1.heap.size 36 (dR tbl.reverse) (fun z => left z && !z.sameKey (.string x)) cnt2 ∧ w3.ownsRow w1.heap.size 63 4 v' (L ++ [(c0, c1, c2, x)]).length ((L ++ [(c0, c1, c2, x)]).flatMap encF) ∧ Came (fun z => left z && !z.sameKey (.string x)) (L ++ [(c0, c1, c2, x)]) ∧ Below w.heap.size w w3 ∧ w1.heap.size ≤ w3.heap.size) :=
        ⟨hrg3, by simpa using hown', hC2, hb4, hsz4⟩
      have HR : Hid (w3.rangeLeft w.heap.size w1.heap.size < wr.rangeLeft w.heap.size w1.heap.size) := by show _ < _; rw [hrg3.left_eq, hrg.left_eq]; exact hlt
      clear hr3 hq3 hnew hsz3 hb3 hown' hg3 hrg3 hb4 hsz4 hC2 hrow hrow2 hrg hrg2 hnx2 hsz2 hnx hlt
      go_wp2_with fail
      go_roundw
      case rel => exact ⟨_, cnt2, _, HN.out⟩
      case measure => exact HR.out

end Oc
end Go.Proofs.YtkpgdlbcckmpkaaGreatDoor

