/-
  Chapter 5's specification: l5Of at patterns without kids.
  Chapter 5's specification: l5From at every right pattern.
  Chapter 5's specification: all parts of a pattern, one behind the other.
-/
import Derived.Test.YtgdnlmaacnnfiaaGreatDoorQ16
import Derived.Test.YtgdnlmaacnnfiaaGreatDoorQ06
namespace Go.Proofs.YtgdnlmaacnnfiaaGreatDoor
open Go.RowKit
namespace Mt
open Rx Clo

set_option maxHeartbeats 4000000 in
set_option maxRecDepth 100000 in
theorem sOfLeaf {w0 : World} {p e np : Nat} {s : ByteArray} {ts : Nat → Data} {kn : Nat → List Nat} (hSt : St w0 p e np s ts kn) {n : Nat} {op' c' : Nat} {ss' : List UInt8} {no' : Bool} (hn : n < np) (ht : ts n = nd op' c' ss' no' []) (hop : op' ≠ 6 ∧ op' ≠ 7 ∧ op' ≠ 8 ∧ op' ≠ 9 ∧ op' ≠ 10)
    (hO : ∀ at' w ao m cap, at' ≤ s.size → Calls Tryz.prog 85 #[.agg #[.int .i64 op', .int .i64 c', .string ⟨ss'.toArray⟩, .bool no', .slice ao m cap], .string s, .int .i64 at'] w fun e w' => OneOut s (ts n) at' w e w') : OfOk w0 p e np s ts n := by
  intro A at' w hat hA hb hM
  obtain ⟨q, cq, op, c, ss, no, ao, m, cap, bo, cap', hql, h0, hte, k0, k1, k2, k3, k4, k5, kk⟩ := hSt.part hb hn
  rw [ht] at hte
  obtain ⟨rfl, rfl, rfl, rfl, hkt⟩ := nd_inj hte
  obtain ⟨N1, hN1⟩ : ∃ N1 : Nat, N1 = s.size + 1 := ⟨_, rfl⟩
  have hsm := hSt.small
  have hel := hSt.el
  have hfew := hSt.few
  have bN : (N1 : Int) ≤ 1001 := by omega
  have bn : (n : Int) < np := by omega
  have t1 : (s.size : Int) + 1 = (N1 : Int) := by omega
  have hw0 := hb.2.2.2.1
  have bs : (s.size : Int) ≤ 1000 := by omega
  have hmk := run_make_row' (P := Tryz.prog) 60 4 (.bool false) 1 Tryz.underlying60 Tryz.infoBoolr rfl .i64 .i64 N1 (by omega) (by omega)
  obtain ⟨c1, -⟩ := hSt.cells hb
  have hpl : p < w.heap.size := lt_of_cell c1
  have HN : Hid (N1 = s.size + 1) := hN1
  obtain ⟨q6, q7, q8, q9, q10⟩ := hop
  have e6 : ¬ (op' : Int) = 6 := by omega
  have e7 : ¬ (op' : Int) = 7 := by omega
  have e8 : ¬ (op' : Int) = 8 := by omega
  have e9 : ¬ (op' : Int) = 9 := by omega
  have e10 : ¬ (op' : Int) = 10 := by omega
  have bat : (at' : Int) < N1 := by omega
  obtain ⟨zs, hzs⟩ : ∃ zs : ByteArray, zs = ⟨ss'.toArray⟩ := ⟨_, rfl⟩
  rw [← hzs] at k2
  have hO' := fun w => hO at' w ao m cap hat
  rw [← hzs] at hO'
  clear hN1 hzs hO q6 q7 q8 q9 q10 ht hkt hte
  go_enter Tryz.func58, Tryz.ntmps58
  go_wp2_with fail
  obtain ⟨w2, hw2⟩ : ∃ w2, w2 = (w.alloc (.cells (madeCells #[.bool false] N1) 4)).alloc (.cells #[.int .i64 op', .int .i64 c', .string zs, .bool no', .slice ao m cap, .slice bo (kn n).length cap'] 115) := ⟨_, rfl⟩
  have hK2 : Kp w0.heap.size e w w2 := by rw [hw2]; exact ((Kp.refl _ _ w).alloc _).alloc _
  have hM2 : Memo (fun k => A k ∨ k = w.heap.size) w0.heap.size e np s.size (gOf s) ts w2 := by rw [hw2]; exact memo_alloc (memo_fresh hM _) _
  have hB2 : Bs w.heap.size N1 (fun _ => false) w2 := by rw [hw2]; exact bs_fresh.kept (Below.heap_alloc _ _ _ (by simp))
  have hx2 : w2.heap[w.heap.size + 1]? = some (.cells #[.int .i64 op', .int .i64 c', .string zs, .bool no', .slice ao m cap, .slice bo (kn n).length cap'] 115 (0, 0)) := by
    rw [hw2]
    have := heap_alloc_last (w.alloc (.cells (madeCells #[.bool false] N1) 4)) (.cells #[.int .i64 op', .int .i64 c', .string zs, .bool no', .slice ao m cap, .slice bo (kn n).length cap'] 115)
    rw [World.size_alloc] at this
    exact this
  have hs2 : w2.heap.size = w.heap.size + 2 := by rw [hw2]; simp
  rw [← hw2]
  clear hw2
  have x0 : w2.cell? ⟨w.heap.size + 1, 0, none⟩ = some (.int .i64 op') := by rw [cell_of_row _ _ _ _ _ _ hx2]; rfl
  have x1 : w2.cell? ⟨w.heap.size + 1, 1, none⟩ = some (.int .i64 c') := by rw [cell_of_row _ _ _ _ _ _ hx2]; rfl
  have x2 : w2.cell? ⟨w.heap.size + 1, 2, none⟩ = some (.string zs) := by rw [cell_of_row _ _ _ _ _ _ hx2]; rfl
  have x3 : w2.cell? ⟨w.heap.size + 1, 3, none⟩ = some (.bool no') := by rw [cell_of_row _ _ _ _ _ _ hx2]; rfl
  have x4 : w2.cell? ⟨w.heap.size + 1, 4, none⟩ = some (.slice ao m cap) := by rw [cell_of_row _ _ _ _ _ _ hx2]; rfl
  obtain ⟨c1', -⟩ := hSt.cells (hb.kp hK2)
  have hO2 : ∀ wx, Below w2.heap.size w2 wx → Calls Tryz.prog 85 #[.agg #[.int .i64 op', .int .i64 c', .string zs, .bool no', .slice ao m cap], .string s, .int .i64 at'] wx fun e w' => ∃ (mm : Nat) (ok : Bool), e = .returned (.tuple #[.int .i64 mm, .bool ok]) ∧ mm ≤ 1 ∧ (ok = true → at' + mm ≤ s.size) ∧ (∀ j, Fit (gOf s) s.size (ts n) at' j ↔ ok = true ∧ j = at' + mm) ∧ Below w2.heap.size w2 w' := by
    intro wx hx
    refine (hO' wx).mono ?_
    rintro en w3 ⟨mm, ok, rfl, a1, a2, a3, a4⟩
    exact ⟨mm, ok, rfl, a1, a2, a3, hx.trans (a4.mono hx.size)⟩
  have hb2 : Below w2.heap.size w2 w2 := Below.refl _ _
  clear hO'
  go_region_with (first | (go_at_call 85; refine (hO2 _ (by first | exact hb2 | exact hb2.drew | exact hb2.drew.drew | exact below_drewN hb2 _)).mono ?_; rintro en w3 ⟨mm, ok, rfl, a1, a2, a3, a4⟩))
  all_goals (
    have hK3 := kp_below hK2 a4
    have hM3 := memo_below hM2 a4
    have hB3 := hB2.kept (a4.block _ hB2.lt)
    have hl3 := a4.size)
  all_goals (
    rcases ok with _ | _
    · go_wp2_with fail
      go_ret
      refine ⟨w.heap.size, by rw [← HN.out]; rfl, ?_, by omega, fun h => by have := hA _ h; omega, hb.kp hK3, memo_mono hM3 (fun k _ h => .inl h), hK3⟩
      rw [← HN.out]
      refine bs_ends hB3 fun k _ => ?_
      rw [a3 k]
      simp
    · have hle := a2 rfl
      have bmm : (mm : Int) ≤ 1 := by omega
      obtain ⟨ix, hix⟩ : ∃ ix, ix = at' + mm := ⟨_, rfl⟩
      have t2 : (at' : Int) + mm = (ix : Int) := by omega
      have hN := HN.out
      have hlt : ix < N1 := by omega
      have hltI : (ix : Int) < N1 := by omega
      have HX : Hid (ix = at' + mm) := hix
      clear hN hix
      have cc := bs_cell hB3 hlt
      have ff := bs_frozen hB3 ix
      have hB5 := bs_put hB3 ix true
      have hK5 := hK3.set (q := w.heap.size) (Nat.le_refl _) (by omega) ix (.bool true)
      have hM5 := memo_set hM3 (q := w.heap.size) (.inr rfl) (by omega) ix (.bool true)
      go_wp2_with fail
      go_ret
      refine ⟨w.heap.size, by rw [← HN.out]; rfl, ?_, by omega, fun h => by have := hA _ h; omega, hb.kp hK5, memo_mono hM5 (fun k _ h => .inl h), hK5⟩
      rw [← HN.out]
      refine bs_ends hB5 fun k _ => ?_
      rw [a3 k, ← HX.out]
      unfold putB
      by_cases hk : k = ix
      · simp [hk]
      · simp [hk])

end Mt
end Go.Proofs.YtgdnlmaacnnfiaaGreatDoor

namespace Go.Proofs.YtgdnlmaacnnfiaaGreatDoor
open Go.RowKit
namespace Mt
open Rx Clo

theorem map_one {ts : Nat → Data} {kn : List Nat} {t : Data} (h : [t] = kn.map ts) : ∃ k, kn = [k] ∧ t = ts k := by
  match kn, h with
  | [k], h => simp at h; exact ⟨k, rfl, h⟩

theorem sFromAll {w0 : World} {p e np : Nat} {s : ByteArray} {ts : Nat → Data} {kn : Nat → List Nat} (hSt : St w0 p e np s ts kn) (hkl : ∀ n, n < np → (kn n).length ≤ 100000) : ∀ (d n : Nat), n < np → RightD d (ts n) → FromOk w0 p e np s ts n := by
  intro d
  induction d with
  | zero => intro n _ h; exact h.elim
  | succ d ih =>
    intro n hn h
    have hR := h
    refine sFrom hSt hn ?_
    rw [RightD] at h
    obtain ⟨q, cq, _, _, hp⟩ := hSt.parts
    obtain ⟨op, c, ss, no, _, _, _, _, _, ht, _⟩ := (hp n hn).is
    have hs := hSt.small
    rcases h with ⟨b, hb, he⟩ | ⟨op', ho, he⟩ | ⟨M, no', hM, he⟩ | ⟨op', k, ho, he, hk⟩ | ⟨op', ks, ho, he, hl, hk⟩
    · exact sOfLeaf hSt hn he (by omega) (fun at' w ao m cap hat => by rw [he]; exact sOneChr b s at' hat w ao m cap)
    · rcases ho with rfl | rfl | rfl | rfl
      · exact sOfLeaf hSt hn he (by omega) (fun at' w ao m cap hat => by rw [he]; exact sOneAny s at' hat w ao m cap)
      · exact sOfLeaf hSt hn he (by omega) (fun at' w ao m cap hat => by rw [he]; exact sOneStart s at' hat w ao m cap)
      · exact sOfLeaf hSt hn he (by omega) (fun at' w ao m cap hat => by rw [he]; exact sOneEnd s at' hat w ao m cap)
      · exact sOfLeaf hSt hn he (by omega) (fun at' w ao m cap hat => by rw [he]; exact sOneNone s at' hat w ao m cap)
    · exact sOfLeaf hSt hn he (by omega) (fun at' w ao m cap hat => by rw [he]; exact sOneSet M no' s at' hat w ao m cap)
    · have h1 := ht
      rw [he] at h1
      obtain ⟨_, _, _, _, hkt⟩ := nd_inj h1
      obtain ⟨kid, hkn, hke⟩ := map_one hkt
      have hkp : kid < np := hSt.kids n hn kid (by rw [hkn]; simp)
      have hRk : RightD d (ts kid) := by rw [← hke]; exact hk
      have hF := ih kid hkp hRk
      have hle : ∀ a b, a ≤ s.size → Fit (gOf s) s.size (ts kid) a b → b ≤ s.size := fun a b ha hf => fit_le d (ts kid) hRk a b hf ha
      rcases ho with rfl | rfl | rfl
      · exact sOfStar hSt hn he hkn hF hle
      · exact sOfPlus hSt hn he hkn hF hle
      · exact sOfMay hSt hn he hkn hF
    · have h1 := ht
      rw [he] at h1
      obtain ⟨_, _, _, _, hkt⟩ := nd_inj h1
      have hRk : ∀ k ∈ kn n, RightD d (ts k) := fun k hm => hk (ts k) (by rw [hkt]; exact List.mem_map.2 ⟨k, hm, rfl⟩)
      have hF : ∀ k ∈ kn n, FromOk w0 p e np s ts k := fun k hm => ih k (hSt.kids n hn k hm) (hRk k hm)
      rcases ho with rfl | rfl
      · exact sOfCat hSt hn he (hkl n hn) hF (fun k hm a b ha hf => fit_le d (ts k) (hRk k hm) a b hf ha)
      · exact sOfOr hSt hn he (hkl n hn) hF

end Mt
end Go.Proofs.YtgdnlmaacnnfiaaGreatDoor

namespace Go.Proofs.YtgdnlmaacnnfiaaGreatDoor
open Go.RowKit
namespace Mt
open Rx Clo

/-- The numbers of kids, the first of which is n. -/
def kidNs : List Data → Nat → List Nat
  | [], _ => []
  | t :: ts, n => n :: kidNs ts (n + cnt t)
mutual
/-- The parts of a pattern, the first of which is n: each one, and the numbers of its kids. -/
def flatT : Data → Nat → List (Data × List Nat)
  | .slice ks lab, n => (.slice ks lab, kidNs ks (n + 1)) :: flatTs ks (n + 1)
  | t, _ => [(t, [])]
def flatTs : List Data → Nat → List (Data × List Nat)
  | [], _ => []
  | t :: ts, n => flatT t n ++ flatTs ts (n + cnt t)
end

theorem flatT_nd (op c : Nat) (ss : List UInt8) (no : Bool) (ks : List Data) (n : Nat) : flatT (nd op c ss no ks) n = (nd op c ss no ks, kidNs ks (n + 1)) :: flatTs ks (n + 1) := by simp [nd, flatT]
theorem kidNs_len : ∀ (ts : List Data) (n : Nat), (kidNs ts n).length = ts.length
  | [], n => rfl
  | t :: ts, n => by simp [kidNs, kidNs_len ts]
theorem cnts_snoc : ∀ (ts : List Data) (t : Data), cnts (ts ++ [t]) = cnts ts + cnt t
  | [], t => by simp [cnts]
  | t' :: ts, t => by simp [cnts, cnts_snoc ts t]; omega
theorem kidNs_snoc : ∀ (ts : List Data) (t : Data) (n : Nat), kidNs (ts ++ [t]) n = kidNs ts n ++ [n + cnts ts]
  | [], t, n => by simp [kidNs, cnts]
  | t' :: ts, t, n => by simp [kidNs, kidNs_snoc ts t, cnts]; omega
theorem flatTs_snoc : ∀ (ts : List Data) (t : Data) (n : Nat), flatTs (ts ++ [t]) n = flatTs ts n ++ flatT t (n + cnts ts)
  | [], t, n => by simp [flatTs, cnts]
  | t' :: ts, t, n => by simp [flatTs, flatTs_snoc ts t, cnts, Nat.add_assoc]
theorem flatTs_len_of : ∀ (ts : List Data), (∀ t ∈ ts, ∀ n, (flatT t n).length = cnt t) → ∀ n, (flatTs ts n).length = cnts ts
  | [], _, n => by simp [flatTs, cnts]
  | t :: ts, h, n => by
    simp only [flatTs, List.length_append, cnts]
    rw [h t (by simp), flatTs_len_of ts (fun t ht => h t (by simp [ht]))]
theorem flatT_len (t : Data) : ∀ n, (flatT t n).length = cnt t := by
  induction t using rex_ind with
  | h ks lab ih =>
    intro n
    simp only [flatT, List.length_cons, cnt]
    rw [flatTs_len_of ks ih]
  | h1 t ht =>
    intro n
    cases t <;> first | rfl | exact absurd rfl (ht _ _)
theorem flatTs_len (ts : List Data) (n : Nat) : (flatTs ts n).length = cnts ts := flatTs_len_of ts (fun t _ => flatT_len t) n

def tsG (G : List (Data × List Nat)) (m : Nat) : Data := (G[m]?.map Prod.fst).getD (leaf 0)
def knG (G : List (Data × List Nat)) (m : Nat) : List Nat := (G[m]?.map Prod.snd).getD []

/-- H lies in G from n on. -/
def In (G H : List (Data × List Nat)) (n : Nat) : Prop := ∀ i x, H[i]? = some x → G[n + i]? = some x
theorem In.left {G H H' : List (Data × List Nat)} {n : Nat} (h : In G (H ++ H') n) : In G H n := fun i x hx => h i x (by rw [List.getElem?_append_left (List.getElem?_eq_some_iff.1 hx).1]; exact hx)
theorem In.right {G H H' : List (Data × List Nat)} {n : Nat} (h : In G (H ++ H') n) : In G H' (n + H.length) := fun i x hx => by
  have := h (H.length + i) x (by rw [List.getElem?_append_right (by omega)]; simpa using hx)
  rw [Nat.add_assoc]
  exact this
theorem In.tail {G H : List (Data × List Nat)} {y : Data × List Nat} {n : Nat} (h : In G (y :: H) n) : In G H (n + 1) := fun i x hx => by
  have := h (i + 1) x (by simpa using hx)
  rw [show n + 1 + i = n + (i + 1) by omega]
  exact this

theorem kids_in_of {G : List (Data × List Nat)} : ∀ (ts : List Data) (n : Nat), In G (flatTs ts n) n → (∀ t ∈ ts, ∀ n, In G (flatT t n) n → tsG G n = t ∧ n < G.length) → (kidNs ts n).map (tsG G) = ts ∧ ∀ k ∈ kidNs ts n, k < G.length
  | [], n, _, _ => by simp [kidNs]
  | t :: ts, n, h, ht => by
    simp only [flatTs] at h
    obtain ⟨h1, h2⟩ := ht t (by simp) n h.left
    have h3 := h.right
    rw [flatT_len] at h3
    obtain ⟨h4, h5⟩ := kids_in_of ts _ h3 (fun t hm => ht t (by simp [hm]))
    simp only [kidNs, List.map_cons, h1, h4, List.mem_cons, true_and]
    rintro k (rfl | hk)
    · exact h2
    · exact h5 k hk

theorem flat_head {G : List (Data × List Nat)} {t : Data} {n : Nat} (h : In G (flatT t n) n) : tsG G n = t ∧ n < G.length := by
  have hg : ∃ kn, G[n]? = some (t, kn) := by
    cases t with
    | slice ks lab => exact ⟨_, by have := h 0 (.slice ks lab, kidNs ks (n + 1)) (by simp [flatT]); simpa using this⟩
    | _ => exact ⟨[], by have := h 0 (_, []) (by simp only [flatT]; rfl); simpa using this⟩
  obtain ⟨kn, hg⟩ := hg
  exact ⟨by simp [tsG, hg], (List.getElem?_eq_some_iff.1 hg).1⟩

/-- Each part's kids are the parts that it numbers. -/
theorem flat_good {G : List (Data × List Nat)} (t : Data) : ∀ n, In G (flatT t n) n → ∀ m, n ≤ m → m < n + cnt t → (∀ ks lab, tsG G m = .slice ks lab → (knG G m).map (tsG G) = ks ∧ ∀ k ∈ knG G m, k < G.length) := by
  induction t using rex_ind with
  | h ks lab ih =>
    intro n h m h1 h2 ks' lab' he
    simp only [flatT] at h
    have h0 : G[n]? = some (.slice ks lab, kidNs ks (n + 1)) := by have := h 0 _ rfl; simpa using this
    have hk := kids_in_of ks (n + 1) h.tail (fun t _ n hn => flat_head hn)
    by_cases e : m = n
    · subst e
      simp only [tsG, h0, Option.map_some, Option.getD_some, Data.slice.injEq] at he
      obtain ⟨rfl, _⟩ := he
      simp only [knG, h0, Option.map_some, Option.getD_some]
      exact hk
    · have go : ∀ (ts : List Data) (n' : Nat), (∀ t ∈ ts, t ∈ ks) → In G (flatTs ts n') n' → n' ≤ m → m < n' + cnts ts → (knG G m).map (tsG G) = ks' ∧ ∀ k ∈ knG G m, k < G.length := by
        intro ts
        induction ts with
        | nil => intro n' _ _ h3 h4; simp [cnts] at h4; omega
        | cons t ts ih2 =>
          intro n' hs hin h3 h4
          simp only [flatTs] at hin
          simp only [cnts] at h4
          rcases Nat.lt_or_ge m (n' + cnt t) with h5 | h5
          · exact ih t (hs t (by simp)) n' hin.left m h3 h5 ks' lab' he
          · have hr := hin.right
            rw [flatT_len] at hr
            exact ih2 (n' + cnt t) (fun t ht => hs t (by simp [ht])) hr h5 (by omega)
      simp only [cnt] at h2
      exact go ks (n + 1) (fun _ h => h) h.tail (by omega) (by omega)
  | h1 t ht =>
    intro n h m h1 h2 ks' lab' he
    have hc : cnt t = 1 := by cases t <;> first | rfl | exact absurd rfl (ht _ _)
    obtain rfl : m = n := by omega
    rw [(flat_head h).1] at he
    exact absurd he (ht _ _)

/-! in the heap -/

/-- One part, its list of kids not at Av. -/
def PartIs (w : World) (p : Nat) (Av : Nat → Prop) (x : Data × List Nat) (cs : List Value) : Prop :=
  ∃ (op c : Nat) (ss : List UInt8) (no : Bool) (ks : List Data) (ao : Option Addr) (m cap : Nat) (kv : Value), x.1 = nd op c ss no ks ∧ cs = [.int .i64 op, .int .i64 c, .string ⟨ss.toArray⟩, .bool no, .slice ao m cap, kv] ∧ w.ownsRow (p + 1) 3 1 kv x.2.length (ints (natI x.2)) ∧ ∀ b, kv.ownBlock = some b → ¬ Av b
def PartsIs (w : World) (p : Nat) (Av : Nat → Prop) : List (Data × List Nat) → List Value → Prop
  | [], xs => xs = []
  | x :: G, xs => ∃ c1 c2, xs = c1 ++ c2 ∧ PartIs w p Av x c1 ∧ PartsIs w p Av G c2

theorem part_len {w : World} {p : Nat} {Av : Nat → Prop} {x : Data × List Nat} {cs : List Value} (h : PartIs w p Av x cs) : cs.length = 6 := by
  obtain ⟨_, _, _, _, _, _, _, _, _, _, rfl, _⟩ := h
  rfl
theorem parts_len {w : World} {p : Nat} {Av : Nat → Prop} : ∀ {G : List (Data × List Nat)} {xs : List Value}, PartsIs w p Av G xs → xs.length = G.length * 6
  | [], xs, h => by simp only [PartsIs] at h; simp [h]
  | x :: G, xs, h => by
    simp only [PartsIs] at h
    obtain ⟨c1, c2, rfl, h1, h2⟩ := h
    have := part_len h1
    have := parts_len h2
    simp; omega
theorem part_frame {w w' : World} {p : Nat} {Av Av' : Nat → Prop} {x : Data × List Nat} {cs : List Value} (h : PartIs w p Av x cs) (hw : ∀ (k : Nat) (c : Array Value), p < k → ¬ Av k → w.heap[k]? = some (Obj.cells c 3 (0, 0)) → w'.heap[k]? = w.heap[k]? ∧ ¬ Av' k) : PartIs w' p Av' x cs := by
  obtain ⟨op, c, ss, no, ks, ao, m, cap, kv, h1, h2, h3, h4⟩ := h
  refine ⟨op, c, ss, no, ks, ao, m, cap, kv, h1, h2, Clo.owns_same h3 fun g hg => ?_, fun b hb => ?_⟩
  · obtain ⟨cs', hc⟩ := own_tag h3 hg
    exact (hw g cs' (by have := (h3.lt g hg).1; omega) (h4 g hg) hc).1
  · obtain ⟨cs', hc⟩ := own_tag h3 hb
    exact (hw b cs' (by have := (h3.lt b hb).1; omega) (h4 b hb) hc).2
theorem parts_frame {w w' : World} {p : Nat} {Av Av' : Nat → Prop} (hw : ∀ (k : Nat) (c : Array Value), p < k → ¬ Av k → w.heap[k]? = some (Obj.cells c 3 (0, 0)) → w'.heap[k]? = w.heap[k]? ∧ ¬ Av' k) : ∀ {G : List (Data × List Nat)} {xs : List Value}, PartsIs w p Av G xs → PartsIs w' p Av' G xs
  | [], xs, h => by simpa only [PartsIs] using h
  | x :: G, xs, h => by
    simp only [PartsIs] at h ⊢
    obtain ⟨c1, c2, hx, h1, h2⟩ := h
    exact ⟨c1, c2, hx, part_frame h1 hw, parts_frame hw h2⟩
theorem parts_snoc {w : World} {p : Nat} {Av : Nat → Prop} : ∀ {G : List (Data × List Nat)} {xs : List Value} {y : Data × List Nat} {cs : List Value}, PartsIs w p Av G xs → PartIs w p Av y cs → PartsIs w p Av (G ++ [y]) (xs ++ cs)
  | [], xs, y, cs, h, h' => by
    simp only [PartsIs] at h
    subst h
    simp only [List.nil_append, PartsIs]
    exact ⟨cs, [], by simp, h', rfl⟩
  | x :: G, xs, y, cs, h, h' => by
    simp only [PartsIs] at h
    obtain ⟨c1, c2, rfl, h1, h2⟩ := h
    simp only [List.cons_append, PartsIs]
    exact ⟨c1, c2 ++ cs, by simp, h1, parts_snoc h2 h'⟩
/-- A part's kids are put. -/
theorem parts_put {w : World} {p : Nat} {Av : Nat → Prop} {t : Data} {kn kn' : List Nat} {kv' : Value} (hk : w.ownsRow (p + 1) 3 1 kv' kn'.length (ints (natI kn'))) (hA : ∀ b, kv'.ownBlock = some b → ¬ Av b) {H : List (Data × List Nat)} :
    ∀ {G : List (Data × List Nat)} {xs : List Value}, PartsIs w p Av (G ++ (t, kn) :: H) xs → PartsIs w p Av (G ++ (t, kn') :: H) (xs.set (G.length * 6 + 5) kv')
  | [], xs, h => by
    simp only [List.nil_append, PartsIs] at h ⊢
    obtain ⟨c1, c2, rfl, ⟨op, c, ss, no, ks, ao, m, cap, kv, h1, rfl, h3, h4⟩, h2⟩ := h
    exact ⟨[.int .i64 op, .int .i64 c, .string ⟨ss.toArray⟩, .bool no, .slice ao m cap, kv'], c2, by simp, ⟨op, c, ss, no, ks, ao, m, cap, kv', h1, rfl, hk, hA⟩, h2⟩
  | x :: G, xs, h => by
    simp only [List.cons_append, PartsIs] at h ⊢
    obtain ⟨c1, c2, rfl, h1, h2⟩ := h
    have hl := part_len h1
    refine ⟨c1, _, ?_, h1, parts_put hk hA h2⟩
    rw [List.set_append_right _ _ (by rw [hl]; simp; omega), hl]
    congr 2
    simp; omega
theorem parts_get {w : World} {p : Nat} {Av : Nat → Prop} : ∀ {G : List (Data × List Nat)} {xs : List Value} {m : Nat} {x : Data × List Nat}, PartsIs w p Av G xs → G[m]? = some x → ∃ cs, PartIs w p Av x cs ∧ ∀ j, j < 6 → xs[m * 6 + j]? = cs[j]?
  | [], xs, m, x, h, hm => by simp at hm
  | y :: G, xs, 0, x, h, hm => by
    simp only [PartsIs] at h
    obtain ⟨c1, c2, rfl, h1, h2⟩ := h
    simp at hm
    subst hm
    have hl := part_len h1
    exact ⟨c1, h1, fun j hj => by rw [Nat.zero_mul, Nat.zero_add, List.getElem?_append_left (by omega)]⟩
  | y :: G, xs, m + 1, x, h, hm => by
    simp only [PartsIs] at h
    obtain ⟨c1, c2, rfl, h1, h2⟩ := h
    have hl := part_len h1
    obtain ⟨cs, h3, h4⟩ := parts_get h2 (by simpa using hm)
    exact ⟨cs, h3, fun j hj => by rw [← h4 j hj, List.getElem?_append_right (by omega)]; congr 1; omega⟩

end Mt
end Go.Proofs.YtgdnlmaacnnfiaaGreatDoor

