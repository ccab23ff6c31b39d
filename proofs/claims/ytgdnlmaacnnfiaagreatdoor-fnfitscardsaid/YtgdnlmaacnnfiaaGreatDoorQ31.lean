/-
  The program's finders are made: kids together, and again and again.
  The program's MatchTree at right patterns.
-/
import Derived.Test.YtgdnlmaacnnfiaaGreatDoorQ30
import Derived.Maps.Own
namespace Go.Proofs.YtgdnlmaacnnfiaaGreatDoor
open Go.RowKit Go.Maps
namespace Mt
open Rx Clo

set_option maxHeartbeats 2000000 in
set_option maxRecDepth 100000 in
theorem madeOneOf {s : ByteArray} {d : Nat} {ks : List Data} (ih : ∀ t ∈ ks, MadeOk s d t) (hn : ks.length ≤ 1000) (w : World) (Sp : Nat → Prop) (u : Value) (xs : List Value) (ho : w.ownsRow 0 50 1 u ks.length xs) (hx : PatsIs w ks Sp xs) (hu : ∀ g, u.ownBlock = some g → Sp g) (hS : ∀ k, Sp k → k < w.heap.size) :
    Calls Tryz.prog 21 #[.iface 98 u, .string s] w fun e w' => Made s (d + 1) (nd 7 0 [] false ks) w e w' := by
  have m1 := miss_textStart 98 (by decide)
  have m2 := miss_textEnd 98 (by decide)
  have m3 := miss_inRow 98 (by decide)
  have m4 := hit_oneOf
  have hmf : ∀ (fn : Fn) (first cap : Array Value) (w : World), (Instr.makeFunc fn first cap).run Tryz.prog w = .ok (.func fn first cap) w := fun _ _ _ _ => rfl
  obtain ⟨ao, cap, rfl⟩ : ∃ ao cap, u = .slice ao ks.length cap := by
    rcases ho.2 with ⟨h0, h1⟩ | ⟨g, cap, cur, h0, _⟩
    · exact ⟨none, 0, by rw [h0, h1]⟩
    · exact ⟨_, _, h0⟩
  obtain ⟨w2, hw2⟩ : ∃ w2, w2 = (w.alloc (.cells #[.iface 98 (.slice ao ks.length cap)] 50)).alloc (.cells #[.string s] 9) := ⟨_, rfl⟩
  have hb2 : Below w.heap.size w w2 := by rw [hw2]; exact below2 _ _ _
  have hs2 : w2.heap.size = w.heap.size + 2 := by rw [hw2]; simp
  have call := iFindersOf ih (by omega) w2 Sp _ xs (Clo.owns_same ho fun g hg => hb2.block g (hS g (hu g hg))) (pats_frame (fun k hk => hb2.block k (hS k hk)) (fun _ h => h) hx) (fun k hk => by have := hS k hk; omega)
  have HW2 : Hid (w2 = (w.alloc (.cells #[.iface 98 (.slice ao ks.length cap)] 50)).alloc (.cells #[.string s] 9)) := hw2
  have HS2 : Hid (w2.heap.size = w.heap.size + 2) := hs2
  clear hw2 hs2
  go_enter Tryz.func21, Tryz.ntmps21
  go_wp2_with fail
  rw [← HW2.out]
  refine call.mono ?_
  rintro e w3 ⟨fs, Ss, rfl, hfl, hfo, hSs, hSd, hF, hb3⟩
  have hs3 := hb3.size
  go_wp2_with (go_at_call 47; go_in)
  go_ret
  have hs2 := HS2.out
  have hbw : Below w.heap.size w w3 := hb2.trans (hb3.mono (by omega))
  refine ⟨_, _, fun k => ∃ i, Ss i k, rfl, fun k hk => ?_, hbw.alloc (by omega) _, fun w'' hag => ⟨?_, ?_⟩⟩
  · obtain ⟨i, hi⟩ := hk
    have := hSs i k hi
    simp
    omega
  · have hag3 : Agree (w2.heap.size + 1) w3.heap.size w3 w'' := fun k h1 h2 => (hag k (by omega) (by simp; omega)).trans (Below.heap_alloc _ _ _ h2)
    have hbox : Box w'' w3.heap.size fs := box_made (w := w2) (heap_alloc_last _ _) (hfo.alloc _) hfl (by omega) (by omega) (hag.mono (by omega) (Nat.le_refl _))
    rw [Fnd]
    exact .inr (.inr (.inr (.inr (.inr (.inl ⟨ks, w3.heap.size, fs, Ss, .inl rfl, rfl, hbox, hfl, ⟨fun i k h => ⟨i, h⟩, hSd⟩, fun i k f h1 h2 => (hF w'' hag3 i k f h1 h2).1⟩)))))
  · rintro k ⟨i, hi⟩
    have hag3 : Agree (w2.heap.size + 1) w3.heap.size w3 w'' := fun k h1 h2 => (hag k (by omega) (by simp; omega)).trans (Below.heap_alloc _ _ _ h2)
    have hil := (hSs i k hi).1
    exact (hF w'' hag3 i _ _ (List.getElem?_eq_getElem hil) (List.getElem?_eq_getElem (by omega))).2 k hi

theorem seen_new {w : World} : Seen (w.alloc (.map #[] 0)) w.heap.size [] := World.ownsMap_made w Tryz.prog 3 unitElem
theorem rep_made {w4 w'' : World} {lo : Nat} {f : Value} (hlo : lo ≤ w4.heap.size) (hag : Agree lo (w4.heap.size + 3) (((w4.alloc (.cells #[f] 47)).alloc (.map #[] 0)).alloc (.cells #[.map (some (w4.heap.size + 1))] 134)) w'') :
    Rep w'' (.func (.func 75) #[] #[.pointer (some ⟨w4.heap.size + 1 + 1, 0, none⟩), .pointer (some ⟨w4.heap.size, 0, none⟩)]) (w4.heap.size + 1) [] f := by
  have h1 : (((w4.alloc (.cells #[f] 47)).alloc (.map #[] 0)).alloc (.cells #[.map (some (w4.heap.size + 1))] 134)).heap[w4.heap.size + 1 + 1]? = some (.cells #[.map (some (w4.heap.size + 1))] 134 (0, 0)) := by
    have := heap_alloc_last ((w4.alloc (.cells #[f] 47)).alloc (.map #[] 0)) (.cells #[.map (some (w4.heap.size + 1))] 134)
    rw [World.size_alloc, World.size_alloc] at this
    exact this
  have h2 : (((w4.alloc (.cells #[f] 47)).alloc (.map #[] 0)).alloc (.cells #[.map (some (w4.heap.size + 1))] 134)).heap[w4.heap.size]? = some (.cells #[f] 47 (0, 0)) := by
    rw [Below.heap_alloc _ _ _ (by simp; omega), Below.heap_alloc _ _ _ (by simp)]
    exact heap_alloc_last _ _
  have h3 := seen_new (w := w4.alloc (.cells #[f] 47))
  rw [World.size_alloc] at h3
  refine ⟨_, _, rfl, (hag _ (by omega) (by omega)).trans h1, (hag _ (by omega) (by omega)).trans h2, h3.same ((hag _ (by omega) (by omega)).trans (Below.heap_alloc _ _ _ (by simp)))⟩
theorem none_set : (fun x : Nat => x ∈ ([] : List Nat)) = fun _ => False := by funext x; simp

set_option maxHeartbeats 2000000 in
set_option maxRecDepth 100000 in
theorem madeOften {s : ByteArray} {d : Nat} {k : Data} (ih : MadeOk s d k) (w : World) (Sp : Nat → Prop) (x : Value) (hx : PatIs w k Sp x) (hS : ∀ k, Sp k → k < w.heap.size) :
    Calls Tryz.prog 21 #[.iface 100 (.agg #[x]), .string s] w fun e w' => Made s (d + 1) (Rx.one 8 k) w e w' := by
  have m1 := miss_textStart 100 (by decide)
  have m2 := miss_textEnd 100 (by decide)
  have m3 := miss_inRow 100 (by decide)
  have m4 := miss_oneOf 100 (by decide)
  have m5 := hit_anyOften
  have hmm := @run_makeMap Tryz.prog
  have hmf : ∀ (fn : Fn) (first cap : Array Value) (w : World), (Instr.makeFunc fn first cap).run Tryz.prog w = .ok (.func fn first cap) w := fun _ _ _ _ => rfl
  obtain ⟨T, y, rfl⟩ := pat_iface hx
  obtain ⟨w3, hw3⟩ : ∃ w3, w3 = ((w.alloc (.cells #[.iface 100 (.agg #[.iface T y])] 50)).alloc (.cells #[.string s] 9)).alloc (.cells #[.iface T y] 100) := ⟨_, rfl⟩
  have hb3 : Below w.heap.size w w3 := by rw [hw3]; exact below3 _ _ _ _
  have hs3 : w3.heap.size = w.heap.size + 3 := by rw [hw3]; simp
  have call := ih w3 Sp _ (pat_frame (fun k hk => hb3.block k (hS k hk)) (fun _ h => h) k _ hx) (fun k hk => by have := hS k hk; omega)
  have HW3 : Hid (w3 = ((w.alloc (.cells #[.iface 100 (.agg #[.iface T y])] 50)).alloc (.cells #[.string s] 9)).alloc (.cells #[.iface T y] 100)) := hw3
  have HS3 : Hid (w3.heap.size = w.heap.size + 3) := hs3
  clear hw3 hs3
  go_enter Tryz.func21, Tryz.ntmps21
  go_wp2_with fail
  rw [← HW3.out]
  refine call.mono ?_
  rintro e w4 ⟨f, fcap, S1, rfl, hS1, hb4, hfin⟩
  have hs4 := hb4.size
  go_wp2_with (go_at_call 48; go_in)
  go_ret
  have hs3 := HS3.out
  have hbw : Below w.heap.size w w4 := hb3.trans (hb4.mono (by omega))
  refine ⟨_, _, fun x => S1 x ∨ x = w4.heap.size + 1, rfl, fun x hx => ?_, ((hbw.alloc (by omega) _).alloc (by simp; omega) _).alloc (by simp; omega) _, fun w'' hag => ?_⟩
  · rcases hx with hx | rfl
    · have := hS1 x hx
      simp
      omega
    · simp
      omega
  · have hag' : Agree w.heap.size (w4.heap.size + 3) (((w4.alloc (.cells #[.func (.func f) #[] fcap] 47)).alloc (.map #[] 0)).alloc (.cells #[.map (some (w4.heap.size + 1))] 134)) w'' := hag.mono (Nat.le_refl _) (by simp)
    have hag4 : Agree w3.heap.size w4.heap.size w4 w'' := fun x h1 h2 => (hag' x (by omega) (by omega)).trans ((Below.heap_alloc _ _ _ (by simp; omega)).trans ((Below.heap_alloc _ _ _ (by simp; omega)).trans (Below.heap_alloc _ _ _ h2)))
    obtain ⟨hF, hM⟩ := hfin w'' hag4
    have hrep := rep_made (by omega) hag'
    refine ⟨?_, fun x hx => ?_⟩
    · rw [Fnd]
      exact .inr (.inr (.inr (.inr (.inr (.inr (.inl ⟨k, w4.heap.size + 1, [], _, S1, rfl, hrep, fun x => ⟨fun h => by simp at h, fun h => (img_none h).elim⟩, by simp, by simp, .inr rfl, fun x hx => ⟨.inl hx, by have := hS1 x hx; omega⟩, by rw [none_set]; exact hF⟩))))))
    · rcases hx with hx | rfl
      · exact hM x hx
      · obtain ⟨_, _, _, _, _, h⟩ := hrep
        exact h.isMap

set_option maxHeartbeats 2000000 in
set_option maxRecDepth 100000 in
theorem madePlus {s : ByteArray} {d : Nat} {k : Data} (ih : MadeOk s d k) (w : World) (Sp : Nat → Prop) (x : Value) (hx : PatIs w k Sp x) (hS : ∀ k, Sp k → k < w.heap.size) :
    Calls Tryz.prog 21 #[.iface 102 (.agg #[x]), .string s] w fun e w' => Made s (d + 1) (Rx.one 9 k) w e w' := by
  have m1 := miss_textStart 102 (by decide)
  have m2 := miss_textEnd 102 (by decide)
  have m3 := miss_inRow 102 (by decide)
  have m4 := miss_oneOf 102 (by decide)
  have m5 := miss_anyOften 102 (by decide)
  have m6 := hit_onceOften
  have hmm := @run_makeMap Tryz.prog
  have hmf : ∀ (fn : Fn) (first cap : Array Value) (w : World), (Instr.makeFunc fn first cap).run Tryz.prog w = .ok (.func fn first cap) w := fun _ _ _ _ => rfl
  obtain ⟨T, y, rfl⟩ := pat_iface hx
  obtain ⟨w3, hw3⟩ : ∃ w3, w3 = ((w.alloc (.cells #[.iface 102 (.agg #[.iface T y])] 50)).alloc (.cells #[.string s] 9)).alloc (.cells #[.iface T y] 102) := ⟨_, rfl⟩
  have hb3 : Below w.heap.size w w3 := by rw [hw3]; exact below3 _ _ _ _
  have hs3 : w3.heap.size = w.heap.size + 3 := by rw [hw3]; simp
  have call := ih w3 Sp _ (pat_frame (fun k hk => hb3.block k (hS k hk)) (fun _ h => h) k _ hx) (fun k hk => by have := hS k hk; omega)
  have HW3 : Hid (w3 = ((w.alloc (.cells #[.iface 102 (.agg #[.iface T y])] 50)).alloc (.cells #[.string s] 9)).alloc (.cells #[.iface T y] 102)) := hw3
  have HS3 : Hid (w3.heap.size = w.heap.size + 3) := hs3
  clear hw3 hs3
  go_enter Tryz.func21, Tryz.ntmps21
  go_wp2_with fail
  rw [← HW3.out]
  refine call.mono ?_
  rintro e w4 ⟨f, fcap, S1, rfl, hS1, hb4, hfin⟩
  have hs4 := hb4.size
  go_wp2_with (go_at_call 48; go_in)
  go_ret
  have hs3 := HS3.out
  have hbw : Below w.heap.size w w4 := hb3.trans (hb4.mono (by omega))
  obtain ⟨wo, hwo⟩ : ∃ wo, wo = w4.alloc (.cells #[.func (.func f) #[] fcap] 47) := ⟨_, rfl⟩
  have hso : wo.heap.size = w4.heap.size + 1 := by rw [hwo]; simp
  have hoc : wo.heap[w4.heap.size]? = some (.cells #[.func (.func f) #[] fcap] 47 (0, 0)) := by rw [hwo]; exact heap_alloc_last _ _
  have hbo : Below w.heap.size w wo := by rw [hwo]; exact hbw.alloc (by omega) _
  rw [← hwo, ← hso]
  refine ⟨_, _, fun x => S1 x ∨ x = wo.heap.size + 1, rfl, fun x hx => ?_, (((hbo.alloc (by omega) _).alloc (by simp; omega) _).alloc (by simp; omega) _).alloc (by simp; omega) _, fun w'' hag => ?_⟩
  · rcases hx with hx | rfl
    · have := hS1 x hx
      simp
      omega
    · simp
      omega
  · obtain ⟨w5, hw5⟩ : ∃ w5, w5 = ((wo.alloc (.cells #[.func (.func f) #[] fcap] 47)).alloc (.map #[] 0)).alloc (.cells #[.map (some (wo.heap.size + 1))] 134) := ⟨_, rfl⟩
    have hs5 : w5.heap.size = wo.heap.size + 3 := by rw [hw5]; simp
    rw [← hw5] at hag
    have hag5 : Agree w.heap.size (wo.heap.size + 3) w5 w'' := fun x h1 h2 => (hag x h1 (by simp; omega)).trans (Below.heap_alloc _ _ _ (by omega))
    have hago : Agree w.heap.size wo.heap.size wo w'' := fun x h1 h2 => (hag5 x h1 (by omega)).trans (by
      rw [hw5]
      exact (Below.heap_alloc _ _ _ (by simp; omega)).trans ((Below.heap_alloc _ _ _ (by simp; omega)).trans (Below.heap_alloc _ _ _ h2)))
    have hag4 : Agree w3.heap.size w4.heap.size w4 w'' := fun x h1 h2 => (hago x (by omega) (by omega)).trans (by rw [hwo]; exact Below.heap_alloc _ _ _ h2)
    obtain ⟨hF, hM⟩ := hfin w'' hag4
    have hrep := rep_made (w4 := wo) (lo := w.heap.size) (f := .func (.func f) #[] fcap) (by omega) (by rw [← hw5]; exact hag5)
    have hmore := heap_alloc_last w5 (.cells #[.func (.func 75) #[] #[.pointer (some ⟨wo.heap.size + 1 + 1, 0, none⟩), .pointer (some ⟨wo.heap.size, 0, none⟩)]] 47)
    refine ⟨?_, fun x hx => ?_⟩
    · rw [Fnd]
      exact .inr (.inr (.inr (.inr (.inr (.inr (.inr ⟨k, wo.heap.size + 1, [], _, S1, _, w5.heap.size, w4.heap.size, rfl, by rw [hs5], (hag _ (by omega) (by simp)).trans hmore, (hago _ (by omega) (by omega)).trans hoc, hrep, fun x => ⟨fun h => by simp at h, fun h => (img_none h).elim⟩, by simp, by simp, .inr rfl, fun x hx => ⟨.inl hx, by have := hS1 x hx; omega⟩, by simpa using hF⟩))))))
    · rcases hx with hx | rfl
      · exact hM x hx
      · obtain ⟨_, _, _, _, _, h⟩ := hrep
        exact h.isMap

end Mt
end Go.Proofs.YtgdnlmaacnnfiaaGreatDoor

namespace Go.Proofs.YtgdnlmaacnnfiaaGreatDoor
open Go.RowKit Go.Maps
namespace Mt
open Rx Clo

set_option maxHeartbeats 2000000 in
set_option maxRecDepth 100000 in
theorem madeMost {s : ByteArray} {d : Nat} {k : Data} (ih0 : MadeOk s d (leaf 11)) (ih : MadeOk s d k) (w : World) (Sp : Nat → Prop) (x : Value) (hx : PatIs w k Sp x) (hS : ∀ k, Sp k → k < w.heap.size) :
    Calls Tryz.prog 21 #[.iface 103 (.agg #[x]), .string s] w fun e w' => Made s (d + 1) (Rx.one 10 k) w e w' := by
  have m1 := miss_textStart 103 (by decide)
  have m2 := miss_textEnd 103 (by decide)
  have m3 := miss_inRow 103 (by decide)
  have m4 := miss_oneOf 103 (by decide)
  have m5 := miss_anyOften 103 (by decide)
  have m6 := miss_onceOften 103 (by decide)
  have m7 := hit_onceMost
  have hmf : ∀ (fn : Fn) (first cap : Array Value) (w : World), (Instr.makeFunc fn first cap).run Tryz.prog w = .ok (.func fn first cap) w := fun _ _ _ _ => rfl
  obtain ⟨T, y, rfl⟩ := pat_iface hx
  obtain ⟨w3, hw3⟩ : ∃ w3, w3 = ((w.alloc (.cells #[.iface 103 (.agg #[.iface T y])] 50)).alloc (.cells #[.string s] 9)).alloc (.cells #[.iface T y] 103) := ⟨_, rfl⟩
  have hb3 : Below w.heap.size w w3 := by rw [hw3]; exact below3 _ _ _ _
  have hs3 : w3.heap.size = w.heap.size + 3 := by rw [hw3]; simp
  obtain ⟨w4, hw4⟩ : ∃ w4, w4 = w3.alloc (.cells #[.iface 104 (.agg #[]), .iface T y] 50) := ⟨_, rfl⟩
  have hb4 : Below w.heap.size w w4 := by rw [hw4]; exact hb3.alloc (by omega) _
  have hs4 : w4.heap.size = w.heap.size + 4 := by rw [hw4]; simp [hs3]
  have hrow : w4.ownsRow 0 50 1 (.slice (some ⟨w3.heap.size, 0, none⟩) 2 2) 2 [.iface 104 (.agg #[]), .iface T y] := by
    rw [hw4]
    exact World.ownsRow_lit w3 #[.iface 104 (.agg #[]), .iface T y] 2 (Nat.zero_le _) (by unfold maxLen; omega) rfl
  have hpats : PatsIs w4 [leaf 11, k] Sp [.iface 104 (.agg #[]), .iface T y] := by
    simp only [PatsIs]
    refine ⟨_, _, rfl, ?_, _, _, rfl, pat_frame (fun k hk => hb4.block k (hS k hk)) (fun _ h => h) k _ hx, rfl⟩
    unfold leaf
    rw [pat_nd]
    exact .inl ⟨rfl, .inr (.inr (.inr (.inr (.inr ⟨rfl, rfl, rfl, rfl, rfl⟩))))⟩
  have call := iFindersOf (s := s) (d := d) (ks := [leaf 11, k]) (fun t ht => by
    simp at ht
    rcases ht with rfl | rfl
    · exact ih0
    · exact ih) (by simp) w4 Sp _ _ hrow hpats (fun k hk => by have := hS k hk; omega)
  simp only [List.length_cons, List.length_nil, Nat.zero_add, Nat.reduceAdd] at call
  have HW4 : Hid (w4 = (((w.alloc (.cells #[.iface 103 (.agg #[.iface T y])] 50)).alloc (.cells #[.string s] 9)).alloc (.cells #[.iface T y] 103)).alloc (.cells #[.iface 104 (.agg #[]), .iface T y] 50)) := by show _ = _; rw [hw4, hw3]
  have HS4 : Hid (w4.heap.size = w.heap.size + 4) := hs4
  have hs3' : w3.heap.size = w.heap.size + 1 + 1 + 1 := by omega
  rw [hs3'] at call
  clear hw4 hw3 hs4 hs3 hs3' hrow
  go_enter Tryz.func21, Tryz.ntmps21
  go_wp2_with fail
  rw [← HW4.out]
  refine call.mono ?_
  rintro e w5 ⟨fs, Ss, rfl, hfl, hfo, hSs, hSd, hF, hb5⟩
  have hs5 := hb5.size
  go_wp2_with (go_at_call 47; go_in)
  go_ret
  have hs4 := HS4.out
  have hbw : Below w.heap.size w w5 := hb4.trans (hb5.mono (by omega))
  refine ⟨_, _, fun k => ∃ i, Ss i k, rfl, fun k hk => ?_, hbw.alloc (by omega) _, fun w'' hag => ⟨?_, ?_⟩⟩
  · obtain ⟨i, hi⟩ := hk
    have := hSs i k hi
    simp
    omega
  · have hag3 : Agree (w4.heap.size + 1) w5.heap.size w5 w'' := fun k h1 h2 => (hag k (by omega) (by simp; omega)).trans (Below.heap_alloc _ _ _ h2)
    have hbox : Box w'' w5.heap.size fs := box_made (w := w4) (heap_alloc_last _ _) (hfo.alloc _) hfl (by omega) (by omega) (hag.mono (by omega) (Nat.le_refl _))
    rw [Fnd]
    exact .inr (.inr (.inr (.inr (.inr (.inl ⟨[leaf 11, k], w5.heap.size, fs, Ss, .inr ⟨k, rfl, rfl⟩, rfl, hbox, hfl, ⟨fun i k h => ⟨i, h⟩, hSd⟩, fun i k f h1 h2 => (hF w'' hag3 i k f h1 h2).1⟩)))))
  · rintro k' ⟨i, hi⟩
    have hag3 : Agree (w4.heap.size + 1) w5.heap.size w5 w'' := fun k h1 h2 => (hag k (by omega) (by simp; omega)).trans (Below.heap_alloc _ _ _ h2)
    have hil := (hSs i k' hi).1
    exact (hF w'' hag3 i _ _ (List.getElem?_eq_getElem (by simpa using hil)) (List.getElem?_eq_getElem (by omega))).2 k' hi

/-- Every right pattern has a finder. -/
theorem madeOk {s : ByteArray} : ∀ (d : Nat) (t : Data), RightD d t → cnt t ≤ 1000 → MadeOk s d t := by
  intro d
  induction d with
  | zero => intro t h; exact h.elim
  | succ d ih =>
    intro t h hc w Sp pv hp hS
    rw [RightD] at h
    rcases h with ⟨b, hb, rfl⟩ | ⟨op, ho, rfl⟩ | ⟨M, no, hM, rfl⟩ | ⟨op, k, ho, rfl, hk⟩ | ⟨op, ks, ho, rfl, hl, hk⟩
    · unfold chr at hp ⊢
      rw [pat_nd] at hp
      rcases hp with ⟨_, hL⟩ | ⟨_, _, _, x, _, h⟩ | ⟨_, _, _, u, xs, _, _, _, h⟩
      · exact madeByte (.inl rfl) hL w
      · omega
      · omega
    · unfold leaf at hp ⊢
      rw [pat_nd] at hp
      rcases hp with ⟨_, hL⟩ | ⟨_, _, _, x, hx, h⟩ | ⟨_, _, _, u, xs, _, _, _, h⟩
      · rcases ho with rfl | rfl | rfl | rfl
        · exact madeByte (.inr (.inl rfl)) hL w
        · rcases hL with h | h | h | h | h | h
          · omega
          · omega
          · omega
          · rw [h.2.2.2.2]; exact madeStart w
          · omega
          · omega
        · rcases hL with h | h | h | h | h | h
          · omega
          · omega
          · omega
          · omega
          · rw [h.2.2.2.2]; exact madeEnd w
          · omega
        · rcases hL with h | h | h | h | h | h
          · omega
          · omega
          · omega
          · omega
          · omega
          · rw [h.2.2.2.2]; exact madeNone w
      · omega
      · omega
    · unfold Rx.setOf at hp ⊢
      rw [pat_nd] at hp
      rcases hp with ⟨_, hL⟩ | ⟨_, _, _, x, _, h⟩ | ⟨_, _, _, u, xs, _, _, _, h⟩
      · exact madeByte (.inr (.inr rfl)) hL w
      · omega
      · omega
    · unfold Rx.one at hc
      rw [cnt_nd] at hc
      simp only [cnts] at hc
      have hkm := ih k hk (by omega)
      unfold Rx.one at hp
      rw [pat_nd] at hp
      rcases hp with ⟨h, _⟩ | ⟨_, _, _, x, hx, h⟩ | ⟨_, _, _, u, xs, _, _, _, h⟩
      · simp at h
      · simp only [PatsIs] at hx
        obtain ⟨x', ys, he, hx', _⟩ := hx
        simp at he
        obtain ⟨rfl, _⟩ := he
        rcases h with ⟨rfl, rfl⟩ | ⟨rfl, rfl⟩ | ⟨rfl, rfl⟩
        · exact madeOften hkm w Sp x hx' hS
        · exact madePlus hkm w Sp x hx' hS
        · obtain ⟨d', rfl⟩ : ∃ d', d = d' + 1 := by
            cases d with
            | zero => exact hk.elim
            | succ d' => exact ⟨d', rfl⟩
          have h11 : MadeOk s (d' + 1) (leaf 11) := ih (leaf 11) (by rw [RightD]; exact .inr (.inl ⟨11, by omega, rfl⟩)) (by unfold leaf; rw [cnt_nd]; simp [cnts])
          exact madeMost h11 hkm w Sp x hx' hS
      · omega
    · rw [cnt_nd] at hc
      have hcl := cnts_len ks
      have ih' : ∀ t ∈ ks, MadeOk s d t := fun t hm => ih t (hk t hm) (by have := cnts_mem hm; omega)
      rw [pat_nd] at hp
      rcases hp with ⟨h, hL⟩ | ⟨_, _, _, x, hx, h⟩ | ⟨_, _, _, u, xs, ho', hu, hx, h⟩
      · subst h; simp at hl
      · omega
      · rcases h with ⟨rfl, rfl⟩ | ⟨rfl, rfl⟩
        · exact madeRow ih' (by omega) w Sp u xs ho' hx hu hS
        · exact madeOneOf ih' (by omega) w Sp u xs ho' hx hu hS

end Mt
end Go.Proofs.YtgdnlmaacnnfiaaGreatDoor

