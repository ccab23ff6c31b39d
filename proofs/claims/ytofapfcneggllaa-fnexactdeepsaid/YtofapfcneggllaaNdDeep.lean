/-
  The program's Deep tells how deep a tree is.
-/
import Derived.Test.YtofapfcneggllaaNdDeepI
namespace Go.Proofs.Ytofapfcneggllaa
open Go.RowKit
namespace Nd

theorem run_len_seen {w : World} {m : Nat} {G : List Nat} (h : MapIs w m G) (ty : TypeId) : (Builtin.len_ #[36] ty #[.map (some m)]).run Try.prog w = .ok (.int .i64 G.length) w := by
  obtain ⟨es, c, h1, h2, _⟩ := h
  simp [Builtin.len_, run_underlying Try.underlying36, MapKept.run_getObj_map h1, goInt, h2]

/-- What Deep has at a depth. -/
def At (w wr : World) (m : Nat) (t : Data) (lv : Value) (d : Nat) : Prop :=
  ∃ (ls : List (List Data)) (vs xs : List Value) (S : Nat → Prop) (G : List Nat), wr.ownsRow 0 27 1 lv ls.length vs ∧ RowsIs wr ls vs xs ∧ NodesIs wr ls.flatten S xs ∧ MapIs wr m G ∧ (∀ g ∈ G, Cellsy wr g) ∧ (∀ g ∈ G, ¬ S g) ∧
    (∀ l ∈ ls, l ≠ []) ∧ d + deps ls.flatten = dep t ∧ (ls = [] ∨ d ≤ G.length) ∧ G.length + cnts ls.flatten ≤ 1048577 ∧ Below w.heap.size w wr

set_option maxHeartbeats 4000000 in
set_option maxRecDepth 100000 in
theorem iDeep {t : Data} (hc : cnts (kidsOf t) ≤ 1048576) {w : World} {S : Nat → Prop} {a b c u : Value} (h : NodeIs w t S [a, b, c, u]) (hS : ∀ k, S k → k < w.heap.size) :
    Calls Try.prog 7 #[.agg #[a, b, c, u]] w fun e w' => e = .returned (.int .i64 (dep t)) ∧ Below w.heap.size w w' := by
  obtain ⟨op, n, s, ao, cap, xs, -, rfl, rfl, rfl, rfl, hro, hrg, hrn⟩ := node_form h
  have hdt : dep t ≤ 1048577 := by have := dep_cnt t; have := cnt_kids t; omega
  have hct : cnt t ≤ 1048577 := by have := cnt_kids t; omega
  obtain ⟨o1, ho1⟩ : ∃ o1, o1 = Obj.cells #[.int .i64 op, .int .i64 n, .string ⟨s.toArray⟩, .slice ao (kidsOf t).length cap] 29 := ⟨_, rfl⟩
  obtain ⟨o2, ho2⟩ : ∃ o2, o2 = Obj.map #[] 0 := ⟨_, rfl⟩
  obtain ⟨o4, ho4⟩ : ∃ o4, o4 = Obj.cells #[.slice (some ⟨w.heap.size + 1 + 1, 0, none⟩) 1 1] 27 := ⟨_, rfl⟩
  have hb4 : Below w.heap.size w ((((w.alloc o1).alloc o2).alloc o1).alloc o4) := ((((Below.refl _ w).alloc (Nat.le_refl _) _).alloc (by simp) _).alloc (by simp; omega) _).alloc (by simp; omega) _
  have hAt : At w ((((w.alloc o1).alloc o2).alloc o1).alloc o4) (w.heap.size + 1) t (.slice (some ⟨w.heap.size + 1 + 1 + 1, 0, none⟩) 1 1) 0 := by
    have e4 := heap_new (((w.alloc o1).alloc o2).alloc o1) o4
    have e3 := heap_new ((w.alloc o1).alloc o2) o1
    have e2 := heap_new (w.alloc o1) o2
    simp only [World.size_alloc] at e4 e3 e2
    have e3' : ((((w.alloc o1).alloc o2).alloc o1).alloc o4).heap[w.heap.size + 1 + 1]? = some o1 := by rw [Below.heap_alloc _ _ _ (by simp), e3]
    have e2' : ((((w.alloc o1).alloc o2).alloc o1).alloc o4).heap[w.heap.size + 1]? = some o2 := by rw [Below.heap_alloc _ _ _ (by simp), Below.heap_alloc _ _ _ (by simp), e2]
    refine ⟨[[t]], [.slice (some ⟨w.heap.size + 1 + 1, 0, none⟩) 1 1], [.int .i64 op, .int .i64 n, .string ⟨s.toArray⟩, .slice ao (kidsOf t).length cap], S, [], ?_, ?_, ?_, ?_, fun g hg => by simp at hg, fun g hg => by simp at hg, fun l hl => by simp at hl; subst hl; simp, by simp [deps], .inr (Nat.zero_le _), by simp [cnts]; omega, hb4⟩
    · exact ⟨rfl, .inr ⟨_, 1, _, rfl, Nat.zero_le _, by rw [e4, ho4], Nat.le_refl _, by unfold maxLen; omega, rfl, rfl⟩⟩
    · exact ⟨_, [], [.int .i64 op, .int .i64 n, .string ⟨s.toArray⟩, .slice ao (kidsOf t).length cap], [], rfl, rfl, ⟨rfl, .inr ⟨_, 1, _, rfl, Nat.zero_le _, by rw [e3', ho1], Nat.le_refl _, by unfold maxLen; omega, rfl, rfl⟩⟩, rfl, rfl⟩
    · simp only [List.flatten_cons, List.flatten_nil, List.append_nil]
      refine ⟨S, fun _ => False, _, [], by simp, node_frame t S _ (fun k hk => hb4.block k (hS k hk)) h, rfl, fun k hk => ⟨hk, id⟩, fun k hk => hk.elim⟩
    · exact ⟨#[], 0, by rw [e2', ho2], rfl, fun e he => by simp at he⟩
  have hmm := @run_makeMap Try.prog
  subst ho1 ho2 ho4
  clear h hro hrg hrn hS hc hct
  go_enter Try.func7, Try.ntmps7
  go_wp2_with fail
  go_loopw [4, 5] (fun lv d wr => ∃ dd : Nat, d = .int .i64 dd ∧ dd ≤ dep t ∧ At w wr (w.heap.size + 1) t lv dd) (fun _ d _ => dep t - (intOf d).toNat)
  case atStart => exact ⟨0, rfl, Nat.zero_le _, hAt⟩
  case round =>
    obtain ⟨d, rfl, hdd, ls, vs, xs, S, G, h1, h2, h3, h4, h5, h6, h7, h8, h9, h10, hb⟩ := hrel
    obtain ⟨ao, cap, rfl⟩ := owns_slice h1
    have hln := run_len_seen h4 3
    by_cases hls : ls = []
    · subst hls
      have hd : d = dep t := by simpa [deps] using h8
      have HD : Hid (d = dep t) := hd
      clear h8 h10 hd h1 h2 h3 h5 h6 h7 h9 h4 hAt
      go_wp2_with fail
      go_ret
      exact ⟨by rw [← HD.out]; rfl, hb⟩
    · have hdG : d ≤ G.length := h9.resolve_left hls
      have hpos : 0 < ls.length := List.length_pos_iff.2 hls
      have hfl : ls.flatten ≠ [] := by
        cases ls with
        | nil => exact absurd rfl hls
        | cons l ls => simp [h7 l (by simp)]
      have hdeps : deps ls.flatten = deps (below ls).flatten + 1 := by rw [below_flat, below1_deps ls.flatten, if_neg hfl]
      have hcnts : cnts ls.flatten = cnts (below ls).flatten + ls.flatten.length := by rw [below_flat]; exact below1_cnts _
      have hblen : (below ls).length ≤ ls.flatten.length := by rw [below_flat]; exact below1_len _
      have hbne : ∀ l ∈ below ls, l ≠ [] := by rw [below_flat]; exact below1_ne _
      have call := iKidsBelow (d := d + 1) (by omega) (by omega) h1 h2 h3 h4 h5 h6 (by omega) h7
      have hnext : ∀ w2 v, Got wr w2 (w.heap.size + 1) G.length (fun _ => False) (below ls) v → At w w2 (w.heap.size + 1) t v (d + 1) := by
        intro w2 v hG
        obtain ⟨vs', xb, Sb, G', g1, g2, g3, g4, g5, g6, g7, g8, g9⟩ := hG
        have hcy : ∀ g, Cellsy wr g → w2.heap[g]? = wr.heap[g]? := fun g hg => by
          obtain ⟨cur, hc⟩ := hg
          exact g9.block g (heap_lt hc) (h4.not ⟨cur, hc⟩)
        refine ⟨below ls, vs', xb, fun k => Sb k ∧ Cellsy wr k, G', owns_base g1 (Nat.zero_le _), rows_frame hcy g2, nodes_frame (fun k hk => hcy k hk.2) (nodesCells g3), g4, fun g hg => ?_, fun g hg hh => (g7 g hg).2 hh.1, hbne, by omega, ?_, by omega, ?_⟩
        · obtain ⟨cur, hc⟩ := g6 g hg
          exact ⟨cur, (hcy g ⟨cur, hc⟩).trans hc⟩
        · by_cases hbl : below ls = []
          · exact .inl hbl
          · have := List.length_pos_iff.2 hbl
            exact .inr (by omega)
        · exact ⟨g9.os.trans hb.os, g9.tape.trans hb.tape, g9.output.trans hb.output, Nat.le_trans hb.size g9.size, fun k hk => (g9.block k (Nat.lt_of_lt_of_le hk hb.size) (by omega)).trans (hb.block k hk)⟩
      have hdI : (d : Int) ≤ G.length := by omega
      have hGI : (G.length : Int) ≤ 1048577 := by omega
      have hposI : (0 : Int) < ls.length := by omega
      have hlI : (ls.length : Int) ≤ 1048577 := by
        have : ∀ ls : List (List Data), (∀ l ∈ ls, l ≠ []) → ls.length ≤ ls.flatten.length := by
          intro ls
          induction ls with
          | nil => intro _; simp
          | cons l ls ih =>
            intro h
            have h1 := h l (by simp)
            have h2 := ih fun l hl => h l (by simp [hl])
            have : 0 < l.length := List.length_pos_iff.2 h1
            simp only [List.length_cons, List.flatten_cons, List.length_append]
            omega
        have := this ls h7
        have := cnts_len ls.flatten
        omega
      have hd1 : d + 1 ≤ dep t := by omega
      have hcast : ((d + 1 : Nat) : Int) = (d : Int) + 1 := by omega
      rw [hcast] at call
      clear h8 h10 h1 h2 h3 h5 h6 h7 h9 h4 hAt hcast hdeps hcnts hblen hbne hfl hls hpos hdG hdt hdd
      go_wp2_with (go_at_call 12; refine call.mono ?_; rintro e w2 ⟨v, rfl, hG⟩)
      go_roundw
      case rel => exact ⟨d + 1, by go_num, hd1, hnext w2 v hG⟩
      case measure => simp [intOf]; omega

end Nd
end Go.Proofs.Ytofapfcneggllaa
