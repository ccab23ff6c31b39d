/-
  The function that cellsBeside makes: it hands out the cells that stand so.
-/
import Derived.Test.YtjlchfielpfehaaStGet
namespace Go.Proofs.Ytjlchfielpfehaa
open Go.RowKit
namespace St
open Nd
attribute [local go_sem] Oper.semAt_some

theorem cell5 {w : World} {B : Nat} {p0 p1 p2 p3 p4 : Value} (h : w.heap[B]? = some (.cells #[p0, p1, p2, p3, p4] 62 (0, 0))) : w.cell? ⟨B, 0, none⟩ = some p0 ∧ w.cell? ⟨B, 1, none⟩ = some p1 ∧ w.cell? ⟨B, 2, none⟩ = some p2 ∧ w.cell? ⟨B, 3, none⟩ = some p3 ∧ w.cell? ⟨B, 4, none⟩ = some p4 := by
  simp [World.cell?, h]

set_option maxHeartbeats 2000000 in
set_option maxRecDepth 100000 in
theorem beside_stops {w : World} {ao : Option Addr} {cs : List Cl} {cap n1 B0 B1 B2 : Nat} {n ord : Int} {k : ByteArray} (hR : RdC w ao cs) (hl : cs.length ≤ 3000000) (hn : 2 ≤ n1)
    (h0 : w.heap[B0]? = some (.cells #[.slice ao cs.length cap] 29 (0, 0))) (h1 : w.heap[B1]? = some (.cells #[.int .i64 n, .string k, .int .i64 0, .int .i64 0, .string ⟨#[]⟩] 62 (0, 0))) (h2 : w.heap[B2]? = some (.cells #[.int .i64 ord] 3 (0, 0))) :
    SeqStopsK Fence.wide n1 Try.prog 55 #[.pointer (some ⟨B0, 0, none⟩), .pointer (some ⟨B1, 0, none⟩), .pointer (some ⟨B2, 0, none⟩)] encP (Below w.heap.size) (fun ys => ys = bes n k ord 0 cs) (fun pre => pre <+: bes n k ord 0 cs) (bes n k ord 0 cs).length w := by
  intro l J Jx W hW hJ hJx hY hJ0
  have bl : (cs.length : Int) ≤ 3000000 := by omega
  have hn1 : 1 ≤ n1 := by omega
  have l0 := heap_lt h0
  have l1 := heap_lt h1
  have l2 := heap_lt h2
  have c0 : W.cell? ⟨B0, 0, none⟩ = some (.slice ao cs.length cap) := by
    have := (hW.block B0 l0).trans h0
    simp [World.cell?, this]
  have hall : ∀ f, Fence.wide.fn f := fun _ => trivial
  have hmix : Try.prog.follows .mixedOrders = true := by kernel_rfl
  refine callsIn_of_wp Try.func55 rfl trivial ?_ rfl
  simp only [Try.ntmps55, List.size_toArray, List.length_cons, List.length_nil, Nat.reduceAdd, Nat.reduceSub, Array.replicate_succ, Array.replicate_zero, List.push_toArray, List.append_toArray, List.nil_append, List.cons_append]
  gi_wp2
  gi_loopw [9] (fun i wr => ∃ (j : Nat) (pre : List (Cl × Nat)), j ≤ cs.length ∧ i = .int .i64 j ∧ pre = bes n k ord 0 (cs.take j) ∧ J pre wr ∧ Below w.heap.size w wr ∧ W.heap.size ≤ wr.heap.size) (fun i _ => cs.length - (intOf i).toNat)
  case atStart => exact ⟨0, [], Nat.zero_le _, rfl, by simp [bes], hJ0, hW, Nat.le_refl _⟩
  case round =>
    obtain ⟨j, pre, hj, rfl, hpre, hJp, hb, hsz⟩ := hrel
    by_cases hjl : j < cs.length
    · have hcj : cs[j]? = some cs[j] := List.getElem?_eq_getElem hjl
      obtain ⟨b, o, rfl, hbl, _, _, p0, p1, p2, p3, p4⟩ := hR.below hb j _ hcj
      have hbt := bes_take (n := n) (k := k) (ord := ord) hcj
      have hpart := bes_part n k ord cs (j + 1)
      generalize cs[j] = c at *
      have bj : (j : Int) < cs.length := by omega
      obtain ⟨oC, hoC⟩ : ∃ oC, oC = Obj.cells #[.int .i64 c.1, .string c.2.1, .int .i64 c.2.2.1, .int .i64 c.2.2.2.1, .string c.2.2.2.2] 62 := ⟨_, rfl⟩
      have hba : Below wr.heap.size wr (wr.alloc oC) := (Below.refl _ wr).alloc (Nat.le_refl _) _
      have hbw : Below w.heap.size w (wr.alloc oC) := hb.trans (hba.mono hb.size)
      have facts : ∀ w', Below (wr.alloc oC).heap.size (wr.alloc oC) w' → (w'.cell? ⟨wr.heap.size, 0, none⟩ = some (.int .i64 c.1) ∧ w'.cell? ⟨wr.heap.size, 1, none⟩ = some (.string c.2.1) ∧ w'.cell? ⟨wr.heap.size, 2, none⟩ = some (.int .i64 c.2.2.1) ∧ w'.cell? ⟨wr.heap.size, 3, none⟩ = some (.int .i64 c.2.2.2.1) ∧ w'.cell? ⟨wr.heap.size, 4, none⟩ = some (.string c.2.2.2.2)) ∧
          (w'.cell? ⟨B1, 0, none⟩ = some (.int .i64 n) ∧ w'.cell? ⟨B1, 1, none⟩ = some (.string k) ∧ w'.cell? ⟨B1, 2, none⟩ = some (.int .i64 0) ∧ w'.cell? ⟨B1, 3, none⟩ = some (.int .i64 0) ∧ w'.cell? ⟨B1, 4, none⟩ = some (.string ⟨#[]⟩)) ∧ w'.cell? ⟨B2, 0, none⟩ = some (.int .i64 ord) := fun w' hw' => by
        have hsb := hb.size
        refine ⟨cell5 ((hw'.block _ (by simp)).trans ((heap_new wr oC).trans (by rw [hoC]))), cell5 ((hw'.block _ (by simp; omega)).trans ((hbw.block _ l1).trans h1)), ?_⟩
        have := (hw'.block B2 (by simp; omega)).trans ((hbw.block _ l2).trans h2)
        simp [World.cell?, this]
      have cc := fun w' => iCmpCells c.1 c.2.1 (.int .i64 c.2.2.1) (.int .i64 c.2.2.2.1) (.string c.2.2.2.2) n k (.int .i64 0) (.int .i64 0) (.string ⟨#[]⟩) w'
      obtain ⟨⟨f0, f1, f2, f3, f4⟩, ⟨g0, g1, g2, g3, g4⟩, e0⟩ := facts (wr.alloc oC).drew ((Below.refl _ _).drew)
      have hsw : w.heap.size ≤ wr.heap.size := hb.size
      obtain ⟨Go, hGo⟩ : ∃ Go : World → Prop, Go = fun W' => ∃ pre', pre' = bes n k ord 0 (cs.take (j + 1)) ∧ J pre' W' ∧ Below w.heap.size w W' ∧ W.heap.size ≤ W'.heap.size := ⟨_, rfl⟩
      obtain ⟨Out, hOut⟩ : ∃ Out : World → Prop, Out = fun W' => ∃ pre', pre' <+: bes n k ord 0 cs ∧ Jx pre' W' := ⟨_, rfl⟩
      have hJ3 : ∀ w3, Below (wr.alloc oC).heap.size (wr.alloc oC) w3 → J pre w3 ∧ Below w.heap.size w w3 ∧ W.heap.size ≤ w3.heap.size := fun w3 h3 => by
        have h' := hba.trans (h3.mono hba.size)
        exact ⟨abide hJ hJp h', hb.trans (h'.mono hsw), Nat.le_trans hsz h'.size⟩
      have HG : Hid (Go = fun W' => ∃ pre', pre' = bes n k ord 0 (cs.take (j + 1)) ∧ J pre' W' ∧ Below w.heap.size w W' ∧ W.heap.size ≤ W'.heap.size) := hGo
      have HO : Hid (Out = fun W' => ∃ pre', pre' <+: bes n k ord 0 cs ∧ Jx pre' W') := hOut
      have hpost : cmpC c.1 c.2.1 n k ≠ ord → ∀ w3, Below (wr.alloc oC).heap.size (wr.alloc oC) w3 → Go w3 := fun hg w3 h3 => by
        obtain ⟨a1, a2, a3⟩ := hJ3 w3 h3
        rw [hGo]
        exact ⟨pre, by rw [hbt, if_neg hg, List.append_nil]; exact hpre, a1, a2, a3⟩
      have hyield : cmpC c.1 c.2.1 n k = ord → ∀ w3, Below (wr.alloc oC).heap.size (wr.alloc oC) w3 → ∃ fn tmps assign body, (Instr.yield l #[.int .i64 j, .agg #[.int .i64 c.1, .string c.2.1, .int .i64 c.2.2.1, .int .i64 c.2.2.2.1, .string c.2.2.2.2]]).run Try.prog w3 = .ok (.round l fn tmps assign body) w3 ∧
          RoundIn Fence.wide (n1 - 1) Try.prog l fn tmps assign body w3 fun e W3 => ∃ r : Bool, e = .returned (.bool r) ∧ (r = true → Go W3) ∧ (r = false → Out W3) := fun hg w3 h3 => by
        obtain ⟨a1, a2, a3⟩ := hJ3 w3 h3
        rw [if_pos hg, ← hpre] at hbt
        rw [hbt] at hpart
        have hlen : pre.length < (bes n k ord 0 cs).length := by have := hpart.length_le; simp at this; omega
        obtain ⟨fn, tmps, assign, body, hy, hRd⟩ := hY pre (c, j) w3 a1 hlen
        refine ⟨fn, tmps, assign, body, hy, hRd.mono ?_⟩
        rintro e W3 (⟨rfl, x1, x2⟩ | ⟨rfl, x1⟩)
        · refine ⟨true, rfl, fun _ => ?_, fun h => by cases h⟩
          rw [hGo]
          exact ⟨_, by rw [hbt], x1, a2.trans x2, Nat.le_trans a3 x2.size⟩
        · refine ⟨false, rfl, (fun h => by cases h), fun _ => ?_⟩
          rw [hOut]
          exact ⟨_, hpart, x1⟩
      subst hoC
      clear hGo hOut hJ3 hbt hpart hpre hJp hY hJ hJx hcj hJ0 c0 hW hba hbw hsz
      obtain ⟨q, hq⟩ : ∃ q, q = cmpC c.1 c.2.1 n k := ⟨_, rfl⟩
      rw [← hq] at cc hpost hyield
      clear hq
      gi_wp2
      refine wpIn_mono (Q := fun e a' W' => match e with
        | .normal => ∃ (x14 x15 x16 x17 x18 x19 x20 x21 x22 x23 x24 : Value) (r : Bool), a' = { tmps := #[.func (.yield l) #[] #[], .pointer (some ⟨B0, 0, none⟩), .pointer (some ⟨B1, 0, none⟩), .pointer (some ⟨B2, 0, none⟩), undef, .int .i64 j, .pointer (some ⟨wr.heap.size, 0, none⟩), .slice (some ⟨b, o, none⟩) cs.length cap, .int .i64 cs.length, .int .i64 j, .bool true, .int .i64 j, .pointer (some ⟨b, o + j * 5, none⟩), .agg #[.int .i64 c.1, .string c.2.1, .int .i64 c.2.2.1, .int .i64 c.2.2.2.1, .string c.2.2.2.2], x14, x15, x16, x17, x18, x19, x20, x21, x22, x23, x24, .bool r, u26], defers := [] } ∧ (r = false → Go W') ∧ (r = true → Out W')
        | _ => False) ?region ?rest
      case region =>
        by_cases hg : q = ord
        · have hd : (q == ord) = true := by simpa using hg
          have hd2 : decide (q = ord) = true := by simpa using hg
          have hyield := hyield hg
          clear hg hpost
          first
            | (gi_region_with_o (first
                | (gi_at_call 46; refine (callsIn_wide.2 (cc _)).mono ?_; rintro e w3 ⟨rfl, hb3⟩; obtain ⟨⟨x0, x1, x2, x3, x4⟩, ⟨y0, y1, y2, y3, y4⟩, z0⟩ := facts w3 (((Below.refl _ _).drew).trans hb3); obtain ⟨fn, tmps, assign, body, hy, hRd⟩ := hyield w3 (((Below.refl _ _).drew).trans hb3))
                | (refine RoundIn.mono hRd ?_; rintro e W3 ⟨r, rfl, hr1, hr2⟩)))
            | fail
          all_goals exact ⟨_, _, _, _, _, _, _, _, _, _, _, !r, rfl, fun h => hr1 (by simpa using h), fun h => hr2 (by simpa using h)⟩
        · have hd : (q == ord) = false := by simpa using hg
          have hd2 : decide (q = ord) = false := by simpa using hg
          have hpost := hpost hg
          clear hg hyield
          first
            | (gi_region_with_o (first
                | (gi_at_call 46; refine (callsIn_wide.2 (cc _)).mono ?_; rintro e w3 ⟨rfl, hb3⟩; obtain ⟨⟨x0, x1, x2, x3, x4⟩, ⟨y0, y1, y2, y3, y4⟩, z0⟩ := facts w3 (((Below.refl _ _).drew).trans hb3); have hp3 := hpost w3 (((Below.refl _ _).drew).trans hb3))))
            | fail
          all_goals exact ⟨_, _, _, _, _, _, _, _, _, _, _, false, rfl, fun _ => hp3, fun h => by cases h⟩
      case rest =>
        rintro e a' W' h
        cases e with
        | normal =>
          obtain ⟨x14, x15, x16, x17, x18, x19, x20, x21, x22, x23, x24, r, rfl, h1, h2⟩ := h
          clear cc facts hpost hyield f0 f1 f2 f3 f4 g0 g1 g2 g3 g4 e0
          cases r with
          | false =>
            have h3 := h1 rfl
            clear h1 h2
            gi_wp2
            go_roundw
            case rel =>
              rw [HG.out] at h3
              obtain ⟨pre', e1, e2, e3, e4⟩ := h3
              exact ⟨j + 1, pre', hjl, by go_num, e1, e2, e3, e4⟩
            case measure => simp [intOf]; omega
          | true =>
            have h3 := h2 rfl
            rw [HO.out] at h3
            clear h1 h2
            gi_wp2
            refine bodyPost_ret (results_none rfl _ _ _) rfl ?_
            exact ⟨⟨_, rfl⟩, .inr h3⟩
        | _ => exact h.elim
    · obtain rfl : j = cs.length := by omega
      rw [List.take_length] at hpre
      have H : Hid (pre = bes n k ord 0 cs ∧ J pre wr) := ⟨hpre, hJp⟩
      clear hpre hJp
      gi_wp2
      go_end0
      exact ⟨⟨_, rfl⟩, .inl ⟨pre, H.out.1, H.out.2⟩⟩

end St
end Go.Proofs.Ytjlchfielpfehaa
