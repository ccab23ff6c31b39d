/-
  The law FnFieldsJoin, at every code.
-/
import Derived.Test.YtjlchfielpfehaaFdJoin
namespace Go.Proofs.Ytjlchfielpfehaa
open Go.RowKit Go.Extern
namespace Fd
open Go.Lib Nd

theorem row_keep {w w' : World} {B n : Nat} {v : Value} {xs : List Value} (h : w.ownsRow B 9 1 v n xs) (hb : Below w.heap.size w w') : w'.ownsRow B 9 1 v n xs := owns_same h fun g hg => hb.block g (h.lt g hg).2

set_option maxHeartbeats 1000000 in
set_option maxRecDepth 100000 in
theorem lawJoin (sa : Option Addr) (len cap : Nat) (w : World) (hy : Bytes w.heap.size w sa len) :
    Calls Try.prog 3 #[.slice sa len cap] w fun e w' => e = .returned (.bool true) ∧ Below w.heap.size w w' := by
  by_cases hl : len ≤ 1048576
  · have cd := drawFields sa len cap w.heap.size w (Nat.le_refl _) hl hy
    have bl : (len : Int) ≤ 1048576 := by omega
    clear hy
    go_enter Try.func3, Try.ntmps3
    go_wp2_with (first | (go_at_call 7; go_in) | (go_at_call 8; refine hold ?_))
    refine cd.mono ?_
    clear cd
    rintro e w1 ⟨s, rfl, hs, hb1⟩
    have hs1 : s.size ≤ 1048576 := by omega
    have cI := iFields hs1 w1
    have cS := fun w => sFields hs1 w
    have hfl := fields_len s.data.toList
    rw [← size_eq] at hfl
    have hpc := fields_pc s.data.toList
    have hj := fields_jn fun f hf => (hpc f hf).1
    rw [← size_eq] at hpc
    generalize fieldsV s.data.toList = F at *
    have hF : F.length ≤ 241 := by omega
    have HP : Hid ((∀ f ∈ F, Pc f ∧ f.length ≤ s.size) ∧ fieldsV (jn F) = F) := ⟨hpc, hj⟩
    have CI : Hid _ := cI
    have CS : Hid _ := cS
    have HB1 : Hid (Below w.heap.size w w1) := hb1
    clear hpc hj cI cS hb1 hfl
    go_wp2_with (go_at_call 9; refine hold ?_)
    refine Calls.mono CI.out ?_
    clear CI
    rintro e w2 ⟨v2, rfl, o2, hb2⟩
    obtain ⟨a2, c2, rfl⟩ := owns_slice o2
    have H2 : Hid (w2.ownsRow w1.heap.size 9 1 (.slice a2 F.length c2) F.length (F.map encStr) ∧ Below w.heap.size w w2) := ⟨o2, HB1.out.trans (hb2.mono HB1.out.size)⟩
    clear o2 hb2 HB1
    go_wp2_with (go_at_call 11; refine hold ?_)
    refine Calls.mono (CS.out _) ?_
    clear CS
    rintro e w3 ⟨v3, rfl, o3, hb3⟩
    obtain ⟨a3, c3, rfl⟩ := owns_slice o3
    have E3 : Hid _ := lSame (row_keep H2.out.1 hb3) o3 (by omega)
    have H3 : Hid (w3.ownsRow w1.heap.size 9 1 (.slice a2 F.length c2) F.length (F.map encStr) ∧ Below w.heap.size w w3) := ⟨row_keep H2.out.1 hb3, H2.out.2.trans (hb3.mono H2.out.2.size)⟩
    clear o3 hb3 H2
    go_wp2_with (go_at_call 10; refine hold ?_)
    refine Calls.mono E3.out ?_
    clear E3
    rintro e w4 ⟨rfl, m4, rfl⟩
    obtain ⟨W4, hW4⟩ : ∃ W4, W4 = w3.drewN m4 := ⟨_, rfl⟩
    rw [← hW4]
    have hd4 : Below w3.heap.size w3 W4 := by rw [hW4]; exact ⟨rfl, rfl, rfl, Nat.le_refl _, fun _ _ => rfl⟩
    have H4 : Hid (W4.ownsRow w1.heap.size 9 1 (.slice a2 F.length c2) F.length (F.map encStr) ∧ Below w.heap.size w W4) := ⟨row_keep H3.out.1 hd4, H3.out.2.trans (hd4.mono H3.out.2.size)⟩
    clear hW4 hd4 H3
    have bF : (F.length : Int) ≤ 241 := by omega
    go_wp2_with fail
    go_loopw [5, 6] (fun v i wr => ∃ (k : Nat) (S : ByteArray), v = .string S ∧ i = .int .i64 k ∧ k ≤ F.length ∧ Hid (S.data.toList = jn (F.take k)) ∧ (S.size : Int) ≤ 241 * k ∧ wr = W4) (fun _ i _ => F.length - (intOf i).toNat)
    case atStart => exact ⟨0, ⟨#[]⟩, rfl, rfl, Nat.zero_le _, rfl, by decide, rfl⟩
    case round =>
      obtain ⟨k, S, rfl, rfl, hk, HS, hSz, rfl⟩ := hrel
      have bk : (k : Int) ≤ 241 := by omega
      by_cases hkl : k < F.length
      · have hx : (F.map encStr)[k]? = some (.string ⟨F[k].toArray⟩) := by rw [List.getElem?_map, List.getElem?_eq_getElem hkl]; rfl
        obtain ⟨g, rfl, _, q⟩ := row_cells H4.out.1 hkl
        have r1 := q k _ hx
        have hp := HP.out.1 F[k] (List.getElem_mem hkl)
        have hxl : ((⟨F[k].toArray⟩ : ByteArray).size : Int) ≤ 240 := by have := hp.2; simp [ByteArray.size]; omega
        have hxn : F[k].length ≤ 240 := by have := hp.2; omega
        have hne : (F[k] == []) = false := by simpa using hp.1.1
        have hne2 : ((⟨F[k].toArray⟩ : ByteArray).toList == []) = false := by rw [ByteArray.toList_eq]; simpa using hp.1.1
        have HN : Hid (jn (F.take (k + 1)) = jn (F.take k) ++ ((if k = 0 then [] else [32]) ++ F[k])) := by
          show _ = _
          have hlk : (F.take k).length = k := by simp; omega
          rw [List.take_add_one, List.getElem?_eq_getElem hkl, Option.toList_some, jn_append, hlk]
        generalize F[k] = x at *
        have bk2 : (k : Int) < F.length := by omega
        clear hx q hp
        by_cases h0 : k = 0
        · subst h0
          go_wp2_with fail
          go_roundw
          case rel => exact ⟨0 + 1, S ++ ⟨x.toArray⟩, rfl, by go_num, hkl, (by show _ = _; rw [HN.out, if_pos rfl, ← HS.out]; simp), by rw [ByteArray.size_append]; omega, by simp⟩
          case measure => simp [intOf]; omega
        · have hk0 : (0 : Int) < k := by omega
          have hbig : ¬ 9223372036854775807 < S.size + 1 + x.length := by omega
          go_wp2_with fail
          go_roundw
          case rel => exact ⟨k + 1, S ++ ⟨#[32]⟩ ++ ⟨x.toArray⟩, rfl, by go_num, hkl, (by show _ = _; rw [HN.out, if_neg h0, ← HS.out]; simp), by rw [ByteArray.size_append, ByteArray.size_append]; have : (⟨#[32]⟩ : ByteArray).size = 1 := rfl; omega, by simp⟩
          case measure => simp [intOf]; omega
      · obtain rfl : k = F.length := by omega
        have hS : S.data.toList = jn F := by rw [HS.out, List.take_length]
        have cI := iFields (s := S) (by omega) wr
        rw [hS, HP.out.2] at cI
        have CI : Hid _ := cI
        clear cI hS HS HP
        go_wp2_with (go_at_call 9; refine hold ?_)
        refine Calls.mono CI.out ?_
        clear CI
        rintro e w5 ⟨v5, rfl, o5, hb5⟩
        obtain ⟨a5, c5, rfl⟩ := owns_slice o5
        have E5 : Hid _ := lSame o5 (row_keep H4.out.1 hb5) (by omega)
        have H5 : Hid (Below w.heap.size w w5) := H4.out.2.trans (hb5.mono H4.out.2.size)
        clear o5 hb5 H4
        go_wp2_with (go_at_call 10; refine hold ?_)
        refine Calls.mono E5.out ?_
        clear E5
        rintro e w6 ⟨rfl, m6, rfl⟩
        go_wp2_with fail
        go_ret
        exact ⟨rfl, H5.out.os, H5.out.tape, H5.out.output, H5.out.size, H5.out.block⟩
  · have e1 : decide ((1048576 : Int) < len) = true := decide_eq_true (by omega)
    have e2 : decide (1048576 < len) = true := decide_eq_true (by omega)
    clear hy
    go_enter Try.func3, Try.ntmps3
    go_wp2_with (first | (go_at_call 7; go_in))
    all_goals first | (go_ret; exact ⟨rfl, Below.refl _ _⟩) | exact ⟨rfl, Below.refl _ _⟩

end Fd
end Go.Proofs.Ytjlchfielpfehaa
