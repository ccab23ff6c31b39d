/-
  MachBytes of the program, where MachOk is told.
  MachBytes of the specification: values, cells, a Mach.
-/
import Derived.Test.YtkhoccjfkkfipaaGreatDoorP03
import Derived.Deep.RegionLaw
import Derived.Shelf.Abstract
import Derived.Laws.OwnMore
namespace Go.Proofs.YtkhoccjfkkfipaaGreatDoor
open Go.RowKit
namespace Mb
open Bt (Row Ch hold Ans)
open St (Vl Cl encV encC RdV RdC)
set_option linter.unusedSimpArgs false
set_option linter.unusedVariables false

/-- Numbers that are read. -/
def RdN (w : World) (ao : Option Addr) (ss : List Int) : Prop := ∀ i s, ss[i]? = some s → ∃ b o, ao = some ⟨b, o, none⟩ ∧ b < w.heap.size ∧ w.cell? ⟨b, o + i, none⟩ = some (.int .i64 s)
theorem rdn_same {w w' : World} {ao : Option Addr} {ss : List Int} (h : RdN w ao ss) (hs : w.heap.size ≤ w'.heap.size) (hb : ∀ a, ao = some a → w'.heap[a.block]? = w.heap[a.block]?) : RdN w' ao ss := by
  intro i s hi
  obtain ⟨b, o, e, hl, c0⟩ := h i s hi
  exact ⟨b, o, e, by omega, (World.cell?_of_block (a := ⟨b, o + i, none⟩) (hb ⟨b, o, none⟩ e)).trans c0⟩
/-- A Mach that is small enough to be put. -/
structure MR (vs : List Vl) (cs : List Cl) (nr er : Int) (dn : List Int) (out : ByteArray) : Prop where
  vn : vs.length ≤ 1000
  vs : ∀ v ∈ vs, VR v
  cn : cs.length ≤ 1000
  cs : ∀ c ∈ cs, CR c
  nr : 0 ≤ nr ∧ nr ≤ 1000000
  er : 0 ≤ er ∧ er ≤ 1000000
  dnn : dn.length ≤ 1000
  dn : ∀ d ∈ dn, 0 ≤ d ∧ d ≤ 1000000
  out : out.size ≤ 1048576

/-- The parts, one behind the other. -/
def Y1 (vs : List Vl) : List UInt8 := Bt.putV vs.length ++ vs.flatMap valY
def Y2 (cs : List Cl) : List UInt8 := Bt.putV cs.length ++ cs.flatMap cellY
theorem machY_is (vs : List Vl) (cs : List Cl) (nr er : Int) (dn : List Int) (out : ByteArray) : machY vs cs nr er dn out = ((((Y1 vs ++ Y2 cs) ++ Bt.putV nr) ++ Bt.putV er) ++ dn.flatMap Bt.putV) ++ Bt.putT out.data.toList := by
  simp [machY, Y1, Y2, List.append_assoc]
theorem Y1_len {vs : List Vl} (hn : vs.length ≤ 1000) (h : ∀ v ∈ vs, VR v) : (Y1 vs).length ≤ 500000 := by
  have h1 := Bt.putV_len vs.length
  have h2 := flat_len (f := valY) (m := 400) fun v hv => valY_len (h v hv)
  have h3 : vs.length * 400 ≤ 1000 * 400 := Nat.mul_le_mul_right _ hn
  unfold Y1
  rw [List.length_append]
  omega
theorem Y2_len {cs : List Cl} (hn : cs.length ≤ 1000) (h : ∀ c ∈ cs, CR c) : (Y2 cs).length ≤ 2000000 := by
  have h1 := Bt.putV_len cs.length
  have h2 := flat_len (f := cellY) (m := 1500) fun v hv => cellY_len (h v hv)
  have h3 : cs.length * 1500 ≤ 1000 * 1500 := Nat.mul_le_mul_right _ hn
  unfold Y2
  rw [List.length_append]
  omega

set_option maxHeartbeats 4000000 in
set_option maxRecDepth 100000 in
theorem iMachBytes {va ca sa ma a b c : Option Addr} {vn cn sn mn vc cc sc mc xa xb xc : Nat} {vs : List Vl} {cs : List Cl} {nr er : Int} {dn : List Int} {out : ByteArray} {G : Bool} {w : World}
    (hok : ∀ w', Below w.heap.size w w' → Calls Tryz.prog 27 #[.agg #[.slice va vn vc, .slice ca cn cc, .slice sa sn sc, .slice ma mn mc], .agg #[.slice a vs.length xa, .slice b cs.length xb, .int .i64 nr, .int .i64 er, .slice c dn.length xc, .string out]] w' fun e w'' => e = .returned (.bool G) ∧ Below w'.heap.size w' w'')
    (hV : RdV w a vs) (hC : RdC w b cs) (hD : RdN w c dn) (la : ∀ x, a = some x → x.block < w.heap.size) (lb : ∀ x, b = some x → x.block < w.heap.size) (lc : ∀ x, c = some x → x.block < w.heap.size) (hr : G = true → MR vs cs nr er dn out) :
    Calls Tryz.prog 9 #[.agg #[.slice va vn vc, .slice ca cn cc, .slice sa sn sc, .slice ma mn mc], .agg #[.slice a vs.length xa, .slice b cs.length xb, .int .i64 nr, .int .i64 er, .slice c dn.length xc, .string out]] w (Ans w (if G = true then machY vs cs nr er dn out else [])) := by
  obtain ⟨W, hW⟩ : ∃ W, W = (w.alloc (.cells #[.slice va vn vc, .slice ca cn cc, .slice sa sn sc, .slice ma mn mc] 39)).alloc (.cells #[.slice a vs.length xa, .slice b cs.length xb, .int .i64 nr, .int .i64 er, .slice c dn.length xc, .string out] 46) := ⟨_, rfl⟩
  have hbW : Below w.heap.size w W := by rw [hW]; exact ((Below.refl _ w).alloc (Nat.le_refl _) _).alloc (by simp) _
  have bW : W.heap[w.heap.size + 1]? = some (.cells #[.slice a vs.length xa, .slice b cs.length xb, .int .i64 nr, .int .i64 er, .slice c dn.length xc, .string out] 46 (0, 0)) := by
    have := heap_alloc_new (w.alloc (.cells #[.slice va vn vc, .slice ca cn cc, .slice sa sn sc, .slice ma mn mc] 39)) (.cells #[.slice a vs.length xa, .slice b cs.length xb, .int .i64 nr, .int .i64 er, .slice c dn.length xc, .string out] 46)
    rw [World.size_alloc] at this
    rw [hW]
    exact this
  have CO := hok W hbW
  obtain ⟨Z, hZ⟩ : ∃ Z, Z = (if G = true then machY vs cs nr er dn out else []) := ⟨_, rfl⟩
  rw [← hZ]
  have HZ : Hid (Z = (if G = true then machY vs cs nr er dn out else [])) := hZ
  clear hok hZ
  go_enter Tryz.func9, Tryz.ntmps9
  go_wp2_with (go_at_call 27; refine hold ?_)
  rw [← hW]
  clear hW
  refine CO.mono ?_
  clear CO
  rintro e w1 ⟨rfl, hb1⟩
  have q1 := hbW.trans (hb1.mono hbW.size)
  have hlt1 : w.heap.size + 1 < W.heap.size := by
    rcases Nat.lt_or_ge (w.heap.size + 1) W.heap.size with h' | h'
    · exact h'
    · rw [Array.getElem?_eq_none h'] at bW; simp at bW
  have b1 := (hb1.block _ hlt1).trans bW
  clear hb1 hbW bW hlt1
  cases G
  · go_wp2_with fail
    go_ret
    have hz : Z = [] := HZ.out
    rw [hz]
    exact ⟨none, 0, rfl, Row.nil _ _, q1⟩
  have HR : Hid (MR vs cs nr er dn out) := hr rfl
  have HZ1 : Z = ((((Y1 vs ++ Y2 cs) ++ Bt.putV nr) ++ Bt.putV er) ++ dn.flatMap Bt.putV) ++ Bt.putT out.data.toList := HZ.out.trans ((if_pos rfl).trans (machY_is ..))
  clear HZ
  have s1 := q1.size
  have n1 := HR.out.vn
  have n2 := HR.out.cn
  have l1 := Y1_len HR.out.vn HR.out.vs
  have l2 := Y2_len HR.out.cn HR.out.cs
  have l3 := Bt.putV_len nr
  have l4 := Bt.putV_len er
  obtain ⟨M1, hM1⟩ : ∃ M, M = Y1 vs := ⟨_, rfl⟩
  obtain ⟨M2, hM2⟩ : ∃ M, M = M1 ++ Y2 cs := ⟨_, rfl⟩
  obtain ⟨M3, hM3⟩ : ∃ M, M = M2 ++ Bt.putV nr := ⟨_, rfl⟩
  obtain ⟨M4, hM4⟩ : ∃ M, M = M3 ++ Bt.putV er := ⟨_, rfl⟩
  have e1 : M1.length ≤ 500000 := by rw [hM1]; exact l1
  have e2 : M2.length ≤ 2500000 := by rw [hM2, List.length_append]; omega
  have e3 : M3.length ≤ 2500010 := by rw [hM3, List.length_append]; omega
  have e4 : M4.length ≤ 2500020 := by rw [hM4, List.length_append]; omega
  have C1 : ∀ w2, Below w.heap.size w w2 → Calls Tryz.prog 28 #[.slice none 0 0, .slice a vs.length xa, .func (.func 29) #[] #[]] w2 fun e w' => ∃ ao' cap', e = .returned (.slice ao' M1.length cap') ∧ Row w.heap.size w' ao' cap' M1 ∧ Below w.heap.size w2 w' ∧ Ch w2 w' := fun w2 h => by
    have := iPutVals (xa := xa) (Row.nil w.heap.size w2) (rdv_same hV h.size fun x hx => h.block _ (la x hx)) la HR.out.vn HR.out.vs (by simp) h.size
    unfold Put at this
    rw [List.nil_append, show Bt.putV vs.length ++ vs.flatMap valY = M1 from hM1.symm] at this
    exact this
  have C2 : ∀ w2 ao2 cap2, Below w.heap.size w w2 → Row w.heap.size w2 ao2 cap2 M1 → Calls Tryz.prog 30 #[.slice ao2 M1.length cap2, .slice b cs.length xb, .func (.func 31) #[] #[]] w2 fun e w' => ∃ ao' cap', e = .returned (.slice ao' M2.length cap') ∧ Row w.heap.size w' ao' cap' M2 ∧ Below w.heap.size w2 w' ∧ Ch w2 w' := fun w2 ao2 cap2 h hr => by
    have := iPutCells (xa := xb) hr (rdc_same hC h.size fun x hx => h.block _ (lb x hx)) lb HR.out.cn HR.out.cs (by omega) h.size
    unfold Put at this
    rw [show M1 ++ (Bt.putV cs.length ++ cs.flatMap cellY) = M2 from hM2.symm] at this
    exact this
  have C3 : ∀ w2 ao2 cap2, Below w.heap.size w w2 → Row w.heap.size w2 ao2 cap2 M2 → Calls Tryz.prog 32 #[.slice ao2 M2.length cap2, .int .i64 nr] w2 fun e w' => ∃ ao' cap', e = .returned (.slice ao' M3.length cap') ∧ Row w.heap.size w' ao' cap' M3 ∧ Below w.heap.size w2 w' ∧ Ch w2 w' := fun w2 ao2 cap2 h hr => by
    rw [hM3]
    exact putNat hr HR.out.nr.1 (by have := HR.out.nr.2; omega) (by omega) h.size
  have C4 : ∀ w2 ao2 cap2, Below w.heap.size w w2 → Row w.heap.size w2 ao2 cap2 M3 → Calls Tryz.prog 32 #[.slice ao2 M3.length cap2, .int .i64 er] w2 fun e w' => ∃ ao' cap', e = .returned (.slice ao' M4.length cap') ∧ Row w.heap.size w' ao' cap' M4 ∧ Below w.heap.size w2 w' ∧ Ch w2 w' := fun w2 ao2 cap2 h hr => by
    rw [hM4]
    exact putNat hr HR.out.er.1 (by have := HR.out.er.2; omega) (by omega) h.size
  have HE4 : Hid (M4.length ≤ 2500020) := e4
  have HM4 : Hid ((((Y1 vs ++ Y2 cs) ++ Bt.putV nr) ++ Bt.putV er) = M4) := by show _ = _; rw [hM4, hM3, hM2, hM1]
  have HD : Hid (∀ w2, Below w.heap.size w w2 → RdN w2 c dn) := fun w2 h => rdn_same hD h.size fun x hx => h.block _ (lc x hx)
  rw [HM4.out] at HZ1
  have HZ : Hid (Z = M4 ++ dn.flatMap Bt.putV ++ Bt.putT out.data.toList) := HZ1
  clear HZ1
  clear l1 l2 l3 l4 hM1 hM2 hM3 hM4 e1 e2 e3 e4 hV hC hD la lb lc hr
  have x0 : w1.cell? ⟨w.heap.size + 1, 0, none⟩ = some (.slice a vs.length xa) := (cell_of_row w1 _ 0 _ _ _ b1).trans rfl
  go_wp2_with (go_at_call 28; refine hold ?_)
  refine (C1 w1 q1).mono ?_
  rintro e w2 ⟨a2, cap2, rfl, hr2, hb2, hc2⟩
  have q2 := q1.trans hb2
  have b2 := ch_blk b1 (by decide) hc2
  have x1 : w2.cell? ⟨w.heap.size + 1, 1, none⟩ = some (.slice b cs.length xb) := (cell_of_row w2 _ 1 _ _ _ b2).trans rfl
  have D2 := C2 w2 _ _ q2 hr2
  clear C1 C2 x0 q1 b1 hb2 hc2 hr2
  go_wp2_with (go_at_call 30; refine hold ?_)
  refine D2.mono ?_
  rintro e w3 ⟨a3, cap3, rfl, hr3, hb3, hc3⟩
  have q3 := q2.trans hb3
  have b3 := ch_blk b2 (by decide) hc3
  have x2 : w3.cell? ⟨w.heap.size + 1, 2, none⟩ = some (.int .i64 nr) := (cell_of_row w3 _ 2 _ _ _ b3).trans rfl
  have D3 := C3 w3 _ _ q3 hr3
  clear D2 C3 x1 q2 b2 hb3 hc3 hr3
  go_wp2_with (go_at_call 32; refine hold ?_)
  refine D3.mono ?_
  rintro e w4 ⟨a4, cap4, rfl, hr4, hb4, hc4⟩
  have q4 := q3.trans hb4
  have b4 := ch_blk b3 (by decide) hc4
  have x3 : w4.cell? ⟨w.heap.size + 1, 3, none⟩ = some (.int .i64 er) := (cell_of_row w4 _ 3 _ _ _ b4).trans rfl
  have D4 := C4 w4 _ _ q4 hr4
  clear D3 C4 x2 q3 b3 hb4 hc4 hr4
  go_wp2_with (go_at_call 32; refine hold ?_)
  refine D4.mono ?_
  rintro e w5 ⟨a5, cap5, rfl, hr5, hb5, hc5⟩
  have q5 := q4.trans hb5
  have b5 := ch_blk b4 (by decide) hc5
  have x4 : w5.cell? ⟨w.heap.size + 1, 4, none⟩ = some (.slice c dn.length xc) := (cell_of_row w5 _ 4 _ _ _ b5).trans rfl
  have bd : (dn.length : Int) ≤ 1000 := by have := HR.out.dnn; omega
  clear D4 x3 q4 b4 hb5 hc5
  go_wp2_with fail
  go_loopw [5, 34] (fun bv iv wr => ∃ (k : Nat) (ao : Option Addr) (cap : Nat), bv = .slice ao (M4 ++ (dn.take k).flatMap Bt.putV).length cap ∧ iv = .int .i64 k ∧ k ≤ dn.length ∧ Row w.heap.size wr ao cap (M4 ++ (dn.take k).flatMap Bt.putV) ∧ Below w.heap.size w wr ∧ wr.heap[w.heap.size + 1]? = some (.cells #[.slice a vs.length xa, .slice b cs.length xb, .int .i64 nr, .int .i64 er, .slice c dn.length xc, .string out] 46 (0, 0))) (fun _ iv _ => dn.length - (intOf iv).toNat)
  case atStart => exact ⟨0, a5, cap5, by simp, rfl, Nat.zero_le _, by simpa using hr5, q5, b5⟩
  case round =>
    clear hr5 q5 b5 x4
    obtain ⟨k, ao, cap, rfl, rfl, hk, hr, hb, hB⟩ := hrel
    obtain ⟨N, hN⟩ : ∃ N, N = M4 ++ (dn.take k).flatMap Bt.putV := ⟨_, rfl⟩
    rw [← hN] at hr ⊢
    have hNl : N.length ≤ 2600000 := by
      have h1 := flat_len (f := Bt.putV) (m := 10) (vs := dn.take k) fun v _ => Bt.putV_len v
      have h2 : (dn.take k).length * 10 ≤ 1000 * 10 := Nat.mul_le_mul_right _ (by rw [List.length_take]; have := HR.out.dnn; omega)
      have h3 := HE4.out
      rw [hN, List.length_append]
      omega
    by_cases hkl : k < dn.length
    · have hx : dn[k]? = some dn[k] := List.getElem?_eq_getElem hkl
      have hdr := HR.out.dn _ (List.mem_of_getElem? hx)
      have HN : Hid (N ++ Bt.putV dn[k] = M4 ++ (dn.take (k + 1)).flatMap Bt.putV) := by show _ = _; rw [hN, flat_take hx, List.append_assoc]
      obtain ⟨bb, o, rfl, hbl, c0⟩ := (HD.out wr hb) k dn[k] hx
      generalize dn[k] = v at hx hdr HN c0
      have D := putNat hr hdr.1 (by omega) (by omega) hb.size
      have HH : Hid (Below w.heap.size w wr ∧ wr.heap[w.heap.size + 1]? = some (.cells #[.slice a vs.length xa, .slice b cs.length xb, .int .i64 nr, .int .i64 er, .slice (some ⟨bb, o, none⟩) dn.length xc, .string out] 46 (0, 0))) := ⟨hb, hB⟩
      unfold Put at D
      rw [HN.out] at D
      obtain ⟨P, hP⟩ : ∃ P, P = M4 ++ (dn.take (k + 1)).flatMap Bt.putV := ⟨_, rfl⟩
      rw [← hP] at D
      have HP : Hid (P = M4 ++ (dn.take (k + 1)).flatMap Bt.putV) := hP
      clear hr hb hB hx hN hNl hP HN hdr
      go_wp2_with (go_at_call 32; refine hold ?_)
      refine D.mono ?_
      rintro e w7 ⟨a7, cap7, rfl, hr7, hb7, hc7⟩
      have HW : Hid (Below w.heap.size w w7 ∧ w7.heap[w.heap.size + 1]? = some (.cells #[.slice a vs.length xa, .slice b cs.length xb, .int .i64 nr, .int .i64 er, .slice (some ⟨bb, o, none⟩) dn.length xc, .string out] 46 (0, 0))) := ⟨HH.out.1.trans hb7, ch_blk HH.out.2 (by decide) hc7⟩
      clear D hb7 hc7 c0
      go_wp2_with fail
      go_roundw
      case rel => exact ⟨k + 1, a7, cap7, by rw [← HP.out], by go_num, hkl, by rw [← HP.out]; exact hr7, HW.out.1, HW.out.2⟩
      case measure => simp [intOf]; omega
    · obtain rfl : k = dn.length := by omega
      rw [List.take_length] at hN
      have x5 : wr.cell? ⟨w.heap.size + 1, 5, none⟩ = some (.string out) := (cell_of_row wr _ 5 _ _ _ hB).trans rfl
      have D := Bt.iPutS hr HR.out.out (by omega) hb.size
      have HZN : Hid (N ++ Bt.putT out.data.toList = Z) := by show _ = _; rw [HZ.out, hN]
      have HQ : Hid (Below w.heap.size w wr) := hb
      clear hr hb hB hN hNl
      go_wp2_with (go_at_call 33; refine hold ?_)
      refine D.mono ?_
      rintro e w7 ⟨a7, cap7, rfl, hr7, hb7, hc7⟩
      rw [HZN.out] at hr7 ⊢
      go_wp2_with fail
      go_ret
      exact ⟨a7, cap7, rfl, hr7, HQ.out.trans hb7⟩

end Mb
end Go.Proofs.YtkhoccjfkkfipaaGreatDoor
namespace Go.Proofs.YtkhoccjfkkfipaaGreatDoor
open Go.RowKit
namespace Mb
open Bt (Row Ch hold Ans)
open St (Vl Cl encV encC RdV RdC)
set_option linter.unusedSimpArgs false
set_option linter.unusedVariables false

theorem app_run {B C : Nat} {w : World} {L M : List UInt8} {ao am : Option Addr} {cap c : Nat} (hown : Row B w ao cap L) (hM : Row C w am c M) (room : L.length + M.length ≤ 1099511627776) (hB : B ≤ w.heap.size) :
    ∃ ao' cap' w', (Builtin.append_ #[35, 35] 35 #[.slice ao L.length cap, .slice am M.length c]).run Tryz.prog w = .ok (.slice ao' (L ++ M).length cap') w' ∧ Row B w' ao' cap' (L ++ M) ∧ Below B w w' ∧ Ch w w' := by
  obtain ⟨i0, hi0, hz0, hz1, hz2⟩ := info_parts Bt.Tryz.infoByte
  rcases hM.2 with ⟨e, h0⟩ | ⟨g, c', cur, e, hg, _⟩
  · have hm : M = [] := List.length_eq_zero_iff.1 h0
    subst hm
    simp only [Value.slice.injEq] at e
    obtain ⟨rfl, _, rfl⟩ := e
    have hrun := run_append_owned_none (P := Tryz.prog) (w := w) B 35 35 5 i0 1 Tryz.underlying35 hi0 (.slice ao L.length cap) L.length _ hown
    exact ⟨ao, cap, w, by rw [List.append_nil]; exact hrun, by rw [List.append_nil]; exact hown, Below.refl _ _, Ch.refl _⟩
  · simp only [Value.slice.injEq] at e
    obtain ⟨rfl, _, rfl⟩ := e
    obtain ⟨v', w', hrun, hown', hgr, _⟩ := run_append_own (P := Tryz.prog) (w := w) B 35 35 5 i0 (.int .u8 0) 1 1 Tryz.underlying35 hi0 hz0 hz1 hz2 rfl (by decide) (.slice ao L.length cap) L.length (Lib.byteCells L) hown ⟨g, 0, none⟩ M.length c (Lib.byteCells M) (by simp [Lib.byteCells]) (fun j u hj => by
      simp only [Lib.byteCells, List.getElem?_map, Option.map_eq_some_iff] at hj
      obtain ⟨b, hb, rfl⟩ := hj
      obtain ⟨g', o', e, _, h1⟩ := hM.rd j b hb
      simp only [Option.some.injEq, Addr.mk.injEq] at e
      obtain ⟨rfl, rfl, _⟩ := e
      have : (⟨g, 0, none⟩ : Addr).add j = ⟨g, 0 + j, none⟩ := by unfold Addr.add; split <;> simp_all
      rw [this]
      exact h1) (fun u hu => by
      simp only [Lib.byteCells, List.mem_map] at hu
      obtain ⟨b, _, rfl⟩ := hu
      rfl) (by unfold maxLen; omega) (by omega) hB
    obtain ⟨ao', cap', rfl⟩ := Bt.own_form hown'
    have hl : (L ++ M).length = L.length + M.length := by simp
    exact ⟨ao', cap', w', by rw [hl]; exact hrun, by unfold Row; rw [hl]; unfold Lib.byteCells at hown' ⊢; rw [List.map_append]; exact hown', Below.grown (Below.refl B w) hgr hB fun k hk => (World.ownsRow.lt hown k hk).1, Ch.grown hown hgr⟩

/-- A call of a Go function, one step of a region that draws its order. -/
theorem step_call {P : Program} {ops : Array Oper} {o : Oper} {a : Act} {w : World} {K : Act → World → Prop} {Q : Exit → Act → World → Prop} {E : Prop}
    (hg : o.guard = none) (f : Nat) (x : Operand) (t : TypeId) (hop : o.op = Op.call { callee := Callee.value (.func f), args := #[x], argTypes := #[t] }) (hcf : ∀ vs w, (callFunc f vs).run P w = .ok (.enter f vs) w) (v : Value) (hx : a.eval x = v)
    (hc : Calls P f #[v] w fun e w' => ∃ u, e = .returned u ∧ K (a.put o.dst u) w') : if Region.wanted o (yielded ops a.tmps) = true then Oper.wp P o a w K Q else E := by
  have hw : Region.wanted o (yielded ops a.tmps) = true := by simp [Region.wanted, hg]
  rw [if_pos hw]
  unfold Oper.wp
  simp [Act.eval] at hx
  simp [execOp, hop, resolve, invoke, hcf, go_sem, hx]
  refine hc.mono ?_
  rintro e w' ⟨u, rfl, hk⟩
  exact hk
/-- An append of bytes, one step of a region that draws its order. -/
theorem step_app {ops : Array Oper} {o : Oper} {a : Act} {w : World} {K : Act → World → Prop} {Q : Exit → Act → World → Prop} {E : Prop} {B C : Nat}
    (hg : o.guard = none) (s x : Operand) (hop : o.op = Op.call { callee := Callee.builtin Builtin.append, args := #[s, x], argTypes := #[35, 35] }) (hty : o.type = 35)
    (L M : List UInt8) (ao am : Option Addr) (cap c : Nat) (hs : a.eval s = .slice ao L.length cap) (hx : a.eval x = .slice am M.length c) (hown : Row B w ao cap L) (hM : Row C w am c M) (room : L.length + M.length ≤ 1099511627776) (hB : B ≤ w.heap.size)
    (hK : ∀ ao' cap' w', Row B w' ao' cap' (L ++ M) → Below B w w' → Ch w w' → K (a.put o.dst (.slice ao' (L ++ M).length cap')) w') : if Region.wanted o (yielded ops a.tmps) = true then Oper.wp Tryz.prog o a w K Q else E := by
  have hw : Region.wanted o (yielded ops a.tmps) = true := by simp [Region.wanted, hg]
  rw [if_pos hw]
  obtain ⟨ao', cap', w', hrun, h1, h2, h3⟩ := app_run hown hM room hB
  unfold Oper.wp
  simp only [execOp, hop, resolve, invoke, builtin, hs, hx, hrun, hty, Result.andThen, Sem.run_bind, Sem.run_pure, List.map_toArray, List.map_cons, List.map_nil]
  exact hK ao' cap' w' h1 h2 h3

set_option maxHeartbeats 2000000 in
set_option maxRecDepth 100000 in
theorem sVal {k n : Int} {s : ByteArray} {w : World} (hs : s.size ≤ 1048576) :
    Calls Tryz.prog 49 #[.agg #[.int .i64 k, .int .i64 n, .string s]] w (Ans w (valY (k, n, s))) := by
  obtain ⟨W, hW⟩ : ∃ W, W = w.alloc (.cells #[.int .i64 k, .int .i64 n, .string s] 67) := ⟨_, rfl⟩
  have bW : W.heap[w.heap.size]? = some (.cells #[.int .i64 k, .int .i64 n, .string s] 67 (0, 0)) := by rw [hW]; exact heap_alloc_new w _
  have hbW : Below w.heap.size w W := by rw [hW]; exact (Below.refl _ w).alloc (Nat.le_refl _) _
  have hsz : W.heap.size = w.heap.size + 1 := by rw [hW]; exact World.size_alloc _ _
  have l1 := Bt.putV_len k
  have l2 := Bt.putI_len n
  have l3 := putT_len (s := s)
  obtain ⟨V1, hV1⟩ : ∃ V, V = Bt.putV k := ⟨_, rfl⟩
  obtain ⟨V2, hV2⟩ : ∃ V, V = Bt.putI n := ⟨_, rfl⟩
  obtain ⟨V3, hV3⟩ : ∃ V, V = Bt.putT s.data.toList := ⟨_, rfl⟩
  have P1 := fun w => Bt.sPutNum k w
  have P2 := fun w => Bt.sPutInt n w
  have P3 := fun w => Bt.sPutText s hs w
  rw [← hV1] at P1 l1
  rw [← hV2] at P2 l2
  rw [← hV3] at P3 l3
  have HV : Hid (V1 ++ V2 ++ V3 = valY (k, n, s)) := by show _ = _; rw [hV1, hV2, hV3]; rfl
  have HR1 : Hid (V1.length + V2.length ≤ 1099511627776) := by show _ ≤ _; omega
  obtain ⟨N, hN⟩ : ∃ N, N = V1 ++ V2 := ⟨_, rfl⟩
  have HR2 : Hid (N.length + V3.length ≤ 1099511627776) := by show _ ≤ _; rw [hN, List.length_append]; omega
  rw [← hN] at HV
  have HN : Hid (V1 ++ V2 = N) := hN.symm
  obtain ⟨Z, hZ⟩ : ∃ Z, Z = valY (k, n, s) := ⟨_, rfl⟩
  rw [← hZ] at HV ⊢
  have HW : Hid (W = w.alloc (.cells #[.int .i64 k, .int .i64 n, .string s] 67)) := hW
  clear hV1 hV2 hV3 l1 l2 l3 hs hN hZ
  go_enter Tryz.func49, Tryz.ntmps49
  go_wp2_with fail
  rw [← hW]
  clear hW
  rename_i K hK
  have REST : Hid (∀ (q0 q2 q4 q5 q6 q7 q8 q9 q10 : Value) (a : Option Addr) (c : Nat) (w5 : World), Row w.heap.size w5 a c N → Below w.heap.size w w5 → w5.heap[w.heap.size]? = some (.cells #[.int .i64 k, .int .i64 n, .string s] 67 (0, 0)) → K ⟨#[q0, .pointer (some ⟨w.heap.size, 0, none⟩), q2, .slice a N.length c, q4, q5, q6, q7, q8, q9, q10, undef, undef, undef, undef, undef], []⟩ w5) := by
    intro q0 q2 q4 q5 q6 q7 q8 q9 q10 a c w5 hr5 hb5 bk5
    refine hK _ _ ?_
    clear hK P1 P2 bW hbW hsz
    have x2 : w5.cell? ⟨w.heap.size, 2, none⟩ = some (.string s) := (cell_of_row w5 _ 2 _ _ _ bk5).trans rfl
    go_wp2_with (first | (go_at_call 50; refine (P3 w5).mono ?_; rintro e w6 ⟨a6, cap6, rfl, hr6, hb6⟩; have hr5' := hr5.below hb6 (Nat.le_refl _)) | (at_builtin; refine Bt.app_any rfl _ _ rfl N _ _ rfl hr5' V3 _ _ rfl hr6 HR2.out (Nat.le_trans hb5.size hb6.size) ?_; rw [HV.out]; intro a7 cap7 w7 hr7 hb7 _))
    go_ret
    exact ⟨a7, cap7, rfl, hr7, hb5.trans ((hb6.mono hb5.size).trans hb7)⟩
  clear hK
  have y0 : W.drew.cell? ⟨w.heap.size, 0, none⟩ = some (.int .i64 k) := (cell_of_row W.drew _ 0 _ _ _ bW).trans rfl
  have y1 : W.drew.cell? ⟨w.heap.size, 1, none⟩ = some (.int .i64 n) := (cell_of_row W.drew _ 1 _ _ _ bW).trans rfl
  have hbD : Below w.heap.size w W.drew := hbW.drew
  have bD : W.drew.heap[w.heap.size]? = some (.cells #[.int .i64 k, .int .i64 n, .string s] 67 (0, 0)) := bW
  have hsD : W.drew.heap.size = w.heap.size + 1 := hsz
  have en1 : ∀ vs w, (callFunc 48 vs).run Tryz.prog w = .ok (.enter 48 vs) w := enters_of Tryz.func48 (by kernel_rfl) rfl
  have en2 : ∀ vs w, (callFunc 71 vs).run Tryz.prog w = .ok (.enter 71 vs) w := enters_of Tryz.func71 (by kernel_rfl) rfl
  go_region_law (first
    | (refine step_call rfl 48 (.tmp 5) 3 rfl en1 (.int .i64 k) rfl ((P1 W.drew).mono ?_); rintro e w2 ⟨a2, cap2, rfl, hr2, hb2⟩; refine ⟨_, rfl, ?_⟩; have bk2 := (hb2.block _ (by omega)).trans bD; have z1 : w2.cell? ⟨w.heap.size, 1, none⟩ = some (.int .i64 n) := (cell_of_row w2 _ 1 _ _ _ bk2).trans rfl)
    | (refine step_call rfl 71 (.tmp 8) 3 rfl en2 (.int .i64 n) rfl ((P2 w2).mono ?_); rintro e w3 ⟨a3, cap3, rfl, hr3, hb3⟩; refine ⟨_, rfl, ?_⟩; have bk3 := (hb3.block _ (by have := hb2.size; omega)).trans bk2; have hr2' := hr2.below hb3 (Nat.le_refl _); have hB3 := Nat.le_trans hb2.size hb3.size)
    | (refine step_app rfl (.tmp 6) (.tmp 9) rfl rfl V1 V2 _ _ _ _ rfl rfl hr2' hr3 HR1.out hB3 ?_; rw [HN.out]; intro a4 cap4 w4 hr4 hb4 hc4; have bk4 := ch_blk bk3 (by decide) hc4))
  all_goals exact REST.out _ _ _ _ _ _ _ _ _ _ _ _ (hr4.mono (by omega)) (hbD.trans ((hb2.mono (by omega)).trans ((hb3.mono (by have := hb2.size; omega)).trans (hb4.mono (by omega))))) bk4

end Mb
end Go.Proofs.YtkhoccjfkkfipaaGreatDoor
