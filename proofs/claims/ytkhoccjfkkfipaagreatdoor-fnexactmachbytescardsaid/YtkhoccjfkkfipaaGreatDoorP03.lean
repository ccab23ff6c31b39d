/-
  A Mach as bytes (plain); values, cells, lists of them that are put behind bytes, the program's.
  Lists of values and of cells that are put behind bytes, the program's; MachBytes.
-/
import Derived.Test.YtkhoccjfkkfipaaGreatDoorP01
import Derived.Test.YtkhoccjfkkfipaaGreatDoorP02
namespace Go.Proofs.YtkhoccjfkkfipaaGreatDoor
open Go.RowKit
namespace Mb
open Bt (Row Ch hold)
open St (Vl Cl encV encC RdV RdC)
set_option linter.unusedSimpArgs false
set_option linter.unusedVariables false

def valY (v : Vl) : List UInt8 := Bt.putV v.1 ++ Bt.putI v.2.1 ++ Bt.putT v.2.2.data.toList
def cellY (c : Cl) : List UInt8 := Bt.putV c.1 ++ Bt.putT c.2.1.data.toList ++ valY c.2.2
def machY (vs : List Vl) (cs : List Cl) (nr er : Int) (dn : List Int) (out : ByteArray) : List UInt8 :=
  Bt.putV vs.length ++ vs.flatMap valY ++ (Bt.putV cs.length ++ cs.flatMap cellY) ++ Bt.putV nr ++ Bt.putV er ++ dn.flatMap Bt.putV ++ Bt.putT out.data.toList
/-- A value that is small enough to be put. -/
def VR (v : Vl) : Prop := (0 ≤ v.1 ∧ v.1 ≤ 1000) ∧ (-9000000000000 ≤ v.2.1 ∧ v.2.1 ≤ 9000000000000) ∧ v.2.2.size ≤ 300
def CR (c : Cl) : Prop := (0 ≤ c.1 ∧ c.1 ≤ 1000) ∧ c.2.1.size ≤ 1000 ∧ VR c.2.2

theorem putT_len {s : ByteArray} : (Bt.putT s.data.toList).length ≤ 10 + s.size := by
  have h1 := Bt.putV_len (s.data.toList.length : Int)
  have h2 : s.data.toList.length = s.size := rfl
  unfold Bt.putT
  rw [List.length_append]
  omega
theorem valY_len {v : Vl} (h : VR v) : (valY v).length ≤ 400 := by
  have h1 := Bt.putV_len v.1
  have h2 := Bt.putI_len v.2.1
  have h3 := putT_len (s := v.2.2)
  have h4 := h.2.2
  unfold valY
  simp only [List.length_append]
  omega
theorem cellY_len {c : Cl} (h : CR c) : (cellY c).length ≤ 1500 := by
  have h1 := Bt.putV_len c.1
  have h2 := putT_len (s := c.2.1)
  have h3 := valY_len h.2.2
  have h4 := h.2.1
  unfold cellY
  simp only [List.length_append]
  omega

/-- Bytes V put behind: what is answered, and what has not turned. -/
def Put (B : Nat) (L V : List UInt8) (w : World) (e : Ending) (w' : World) : Prop := ∃ ao cap, e = .returned (.slice ao (L ++ V).length cap) ∧ Row B w' ao cap (L ++ V) ∧ Below B w w' ∧ Ch w w'

theorem ch_blk {w w' : World} {b : Nat} {cs : Array Value} {T : TypeId} (h : w.heap[b]? = some (.cells cs T (0, 0))) (hT : T ≠ 5) (hc : Ch w w') : w'.heap[b]? = some (.cells cs T (0, 0)) := by
  have hb : b < w.heap.size := by
    rcases Nat.lt_or_ge b w.heap.size with h' | h'
    · exact h'
    · rw [Array.getElem?_eq_none h'] at h; simp at h
  rw [hc b hb (fun cur fr e => by rw [h] at e; simp at e; exact hT e.2.1)]
  exact h

theorem putNat {B : Nat} {x : Int} {L : List UInt8} {ao : Option Addr} {cap : Nat} {w : World} (hr : Row B w ao cap L) (h0 : 0 ≤ x) (h1 : x ≤ 4611686018427387903) (room : L.length + 10 ≤ 1099511627776) (hB : B ≤ w.heap.size) :
    Calls Tryz.prog 32 #[.slice ao L.length cap, .int .i64 x] w (Put B L (Bt.putV x) w) := by
  obtain ⟨n, rfl⟩ : ∃ n : Nat, x = (n : Int) := ⟨x.toNat, by omega⟩
  rw [Bt.putV_of (by omega)]
  exact Bt.iPutN hr (by omega) room hB

set_option maxHeartbeats 1000000 in
set_option maxRecDepth 100000 in
theorem iPutVal {B cap : Nat} {k n : Int} {s : ByteArray} {L : List UInt8} {ao : Option Addr} {w : World} (hr : Row B w ao cap L) (hv : VR (k, n, s)) (room : L.length + 2000000 ≤ 1099511627776) (hB : B ≤ w.heap.size) :
    Calls Tryz.prog 29 #[.slice ao L.length cap, .agg #[.int .i64 k, .int .i64 n, .string s]] w (Put B L (valY (k, n, s)) w) := by
  obtain ⟨⟨k0, k1⟩, ⟨n0, n1⟩, hs⟩ := hv
  simp only at k0 k1 n0 n1 hs
  obtain ⟨W, hW⟩ : ∃ W, W = w.alloc (.cells #[.int .i64 k, .int .i64 n, .string s] 67) := ⟨_, rfl⟩
  have b1 : W.heap[w.heap.size]? = some (.cells #[.int .i64 k, .int .i64 n, .string s] 67 (0, 0)) := by rw [hW]; exact heap_alloc_new w _
  have hbW : Below B w W := by rw [hW]; exact (Below.refl _ _).alloc hB _
  have hcW : Ch w W := by rw [hW]; exact Ch.alloc _ _
  have hBW : B ≤ W.heap.size := Nat.le_trans hB hbW.size
  have hrW : Row B W ao cap L := by rw [hW]; exact hr.alloc _
  have C1 := putNat hrW k0 (by omega) (by omega) hBW
  have l1 := Bt.putV_len k
  have l2 := Bt.putI_len n
  obtain ⟨M1, hM1⟩ : ∃ M, M = L ++ Bt.putV k := ⟨_, rfl⟩
  obtain ⟨M2, hM2⟩ : ∃ M, M = M1 ++ Bt.putI n := ⟨_, rfl⟩
  have e1 : M1.length ≤ L.length + 10 := by rw [hM1, List.length_append]; omega
  have e2 : M2.length ≤ L.length + 20 := by rw [hM2, List.length_append]; omega
  have HV : Hid (M2 ++ Bt.putT s.data.toList = L ++ valY (k, n, s)) := by show _ = _; rw [hM2, hM1]; simp [valY, List.append_assoc]
  unfold Put at C1
  rw [← hM1] at C1
  have C2 : ∀ w2 ao2 cap2, Row B w2 ao2 cap2 M1 → B ≤ w2.heap.size → Calls Tryz.prog 57 #[.slice ao2 M1.length cap2, .int .i64 n] w2 fun e w' => ∃ ao' cap', e = .returned (.slice ao' M2.length cap') ∧ Row B w' ao' cap' M2 ∧ Below B w2 w' ∧ Ch w2 w' := fun w2 ao2 cap2 h hb => by rw [hM2]; exact Bt.iPutI h (by omega) (by omega) (by omega) hb
  have C3 : ∀ w2 ao2 cap2, Row B w2 ao2 cap2 M2 → B ≤ w2.heap.size → Calls Tryz.prog 33 #[.slice ao2 M2.length cap2, .string s] w2 (Put B M2 (Bt.putT s.data.toList) w2) := fun w2 ao2 cap2 h hb => Bt.iPutS h (by omega) (by omega) hb
  rw [show Put B L (valY (k, n, s)) w = fun e w' => ∃ ao cap, e = .returned (.slice ao (L ++ valY (k, n, s)).length cap) ∧ Row B w' ao cap (L ++ valY (k, n, s)) ∧ Below B w w' ∧ Ch w w' from rfl]
  clear hr hrW hM1 hM2 e1 e2 l1 l2
  go_enter Tryz.func29, Tryz.ntmps29
  go_wp2_with (go_at_call 32; refine hold ?_)
  rw [← hW]
  clear hW
  refine C1.mono ?_
  rintro e w2 ⟨a2, cap2, rfl, hr2, hb2, hc2⟩
  have b2 := ch_blk b1 (by decide) hc2
  have x1 : w2.cell? ⟨w.heap.size, 1, none⟩ = some (.int .i64 n) := (cell_of_row w2 _ 1 _ _ _ b2).trans rfl
  have B2 := Nat.le_trans hBW hb2.size
  have q2 := hbW.trans hb2
  have c2 := hcW.trans hbW.size hc2
  clear C1 b1 hb2 hc2 hbW hcW hBW
  go_wp2_with (go_at_call 57; refine hold ?_)
  refine (C2 _ _ _ hr2 B2).mono ?_
  rintro e w3 ⟨a3, cap3, rfl, hr3, hb3, hc3⟩
  have b3 := ch_blk b2 (by decide) hc3
  have x2 : w3.cell? ⟨w.heap.size, 2, none⟩ = some (.string s) := (cell_of_row w3 _ 2 _ _ _ b3).trans rfl
  have B3 := Nat.le_trans B2 hb3.size
  have q3 := q2.trans hb3
  have c3 := c2.trans q2.size hc3
  clear C2 b2 hb3 hc3 q2 c2 B2 x1 hr2
  go_wp2_with (go_at_call 33; refine hold ?_)
  refine (C3 _ _ _ hr3 B3).mono ?_
  rintro e w4 ⟨a4, cap4, rfl, hr4, hb4, hc4⟩
  rw [HV.out] at hr4 ⊢
  clear C3
  go_wp2_with fail
  go_ret
  exact ⟨a4, cap4, by simp, hr4, q3.trans hb4, c3.trans q3.size hc4⟩

set_option maxHeartbeats 1000000 in
set_option maxRecDepth 100000 in
theorem iPutCell {B cap : Nat} {k n z : Int} {s t : ByteArray} {L : List UInt8} {ao : Option Addr} {w : World} (hr : Row B w ao cap L) (hv : CR (z, t, k, n, s)) (room : L.length + 4000000 ≤ 1099511627776) (hB : B ≤ w.heap.size) :
    Calls Tryz.prog 31 #[.slice ao L.length cap, .agg #[.int .i64 z, .string t, .int .i64 k, .int .i64 n, .string s]] w (Put B L (cellY (z, t, k, n, s)) w) := by
  obtain ⟨⟨z0, z1⟩, ht, hv⟩ := hv
  simp only at z0 z1 ht hv
  obtain ⟨W, hW⟩ : ∃ W, W = w.alloc (.cells #[.int .i64 z, .string t, .int .i64 k, .int .i64 n, .string s] 71) := ⟨_, rfl⟩
  have b1 : W.heap[w.heap.size]? = some (.cells #[.int .i64 z, .string t, .int .i64 k, .int .i64 n, .string s] 71 (0, 0)) := by rw [hW]; exact heap_alloc_new w _
  have hbW : Below B w W := by rw [hW]; exact (Below.refl _ _).alloc hB _
  have hcW : Ch w W := by rw [hW]; exact Ch.alloc _ _
  have hBW : B ≤ W.heap.size := Nat.le_trans hB hbW.size
  have hrW : Row B W ao cap L := by rw [hW]; exact hr.alloc _
  have C1 := putNat hrW z0 (by omega) (by omega) hBW
  have l1 := Bt.putV_len z
  have l2 := putT_len (s := t)
  obtain ⟨M1, hM1⟩ : ∃ M, M = L ++ Bt.putV z := ⟨_, rfl⟩
  obtain ⟨M2, hM2⟩ : ∃ M, M = M1 ++ Bt.putT t.data.toList := ⟨_, rfl⟩
  have e1 : M1.length ≤ L.length + 10 := by rw [hM1, List.length_append]; omega
  have e2 : M2.length ≤ L.length + 2000 := by rw [hM2, List.length_append]; omega
  have HV : Hid (M2 ++ valY (k, n, s) = L ++ cellY (z, t, k, n, s)) := by show _ = _; rw [hM2, hM1]; simp [cellY, List.append_assoc]
  unfold Put at C1
  rw [← hM1] at C1
  have C2 : ∀ w2 ao2 cap2, Row B w2 ao2 cap2 M1 → B ≤ w2.heap.size → Calls Tryz.prog 33 #[.slice ao2 M1.length cap2, .string t] w2 fun e w' => ∃ ao' cap', e = .returned (.slice ao' M2.length cap') ∧ Row B w' ao' cap' M2 ∧ Below B w2 w' ∧ Ch w2 w' := fun w2 ao2 cap2 h hb => by rw [hM2]; exact Bt.iPutS h (by omega) (by omega) hb
  have C3 : ∀ w2 ao2 cap2, Row B w2 ao2 cap2 M2 → B ≤ w2.heap.size → Calls Tryz.prog 29 #[.slice ao2 M2.length cap2, .agg #[.int .i64 k, .int .i64 n, .string s]] w2 (Put B M2 (valY (k, n, s)) w2) := fun w2 ao2 cap2 h hb => iPutVal h hv (by omega) hb
  rw [show Put B L (cellY (z, t, k, n, s)) w = fun e w' => ∃ ao cap, e = .returned (.slice ao (L ++ cellY (z, t, k, n, s)).length cap) ∧ Row B w' ao cap (L ++ cellY (z, t, k, n, s)) ∧ Below B w w' ∧ Ch w w' from rfl]
  clear hr hrW hM1 hM2 e1 e2 l1 l2 hv
  go_enter Tryz.func31, Tryz.ntmps31
  go_wp2_with (go_at_call 32; refine hold ?_)
  rw [← hW]
  clear hW
  refine C1.mono ?_
  rintro e w2 ⟨a2, cap2, rfl, hr2, hb2, hc2⟩
  have b2 := ch_blk b1 (by decide) hc2
  have x1 : w2.cell? ⟨w.heap.size, 1, none⟩ = some (.string t) := (cell_of_row w2 _ 1 _ _ _ b2).trans rfl
  have B2 := Nat.le_trans hBW hb2.size
  have q2 := hbW.trans hb2
  have c2 := hcW.trans hbW.size hc2
  clear C1 b1 hb2 hc2 hbW hcW hBW
  go_wp2_with (go_at_call 33; refine hold ?_)
  refine (C2 _ _ _ hr2 B2).mono ?_
  rintro e w3 ⟨a3, cap3, rfl, hr3, hb3, hc3⟩
  have b3 := ch_blk b2 (by decide) hc3
  have x2 : w3.cell? ⟨w.heap.size, 2, none⟩ = some (.int .i64 k) := (cell_of_row w3 _ 2 _ _ _ b3).trans rfl
  have x3 : w3.cell? ⟨w.heap.size, 3, none⟩ = some (.int .i64 n) := (cell_of_row w3 _ 3 _ _ _ b3).trans rfl
  have x4 : w3.cell? ⟨w.heap.size, 4, none⟩ = some (.string s) := (cell_of_row w3 _ 4 _ _ _ b3).trans rfl
  have B3 := Nat.le_trans B2 hb3.size
  have q3 := q2.trans hb3
  have c3 := c2.trans q2.size hc3
  clear C2 b2 hb3 hc3 q2 c2 B2 x1 hr2
  go_wp2_with (go_at_call 29; refine hold ?_)
  refine (C3 _ _ _ hr3 B3).mono ?_
  rintro e w4 ⟨a4, cap4, rfl, hr4, hb4, hc4⟩
  rw [HV.out] at hr4 ⊢
  clear C3
  go_wp2_with fail
  go_ret
  exact ⟨a4, cap4, by simp, hr4, q3.trans hb4, c3.trans q3.size hc4⟩

end Mb
end Go.Proofs.YtkhoccjfkkfipaaGreatDoor
namespace Go.Proofs.YtkhoccjfkkfipaaGreatDoor
open Go.RowKit
namespace Mb
open Bt (Row Ch hold)
open St (Vl Cl encV encC RdV RdC)
set_option linter.unusedSimpArgs false
set_option linter.unusedVariables false

theorem rdv_same {w w' : World} {ao : Option Addr} {vs : List Vl} (h : RdV w ao vs) (hs : w.heap.size ≤ w'.heap.size) (hb : ∀ a, ao = some a → w'.heap[a.block]? = w.heap[a.block]?) : RdV w' ao vs := by
  intro i v hi
  obtain ⟨b, o, e, hl, hz, c0, c1, c2⟩ := h i v hi
  have hc : ∀ k, w'.cell? ⟨b, k, none⟩ = w.cell? ⟨b, k, none⟩ := fun k => World.cell?_of_block (a := ⟨b, k, none⟩) (hb ⟨b, o, none⟩ e)
  exact ⟨b, o, e, by omega, hz, (hc _).trans c0, (hc _).trans c1, (hc _).trans c2⟩
theorem rdc_same {w w' : World} {ao : Option Addr} {cs : List Cl} (h : RdC w ao cs) (hs : w.heap.size ≤ w'.heap.size) (hb : ∀ a, ao = some a → w'.heap[a.block]? = w.heap[a.block]?) : RdC w' ao cs := by
  intro i c hi
  obtain ⟨b, o, e, hl, hz, hz2, c0, c1, c2, c3, c4⟩ := h i c hi
  have hc : ∀ k, w'.cell? ⟨b, k, none⟩ = w.cell? ⟨b, k, none⟩ := fun k => World.cell?_of_block (a := ⟨b, k, none⟩) (hb ⟨b, o, none⟩ e)
  exact ⟨b, o, e, by omega, hz, hz2, (hc _).trans c0, (hc _).trans c1, (hc _).trans c2, (hc _).trans c3, (hc _).trans c4⟩
theorem flat_len {α : Type} {f : α → List UInt8} {m : Nat} : ∀ {vs : List α}, (∀ v ∈ vs, (f v).length ≤ m) → (vs.flatMap f).length ≤ vs.length * m
  | [], _ => by simp
  | v :: vs, h => by
    have h1 := h v (List.mem_cons_self ..)
    have h2 := flat_len (vs := vs) fun x hx => h x (List.mem_cons_of_mem _ hx)
    rw [List.flatMap_cons, List.length_append, List.length_cons, Nat.succ_mul]
    omega
theorem flat_take {α : Type} {f : α → List UInt8} {vs : List α} {k : Nat} {v : α} (h : vs[k]? = some v) : (vs.take (k + 1)).flatMap f = (vs.take k).flatMap f ++ f v := by
  rw [List.take_add_one, h, List.flatMap_append]
  simp

set_option maxHeartbeats 2000000 in
set_option maxRecDepth 100000 in
theorem iPutVals {B cap xa : Nat} {vs : List Vl} {L : List UInt8} {ao a1 : Option Addr} {w : World} (hr : Row B w ao cap L) (hV : RdV w a1 vs) (hlt : ∀ a, a1 = some a → a.block < B) (hn : vs.length ≤ 1000) (hv : ∀ v ∈ vs, VR v) (room : L.length + 100000000 ≤ 1099511627776) (hB : B ≤ w.heap.size) :
    Calls Tryz.prog 28 #[.slice ao L.length cap, .slice a1 vs.length xa, .func (.func 29) #[] #[]] w (Put B L (Bt.putV vs.length ++ vs.flatMap valY) w) := by
  have C1 := putNat (x := vs.length) hr (by omega) (by omega) (by omega) hB
  have l1 := Bt.putV_len vs.length
  obtain ⟨M, hM⟩ : ∃ M, M = L ++ Bt.putV vs.length := ⟨_, rfl⟩
  have e1 : M.length ≤ L.length + 10 := by rw [hM, List.length_append]; omega
  have HV : Hid (∀ X : List UInt8, L ++ (Bt.putV vs.length ++ X) = M ++ X) := fun X => by rw [hM, List.append_assoc]
  unfold Put at C1
  rw [← hM] at C1
  have HF : Hid (∀ k, k ≤ vs.length → ((vs.take k).flatMap valY).length ≤ 400000) := fun k hk => by
    have h1 := flat_len (f := valY) (m := 400) (vs := vs.take k) fun v hm => valY_len (hv v (List.mem_of_mem_take hm))
    have h2 : (vs.take k).length * 400 ≤ 1000 * 400 := Nat.mul_le_mul_right _ (by rw [List.length_take]; omega)
    omega
  have HVR : Hid (∀ v ∈ vs, VR v) := hv
  have HR : Hid (M.length + 90000000 ≤ 1099511627776) := by show _ ≤ _; omega
  have HB : Hid (B ≤ w.heap.size) := hB
  have HLT : Hid (∀ a, a1 = some a → a.block < B) := hlt
  have HRV : Hid (RdV w a1 vs) := hV
  have bn : (vs.length : Int) ≤ 1000 := by omega
  unfold Put
  clear hr hM e1 l1 hv room hB hlt hV
  go_enter Tryz.func28, Tryz.ntmps28
  go_wp2_with (go_at_call 32; refine hold ?_)
  refine C1.mono ?_
  clear C1
  rintro e w1 ⟨a2, cap2, rfl, hr1, hb1, hc1⟩
  go_wp2_with fail
  go_loopw [0, 15] (fun bv iv wr => ∃ (k : Nat) (ao : Option Addr) (cap : Nat), bv = .slice ao (M ++ (vs.take k).flatMap valY).length cap ∧ iv = .int .i64 k ∧ k ≤ vs.length ∧ Row B wr ao cap (M ++ (vs.take k).flatMap valY) ∧ Below B w wr ∧ Ch w wr) (fun _ iv _ => vs.length - (intOf iv).toNat)
  case atStart => exact ⟨0, a2, cap2, by simp, rfl, Nat.zero_le _, by simpa using hr1, hb1, hc1⟩
  case round =>
    clear hr1 hb1 hc1
    obtain ⟨k, ao, cap, rfl, rfl, hk, hr, hb, hc⟩ := hrel
    obtain ⟨N, hN⟩ : ∃ N, N = M ++ (vs.take k).flatMap valY := ⟨_, rfl⟩
    rw [← hN] at hr ⊢
    by_cases hkl : k < vs.length
    · have hx : vs[k]? = some vs[k] := List.getElem?_eq_getElem hkl
      have hvr := HVR.out _ (List.mem_of_getElem? hx)
      have hN2 : N.length + 2000000 ≤ 1099511627776 := by
        have h1 := HF.out k hk
        have h2 := HR.out
        rw [hN, List.length_append]
        omega
      have HN : Hid (N ++ valY vs[k] = M ++ (vs.take (k + 1)).flatMap valY) := by show _ = _; rw [hN, flat_take hx, List.append_assoc]
      obtain ⟨bb, o, rfl, hbl, hsz, c0, c1, c2⟩ := (rdv_same HRV.out hb.size fun a ha => hb.block _ (HLT.out a ha)) k vs[k] hx
      generalize vs[k] = v at hx hvr HN hsz c0 c1 c2
      obtain ⟨y, z, s⟩ := v
      simp only at c0 c1 c2
      have HH : Hid (Row B wr ao cap N ∧ Below B w wr ∧ Ch w wr) := ⟨hr, hb, hc⟩
      have HNN : Hid (N = M ++ (vs.take k).flatMap valY) := hN
      clear hr hb hc hx hsz hN
      go_wp2_with (go_at_call 29; refine hold ?_)
      have hbA : Below wr.heap.size wr (wr.alloc (.cells #[.int .i64 y, .int .i64 z, .string s] 67)) := (Below.refl _ _).alloc (Nat.le_refl _) _
      have hBA := Nat.le_trans HB.out HH.out.2.1.size
      refine (iPutVal (HH.out.1.alloc _) hvr hN2 (Nat.le_trans hBA hbA.size)).mono ?_
      unfold Put
      rintro e w2 ⟨a3, cap3, rfl, hr3, hb3, hc3⟩
      have HW : Hid (Below B w w2 ∧ Ch w w2) := ⟨HH.out.2.1.trans ((hbA.mono hBA).trans hb3), HH.out.2.2.trans HH.out.2.1.size ((Ch.of_below hbA).trans hbA.size hc3)⟩
      rw [HN.out] at hr3 ⊢
      obtain ⟨P, hP⟩ : ∃ P, P = M ++ (vs.take (k + 1)).flatMap valY := ⟨_, rfl⟩
      rw [← hP] at hr3 ⊢
      have HP : Hid (P = M ++ (vs.take (k + 1)).flatMap valY) := hP
      clear hP hbA hBA hb3 hc3 hN2 hvr
      go_wp2_with fail
      go_roundw
      case rel => exact ⟨k + 1, a3, cap3, by rw [← HP.out], by go_num, hkl, by rw [← HP.out]; exact hr3, HW.out.1, HW.out.2⟩
      case measure => simp [intOf]; omega
    · obtain rfl : k = vs.length := by omega
      rw [List.take_length] at hN
      have HNN : Hid (L ++ (Bt.putV vs.length ++ vs.flatMap valY) = N) := by show _ = _; rw [HV.out, hN]
      have HH : Hid (Row B wr ao cap N ∧ Below B w wr ∧ Ch w wr) := ⟨hr, hb, hc⟩
      clear hN hr hb hc
      go_wp2_with fail
      go_ret
      rw [HNN.out]
      exact ⟨ao, cap, rfl, HH.out⟩

set_option maxHeartbeats 2000000 in
set_option maxRecDepth 100000 in
theorem iPutCells {B cap xa : Nat} {vs : List Cl} {L : List UInt8} {ao a1 : Option Addr} {w : World} (hr : Row B w ao cap L) (hV : RdC w a1 vs) (hlt : ∀ a, a1 = some a → a.block < B) (hn : vs.length ≤ 1000) (hv : ∀ v ∈ vs, CR v) (room : L.length + 100000000 ≤ 1099511627776) (hB : B ≤ w.heap.size) :
    Calls Tryz.prog 30 #[.slice ao L.length cap, .slice a1 vs.length xa, .func (.func 31) #[] #[]] w (Put B L (Bt.putV vs.length ++ vs.flatMap cellY) w) := by
  have C1 := putNat (x := vs.length) hr (by omega) (by omega) (by omega) hB
  have l1 := Bt.putV_len vs.length
  obtain ⟨M, hM⟩ : ∃ M, M = L ++ Bt.putV vs.length := ⟨_, rfl⟩
  have e1 : M.length ≤ L.length + 10 := by rw [hM, List.length_append]; omega
  have HV : Hid (∀ X : List UInt8, L ++ (Bt.putV vs.length ++ X) = M ++ X) := fun X => by rw [hM, List.append_assoc]
  unfold Put at C1
  rw [← hM] at C1
  have HF : Hid (∀ k, k ≤ vs.length → ((vs.take k).flatMap cellY).length ≤ 1500000) := fun k hk => by
    have h1 := flat_len (f := cellY) (m := 1500) (vs := vs.take k) fun v hm => cellY_len (hv v (List.mem_of_mem_take hm))
    have h2 : (vs.take k).length * 1500 ≤ 1000 * 1500 := Nat.mul_le_mul_right _ (by rw [List.length_take]; omega)
    omega
  have HCR : Hid (∀ v ∈ vs, CR v) := hv
  have HR : Hid (M.length + 90000000 ≤ 1099511627776) := by show _ ≤ _; omega
  have HB : Hid (B ≤ w.heap.size) := hB
  have HLT : Hid (∀ a, a1 = some a → a.block < B) := hlt
  have HRV : Hid (RdC w a1 vs) := hV
  have bn : (vs.length : Int) ≤ 1000 := by omega
  unfold Put
  clear hr hM e1 l1 hv room hB hlt hV
  go_enter Tryz.func30, Tryz.ntmps30
  go_wp2_with (go_at_call 32; refine hold ?_)
  refine C1.mono ?_
  clear C1
  rintro e w1 ⟨a2, cap2, rfl, hr1, hb1, hc1⟩
  go_wp2_with fail
  go_loopw [0, 15] (fun bv iv wr => ∃ (k : Nat) (ao : Option Addr) (cap : Nat), bv = .slice ao (M ++ (vs.take k).flatMap cellY).length cap ∧ iv = .int .i64 k ∧ k ≤ vs.length ∧ Row B wr ao cap (M ++ (vs.take k).flatMap cellY) ∧ Below B w wr ∧ Ch w wr) (fun _ iv _ => vs.length - (intOf iv).toNat)
  case atStart => exact ⟨0, a2, cap2, by simp, rfl, Nat.zero_le _, by simpa using hr1, hb1, hc1⟩
  case round =>
    clear hr1 hb1 hc1
    obtain ⟨k, ao, cap, rfl, rfl, hk, hr, hb, hc⟩ := hrel
    obtain ⟨N, hN⟩ : ∃ N, N = M ++ (vs.take k).flatMap cellY := ⟨_, rfl⟩
    rw [← hN] at hr ⊢
    by_cases hkl : k < vs.length
    · have hx : vs[k]? = some vs[k] := List.getElem?_eq_getElem hkl
      have hvr := HCR.out _ (List.mem_of_getElem? hx)
      have hN2 : N.length + 4000000 ≤ 1099511627776 := by
        have h1 := HF.out k hk
        have h2 := HR.out
        rw [hN, List.length_append]
        omega
      have HN : Hid (N ++ cellY vs[k] = M ++ (vs.take (k + 1)).flatMap cellY) := by show _ = _; rw [hN, flat_take hx, List.append_assoc]
      obtain ⟨bb, o, rfl, hbl, hsz, hsz2, c0, c1, c2, c3, c4⟩ := (rdc_same HRV.out hb.size fun a ha => hb.block _ (HLT.out a ha)) k vs[k] hx
      generalize vs[k] = v at hx hvr HN hsz hsz2 c0 c1 c2 c3 c4
      obtain ⟨x0, tt, y, z, s⟩ := v
      simp only at c0 c1 c2 c3 c4
      have HH : Hid (Row B wr ao cap N ∧ Below B w wr ∧ Ch w wr) := ⟨hr, hb, hc⟩
      have HNN : Hid (N = M ++ (vs.take k).flatMap cellY) := hN
      clear hr hb hc hx hsz hsz2 hN
      go_wp2_with (go_at_call 31; refine hold ?_)
      have hbA : Below wr.heap.size wr (wr.alloc (.cells #[.int .i64 x0, .string tt, .int .i64 y, .int .i64 z, .string s] 71)) := (Below.refl _ _).alloc (Nat.le_refl _) _
      have hBA := Nat.le_trans HB.out HH.out.2.1.size
      refine (iPutCell (HH.out.1.alloc _) hvr hN2 (Nat.le_trans hBA hbA.size)).mono ?_
      unfold Put
      rintro e w2 ⟨a3, cap3, rfl, hr3, hb3, hc3⟩
      have HW : Hid (Below B w w2 ∧ Ch w w2) := ⟨HH.out.2.1.trans ((hbA.mono hBA).trans hb3), HH.out.2.2.trans HH.out.2.1.size ((Ch.of_below hbA).trans hbA.size hc3)⟩
      rw [HN.out] at hr3 ⊢
      obtain ⟨P, hP⟩ : ∃ P, P = M ++ (vs.take (k + 1)).flatMap cellY := ⟨_, rfl⟩
      rw [← hP] at hr3 ⊢
      have HP : Hid (P = M ++ (vs.take (k + 1)).flatMap cellY) := hP
      clear hP hbA hBA hb3 hc3 hN2 hvr
      go_wp2_with fail
      go_roundw
      case rel => exact ⟨k + 1, a3, cap3, by rw [← HP.out], by go_num, hkl, by rw [← HP.out]; exact hr3, HW.out.1, HW.out.2⟩
      case measure => simp [intOf]; omega
    · obtain rfl : k = vs.length := by omega
      rw [List.take_length] at hN
      have HNN : Hid (L ++ (Bt.putV vs.length ++ vs.flatMap cellY) = N) := by show _ = _; rw [HV.out, hN]
      have HH : Hid (Row B wr ao cap N ∧ Below B w wr ∧ Ch w wr) := ⟨hr, hb, hc⟩
      clear hN hr hb hc
      go_wp2_with fail
      go_ret
      rw [HNN.out]
      exact ⟨ao, cap, rfl, HH.out⟩

end Mb
end Go.Proofs.YtkhoccjfkkfipaaGreatDoor
